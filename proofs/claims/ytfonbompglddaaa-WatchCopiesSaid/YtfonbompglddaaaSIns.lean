/-
  insertionSortOrdered, walked.
-/
import Derived.Test.YtfonbompglddaaaSBase
namespace Go.Proofs.Ytfonbompglddaaa
open Go Go.RowKit Go.Lib Go.Sort Go.Proofs

/-- it sorts so: the row is another one -/
def RwTo (v : Value) (B : Nat) (d : Array Nat) (w : World) (e : Ending) (w' : World) : Prop := e = .returned v ∧ Rw w w' B d
theorem insInner_size (lt : Nat → Nat → Bool) (a : Nat) : ∀ (j : Nat) (d : Array Nat), (insInner lt a j d).size = d.size
  | 0, _ => rfl
  | j + 1, d => by
    rw [insInner]
    split
    · rw [insInner_size lt a j, swp_size]
    · rfl
set_option maxHeartbeats 4000000 in
set_option maxRecDepth 100000 in
theorem ins_any {w : World} {B n c : Nat} {d : Array Nat} (h : Rw w w B d) (hn : n = d.size) (hb16 : n ≤ 1000) (a b : Nat) (hab : b ≤ n) (han : a ≤ n) : Calls Try.prog 43 #[slU B n c, .int .i64 a, .int .i64 b] w (RwTo (.tuple #[]) B (insertionSort ltN d a b) w) := by
  have mixed : Try.prog.follows .mixedOrders = true := by kernel_rfl
  obtain ⟨a1, ha1⟩ : ∃ a1, a1 = a + 1 := ⟨_, rfl⟩
  have h1 : (a : Int) + 1 = (a1 : Int) := by omega
  have hw1 : IntKind.i64.wrap ((a : Int) + 1) = (a1 : Int) := by rw [IntKind.wrap_i64]; omega
  have hw2 : IntKind.i64.wrap (a1 : Int) = (a1 : Int) := by rw [IntKind.wrap_i64]; omega
  have hI : insertionSort ltN d a b = insOuter ltN a b a1 d := by rw [ha1]; rfl
  rw [hI]
  obtain ⟨T, hT⟩ : ∃ T, T = insOuter ltN a b a1 d := ⟨_, rfl⟩
  rw [← hT]
  have H := Lib.hid h
  have HT := Lib.hid hT
  have HN := Lib.hid hn
  have HA1 := Lib.hid ha1
  clear h hI hT hn ha1
  go_enter Try.func43, Try.ntmps43
  go_wp2
  go_loopg [6] b (fun kx s6 wr => ∃ (i : Nat) (d1 : Array Nat), s6 = .int .i64 i ∧ i ≤ b + a1 ∧ a1 ≤ i ∧ b - i ≤ kx ∧ Aside (Rw w wr B d1 ∧ d1.size = n ∧ insOuter ltN a b i d1 = T))
  case atStart => exact ⟨a1, d, by go_num, by omega, Nat.le_refl _, by omega, H.out, HN.out.symm, HT.out.symm⟩
  case round =>
    obtain ⟨i, d1, rfl, hib, hia, hkx, A⟩ := hrel
    by_cases hlt : i < b
    · have hlz : decide ((i : Int) < (b : Int)) = true := by simpa using hlt
      go_wp2
      go_loopg [7] i (fun ky s7 wr2 => ∃ (j : Nat) (d2 : Array Nat), s7 = .int .i64 j ∧ j ≤ i ∧ j ≤ ky ∧ Aside (Rw w wr2 B d2 ∧ d2.size = n ∧ insInner ltN a j d2 = insInner ltN a i d1))
      case atStart => exact ⟨i, d1, by go_num, Nat.le_refl _, Nat.le_refl _, A.out.1, A.out.2.1, rfl⟩
      case round =>
        obtain ⟨j, d2, rfl, hji, hjy, A2⟩ := hrel
        by_cases hja : a < j
        · obtain ⟨q, rfl⟩ : ∃ q, j = q + 1 := ⟨j - 1, by omega⟩
          obtain ⟨m, hm⟩ : ∃ m, m = q + 1 := ⟨_, rfl⟩
          rw [← hm] at hji hjy hja A2 ⊢
          have HM := Lib.hid hm
          have hgz : decide ((m : Int) > (a : Int)) = true := by simp; omega
          have hsz : d2.size = n := A2.out.2.1
          have hmn : (m : Int) < (n : Int) := by omega
          have hqn : (q : Int) < (n : Int) := by omega
          have hmq : (m : Int) - 1 = (q : Int) := by omega
          have hwq : IntKind.i64.wrap ((m : Int) - 1) = (q : Int) := by rw [IntKind.wrap_i64]; omega
          have hwm : IntKind.i64.wrap (q : Int) = (q : Int) := by rw [IntKind.wrap_i64]; omega
          have x0 := A2.out.1.at_ (j := m) (by omega)
          have x1 := A2.out.1.at_ (j := q) (by omega)
          obtain ⟨t, ht⟩ : ∃ t, ltN d2[m]! d2[q]! = t := ⟨_, rfl⟩
          have HTT := Lib.hid ht
          clear hm ht
          go_wp2_with fail
          refine wp_region_gw (by kernel_rfl) (by kernel_rfl) ?_
          iterate 15 (refine WQ.step (fun K hK => ?_); go_simp; first | (refine hK _ ?_; clear hK K) | (apply Exists.intro; refine ⟨fun _ => ?_, hK _ ?_⟩; (go_at_call 49; exact less_g HTT.out _ _ _); clear hK K))
          refine WQ.nil ?_
          intro _ hw'
          obtain ⟨⟨nq, osq⟩, hw''⟩ := hw'
          subst hw''
          have G2 : Hid (Rw w (grow (wr.drewN nq) osq) B d2) := A2.out.1.gw (Gw.of wr nq osq)
          clear x0 x1
          generalize grow (wr.drewN nq) osq = w2 at G2 ⊢
          have hin : insInner ltN a m d2 = if t = true then insInner ltN a q (swp d2 m q) else d2 := by
            rw [HM.out, insInner, ← HM.out, HTT.out]
            rw [show decide (m > a) = true by simp; omega, Bool.true_and]
          cases t with
          | true =>
            have y0 := G2.out.cell m (by omega)
            have y1 := G2.out.cell q (by omega)
            have f0 := G2.out.frozen m
            have f1 := G2.out.frozen q
            go_wp2_with fail
            go_region
            all_goals
              obtain ⟨w3, hw3⟩ : ∃ w3, w3 = ((w2.setCell ⟨B, m, none⟩ (uV d2[q]!)).setCell ⟨B, q, none⟩ (uV d2[m]!)).drew := ⟨_, rfl⟩
              rw [← hw3]
              have H3 : Hid (Rw w w3 B (swp d2 m q)) := hw3 ▸ (G2.out.swp m q (by omega) (by omega)).drew
              clear hw3 y0 y1 f0 f1
              go_wp2_with fail
              go_roundg q
              case measure => have := HM.out; omega
              case rel => exact ⟨q, swp d2 m q, by go_num, by have := HM.out; omega, Nat.le_refl _, H3.out, by rw [swp_size]; exact A2.out.2.1, by rw [← A2.out.2.2, hin, if_pos trivial]⟩
          | false =>
            go_wp2_with fail
            go_roundg (b - (i + 1))
            case measure => omega
            case rel => exact ⟨i + 1, d2, by go_num, by omega, by omega, Nat.le_refl _, G2.out, A2.out.2.1, by rw [← A.out.2.2, insOuter.eq_1 ltN a b i d1, if_pos hlt, ← A2.out.2.2, hin, if_neg (by simp)]⟩
        · have hgz : decide ((j : Int) > (a : Int)) = false := by simp; omega
          go_wp2_with fail
          refine wp_region_gw (by kernel_rfl) (by kernel_rfl) ?_
          iterate 15 (refine WQ.step (fun K hK => ?_); go_simp; first | (refine hK _ ?_; clear hK K))
          refine WQ.nil ?_
          intro _ hw'
          obtain ⟨⟨nq, osq⟩, hw''⟩ := hw'
          subst hw''
          have G2 : Hid (Rw w (grow (wr.drewN nq) osq) B d2) := A2.out.1.gw (Gw.of wr nq osq)
          generalize grow (wr.drewN nq) osq = w2 at G2 ⊢
          have hin : insInner ltN a j d2 = d2 := by
            cases j with
            | zero => rfl
            | succ q =>
              rw [insInner, if_neg]
              simp
              omega
          go_wp2_with fail
          go_roundg (b - (i + 1))
          case measure => omega
          case rel => exact ⟨i + 1, d2, by go_num, by omega, by omega, Nat.le_refl _, G2.out, A2.out.2.1, by rw [← A.out.2.2, insOuter.eq_1 ltN a b i d1, if_pos hlt, ← A2.out.2.2, hin]⟩
    · have hlz : decide ((i : Int) < (b : Int)) = false := by simp; omega
      go_wp2_with fail
      go_end0
      refine ⟨rfl, ?_⟩
      rw [← A.out.2.2, insOuter.eq_1, if_neg hlt]
      exact A.out.1
end Go.Proofs.Ytfonbompglddaaa
