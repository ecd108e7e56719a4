/-
  The walks of slices.Equal and of SameResponse.
-/
import Derived.Test.YtdpfmaikijilkaaSQ
namespace Go.Proofs.Ytdpfmaikijilkaa
open Go Go.RowKit Go.Sort Go.Proofs

set_option maxHeartbeats 2000000 in
theorem sequal_any (w : World) (a b : Option Addr) (n m c e : Nat) (l r : List Int) (hl : CV.At w a n l) (hr : CV.At w b m r) : Calls Try.prog 50 #[.slice a n c, .slice b m e] w (DnV (.bool (decide (l = r))) w) := by
  have mixed : Try.prog.follows .mixedOrders = true := by kernel_rfl
  obtain ⟨t, ht⟩ : ∃ t, t = decide (l = r) := ⟨_, rfl⟩
  rw [← ht]
  have HT := Lib.hid ht
  have HL := Lib.hid hl
  have HR := Lib.hid hr
  have hn2 := hl.2.1
  clear ht hl hr
  by_cases hnm : n = m
  · subst hnm
    go_enter Try.func50, Try.ntmps50
    go_wp2
    go_loopg [13] n (fun kx s5 wr => ∃ i : Nat, s5 = .int .i64 i ∧ i ≤ n ∧ n - i ≤ kx ∧ Aside (Dn w wr ∧ ∀ j, j < i → l[j]? = r[j]?))
    case atStart => exact ⟨0, by go_num, Nat.zero_le _, Nat.le_refl _, ⟨Dn.refl _, fun j hj => absurd hj (Nat.not_lt_zero _)⟩⟩
    case round =>
      obtain ⟨i, rfl, hin, hkx, A⟩ := hrel
      by_cases hlt : i < n
      · have hlz : decide ((i : Int) < (n : Int)) = true := by simpa using hlt
        have hiz : (i : Int) < (n : Int) := by omega
        obtain ⟨B, off, rfl, x, hx, hc⟩ := CV_cell (HL.out.below A.out.1.below) hlt
        obtain ⟨B', off', rfl, y, hy, hc'⟩ := CV_cell (HR.out.below A.out.1.below) hlt
        have HX := Lib.hid (And.intro hx hy)
        clear hx hy
        by_cases hxy : x = y
        · subst hxy
          go_wp2_with fail
          go_region
          all_goals
            go_wp2
            go_roundg (n - (i + 1))
            case measure => omega
            case rel =>
              refine ⟨i + 1, by go_num, by omega, Nat.le_refl _, ⟨A.out.1.drew, fun j hj => ?_⟩⟩
              by_cases e2 : j = i
              · subst e2
                exact HX.out.1.trans HX.out.2.symm
              · exact A.out.2 j (by omega)
        · go_wp2_with fail
          go_region
          all_goals
            go_wp2
            go_ret
            have hlr : l ≠ r := fun e2 => by
              have h1 := HX.out.1
              rw [e2] at h1
              exact hxy (Option.some.inj (h1.symm.trans HX.out.2))
            refine ⟨?_, A.out.1.drew⟩
            rw [HT.out, decide_eq_false hlr]
            rfl
      · have hlz : decide ((i : Int) < (n : Int)) = false := by simp; omega
        obtain rfl : i = n := by omega
        go_wp2
        go_ret
        refine ⟨?_, A.out.1⟩
        rw [HT.out, decide_eq_true (eq_of_gets HL.out.1.symm HR.out.1.symm A.out.2)]
        rfl
  · have hd : ((n : Int) != (m : Int)) = true := bne_iff_ne.2 (by omega)
    have HNE := Lib.hid hnm
    clear hnm
    go_enter Try.func50, Try.ntmps50
    go_wp2
    go_ret
    refine ⟨?_, Dn.refl _⟩
    have hlr : l ≠ r := fun e2 => HNE.out (by rw [← HL.out.1, ← HR.out.1, e2])
    rw [HT.out, decide_eq_false hlr]
    rfl
set_option maxHeartbeats 2000000 in
set_option maxRecDepth 100000 in
theorem sameResponse_any (w : World) (a b : Rs) (x y : Option Addr) (c d : Nat) (ha : CV.At w x a.vars.length a.vars) (hb : CV.At w y b.vars.length b.vars) :
    Calls Try.prog 28 #[.agg (RsC a (.slice x a.vars.length c)), .agg (RsC b (.slice y b.vars.length d))] w (fun e w' => e = .returned (.bool (sameS a b)) ∧ Below w.heap.size w w') := by
  have heq : Hid (∀ W, Below w.heap.size w W → Calls Try.prog 50 #[.slice x a.vars.length c, .slice y b.vars.length d] W (DnV (.bool (decide (a.vars = b.vars))) W)) := fun W hW => sequal_any W x y _ _ c d _ _ (ha.below hW) (hb.below hW)
  obtain ⟨R, hR⟩ : ∃ R, R = sameS a b := ⟨_, rfl⟩
  rw [← hR]
  obtain ⟨t1, h1⟩ : ∃ t, t = decide (a.vars = b.vars) := ⟨_, rfl⟩
  rw [← h1] at heq
  have he := evE a.time a.org a.seq a.pt a.ek a.dat b.time b.org b.seq b.pt b.ek b.dat
  have hbr := rcE a.rt a.ro a.rs a.rp a.rn a.rv b.rt b.ro b.rs b.rp b.rn b.rv
  obtain ⟨t2, h2⟩ : ∃ t, t = decide ((a.time, a.org, a.seq, a.pt, a.ek, a.dat) = (b.time, b.org, b.seq, b.pt, b.ek, b.dat)) := ⟨_, rfl⟩
  obtain ⟨t3, h3⟩ : ∃ t, t = decide ((a.rt, a.ro, a.rs, a.rp, a.rn, a.rv) = (b.rt, b.ro, b.rs, b.rp, b.rn, b.rv)) := ⟨_, rfl⟩
  rw [← h2] at he
  rw [← h3] at hbr
  have hg1 := fun (op : BinOp) (x y : Operand) (xs ys : Array Value) (w : World) => run_eqGuard_agg (P := Try.prog) w op 28 x y xs ys evGuard
  have hg2 := fun (op : BinOp) (x y : Operand) (xs ys : Array Value) (w : World) => run_eqGuard_agg (P := Try.prog) w op 45 x y xs ys rcGuard
  have HR : Hid (R = (decide (a.kind = b.kind) && decide (a.id = b.id) && decide (a.err = b.err) && decide (a.floor = b.floor) && t1 && t3 && decide (a.num = b.num) && t2)) := by
    rw [Lib.hid_eq, hR, h1, h2, h3]
    rfl
  obtain ⟨a0, a1, a2, a3, am, a4, a5, a6, a7, a8, a9, a10, a11, a12, a13, a14, a15, a16⟩ := a
  obtain ⟨b0, b1, b2, b3, bm, b4, b5, b6, b7, b8, b9, b10, b11, b12, b13, b14, b15, b16⟩ := b
  dsimp only at he hbr heq
  dsimp only [RsC]
  obtain ⟨m, hm⟩ : ∃ m, m = am.length := ⟨_, rfl⟩
  obtain ⟨n, hn⟩ : ∃ n, n = bm.length := ⟨_, rfl⟩
  rw [← hm, ← hn] at heq ⊢
  clear ha hb hR h1 h2 h3 hm hn
  have hB0 : Below w.heap.size w w := Below.refl _ _
  go_enter Try.func28, Try.ntmps28
  go_wp2_with (first
    | (go_at_call 50; refine (heq.out _ (((Below.refl _ _).alloc (Nat.le_refl _) _).alloc (by simp) _)).mono ?_; rintro e w' ⟨rfl, qq, rfl⟩))
  all_goals go_ret
  all_goals refine ⟨?_, (by first | exact ((Below.refl _ _).alloc (Nat.le_refl _) _).alloc (by simp) _ | exact (((Below.refl _ _).alloc (Nat.le_refl _) _).alloc (by simp) _).trans ((Dn.below ⟨qq, rfl⟩).mono (by simp; omega)))⟩
  all_goals rw [HR.out]
  all_goals clear heq he hbr hg1 hg2 HR
  all_goals first | (simp [*]; done) | (simp [*]; rfl)
end Go.Proofs.Ytdpfmaikijilkaa
