/-
  reverseRangeOrdered, walked; partialInsertionSortOrdered of a short row.
-/
import Derived.Test.YtfonbompglddaaaSIns
namespace Go.Proofs.Ytfonbompglddaaa
open Go Go.RowKit Go.Lib Go.Sort Go.Proofs

set_option maxHeartbeats 4000000 in
set_option maxRecDepth 100000 in
theorem rev_any {w : World} {B n c : Nat} {d : Array Nat} (h : Rw w w B d) (hn : n = d.size) (hb16 : n ≤ 1000) (a b : Nat) (hab : a < b) (hbn : b ≤ n) : Calls Try.prog 47 #[slU B n c, .int .i64 a, .int .i64 b] w (RwTo (.tuple #[]) B (reverseRange d a b) w) := by
  have mixed : Try.prog.follows .mixedOrders = true := by kernel_rfl
  obtain ⟨b1, hb1⟩ : ∃ b1, b1 = b - 1 := ⟨_, rfl⟩
  have h1 : (b : Int) - 1 = (b1 : Int) := by omega
  have hw1 : IntKind.i64.wrap ((b : Int) - 1) = (b1 : Int) := by rw [IntKind.wrap_i64]; omega
  have hw2 : IntKind.i64.wrap (b1 : Int) = (b1 : Int) := by rw [IntKind.wrap_i64]; omega
  have hI : reverseRange d a b = reverseLoop a b1 d := by rw [hb1]; rfl
  rw [hI]
  obtain ⟨T, hT⟩ : ∃ T, T = reverseLoop a b1 d := ⟨_, rfl⟩
  rw [← hT]
  have H := Lib.hid h
  have HT := Lib.hid hT
  have HN := Lib.hid hn
  have hb1n : b1 < n := by omega
  clear h hI hT hn hb1
  go_enter Try.func47, Try.ntmps47
  go_wp2
  go_loopg [6, 7] b1 (fun kx s6 s7 wr => ∃ (i j : Nat) (d1 : Array Nat), s6 = .int .i64 i ∧ s7 = .int .i64 j ∧ j < n ∧ i ≤ n ∧ j ≤ kx ∧ Aside (Rw w wr B d1 ∧ d1.size = n ∧ reverseLoop i j d1 = T))
  case atStart => exact ⟨a, b1, d, by go_num, by go_num, hb1n, by omega, Nat.le_refl _, H.out, HN.out.symm, HT.out.symm⟩
  case round =>
    obtain ⟨i, j, d1, rfl, rfl, hjn, hin, hkx, A⟩ := hrel
    by_cases hlt : i < j
    · have hlz : decide ((i : Int) < (j : Int)) = true := by simpa using hlt
      have HSZ : Hid (d1.size = n) := A.out.2.1
      have hiz : (i : Int) < (n : Int) := by omega
      have hjz : (j : Int) < (n : Int) := by omega
      obtain ⟨j1, hj1⟩ : ∃ j1, j1 = j - 1 := ⟨_, rfl⟩
      obtain ⟨i1, hi1⟩ : ∃ i1, i1 = i + 1 := ⟨_, rfl⟩
      have g1 : (j : Int) - 1 = (j1 : Int) := by omega
      have g2 : (i : Int) + 1 = (i1 : Int) := by omega
      have w1 : IntKind.i64.wrap ((j : Int) - 1) = (j1 : Int) := by rw [IntKind.wrap_i64]; omega
      have w2 : IntKind.i64.wrap (j1 : Int) = (j1 : Int) := by rw [IntKind.wrap_i64]; omega
      have w3 : IntKind.i64.wrap ((i : Int) + 1) = (i1 : Int) := by rw [IntKind.wrap_i64]; omega
      have w4 : IntKind.i64.wrap (i1 : Int) = (i1 : Int) := by rw [IntKind.wrap_i64]; omega
      have y0 := A.out.1.cell i (by rw [HSZ.out]; omega)
      have y1 := A.out.1.cell j (by rw [HSZ.out]; omega)
      have f0 := A.out.1.frozen i
      have f1 := A.out.1.frozen j
      have HJ := Lib.hid (And.intro hj1 hi1)
      clear hj1 hi1
      go_wp2_with fail
      go_region
      all_goals
        obtain ⟨w3, hw3⟩ : ∃ w3, w3 = ((wr.setCell ⟨B, i, none⟩ (uV d1[j]!)).setCell ⟨B, j, none⟩ (uV d1[i]!)).drew := ⟨_, rfl⟩
        rw [← hw3]
        have H3 : Hid (Rw w w3 B (swp d1 i j)) := hw3 ▸ (A.out.1.swp i j (by rw [HSZ.out]; omega) (by rw [HSZ.out]; omega)).drew
        clear hw3 y0 y1 f0 f1
        go_wp2_with fail
        go_roundg j1
        case measure => have := HJ.out; omega
        case rel => exact ⟨i1, j1, swp d1 i j, by go_num, by go_num, by have := HJ.out; omega, by have := HJ.out; omega, Nat.le_refl _, H3.out, by rw [swp_size]; exact A.out.2.1, by rw [← A.out.2.2, reverseLoop.eq_1 i j d1, if_pos hlt, HJ.out.1, HJ.out.2]⟩
    · have hlz : decide ((i : Int) < (j : Int)) = false := by simp; omega
      go_wp2_with fail
      go_end0
      refine ⟨rfl, ?_⟩
      rw [← A.out.2.2, reverseLoop.eq_1, if_neg hlt]
      exact A.out.1

theorem partial_short {a b : Nat} {d : Array Nat} (h : b - a < 50) : partialInsertionSort ltN d a b = (d, decide (scanSorted ltN d b (a + 1) = b)) := by
  unfold partialInsertionSort
  rw [partialIns_succ]
  by_cases e : scanSorted ltN d b (a + 1) = b
  · simp [e]
  · simp [e, h]
set_option maxHeartbeats 4000000 in
set_option maxRecDepth 100000 in
theorem partial_any {w : World} {B n c : Nat} {d : Array Nat} (h : Rw w w B d) (hn : n = d.size) (hb16 : n ≤ 49) (a b : Nat) (hab : a < b) (hbn : b ≤ n) : Calls Try.prog 48 #[slU B n c, .int .i64 a, .int .i64 b] w (RwTo (.bool (decide (scanSorted ltN d b (a + 1) = b))) B d w) := by
  have mixed : Try.prog.follows .mixedOrders = true := by kernel_rfl
  obtain ⟨a1, ha1⟩ : ∃ a1, a1 = a + 1 := ⟨_, rfl⟩
  have h1 : (a : Int) + 1 = (a1 : Int) := by omega
  have hw1 : IntKind.i64.wrap ((a : Int) + 1) = (a1 : Int) := by rw [IntKind.wrap_i64]; omega
  have hw2 : IntKind.i64.wrap (a1 : Int) = (a1 : Int) := by rw [IntKind.wrap_i64]; omega
  obtain ⟨l, hl⟩ : ∃ l, l = b - a := ⟨_, rfl⟩
  have hl1 : (b : Int) - (a : Int) = (l : Int) := by omega
  have hl2 : IntKind.i64.wrap ((b : Int) - (a : Int)) = (l : Int) := by rw [IntKind.wrap_i64]; omega
  have hl3 : IntKind.i64.wrap (l : Int) = (l : Int) := by rw [IntKind.wrap_i64]; omega
  have hl4 : decide ((l : Int) < 50) = true := by simp; omega
  have hl5 : l < 50 := by omega
  rw [← ha1]
  obtain ⟨T, hT⟩ : ∃ T, T = scanSorted ltN d b a1 := ⟨_, rfl⟩
  rw [← hT]
  have H := Lib.hid h
  have HT := Lib.hid hT
  have HN := Lib.hid hn
  have ha1b : a1 ≤ b := by omega
  have ha10 : 0 < a1 := by omega
  clear h hT hn ha1 hl
  go_enter Try.func48, Try.ntmps48
  go_wp2
  go_loopg [7, 8] 0 (fun _ s7 s8 wr => s7 = .int .i64 a1 ∧ s8 = .int .i64 0 ∧ w = wr)
  case atStart => exact ⟨by go_num, by go_num, rfl⟩
  case round =>
    obtain ⟨rfl, rfl, rfl⟩ := hrel
    go_wp2_with fail
    go_loopg [7] (b - a1) (fun ky s7 wr => ∃ i : Nat, s7 = .int .i64 i ∧ i ≤ b ∧ a1 ≤ i ∧ b - i ≤ ky ∧ Aside (Rw w wr B d ∧ scanSorted ltN d b i = T))
    case atStart => exact ⟨a1, by go_num, ha1b, Nat.le_refl _, Nat.le_refl _, H.out, HT.out.symm⟩
    case round =>
      obtain ⟨i, rfl, hib, hia, hky, A⟩ := hrel
      by_cases hlt : i < b
      · have hlz : decide ((i : Int) < (b : Int)) = true := by simpa using hlt
        obtain ⟨q, hq⟩ : ∃ q, q = i - 1 := ⟨_, rfl⟩
        have hiz : (i : Int) < (n : Int) := by omega
        have hqz : (q : Int) < (n : Int) := by omega
        have g1 : (i : Int) - 1 = (q : Int) := by omega
        have g2 : IntKind.i64.wrap ((i : Int) - 1) = (q : Int) := by rw [IntKind.wrap_i64]; omega
        have g3 : IntKind.i64.wrap (q : Int) = (q : Int) := by rw [IntKind.wrap_i64]; omega
        have x0 := A.out.1.at_ (j := i) (by rw [← HN.out]; omega)
        have x1 := A.out.1.at_ (j := q) (by rw [← HN.out]; omega)
        obtain ⟨t, ht⟩ : ∃ t, ltN d[i]! d[q]! = t := ⟨_, rfl⟩
        have HTT := Lib.hid ht
        have HQ := Lib.hid hq
        clear ht hq
        go_wp2_with fail
        refine wp_region_gw (by kernel_rfl) (by kernel_rfl) ?_
        iterate 16 (refine WQ.step (fun K hK => ?_); go_simp; first | (refine hK _ ?_; clear hK K) | (apply Exists.intro; refine ⟨fun _ => ?_, hK _ ?_⟩; (go_at_call 49; exact less_g HTT.out _ _ _); clear hK K))
        refine WQ.nil ?_
        intro _ hw'
        obtain ⟨⟨nq, osq⟩, hw''⟩ := hw'
        subst hw''
        have G2 : Hid (Rw w (grow (wr.drewN nq) osq) B d) := A.out.1.gw (Gw.of wr nq osq)
        clear x0 x1
        generalize grow (wr.drewN nq) osq = w2 at G2 ⊢
        cases t with
        | false =>
          go_wp2_with fail
          go_roundg (b - (i + 1))
          case measure => omega
          case rel => exact ⟨i + 1, by go_num, by omega, by omega, Nat.le_refl _, G2.out, by rw [← A.out.2, scanSorted.eq_1 ltN d b i, if_pos]; rw [← HQ.out, HTT.out]; simpa using hlt⟩
        | true =>
          have hne : ((i : Int) == (b : Int)) = false := by simp; omega
          have hTi : T = i := by
            rw [← A.out.2, scanSorted.eq_1, if_neg]
            rw [← HQ.out, HTT.out]
            simp
          have HTI := Lib.hid hTi
          clear hTi
          go_wp2_with fail
          go_ret
          refine ⟨?_, G2.out⟩
          rw [decide_eq_false (by rw [HTI.out]; omega)]
          rfl
      · have hlz : decide ((i : Int) < (b : Int)) = false := by simp; omega
        go_wp2_with fail
        refine wp_region_gw (by kernel_rfl) (by kernel_rfl) ?_
        iterate 16 (refine WQ.step (fun K hK => ?_); go_simp; first | (refine hK _ ?_; clear hK K))
        refine WQ.nil ?_
        intro _ hw'
        obtain ⟨⟨nq, osq⟩, hw''⟩ := hw'
        subst hw''
        have G2 : Hid (Rw w (grow (wr.drewN nq) osq) B d) := A.out.1.gw (Gw.of wr nq osq)
        generalize grow (wr.drewN nq) osq = w2 at G2 ⊢
        have hTi : T = i := by
          rw [← A.out.2, scanSorted.eq_1, if_neg]
          simp
          omega
        have HTI := Lib.hid hTi
        obtain rfl : i = b := by omega
        clear hTi
        go_wp2_with fail
        go_ret
        refine ⟨?_, G2.out⟩
        rw [decide_eq_true HTI.out]
        rfl
end Go.Proofs.Ytfonbompglddaaa
