/-
  The walks of slices.Equal and of the document's Same: lists of messages.
-/
import Derived.Test.YtifniehfbafcoaaPTakeB
import Derived.BigRegion
import Derived.Deep.LoopGhost
namespace Go.Proofs.Ytifniehfbafcoaa
open Go Go.RowKit Go.Lib Go.Sort Go.Proofs

theorem eq_of_gets {l r : List Ms} {n : Nat} (hl : l.length = n) (hr : r.length = n) (h : ∀ j, j < n → l[j]? = r[j]?) : l = r := by
  refine List.ext_getElem? fun j => ?_
  by_cases hj : j < n
  · exact h j hj
  · rw [List.getElem?_eq_none (by omega), List.getElem?_eq_none (by omega)]
set_option maxHeartbeats 2000000 in
theorem rsame_any (w : World) (a b : Option Addr) (n m c e : Nat) (l r : List Ms) (hl : MsC.At w a n l) (hr : MsC.At w b m r) : Calls Try.prog 14 #[.slice a n c, .slice b m e] w (GwV (.bool (decide (l = r))) w) := by
  have mixed : Try.prog.follows .mixedOrders = true := by kernel_rfl
  obtain ⟨t, ht⟩ : ∃ t, t = decide (l = r) := ⟨_, rfl⟩
  rw [← ht]
  have HT := Lib.hid ht
  have HL := Lib.hid hl
  have HR := Lib.hid hr
  have hn2 := hl.2.1
  have hgd := fun (op : BinOp) (x y : Operand) (xs ys : Array Value) (w : World) => run_eqGuard_agg (P := Try.prog) w op 36 x y xs ys msGuard
  clear ht hl hr
  by_cases hnm : n = m
  · subst hnm
    go_enter Try.func14, Try.ntmps14
    go_wp2
    go_loopg [5] n (fun kx s5 wr => ∃ i : Nat, s5 = .int .i64 i ∧ i ≤ n ∧ n - i ≤ kx ∧ Aside (Gw w wr ∧ ∀ j, j < i → l[j]? = r[j]?))
    case atStart => exact ⟨0, by go_num, Nat.zero_le _, Nat.le_refl _, ⟨Gw.refl _, fun j hj => absurd hj (Nat.not_lt_zero _)⟩⟩
    case round =>
      obtain ⟨i, rfl, hin, hkx, A⟩ := hrel
      by_cases hlt : i < n
      · have hlz : decide ((i : Int) < (n : Int)) = true := by simpa using hlt
        have hiz : (i : Int) < (n : Int) := by omega
        obtain ⟨B, off, rfl, hB, x, hx, hc⟩ := at_cell (HL.out.below A.out.1.below) hlt
        obtain ⟨B', off', rfl, hB', y, hy, hc'⟩ := at_cell (HR.out.below A.out.1.below) hlt
        obtain ⟨x0, x1, x2, x3, x4, x5, x6, x7, x8, x9⟩ := ten hc
        obtain ⟨y0, y1, y2, y3, y4, y5, y6, y7, y8, y9⟩ := ten hc'
        have HX := Lib.hid (And.intro hx hy)
        clear hc hc' hx hy hB hB'
        by_cases hxy : x = y
        · subst hxy
          have hne : ∀ w, (binOp .neq 36 (MsV x) (MsV x)).run Try.prog w = .ok (.bool false) w := fun w => by rw [msNe]; simp
          go_wp2_with fail
          go_region
          all_goals
            go_wp2
            go_roundg (n - (i + 1))
            case measure => omega
            case rel =>
              refine ⟨i + 1, by go_num, by omega, Nat.le_refl _, ⟨A.out.1.drew, fun j hj => ?_⟩⟩
              by_cases e2 : j = i
              · subst e2
                exact HX.out.1.trans HX.out.2.symm
              · exact A.out.2 j (by omega)
        · have hne : ∀ w, (binOp .neq 36 (MsV x) (MsV y)).run Try.prog w = .ok (.bool true) w := fun w => by rw [msNe]; simp [hxy]
          have HNE := Lib.hid hxy
          clear hxy
          go_wp2_with fail
          go_region
          all_goals
            go_wp2
            go_ret
            have hlr : l ≠ r := fun e2 => by
              have h1 := HX.out.1
              rw [e2] at h1
              exact HNE.out (Option.some.inj (h1.symm.trans HX.out.2))
            refine ⟨?_, A.out.1.drew⟩
            rw [HT.out, decide_eq_false hlr]
            rfl
      · have hlz : decide ((i : Int) < (n : Int)) = false := by simp; omega
        obtain rfl : i = n := by omega
        go_wp2
        go_ret
        refine ⟨?_, A.out.1⟩
        rw [HT.out, decide_eq_true (eq_of_gets HL.out.1 HR.out.1 A.out.2)]
        rfl
  · have hd : ((n : Int) != (m : Int)) = true := bne_iff_ne.2 (by omega)
    have HNE := Lib.hid hnm
    clear hnm
    go_enter Try.func14, Try.ntmps14
    go_wp2
    go_ret
    refine ⟨?_, Gw.refl _⟩
    have hlr : l ≠ r := fun e2 => HNE.out (by rw [← HL.out.1, ← HR.out.1, e2])
    rw [HT.out, decide_eq_false hlr]
    rfl

set_option maxHeartbeats 2000000 in
theorem equal_any (w : World) (a b : Option Addr) (n m c e : Nat) (l r : List Ms) (hl : MsC.At w a n l) (hr : MsC.At w b m r) : Calls Try.prog 30 #[.slice a n c, .slice b m e] w (GwV (.bool (decide (l = r))) w) := by
  have mixed : Try.prog.follows .mixedOrders = true := by kernel_rfl
  obtain ⟨t, ht⟩ : ∃ t, t = decide (l = r) := ⟨_, rfl⟩
  rw [← ht]
  have HT := Lib.hid ht
  have HL := Lib.hid hl
  have HR := Lib.hid hr
  have hn2 := hl.2.1
  have hgd := fun (op : BinOp) (x y : Operand) (xs ys : Array Value) (w : World) => run_eqGuard_agg (P := Try.prog) w op 36 x y xs ys msGuard
  clear ht hl hr
  by_cases hnm : n = m
  · subst hnm
    go_enter Try.func30, Try.ntmps30
    go_wp2
    go_loopg [13] n (fun kx s5 wr => ∃ i : Nat, s5 = .int .i64 i ∧ i ≤ n ∧ n - i ≤ kx ∧ Aside (Gw w wr ∧ ∀ j, j < i → l[j]? = r[j]?))
    case atStart => exact ⟨0, by go_num, Nat.zero_le _, Nat.le_refl _, ⟨Gw.refl _, fun j hj => absurd hj (Nat.not_lt_zero _)⟩⟩
    case round =>
      obtain ⟨i, rfl, hin, hkx, A⟩ := hrel
      by_cases hlt : i < n
      · have hlz : decide ((i : Int) < (n : Int)) = true := by simpa using hlt
        have hiz : (i : Int) < (n : Int) := by omega
        obtain ⟨B, off, rfl, hB, x, hx, hc⟩ := at_cell (HL.out.below A.out.1.below) hlt
        obtain ⟨B', off', rfl, hB', y, hy, hc'⟩ := at_cell (HR.out.below A.out.1.below) hlt
        obtain ⟨x0, x1, x2, x3, x4, x5, x6, x7, x8, x9⟩ := ten hc
        obtain ⟨y0, y1, y2, y3, y4, y5, y6, y7, y8, y9⟩ := ten hc'
        have HX := Lib.hid (And.intro hx hy)
        clear hc hc' hx hy hB hB'
        by_cases hxy : x = y
        · subst hxy
          have hne : ∀ w, (binOp .neq 36 (MsV x) (MsV x)).run Try.prog w = .ok (.bool false) w := fun w => by rw [msNe]; simp
          go_wp2_with fail
          go_region
          all_goals
            go_wp2
            go_roundg (n - (i + 1))
            case measure => omega
            case rel =>
              refine ⟨i + 1, by go_num, by omega, Nat.le_refl _, ⟨A.out.1.drew, fun j hj => ?_⟩⟩
              by_cases e2 : j = i
              · subst e2
                exact HX.out.1.trans HX.out.2.symm
              · exact A.out.2 j (by omega)
        · have hne : ∀ w, (binOp .neq 36 (MsV x) (MsV y)).run Try.prog w = .ok (.bool true) w := fun w => by rw [msNe]; simp [hxy]
          have HNE := Lib.hid hxy
          clear hxy
          go_wp2_with fail
          go_region
          all_goals
            go_wp2
            go_ret
            have hlr : l ≠ r := fun e2 => by
              have h1 := HX.out.1
              rw [e2] at h1
              exact HNE.out (Option.some.inj (h1.symm.trans HX.out.2))
            refine ⟨?_, A.out.1.drew⟩
            rw [HT.out, decide_eq_false hlr]
            rfl
      · have hlz : decide ((i : Int) < (n : Int)) = false := by simp; omega
        obtain rfl : i = n := by omega
        go_wp2
        go_ret
        refine ⟨?_, A.out.1⟩
        rw [HT.out, decide_eq_true (eq_of_gets HL.out.1 HR.out.1 A.out.2)]
        rfl
  · have hd : ((n : Int) != (m : Int)) = true := bne_iff_ne.2 (by omega)
    have HNE := Lib.hid hnm
    clear hnm
    go_enter Try.func30, Try.ntmps30
    go_wp2
    go_ret
    refine ⟨?_, Gw.refl _⟩
    have hlr : l ≠ r := fun e2 => HNE.out (by rw [← HL.out.1, ← HR.out.1, e2])
    rw [HT.out, decide_eq_false hlr]
    rfl

end Go.Proofs.Ytifniehfbafcoaa
