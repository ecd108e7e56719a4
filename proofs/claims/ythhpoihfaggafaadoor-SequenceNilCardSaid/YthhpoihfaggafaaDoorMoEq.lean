/-
  The walks of slices.Equal (numbers, events), the document's SameInts, Same of events.
-/
import Derived.Test.YthhpoihfaggafaaDoorMoBase
namespace Go.Proofs.YthhpoihfaggafaaDoor
open Go Go.RowKit Go.Sort Go.Proofs CodM VmM

set_option maxHeartbeats 1000000 in
theorem equalV_any (w : World) (a b : Option Addr) (n m c d : Nat) (l r : List Int) (hl : CV.At w a n l) (hr : CV.At w b m r) (hn : n ≤ 1000000) (hm : m ≤ 1000000) :
    Calls Tryd.prog 75 #[.slice a n c, .slice b m d] w (TellsE (decide (l = r)) w) := by
  have hnl := hl.1
  have hnr := hr.1
  by_cases hnm : n = m
  · subst hnm
    obtain ⟨t, ht⟩ : ∃ t, t = decide (l = r) := ⟨_, rfl⟩
    rw [← ht]
    have HT := Lib.hid ht
    have HL := Lib.hid hl
    have HR := Lib.hid hr
    have HNN := Lib.hid (And.intro hnl hnr)
    clear ht hl hr hnl hnr hm
    go_enter Tryd.func75, Tryd.ntmps75
    go_wp2
    go_loopw [13] (fun i wr => AlikeRel w n l r i wr) (fun i _ => n - (intOf i).toNat)
    case atStart => exact ⟨0, Nat.zero_le _, rfl, rfl, Below.refl _ _⟩
    case round =>
      obtain ⟨k, hk, rfl, htk, hbel⟩ := hrel
      have HTK := Lib.hid htk
      have HBEL := Lib.hid hbel
      clear htk hbel
      by_cases hlt : k < n
      · obtain ⟨B1, o1, rfl, hB1, x, hx, hc1⟩ := (HL.out.below HBEL.out).cell hlt
        obtain ⟨B2, o2, rfl, hB2, y, hy, hc2⟩ := (HR.out.below HBEL.out).cell hlt
        have HX := Lib.hid hx
        have HY := Lib.hid hy
        clear hx hy hB1 hB2
        have p0 := one_cellV hc1
        have s0 := one_cellV hc2
        rw [show CV.k = 1 from rfl, Nat.mul_one] at p0 s0
        clear hc1 hc2
        by_cases he : x = y
        · subst he
          go_wp2
          go_quiet (fail)
          go_wp2
          go_roundw
          case rel => exact ⟨k + 1, by omega, by go_num, take_snoc_eq l r k x HX.out HY.out HTK.out, below_drewN HBEL.out _⟩
          case measure => simp [intOf]; omega
        · have he1 : (x == y) = false := by simpa using he
          have he2 : (x != y) = true := by simpa using he
          have HE := Lib.hid he
          clear he
          go_wp2
          go_quiet (fail)
          go_wp2
          go_ret
          exact ⟨by rw [HT.out, decide_eq_false (ne_of_at l r k x y HX.out HY.out HE.out)]; rfl, below_drewN HBEL.out _⟩
      · have hkn : k = n := by omega
        have hd : decide (k < n) = false := decide_eq_false hlt
        have HF : Hid (l = r) := Lib.hid (take_all_eq l r n HNN.out.1 HNN.out.2 (hkn ▸ HTK.out))
        clear hkn
        go_wp2
        go_ret
        exact ⟨by rw [HT.out, decide_eq_true HF.out]; rfl, HBEL.out⟩
  · have HT : Hid (decide (l = r) = false) := Lib.hid (decide_eq_false fun e => hnm (by rw [← hnl, ← hnr, e]))
    rw [HT.out]
    have hd : ((n : Int) == (m : Int)) = false := by simp; omega
    have hd2 : (n == m) = false := by simpa using hnm
    clear hl hr hnl hnr HT
    go_enter Tryd.func75, Tryd.ntmps75
    go_wp2
    go_ret
    exact ⟨rfl, Below.refl _ _⟩

set_option maxHeartbeats 1000000 in
theorem equalE_any (w : World) (a b : Option Addr) (n m c d : Nat) (l r : List Ev) (hl : CEv.At w a n l) (hr : CEv.At w b m r) (hn : n ≤ 1000000) (hm : m ≤ 1000000) :
    Calls Tryd.prog 44 #[.slice a n c, .slice b m d] w (TellsE (decide (l = r)) w) := by
  have hnl := hl.1
  have hnr := hr.1
  by_cases hnm : n = m
  · subst hnm
    obtain ⟨t, ht⟩ : ∃ t, t = decide (l = r) := ⟨_, rfl⟩
    rw [← ht]
    have HT := Lib.hid ht
    have HL := Lib.hid hl
    have HR := Lib.hid hr
    have HNN := Lib.hid (And.intro hnl hnr)
    clear ht hl hr hnl hnr hm
    go_enter Tryd.func44, Tryd.ntmps44
    go_wp2
    go_loopw [13] (fun i wr => AlikeRel w n l r i wr) (fun i _ => n - (intOf i).toNat)
    case atStart => exact ⟨0, Nat.zero_le _, rfl, rfl, Below.refl _ _⟩
    case round =>
      obtain ⟨k, hk, rfl, htk, hbel⟩ := hrel
      have HTK := Lib.hid htk
      have HBEL := Lib.hid hbel
      clear htk hbel
      by_cases hlt : k < n
      · obtain ⟨B1, o1, rfl, hB1, x, hx, hc1⟩ := (HL.out.below HBEL.out).cell hlt
        obtain ⟨B2, o2, rfl, hB2, y, hy, hc2⟩ := (HR.out.below HBEL.out).cell hlt
        have HX := Lib.hid hx
        have HY := Lib.hid hy
        clear hx hy hB1 hB2
        obtain ⟨p0, p1, p2, p3, p4, p5⟩ := six_cells hc1
        obtain ⟨s0, s1, s2, s3, s4, s5⟩ := six_cells hc2
        rw [show CEv.k = 6 from rfl] at p0 p1 p2 p3 p4 p5 s0 s1 s2 s3 s4 s5
        have hne := evNe x y
        have hgd := fun (op : BinOp) (x y : Operand) (xs ys : Array Value) (w : World) => run_eqGuard_agg (P := Tryd.prog) w op 45 x y xs ys evGuard
        clear hc1 hc2
        by_cases he : x = y
        · subst he
          have hne' : ∀ W, (binOp .neq 45 (evA x) (evA x)).run Tryd.prog W = .ok (.bool false) W := fun W => by rw [hne]; simp
          clear hne
          go_wp2
          go_quiet (fail)
          go_wp2
          go_roundw
          case rel => exact ⟨k + 1, by omega, by go_num, take_snoc_eq l r k x HX.out HY.out HTK.out, below_drewN HBEL.out _⟩
          case measure => simp [intOf]; omega
        · have hne' : ∀ W, (binOp .neq 45 (evA x) (evA y)).run Tryd.prog W = .ok (.bool true) W := fun W => by rw [hne, decide_eq_false he]; rfl
          clear hne
          have HE := Lib.hid he
          clear he
          go_wp2
          go_quiet (fail)
          go_wp2
          go_ret
          exact ⟨by rw [HT.out, decide_eq_false (ne_of_at l r k x y HX.out HY.out HE.out)]; rfl, below_drewN HBEL.out _⟩
      · have hkn : k = n := by omega
        have hd : decide (k < n) = false := decide_eq_false hlt
        have HF : Hid (l = r) := Lib.hid (take_all_eq l r n HNN.out.1 HNN.out.2 (hkn ▸ HTK.out))
        clear hkn
        go_wp2
        go_ret
        exact ⟨by rw [HT.out, decide_eq_true HF.out]; rfl, HBEL.out⟩
  · have HT : Hid (decide (l = r) = false) := Lib.hid (decide_eq_false fun e => hnm (by rw [← hnl, ← hnr, e]))
    rw [HT.out]
    have hd : ((n : Int) == (m : Int)) = false := by simp; omega
    have hd2 : (n == m) = false := by simpa using hnm
    clear hl hr hnl hnr HT
    go_enter Tryd.func44, Tryd.ntmps44
    go_wp2
    go_ret
    exact ⟨rfl, Below.refl _ _⟩

set_option maxHeartbeats 1000000 in
theorem sameInts_any (w : World) (a b : Option Addr) (n m c d : Nat) (l r : List Int) (hl : CV.At w a n l) (hr : CV.At w b m r) (hn : n ≤ 1000000) (hm : m ≤ 1000000) :
    Calls Tryd.prog 28 #[.slice a n c, .slice b m d] w (TellsE (decide (l = r)) w) := by
  have hnl := hl.1
  have hnr := hr.1
  by_cases hnm : n = m
  · subst hnm
    obtain ⟨t, ht⟩ : ∃ t, t = decide (l = r) := ⟨_, rfl⟩
    rw [← ht]
    have HT := Lib.hid ht
    have HL := Lib.hid hl
    have HR := Lib.hid hr
    have HNN := Lib.hid (And.intro hnl hnr)
    clear ht hl hr hnl hnr hm
    go_enter Tryd.func28, Tryd.ntmps28
    go_wp2
    go_loopw [5] (fun i wr => AlikeRel w n l r i wr) (fun i _ => n - (intOf i).toNat)
    case atStart => exact ⟨0, Nat.zero_le _, rfl, rfl, Below.refl _ _⟩
    case round =>
      obtain ⟨k, hk, rfl, htk, hbel⟩ := hrel
      have HTK := Lib.hid htk
      have HBEL := Lib.hid hbel
      clear htk hbel
      by_cases hlt : k < n
      · obtain ⟨B1, o1, rfl, hB1, x, hx, hc1⟩ := (HL.out.below HBEL.out).cell hlt
        obtain ⟨B2, o2, rfl, hB2, y, hy, hc2⟩ := (HR.out.below HBEL.out).cell hlt
        have HX := Lib.hid hx
        have HY := Lib.hid hy
        clear hx hy hB1 hB2
        have p0 := one_cellV hc1
        have s0 := one_cellV hc2
        rw [show CV.k = 1 from rfl, Nat.mul_one] at p0 s0
        clear hc1 hc2
        by_cases he : x = y
        · subst he
          go_wp2
          go_quiet (fail)
          go_wp2
          go_roundw
          case rel => exact ⟨k + 1, by omega, by go_num, take_snoc_eq l r k x HX.out HY.out HTK.out, below_drewN HBEL.out _⟩
          case measure => simp [intOf]; omega
        · have he1 : (x == y) = false := by simpa using he
          have he2 : (x != y) = true := by simpa using he
          have HE := Lib.hid he
          clear he
          go_wp2
          go_quiet (fail)
          go_wp2
          go_ret
          exact ⟨by rw [HT.out, decide_eq_false (ne_of_at l r k x y HX.out HY.out HE.out)]; rfl, below_drewN HBEL.out _⟩
      · have hkn : k = n := by omega
        have hd : decide (k < n) = false := decide_eq_false hlt
        have HF : Hid (l = r) := Lib.hid (take_all_eq l r n HNN.out.1 HNN.out.2 (hkn ▸ HTK.out))
        clear hkn
        go_wp2
        go_ret
        exact ⟨by rw [HT.out, decide_eq_true HF.out]; rfl, HBEL.out⟩
  · have HT : Hid (decide (l = r) = false) := Lib.hid (decide_eq_false fun e => hnm (by rw [← hnl, ← hnr, e]))
    rw [HT.out]
    have hd : ((n : Int) == (m : Int)) = false := by simp; omega
    have hd2 : (n == m) = false := by simpa using hnm
    clear hl hr hnl hnr HT
    go_enter Tryd.func28, Tryd.ntmps28
    go_wp2
    go_ret
    exact ⟨rfl, Below.refl _ _⟩

set_option maxHeartbeats 1000000 in
theorem rsameE_any (w : World) (a b : Option Addr) (n m c d : Nat) (l r : List Ev) (hl : CEv.At w a n l) (hr : CEv.At w b m r) (hn : n ≤ 1000000) (hm : m ≤ 1000000) :
    Calls Tryd.prog 27 #[.slice a n c, .slice b m d] w (TellsE (decide (l = r)) w) := by
  have hnl := hl.1
  have hnr := hr.1
  by_cases hnm : n = m
  · subst hnm
    obtain ⟨t, ht⟩ : ∃ t, t = decide (l = r) := ⟨_, rfl⟩
    rw [← ht]
    have HT := Lib.hid ht
    have HL := Lib.hid hl
    have HR := Lib.hid hr
    have HNN := Lib.hid (And.intro hnl hnr)
    clear ht hl hr hnl hnr hm
    go_enter Tryd.func27, Tryd.ntmps27
    go_wp2
    go_loopw [5] (fun i wr => AlikeRel w n l r i wr) (fun i _ => n - (intOf i).toNat)
    case atStart => exact ⟨0, Nat.zero_le _, rfl, rfl, Below.refl _ _⟩
    case round =>
      obtain ⟨k, hk, rfl, htk, hbel⟩ := hrel
      have HTK := Lib.hid htk
      have HBEL := Lib.hid hbel
      clear htk hbel
      by_cases hlt : k < n
      · obtain ⟨B1, o1, rfl, hB1, x, hx, hc1⟩ := (HL.out.below HBEL.out).cell hlt
        obtain ⟨B2, o2, rfl, hB2, y, hy, hc2⟩ := (HR.out.below HBEL.out).cell hlt
        have HX := Lib.hid hx
        have HY := Lib.hid hy
        clear hx hy hB1 hB2
        obtain ⟨p0, p1, p2, p3, p4, p5⟩ := six_cells hc1
        obtain ⟨s0, s1, s2, s3, s4, s5⟩ := six_cells hc2
        rw [show CEv.k = 6 from rfl] at p0 p1 p2 p3 p4 p5 s0 s1 s2 s3 s4 s5
        have hne := evNe x y
        have hgd := fun (op : BinOp) (x y : Operand) (xs ys : Array Value) (w : World) => run_eqGuard_agg (P := Tryd.prog) w op 45 x y xs ys evGuard
        clear hc1 hc2
        by_cases he : x = y
        · subst he
          have hne' : ∀ W, (binOp .neq 45 (evA x) (evA x)).run Tryd.prog W = .ok (.bool false) W := fun W => by rw [hne]; simp
          clear hne
          go_wp2
          go_quiet (fail)
          go_wp2
          go_roundw
          case rel => exact ⟨k + 1, by omega, by go_num, take_snoc_eq l r k x HX.out HY.out HTK.out, below_drewN HBEL.out _⟩
          case measure => simp [intOf]; omega
        · have hne' : ∀ W, (binOp .neq 45 (evA x) (evA y)).run Tryd.prog W = .ok (.bool true) W := fun W => by rw [hne, decide_eq_false he]; rfl
          clear hne
          have HE := Lib.hid he
          clear he
          go_wp2
          go_quiet (fail)
          go_wp2
          go_ret
          exact ⟨by rw [HT.out, decide_eq_false (ne_of_at l r k x y HX.out HY.out HE.out)]; rfl, below_drewN HBEL.out _⟩
      · have hkn : k = n := by omega
        have hd : decide (k < n) = false := decide_eq_false hlt
        have HF : Hid (l = r) := Lib.hid (take_all_eq l r n HNN.out.1 HNN.out.2 (hkn ▸ HTK.out))
        clear hkn
        go_wp2
        go_ret
        exact ⟨by rw [HT.out, decide_eq_true HF.out]; rfl, HBEL.out⟩
  · have HT : Hid (decide (l = r) = false) := Lib.hid (decide_eq_false fun e => hnm (by rw [← hnl, ← hnr, e]))
    rw [HT.out]
    have hd : ((n : Int) == (m : Int)) = false := by simp; omega
    have hd2 : (n == m) = false := by simpa using hnm
    clear hl hr hnl hnr HT
    go_enter Tryd.func27, Tryd.ntmps27
    go_wp2
    go_ret
    exact ⟨rfl, Below.refl _ _⟩
end Go.Proofs.YthhpoihfaggafaaDoor
