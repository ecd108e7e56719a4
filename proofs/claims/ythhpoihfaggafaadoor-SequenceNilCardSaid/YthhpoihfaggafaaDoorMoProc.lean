/-
  Processes and models in memory; the walks of sameProc, slices.EqualFunc at processes, Same.
-/
import Derived.Test.YthhpoihfaggafaaDoorMoState
import Derived.Test.YthhpoihfaggafaaDoorD2
import Derived.Test.YthhpoihfaggafaaDoorD4
namespace Go.Proofs.YthhpoihfaggafaaDoor
open Go Go.RowKit Go.Sort Go.Proofs CodM VmM

theorem sameP_iff (p q : Prg) : sameP p q = true ↔ p = q := by
  obtain ⟨x, ks⟩ := p
  obtain ⟨y, ls⟩ := q
  simp [sameP]
instance : DecidableEq Prg := fun p q => decidable_of_iff _ (sameP_iff p q)
theorem sameP_dec (p q : Prg) : sameP p q = decide (p = q) := by
  rw [Bool.eq_iff_iff, sameP_iff, decide_eq_true_iff]
/-- a process; a model -/
structure Pm where
  prog : Prg
  vars : List Int
  seed : Int
deriving DecidableEq
structure Mo where
  procs : List Pm
  first : List Ev
deriving DecidableEq
abbrev pmC (x : Pm) (a : Option Addr) (n c : Nat) (va : Option Addr) (vc : Nat) : Array Value := #[.int .i64 x.prog.vars, .slice a n c, .slice va x.vars.length vc, .int .i64 x.seed]
/-- its rows -/
structure PmAt (w : World) (x : Pm) (a : Option Addr) (n c : Nat) (va : Option Addr) (vc : Nat) : Prop where
  prog : ProgAt w a n x.prog
  sl : SlOk a n c
  vars : x.vars.length ≤ 1000 → CV.At w va x.vars.length x.vars
  nil : va = none → vc = 0
theorem PmAt.below {w w' : World} {x : Pm} {a : Option Addr} {n c : Nat} {va : Option Addr} {vc : Nat} (h : PmAt w x a n c va vc) (hb : Below w.heap.size w w') : PmAt w' x a n c va vc :=
  ⟨h.prog.below hb (Nat.le_refl _), h.sl, fun hl => (h.vars hl).below hb, h.nil⟩
def PmCell (w : World) (B o : Nat) (x : Pm) : Prop := ∃ a n c va vc, w.cell? ⟨B, o, none⟩ = some (.int .i64 x.prog.vars) ∧ w.cell? ⟨B, o + 1, none⟩ = some (.slice a n c) ∧ w.cell? ⟨B, o + 2, none⟩ = some (.slice va x.vars.length vc) ∧ w.cell? ⟨B, o + 3, none⟩ = some (.int .i64 x.seed) ∧ PmAt w x a n c va vc
theorem PmCell.below {w w' : World} {B o : Nat} {x : Pm} (h : PmCell w B o x) (hb : Below w.heap.size w w') : PmCell w' B o x := by
  obtain ⟨a, n, c, va, vc, h0, h1, h2, h3, h4⟩ := h
  exact ⟨a, n, c, va, vc, keepc hb h0, keepc hb h1, keepc hb h2, keepc hb h3, h4.below hb⟩
/-- a slice reads as processes -/
def PmsAt (w : World) (a : Option Addr) (n : Nat) (l : List Pm) : Prop :=
  l.length = n ∧ (n = 0 ∨ ∃ B off, a = some ⟨B, off, none⟩ ∧ B < w.heap.size ∧ ∀ i (hi : i < l.length), PmCell w B (off + i * 4) l[i])
theorem PmsAt.below {w w' : World} {a : Option Addr} {n : Nat} {l : List Pm} (h : PmsAt w a n l) (hb : Below w.heap.size w w') : PmsAt w' a n l := by
  obtain ⟨h1, h2 | ⟨B, off, e, hB, hc⟩⟩ := h
  · exact ⟨h1, .inl h2⟩
  · exact ⟨h1, .inr ⟨B, off, e, Nat.lt_of_lt_of_le hB hb.size, fun i hi => (hc i hi).below hb⟩⟩
theorem PmsAt.cell {w : World} {a : Option Addr} {n : Nat} {l : List Pm} (h : PmsAt w a n l) {i : Nat} (hi : i < n) : ∃ B off, a = some ⟨B, off, none⟩ ∧ B < w.heap.size ∧ ∃ x, l[i]? = some x ∧ PmCell w B (off + i * 4) x := by
  obtain ⟨h1, h3 | ⟨B, off, rfl, hB, hc⟩⟩ := h
  · omega
  · exact ⟨B, off, rfl, hB, l[i]'(by omega), List.getElem?_eq_getElem (by omega), hc i (by omega)⟩
theorem same_pm (x y : Pm) : (decide (x.prog = y.prog) && decide (x.vars = y.vars) && (x.seed == y.seed)) = decide (x = y) := by
  obtain ⟨a, b, c⟩ := x
  obtain ⟨d, e, f⟩ := y
  rw [Bool.eq_iff_iff]
  simp [and_assoc]

set_option maxHeartbeats 2000000 in
theorem sameProc_in (w : World) (pv qv : Int) (a b va vb : Option Addr) (n c m d vn vc vm vd : Nat) (s s' : Int) (t1 t2 t3 : Bool)
    (h1 : Hid (∀ W, Below w.heap.size w W → Calls Tryd.prog 99 #[.agg #[.int .i64 pv, .slice a n c], .agg #[.int .i64 qv, .slice b m d]] W (TellsE t1 W)))
    (h2 : Hid (∀ W, Below w.heap.size w W → Calls Tryd.prog 75 #[.slice va vn vc, .slice vb vm vd] W (TellsE t2 W))) (h3 : (s == s') = t3) :
    Calls Tryd.prog 77 #[.agg #[.int .i64 pv, .slice a n c, .slice va vn vc, .int .i64 s], .agg #[.int .i64 qv, .slice b m d, .slice vb vm vd, .int .i64 s']] w (TellsE (t1 && t2 && t3) w) := by
  cases t1 <;> cases t2 <;> cases t3
  all_goals
    go_enter Tryd.func77, Tryd.ntmps77
    go_upto_region 1 with fail
    obtain ⟨wb, hwb⟩ : ∃ wb, wb = (w.alloc (.cells #[.int .i64 pv, .slice a n c, .slice va vn vc, .int .i64 s] 72)).alloc (.cells #[.int .i64 qv, .slice b m d, .slice vb vm vd, .int .i64 s'] 72) := ⟨_, rfl⟩
    have HB0 := Lib.hid (show Below w.heap.size w wb from by rw [hwb]; exact ((Below.refl _ _).alloc (Nat.le_refl _) _).alloc (by simp) _)
    have x0 : wb.heap[w.heap.size]? = some (.cells #[.int .i64 pv, .slice a n c, .slice va vn vc, .int .i64 s] 72 (0, 0)) := by rw [hwb, heap_alloc_old _ _ (by simp), heap_alloc_new]
    have x1 : wb.heap[w.heap.size + 1]? = some (.cells #[.int .i64 qv, .slice b m d, .slice vb vm vd, .int .i64 s'] 72 (0, 0)) := by
      rw [hwb]
      have z : (w.alloc (.cells #[.int .i64 pv, .slice a n c, .slice va vn vc, .int .i64 s] 72)).heap.size = w.heap.size + 1 := by simp
      rw [← z, heap_alloc_new]
    rw [← hwb]
    clear hwb
    have q0 : wb.cell? ⟨w.heap.size, 0, none⟩ = some (.int .i64 pv) := (cell_of_row _ _ _ _ _ _ x0).trans rfl
    have q1 : wb.cell? ⟨w.heap.size, 1, none⟩ = some (.slice a n c) := (cell_of_row _ _ _ _ _ _ x0).trans rfl
    have q2 : wb.cell? ⟨w.heap.size, 2, none⟩ = some (.slice va vn vc) := (cell_of_row _ _ _ _ _ _ x0).trans rfl
    have q3 : wb.cell? ⟨w.heap.size, 3, none⟩ = some (.int .i64 s) := (cell_of_row _ _ _ _ _ _ x0).trans rfl
    have r0 : wb.cell? ⟨w.heap.size + 1, 0, none⟩ = some (.int .i64 qv) := (cell_of_row _ _ _ _ _ _ x1).trans rfl
    have r1 : wb.cell? ⟨w.heap.size + 1, 1, none⟩ = some (.slice b m d) := (cell_of_row _ _ _ _ _ _ x1).trans rfl
    have r2 : wb.cell? ⟨w.heap.size + 1, 2, none⟩ = some (.slice vb vm vd) := (cell_of_row _ _ _ _ _ _ x1).trans rfl
    have r3 : wb.cell? ⟨w.heap.size + 1, 3, none⟩ = some (.int .i64 s') := (cell_of_row _ _ _ _ _ _ x1).trans rfl
    clear x0 x1
    go_wp2_with (first
      | (go_at_call 99; refine (h1.out _ HB0.out).mono ?_; rintro e w7 ⟨rfl, hb7⟩; have q2 := keepc hb7 q2; have q3 := keepc hb7 q3; have r2 := keepc hb7 r2; have r3 := keepc hb7 r3; have HB7 := Lib.hid (HB0.out.trans (hb7.mono HB0.out.size)); clear hb7)
      | (go_at_call 75; refine (h2.out _ HB7.out).mono ?_; rintro e w8 ⟨rfl, hb8⟩; have q3 := keepc hb8 q3; have r3 := keepc hb8 r3; have HB8 := Lib.hid (HB7.out.trans (hb8.mono HB7.out.size)); clear hb8))
    go_ret
    first | exact ⟨rfl, HB8.out⟩ | exact ⟨rfl, HB7.out⟩
theorem sameProc_any (w : World) (x y : Pm) (a b va vb : Option Addr) (n c m d vc vd : Nat) (hx : PmAt w x a n c va vc) (hy : PmAt w y b m d vb vd) (hxl : x.vars.length ≤ 1000) (hyl : y.vars.length ≤ 1000) :
    Calls Tryd.prog 77 #[.agg (pmC x a n c va vc), .agg (pmC y b m d vb vd)] w (TellsE (decide (x = y)) w) := by
  rw [← same_pm]
  exact sameProc_in w _ _ a b va vb n c m d _ vc _ vd _ _ _ _ _
    (Lib.hid fun W hb => sameP_dec x.prog y.prog ▸ same_any W a b n m c d x.prog y.prog (hx.prog.below hb (Nat.le_refl _)) (hy.prog.below hb (Nat.le_refl _)))
    (Lib.hid fun W hb => equalV_any W va vb _ _ vc vd x.vars y.vars ((hx.vars hxl).below hb) ((hy.vars hyl).below hb) (by omega) (by omega)) rfl
end Go.Proofs.YthhpoihfaggafaaDoor
