/-
  The walk of do: an act by both, kind by kind.
-/
import Derived.Test.YtifniehfbafcoaaPTakeB
import Derived.Test.YtifniehfbafcoaaPPutZ
import Derived.Test.YtifniehfbafcoaaPLeast
import Derived.Test.YtifniehfbafcoaaPLaw
import Derived.Test.YtifniehfbafcoaaPEq
import Derived.Test.YtifniehfbafcoaaDTake
import Derived.Test.YtifniehfbafcoaaDPut
import Derived.Test.YtifniehfbafcoaaDRest
import Derived.Test.YtifniehfbafcoaaGDuo
import Derived.Deep.RegionHeld3
namespace Go.Proofs.Ytifniehfbafcoaa
open Go Go.Shelf Go.RowKit Go.Lib Go.Sort Go.Proofs

/-- an act, and a box of one -/
abbrev ActV (k : Int) (x : Ms) (n : Int) : Value := .agg #[.int .i64 k, .int .i64 x.1.1.1, .int .i64 x.1.1.2.1, .int .i64 x.1.1.2.2, .int .i64 x.1.2.1, .int .i64 x.1.2.2.1, .int .i64 x.1.2.2.2, .int .i64 x.2.1, .bool x.2.2.1, .bool x.2.2.2.1, .int .i64 x.2.2.2.2, .int .i64 n]
abbrev ActO (k : Int) (x : Ms) (n : Int) : Obj := .cells #[.int .i64 k, .int .i64 x.1.1.1, .int .i64 x.1.1.2.1, .int .i64 x.1.1.2.2, .int .i64 x.1.2.1, .int .i64 x.1.2.2.1, .int .i64 x.1.2.2.2, .int .i64 x.2.1, .bool x.2.2.1, .bool x.2.2.2.1, .int .i64 x.2.2.2.2, .int .i64 n] 38
theorem act_here {w : World} {R : Nat} {k : Int} {x : Ms} {n : Int} (h : w.heap[R]? = some (ActO k x n)) : (w.cell? ⟨R, 0, none⟩ = some (.int .i64 k)) ∧ (w.cell? ⟨R, 1, none⟩ = some (.int .i64 x.1.1.1)) ∧ (w.cell? ⟨R, 2, none⟩ = some (.int .i64 x.1.1.2.1)) ∧ (w.cell? ⟨R, 3, none⟩ = some (.int .i64 x.1.1.2.2)) ∧ (w.cell? ⟨R, 4, none⟩ = some (.int .i64 x.1.2.1)) ∧ (w.cell? ⟨R, 5, none⟩ = some (.int .i64 x.1.2.2.1)) ∧ (w.cell? ⟨R, 6, none⟩ = some (.int .i64 x.1.2.2.2)) ∧ (w.cell? ⟨R, 7, none⟩ = some (.int .i64 x.2.1)) ∧ (w.cell? ⟨R, 8, none⟩ = some (.bool x.2.2.1)) ∧ (w.cell? ⟨R, 9, none⟩ = some (.bool x.2.2.2.1)) ∧ (w.cell? ⟨R, 10, none⟩ = some (.int .i64 x.2.2.2.2)) ∧ (w.cell? ⟨R, 11, none⟩ = some (.int .i64 n)) := by
  refine ⟨?_, ?_, ?_, ?_, ?_, ?_, ?_, ?_, ?_, ?_, ?_, ?_⟩
  all_goals (rw [cell_of_row _ _ _ _ _ _ h]; rfl)
/-- a pool and the document's -/
abbrev Dd (T : Nat → Prop) (w W : World) (G R : Nat) (x y : List Ms × Nat) (X : List (Nat × Obj)) : Prop := Duo plT rfT T w W G R x y X
abbrev DdTo (v : Value) (T : Nat → Prop) (w : World) (G R : Nat) (x y : List Ms × Nat) (X : List (Nat × Obj)) (e : Ending) (W' : World) : Prop := DuoTo plT rfT v T w G R x y X e W'
/-- both have alike behind it -/
def OneTo (v : Value) (T : Nat → Prop) (w : World) (G R : Nat) (x : List Ms × Nat) (e : Ending) (W' : World) : Prop := ∃ x2 : List Ms × Nat, x2.2 ≤ x.2 + 1 ∧ DdTo v T w G R x2 x2 [] e W'
theorem Dd.len {T : Nat → Prop} {w W : World} {G R : Nat} {x y : List Ms × Nat} {X : List (Nat × Obj)} (h : Dd T w W G R x y X) : x.1.length ≤ x.2 := by
  obtain ⟨F, v, vs, bs, h1, h2, h3, h4, h5⟩ := h.fst
  exact h4
/-- what is taken, by both -/
theorem q_take (x : List Ms × Nat) (i : Int) : ∃ (y : Ms) (c : Int) (x2 : List Ms × Nat), x2.2 = x.2 ∧
    (∀ T w W G R z X, Dd T w W G R x z X → Calls Try.prog 16 #[.pointer (some ⟨G, 0, none⟩), .int .i64 i] W (DdTo (.tuple #[MsV y, .int .i64 c]) T w G R x2 z X)) ∧
    (∀ T w W G R z X, Dd T w W G R z x X → Calls Try.prog 20 #[.pointer (some ⟨R, 0, none⟩), .int .i64 i] W (DdTo (.tuple #[MsV y, .int .i64 c]) T w G R z x2 X)) := by
  by_cases hi : 0 ≤ i ∧ i < (x.1.length : Int)
  · obtain ⟨q, rfl⟩ : ∃ q : Nat, i = q := ⟨i.toNat, by omega⟩
    have hy : x.1[q]? = some (x.1[q]'(by omega)) := List.getElem?_eq_getElem (by omega)
    exact ⟨_, 0, (x.1.eraseIdx q, x.2), rfl, fun T w W G R z X h => h.l fun F hF => pl_take hF q _ hy, fun T w W G R z X h => h.r fun S hS => rtake hS q _ hy⟩
  · exact ⟨msZ, 6, x, rfl, fun T w W G R z X h => h.l0 fun F hF => pl_take_none hF i (by omega), fun T w W G R z X h => h.r0 fun S hS => rtake_none hS i (by omega)⟩
theorem q_at (x : List Ms × Nat) (i : Int) : ∃ (y : Ms) (c : Int),
    (∀ T w W G R z X, Dd T w W G R x z X → Calls Try.prog 21 #[.pointer (some ⟨G, 0, none⟩), .int .i64 i] W (DdTo (.tuple #[MsV y, .int .i64 c]) T w G R x z X)) ∧
    (∀ T w W G R z X, Dd T w W G R z x X → Calls Try.prog 22 #[.pointer (some ⟨R, 0, none⟩), .int .i64 i] W (DdTo (.tuple #[MsV y, .int .i64 c]) T w G R z x X)) := by
  by_cases hi : 0 ≤ i ∧ i < (x.1.length : Int)
  · obtain ⟨q, rfl⟩ : ∃ q : Nat, i = q := ⟨i.toNat, by omega⟩
    have hy : x.1[q]? = some (x.1[q]'(by omega)) := List.getElem?_eq_getElem (by omega)
    exact ⟨_, 0, fun T w W G R z X h => h.l0 fun F hF => pl_at hF q _ hy, fun T w W G R z X h => h.r0 fun S hS => rat hS q _ hy⟩
  · exact ⟨msZ, 6, fun T w W G R z X h => h.l0 fun F hF => pl_at_none hF i (by omega), fun T w W G R z X h => h.r0 fun S hS => rat_none hS i (by omega)⟩
set_option maxHeartbeats 2000000 in
set_option maxRecDepth 100000 in
theorem do1 (T : Nat → Prop) (w W : World) (G R : Nat) (x : List Ms × Nat) (h : Dd T w W G R x x []) (hl : x.2 ≤ 1000) (y : Ms) (n : Int) : Calls Try.prog 8 #[.pointer (some ⟨G, 0, none⟩), .pointer (some ⟨R, 0, none⟩), ActV 1 y n] W (OneTo (.bool true) T w G R x) := by
  have HB : Hid (x.2 < 1000000 ∧ x.1.length < 131072) := ⟨by omega, by have := Dd.len h; omega⟩
  have h1 := h.box (ActO 1 y n)
  obtain ⟨a0, a1, a2, a3, a4, a5, a6, a7, a8, a9, a10, a11⟩ := act_here (h1.get (List.Mem.head _))
  have H1 := Lib.hid h1
  clear h hl h1
  go_enter Try.func8, Try.ntmps8
  go_wp2_with (first
    | (go_at_call 19; refine (H3.out.r fun S hS => rput hS y HB.out.1 HB.out.2).mono ?_; rintro e w4 ⟨rfl, h4⟩; have H4 := Lib.hid h4; clear h4)
    | (go_at_call 15; refine (H1.out.l fun F hF => pl_put hF y HB.out.1 HB.out.2).mono ?_; rintro e w3 ⟨rfl, h3⟩; have H3 := Lib.hid h3; obtain ⟨b0, b1, b2, b3, b4, b5, b6, b7, b8, b9, b10, b11⟩ := act_here (h3.get (List.Mem.head _)); clear h3))
  go_ret
  exact ⟨(x.1 ++ [y], x.2 + 1), Nat.le_refl _, rfl, H4.out.less⟩
set_option maxHeartbeats 2000000 in
set_option maxRecDepth 100000 in
theorem do2 (T : Nat → Prop) (w W : World) (G R : Nat) (x : List Ms × Nat) (h : Dd T w W G R x x []) (y0 : Ms) (n : Int) : Calls Try.prog 8 #[.pointer (some ⟨G, 0, none⟩), .pointer (some ⟨R, 0, none⟩), ActV 2 y0 n] W (OneTo (.bool true) T w G R x) := by
  obtain ⟨y, c, x2, hq, hH, hR⟩ := q_take x n
  have HQ := Lib.hid hq
  have HH := Lib.hid hH
  have HR := Lib.hid hR
  have h1 := h.box (ActO 2 y0 n)
  obtain ⟨a0, a1, a2, a3, a4, a5, a6, a7, a8, a9, a10, a11⟩ := act_here (h1.get (List.Mem.head _))
  have H1 := Lib.hid h1
  have he : ∀ w, (binOp .eql 36 (MsV y) (MsV y)).run Try.prog w = .ok (.bool true) w := fun w => by rw [msEq]; simp
  have hgd := fun (op : BinOp) (x y : Operand) (xs ys : Array Value) (w : World) => run_eqGuard_agg (P := Try.prog) w op 36 x y xs ys msGuard
  clear h h1 hH hR hq
  go_enter Try.func8, Try.ntmps8
  go_wp2_with (first
    | (go_at_call 20; refine (HR.out _ _ _ _ _ _ _ H3.out).mono ?_; rintro e w4 ⟨rfl, h4⟩; have h5 := h4.box (MsO y); obtain ⟨⟨u0, u1, u2, u3, u4, u5, u6, u7, u8, u9⟩, -⟩ := box_lit (x := y) (h5.get (b := w4.heap.size) (List.Mem.head _)); obtain ⟨⟨y0, y1, y2, y3, y4, y5, y6, y7, y8, y9⟩, -⟩ := box_lit (x := y) (h5.get (b := w3.heap.size) (List.Mem.tail _ (List.Mem.head _))); have H5 := Lib.hid h5; clear h4 h5)
    | (go_at_call 16; refine (HH.out _ _ _ _ _ _ _ H1.out).mono ?_; rintro e w3 ⟨rfl, h3⟩; have h5 := h3.box (MsO y); have H3 := Lib.hid h5; obtain ⟨b0, b1, b2, b3, b4, b5, b6, b7, b8, b9, b10, b11⟩ := act_here (k := 2) (x := y0) (n := n) (h5.get (b := W.heap.size) (List.Mem.tail _ (List.Mem.head _))); clear h3 h5))
  go_ret
  exact ⟨x2, by rw [HQ.out]; exact Nat.le_succ _, rfl, H5.out.less⟩
set_option maxHeartbeats 2000000 in
set_option maxRecDepth 100000 in
theorem do3 (T : Nat → Prop) (w W : World) (G R : Nat) (x : List Ms × Nat) (h : Dd T w W G R x x []) (y0 : Ms) (n : Int) : Calls Try.prog 8 #[.pointer (some ⟨G, 0, none⟩), .pointer (some ⟨R, 0, none⟩), ActV 3 y0 n] W (OneTo (.bool true) T w G R x) := by
  obtain ⟨y, c, hH, hR⟩ := q_at x n
  have HH := Lib.hid hH
  have HR := Lib.hid hR
  have h1 := h.box (ActO 3 y0 n)
  obtain ⟨a0, a1, a2, a3, a4, a5, a6, a7, a8, a9, a10, a11⟩ := act_here (h1.get (List.Mem.head _))
  have H1 := Lib.hid h1
  have he : ∀ w, (binOp .eql 36 (MsV y) (MsV y)).run Try.prog w = .ok (.bool true) w := fun w => by rw [msEq]; simp
  have hgd := fun (op : BinOp) (x y : Operand) (xs ys : Array Value) (w : World) => run_eqGuard_agg (P := Try.prog) w op 36 x y xs ys msGuard
  clear h h1 hH hR
  go_enter Try.func8, Try.ntmps8
  go_wp2_with (first
    | (go_at_call 22; refine (HR.out _ _ _ _ _ _ _ H3.out).mono ?_; rintro e w4 ⟨rfl, h4⟩; have h5 := h4.box (MsO y); obtain ⟨⟨u0, u1, u2, u3, u4, u5, u6, u7, u8, u9⟩, -⟩ := box_lit (x := y) (h5.get (b := w4.heap.size) (List.Mem.head _)); obtain ⟨⟨y0, y1, y2, y3, y4, y5, y6, y7, y8, y9⟩, -⟩ := box_lit (x := y) (h5.get (b := w3.heap.size) (List.Mem.tail _ (List.Mem.head _))); have H5 := Lib.hid h5; clear h4 h5)
    | (go_at_call 21; refine (HH.out _ _ _ _ _ _ _ H1.out).mono ?_; rintro e w3 ⟨rfl, h3⟩; have h5 := h3.box (MsO y); have H3 := Lib.hid h5; obtain ⟨b0, b1, b2, b3, b4, b5, b6, b7, b8, b9, b10, b11⟩ := act_here (k := 3) (x := y0) (n := n) (h5.get (b := W.heap.size) (List.Mem.tail _ (List.Mem.head _))); clear h3 h5))
  go_ret
  exact ⟨x, Nat.le_succ _, rfl, H5.out.less⟩
end Go.Proofs.Ytifniehfbafcoaa
