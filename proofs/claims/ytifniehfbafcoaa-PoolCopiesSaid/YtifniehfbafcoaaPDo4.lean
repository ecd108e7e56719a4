/-
  The walks of do's fourth kind, of the fifth, of same.
-/
import Derived.Test.YtifniehfbafcoaaPDo
import Derived.Test.YtifniehfbafcoaaGRound
namespace Go.Proofs.Ytifniehfbafcoaa
open Go Go.Shelf Go.RowKit Go.Lib Go.Sort Go.Proofs

theorem kyEq (k : Ky) (w : World) : (binOp .eql 32 (KyV k) (KyV k)).run Try.prog w = .ok (.bool true) w := by
  have := keyEq k.1 k.2.1 k.2.2 k.1 k.2.1 k.2.2 w
  rw [decide_eq_true rfl] at this
  exact this
theorem dd_older {T : Nat → Prop} {w W : World} {G R : Nat} {x z : List Ms × Nat} {X : List (Nat × Obj)} (h : Dd T w W G R x z X) (n : Int) : Calls Try.prog 25 #[.pointer (some ⟨G, 0, none⟩), .int .i64 n] W (DdTo (.int .i64 (old n x.1 : Nat)) T w G R x z X) := h.l0 fun _ hF => pl_older hF n
theorem dd_rolder {T : Nat → Prop} {w W : World} {G R : Nat} {x z : List Ms × Nat} {X : List (Nat × Obj)} (h : Dd T w W G R z x X) (n : Int) : Calls Try.prog 26 #[.pointer (some ⟨R, 0, none⟩), .int .i64 n] W (DdTo (.int .i64 (old n x.1 : Nat)) T w G R z x X) := h.r0 fun _ hS => (older_any hS n).mono fun _ _ ⟨he, hw⟩ => ⟨he, hw ▸ Below.refl _ _⟩
/-- what do's fourth kind reads -/
abbrev D4S (A B1 B2 : Nat) (n : Int) (k : Ky) (W : World) : Prop := W.cell? ⟨A, 11, none⟩ = some (.int .i64 n) ∧ (W.cell? ⟨B1, 0, none⟩ = some (.int .i64 k.1) ∧ W.cell? ⟨B1, 1, none⟩ = some (.int .i64 k.2.1) ∧ W.cell? ⟨B1, 2, none⟩ = some (.int .i64 k.2.2)) ∧ (W.cell? ⟨B2, 0, none⟩ = some (.int .i64 k.1) ∧ W.cell? ⟨B2, 1, none⟩ = some (.int .i64 k.2.1) ∧ W.cell? ⟨B2, 2, none⟩ = some (.int .i64 k.2.2))
theorem d4s {T : Nat → Prop} {w W : World} {G R : Nat} {x z : List Ms × Nat} {A B1 B2 : Nat} {n : Int} {k : Ky} {y : Ms} (h : Dd T w W G R x z [(B2, KyO k), (B1, KyO k), (A, ActO 4 y n)]) : D4S A B1 B2 n k W := by
  obtain ⟨-, -, -, -, -, -, -, -, -, -, -, a⟩ := act_here (k := 4) (x := y) (n := n) (h.get (b := A) (List.Mem.tail _ (List.Mem.tail _ (List.Mem.head _))))
  exact ⟨a, (ky_cells (h.get (b := B1) (List.Mem.tail _ (List.Mem.head _)))).1, (ky_cells (h.get (b := B2) (List.Mem.head _))).1⟩
set_option maxHeartbeats 4000000 in
set_option maxRecDepth 100000 in
theorem do4 (T : Nat → Prop) (w W : World) (G R : Nat) (x : List Ms × Nat) (h : Dd T w W G R x x []) (y : Ms) (n : Int) : Calls Try.prog 8 #[.pointer (some ⟨G, 0, none⟩), .pointer (some ⟨R, 0, none⟩), ActV 4 y n] W (OneTo (.bool true) T w G R x) := by
  have mixed : Try.prog.follows .mixedOrders = true := by kernel_rfl
  obtain ⟨k, b, hs⟩ : ∃ (k : Ky) (b : Bool), lst x.1 = (k, b) := ⟨_, _, rfl⟩
  have HS := Lib.hid hs
  have H1 : Hid (Dd T w _ G R x x _) := h.box (ActO 4 y n)
  have he := kyEq k
  have hgd := fun (op : BinOp) (x y : Operand) (xs ys : Array Value) (w : World) => run_eqGuard_agg (P := Try.prog) w op 32 x y xs ys keyGuard
  clear h hs
  go_enter Try.func8, Try.ntmps8
  go_wp2_with (first
    | (go_at_call 24; refine (H3.out.r0 fun S hS => rleast_any hS).mono ?_; rw [HS.out]; rintro e w4 ⟨rfl, h4⟩; have H4 := Lib.hid (h4.box (KyO k)); clear h4)
    | (go_at_call 23; refine (H1.out.l0 fun F hF => pl_least hF).mono ?_; rw [HS.out]; rintro e w3 ⟨rfl, h3⟩; have H3 := Lib.hid (h3.box (KyO k)); clear h3))
  obtain ⟨w5, hw5⟩ : ∃ w5, w5 = w4.alloc (KyO k) := ⟨_, rfl⟩
  rw [← hw5] at H4 ⊢
  have HST := Lib.hid (d4s H4.out)
  have H5 : Hid (Dd T w w5.drew G R x x [(w4.heap.size, KyO k), (w3.heap.size, KyO k), (W.heap.size, ActO 4 y n)]) := H4.out.below (Below.refl _ _).drew
  have HSTD := Lib.hid (d4s H5.out)
  clear hw5
  go_region_held3 (fun V => D4S W.heap.size w3.heap.size w4.heap.size n k V) (first | assumption | exact HST.out | exact HSTD.out | exact HST6.out | exact HST7.out)
    (first
      | (go_at_call 26; ((with_reducible refine (dd_rolder H6.out n).mono ?_)); rintro e0 w7 ⟨rfl, h7⟩; have H7 := Lib.hid h7; have HST7 := Lib.hid (d4s h7); clear h7)
      | (go_at_call 25; ((with_reducible refine (dd_older H5.out n).mono ?_)); rintro e0 w6 ⟨rfl, h6⟩; have H6 := Lib.hid h6; have HST6 := Lib.hid (d4s h6); clear h6))
  all_goals
    go_wp2
    go_ret
    exact ⟨x, Nat.le_succ _, rfl, H7.out.less⟩
end Go.Proofs.Ytifniehfbafcoaa
