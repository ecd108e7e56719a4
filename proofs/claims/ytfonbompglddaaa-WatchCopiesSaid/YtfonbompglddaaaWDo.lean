/-
  The walk of do: an act by both, kind by kind.
-/
import Derived.Test.YtfonbompglddaaaWMatch
import Derived.Test.YtfonbompglddaaaDSet
import Derived.Test.YtfonbompglddaaaDClear
import Derived.Test.YtfonbompglddaaaGDuo
import Derived.Deep.RegionHeld3
namespace Go.Proofs.Ytfonbompglddaaa
open Go Go.Shelf Go.RowKit Go.Lib Go.Sort Go.Proofs

/-- an act, and a box of one -/
abbrev ActV (k : Int) (x : On) (e : Ev) : Value := .agg #[.int .i64 k, .int .u32 (x.1 : Nat), .int .i64 x.2.1, .int .i64 x.2.2.1, .int .i64 x.2.2.2, .int .i64 e.1, .int .i64 e.2.1, .int .i64 e.2.2.1, .int .i64 e.2.2.2.1, .int .i64 e.2.2.2.2.1, .int .i64 e.2.2.2.2.2]
abbrev ActO (k : Int) (x : On) (e : Ev) : Obj := .cells #[.int .i64 k, .int .u32 (x.1 : Nat), .int .i64 x.2.1, .int .i64 x.2.2.1, .int .i64 x.2.2.2, .int .i64 e.1, .int .i64 e.2.1, .int .i64 e.2.2.1, .int .i64 e.2.2.2.1, .int .i64 e.2.2.2.2.1, .int .i64 e.2.2.2.2.2] 39
abbrev ActS (R : Nat) (k : Int) (x : On) (e : Ev) (w : World) : Prop := (w.cell? ⟨R, 0, none⟩ = some (.int .i64 k)) ∧ (w.cell? ⟨R, 1, none⟩ = some (.int .u32 (x.1 : Nat))) ∧ (w.cell? ⟨R, 2, none⟩ = some (.int .i64 x.2.1)) ∧ (w.cell? ⟨R, 3, none⟩ = some (.int .i64 x.2.2.1)) ∧ (w.cell? ⟨R, 4, none⟩ = some (.int .i64 x.2.2.2)) ∧ (w.cell? ⟨R, 5, none⟩ = some (.int .i64 e.1)) ∧ (w.cell? ⟨R, 6, none⟩ = some (.int .i64 e.2.1)) ∧ (w.cell? ⟨R, 7, none⟩ = some (.int .i64 e.2.2.1)) ∧ (w.cell? ⟨R, 8, none⟩ = some (.int .i64 e.2.2.2.1)) ∧ (w.cell? ⟨R, 9, none⟩ = some (.int .i64 e.2.2.2.2.1)) ∧ (w.cell? ⟨R, 10, none⟩ = some (.int .i64 e.2.2.2.2.2))
theorem act_here {w : World} {R : Nat} {k : Int} {x : On} {e : Ev} (h : w.heap[R]? = some (ActO k x e)) : ActS R k x e w := by
  refine ⟨?_, ?_, ?_, ?_, ?_, ?_, ?_, ?_, ?_, ?_, ?_⟩
  all_goals (rw [cell_of_row _ _ _ _ _ _ h]; rfl)
/-- a watch and the document's -/
abbrev Dd (T : Nat → Prop) (w W : World) (G R : Nat) (x y : List On) (X : List (Nat × Obj)) : Prop := Duo wT rfT T w W G R x y X
abbrev DdTo (v : Value) (T : Nat → Prop) (w : World) (G R : Nat) (x y : List On) (X : List (Nat × Obj)) (e : Ending) (W' : World) : Prop := DuoTo wT rfT v T w G R x y X e W'
/-- both have alike behind it -/
def OneTo (v : Value) (T : Nat → Prop) (w : World) (G R : Nat) (e : Ending) (W' : World) : Prop := ∃ L2 : List On, DdTo v T w G R L2 L2 [] e W'
theorem Dd.wl {T : Nat → Prop} {w W : World} {G R : Nat} {x y : List On} {X : List (Nat × Obj)} (h : Dd T w W G R x y X) : Wl x := by
  obtain ⟨F, hF⟩ := h.fst
  exact hF.wl
/-- what is set, by both -/
theorem q_set (L : List On) (x : On) (hi : x.1 < 4294967296) : ∃ (c : Int) (L2 : List On),
    (∀ T w W G R z X, Dd T w W G R L z X → Calls Try.prog 19 #[.pointer (some ⟨G, 0, none⟩), .int .u32 (x.1 : Nat), BkV x.2] W (DdTo (.int .i64 c) T w G R L2 z X)) ∧
    (∀ T w W G R z X, Dd T w W G R z L X → Calls Try.prog 20 #[.pointer (some ⟨R, 0, none⟩), .int .u32 (x.1 : Nat), BkV x.2] W (DdTo (.int .i64 c) T w G R z L2 X)) := by
  cases hm : bmay x.2 with
  | false => exact ⟨2, L, fun T w W G R z X h => h.l0 fun F hF => set_arg hF x hm, fun T w W G R z X h => h.r0 fun S hS => rset_arg x hm⟩
  | true =>
    cases hg : lget L x.1 with
    | some c => exact ⟨7, L, fun T w W G R z X h => h.l0 fun F hF => set_twice hF x hi hm hg, fun T w W G R z X h => h.r0 fun S hS => rset_twice hS x hm hg⟩
    | none =>
      by_cases hl : L.length < 16
      · exact ⟨0, ins x L, fun T w W G R z X h => h.l fun F hF => set_put hF x hi hm hg hl, fun T w W G R z X h => h.r fun S hS => rset_put hS x hi hm hg hl⟩
      · exact ⟨5, L, fun T w W G R z X h => h.l0 fun F hF => set_full hF x hi hm hg (by omega), fun T w W G R z X h => h.r0 fun S hS => rset_full hS x hm hg (by omega)⟩
/-- what is taken out, by both -/
theorem q_clear (L : List On) (i : Nat) (hi : i < 4294967296) : ∃ (c : Int) (L2 : List On),
    (∀ T w W G R z X, Dd T w W G R L z X → Calls Try.prog 23 #[.pointer (some ⟨G, 0, none⟩), .int .u32 (i : Nat)] W (DdTo (.int .i64 c) T w G R L2 z X)) ∧
    (∀ T w W G R z X, Dd T w W G R z L X → Calls Try.prog 24 #[.pointer (some ⟨R, 0, none⟩), .int .u32 (i : Nat)] W (DdTo (.int .i64 c) T w G R z L2 X)) := by
  cases hg : lget L i with
  | none => exact ⟨6, L, fun T w W G R z X h => h.l0 fun F hF => clear_none hF hi hg, fun T w W G R z X h => h.r0 fun S hS => rclear_none hS hg⟩
  | some b => exact ⟨0, del i L, fun T w W G R z X h => h.l fun F hF => clear_one hF hi hg, fun T w W G R z X h => h.r fun S hS => rclear_one hS hg⟩

section
variable (T : Nat → Prop) (w W : World) (G R : Nat) (L : List On) (h : Dd T w W G R L L []) (x : On) (hi : x.1 < 4294967296) (ev : Ev)
include h hi
set_option maxHeartbeats 4000000 in
set_option maxRecDepth 100000 in
theorem do1 : Calls Try.prog 9 #[.pointer (some ⟨G, 0, none⟩), .pointer (some ⟨R, 0, none⟩), ActV 1 x ev] W (OneTo (.bool true) T w G R) := by
  obtain ⟨c, L2, hH, hR⟩ := q_set L x hi
  have HH := Lib.hid hH
  have HR := Lib.hid hR
  have h1 := h.box (ActO 1 x ev)
  have hs0 := act_here (h1.get (List.Mem.head _))
  have H1 := Lib.hid (h1.below (Below.refl _ _).drew)
  have hs1 : ActS W.heap.size 1 x ev (W.alloc (ActO 1 x ev)).drew := hs0
  obtain ⟨a0, a1, a2, a3, a4, a5, a6, a7, a8, a9, a10⟩ := id hs0
  clear h h1 hH hR
  go_enter Try.func9, Try.ntmps9
  go_wp2_with fail
  go_region_held3 (fun V => ActS W.heap.size 1 x ev V) (first | assumption | exact hs0 | exact hs1)
    (first
      | (go_at_call 19; ((with_reducible refine (HH.out _ _ _ _ _ _ _ H1.out).mono ?_)); rintro e w3 ⟨rfl, h3⟩; have H3 := Lib.hid h3; have hs3 := act_here (h3.get (List.Mem.head _)); clear h3)
      | (go_at_call 20; ((with_reducible refine (HR.out _ _ _ _ _ _ _ H3.out).mono ?_)); rintro e w4 ⟨rfl, h4⟩; have H4 := Lib.hid h4; have hs4 := act_here (h4.get (List.Mem.head _)); clear h4))
  go_wp2
  go_ret
  exact ⟨L2, rfl, H4.out.less⟩
set_option maxHeartbeats 4000000 in
set_option maxRecDepth 100000 in
theorem do2 : Calls Try.prog 9 #[.pointer (some ⟨G, 0, none⟩), .pointer (some ⟨R, 0, none⟩), ActV 2 x ev] W (OneTo (.bool true) T w G R) := by
  obtain ⟨c, L2, hH, hR⟩ := q_clear L x.1 hi
  have HH := Lib.hid hH
  have HR := Lib.hid hR
  have h1 := h.box (ActO 2 x ev)
  have hs0 := act_here (h1.get (List.Mem.head _))
  have H1 := Lib.hid (h1.below (Below.refl _ _).drew)
  have hs1 : ActS W.heap.size 2 x ev (W.alloc (ActO 2 x ev)).drew := hs0
  obtain ⟨a0, a1, a2, a3, a4, a5, a6, a7, a8, a9, a10⟩ := id hs0
  clear h h1 hH hR
  go_enter Try.func9, Try.ntmps9
  go_wp2_with fail
  go_region_held3 (fun V => ActS W.heap.size 2 x ev V) (first | assumption | exact hs0 | exact hs1)
    (first
      | (go_at_call 23; ((with_reducible refine (HH.out _ _ _ _ _ _ _ H1.out).mono ?_)); rintro e w3 ⟨rfl, h3⟩; have H3 := Lib.hid h3; have hs3 := act_here (h3.get (List.Mem.head _)); clear h3)
      | (go_at_call 24; ((with_reducible refine (HR.out _ _ _ _ _ _ _ H3.out).mono ?_)); rintro e w4 ⟨rfl, h4⟩; have H4 := Lib.hid h4; have hs4 := act_here (h4.get (List.Mem.head _)); clear h4))
  go_wp2
  go_ret
  exact ⟨L2, rfl, H4.out.less⟩
omit hi in
set_option maxHeartbeats 4000000 in
set_option maxRecDepth 100000 in
theorem do3 : Calls Try.prog 9 #[.pointer (some ⟨G, 0, none⟩), .pointer (some ⟨R, 0, none⟩), ActV 3 x ev] W (OneTo (.bool true) T w G R) := by
  obtain ⟨i, hix⟩ : ∃ i, i = ((lmatch L ev).map (·.1)).getD 0 := ⟨_, rfl⟩
  obtain ⟨t, ht⟩ : ∃ t, t = (lmatch L ev).isSome := ⟨_, rfl⟩
  have HH : Hid (∀ T w W G R z X, Dd T w W G R L z X → Calls Try.prog 22 #[.pointer (some ⟨G, 0, none⟩), EvV ev] W (DdTo (.tuple #[.int .u32 (i : Nat), .bool t]) T w G R L z X)) := Lib.hid fun T w W G R z X h => by rw [hix, ht]; exact h.l0 fun F hF => match_any hF ev
  have HR : Hid (∀ T w W G R z X, Dd T w W G R z L X → Calls Try.prog 25 #[.pointer (some ⟨R, 0, none⟩), EvV ev] W (DdTo (.tuple #[.int .u32 (i : Nat), .bool t]) T w G R z L X)) := Lib.hid fun T w W G R z X h => by rw [hix, ht]; exact h.r0 fun S hS => rmatch_any hS ev
  have h1 := h.box (ActO 3 x ev)
  obtain ⟨a0, a1, a2, a3, a4, a5, a6, a7, a8, a9, a10⟩ := act_here (h1.get (List.Mem.head _))
  have H1 := Lib.hid h1
  clear h h1 hix ht
  go_enter Try.func9, Try.ntmps9
  go_wp2_with (first
    | (go_at_call 25; refine (HR.out _ _ _ _ _ _ _ H3.out).mono ?_; rintro e w4 ⟨rfl, h4⟩; have H4 := Lib.hid h4; clear h4)
    | (go_at_call 22; refine (HH.out _ _ _ _ _ _ _ H1.out).mono ?_; rintro e w3 ⟨rfl, h3⟩; have H3 := Lib.hid h3; obtain ⟨b0, b1, b2, b3, b4, b5, b6, b7, b8, b9, b10⟩ := act_here (h3.get (List.Mem.head _)); clear h3))
  go_ret
  exact ⟨L, rfl, H4.out.less⟩
set_option maxHeartbeats 4000000 in
set_option maxRecDepth 100000 in
theorem do4 : Calls Try.prog 9 #[.pointer (some ⟨G, 0, none⟩), .pointer (some ⟨R, 0, none⟩), ActV 4 x ev] W (OneTo (.bool true) T w G R) := by
  obtain ⟨y, hy⟩ : ∃ y, y = (lget L x.1).getD bZ := ⟨_, rfl⟩
  obtain ⟨t, ht⟩ : ∃ t, t = (lget L x.1).isSome := ⟨_, rfl⟩
  have HH : Hid (∀ T w W G R z X, Dd T w W G R L z X → Calls Try.prog 26 #[.pointer (some ⟨G, 0, none⟩), .int .u32 (x.1 : Nat)] W (DdTo (.tuple #[BkV y, .bool t]) T w G R L z X)) := Lib.hid fun T w W G R z X h => by rw [hy, ht]; exact h.l0 fun F hF => get_any hF hi
  have HR : Hid (∀ T w W G R z X, Dd T w W G R z L X → Calls Try.prog 27 #[.pointer (some ⟨R, 0, none⟩), .int .u32 (x.1 : Nat)] W (DdTo (.tuple #[BkV y, .bool t]) T w G R z L X)) := Lib.hid fun T w W G R z X h => by rw [hy, ht]; exact h.r0 fun S hS => rget_any hS x.1
  have h1 := h.box (ActO 4 x ev)
  obtain ⟨a0, a1, a2, a3, a4, a5, a6, a7, a8, a9, a10⟩ := act_here (h1.get (List.Mem.head _))
  have H1 := Lib.hid h1
  have he : ∀ w, (binOp .eql 33 (BkV y) (BkV y)).run Try.prog w = .ok (.bool true) w := fun w => by rw [bkEq]; simp
  have hgd := fun (op : BinOp) (x y : Operand) (xs ys : Array Value) (w : World) => run_eqGuard_agg (P := Try.prog) w op 33 x y xs ys bkGuard
  clear h h1 hy ht
  go_enter Try.func9, Try.ntmps9
  go_wp2_with (first
    | (go_at_call 27; refine (HR.out _ _ _ _ _ _ _ H3.out).mono ?_; rintro e w4 ⟨rfl, h4⟩; have h5 := h4.box (BkO y); obtain ⟨u0, u1, u2⟩ := bk_box (b := y) (h5.get (b := w4.heap.size) (List.Mem.head _)); obtain ⟨y0, y1, y2⟩ := bk_box (b := y) (h5.get (b := w3.heap.size) (List.Mem.tail _ (List.Mem.head _))); have H5 := Lib.hid h5; clear h4 h5)
    | (go_at_call 26; refine (HH.out _ _ _ _ _ _ _ H1.out).mono ?_; rintro e w3 ⟨rfl, h3⟩; have h5 := h3.box (BkO y); have H3 := Lib.hid h5; obtain ⟨b0, b1, b2, b3, b4, b5, b6, b7, b8, b9, b10⟩ := act_here (k := 4) (x := x) (e := ev) (h5.get (b := W.heap.size) (List.Mem.tail _ (List.Mem.head _))); clear h3 h5))
  go_ret
  exact ⟨L, rfl, H5.out.less⟩
omit hi in
set_option maxHeartbeats 2000000 in
set_option maxRecDepth 100000 in
theorem do0 (k : Int) (hk : ¬ (k = 1 ∨ k = 2 ∨ k = 3 ∨ k = 4)) : Calls Try.prog 9 #[.pointer (some ⟨G, 0, none⟩), .pointer (some ⟨R, 0, none⟩), ActV k x ev] W (OneTo (.bool true) T w G R) := by
  have k1 : (k == 1) = false := by simp; omega
  have k2 : (k == 2) = false := by simp; omega
  have k3 : (k == 3) = false := by simp; omega
  have k4 : (k == 4) = false := by simp; omega
  have h1 := h.box (ActO k x ev)
  obtain ⟨a0, a1, a2, a3, a4, a5, a6, a7, a8, a9, a10⟩ := act_here (h1.get (List.Mem.head _))
  have H1 := Lib.hid h1
  clear h h1 hk
  go_enter Try.func9, Try.ntmps9
  go_wp2
  go_ret
  exact ⟨L, rfl, H1.out.less⟩
/-- any act -/
theorem do_any (k : Int) : Calls Try.prog 9 #[.pointer (some ⟨G, 0, none⟩), .pointer (some ⟨R, 0, none⟩), ActV k x ev] W (OneTo (.bool true) T w G R) := by
  by_cases hk : k = 1 ∨ k = 2 ∨ k = 3 ∨ k = 4
  · rcases hk with rfl | rfl | rfl | rfl
    · exact do1 T w W G R L h x hi ev
    · exact do2 T w W G R L h x hi ev
    · exact do3 T w W G R L h x ev
    · exact do4 T w W G R L h x hi ev
  · exact do0 T w W G R L h x ev k hk
end
end Go.Proofs.Ytfonbompglddaaa
