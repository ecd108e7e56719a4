/-
  The walk of do: an act by both, kind by kind.
-/
import Derived.Test.YtgfoagpmkbdciaaHRest2
import Derived.Test.YtgfoagpmkbdciaaHList
import Derived.Test.YtgfoagpmkbdciaaHTakes
namespace Go.Proofs.Ytgfoagpmkbdciaa
open Go Go.Shelf Go.RowKit Go.Lib Go.Sort Go.Proofs HpM

/-- an act, and a box of one -/
abbrev ActV (k : Int) (x : It) (n : Int) : Value := .agg #[.int .i64 k, .int .i64 x.1.1.1, .int .i64 x.1.1.2.1, .int .i64 x.1.1.2.2, .int .i64 x.1.2.1, .int .i64 x.1.2.2.1, .int .i64 x.1.2.2.2, .int .i64 x.2, .int .i64 n]
abbrev ActO (k : Int) (x : It) (n : Int) : Obj := .cells #[.int .i64 k, .int .i64 x.1.1.1, .int .i64 x.1.1.2.1, .int .i64 x.1.1.2.2, .int .i64 x.1.2.1, .int .i64 x.1.2.2.1, .int .i64 x.1.2.2.2, .int .i64 x.2, .int .i64 n] 38
theorem act_here {w : World} {R : Nat} {k : Int} {x : It} {n : Int} (h : w.heap[R]? = some (ActO k x n)) : (w.cell? ⟨R, 0, none⟩ = some (.int .i64 k)) ∧ (w.cell? ⟨R, 1, none⟩ = some (.int .i64 x.1.1.1)) ∧ (w.cell? ⟨R, 2, none⟩ = some (.int .i64 x.1.1.2.1)) ∧ (w.cell? ⟨R, 3, none⟩ = some (.int .i64 x.1.1.2.2)) ∧ (w.cell? ⟨R, 4, none⟩ = some (.int .i64 x.1.2.1)) ∧ (w.cell? ⟨R, 5, none⟩ = some (.int .i64 x.1.2.2.1)) ∧ (w.cell? ⟨R, 6, none⟩ = some (.int .i64 x.1.2.2.2)) ∧ (w.cell? ⟨R, 7, none⟩ = some (.int .i64 x.2)) ∧ (w.cell? ⟨R, 8, none⟩ = some (.int .i64 n)) := by
  refine ⟨?_, ?_, ?_, ?_, ?_, ?_, ?_, ?_, ?_⟩
  all_goals (rw [cell_of_row _ _ _ _ _ _ h]; rfl)

/-- the first, the last, by both -/
theorem hq_take {T : Nat → Prop} {w W : World} {G R : Nat} {L L' : List It} {X : List (Nat × Obj)} (h : TwoT T w W G R L L' X) (x : It) (b : Bool) (hx : x = hd L) (hb : b = !L.isEmpty) : Calls Try.prog 19 #[.pointer (some ⟨G, 0, none⟩)] W (AnsTT (.tuple #[ItV x, .bool b]) T w G R L.tail L' X) := by
  subst hx hb
  cases L with
  | nil => exact h.h0 fun F hF => hp_take0 hF
  | cons y t => exact h.h fun F hF => hp_take1 hF
theorem rq_take {T : Nat → Prop} {w W : World} {G R : Nat} {L L' : List It} {X : List (Nat × Obj)} (h : TwoT T w W G R L L' X) (hl : L'.length ≤ 2000) (x : It) (b : Bool) (hx : x = hd L') (hb : b = !L'.isEmpty) : Calls Try.prog 25 #[.pointer (some ⟨R, 0, none⟩)] W (AnsTT (.tuple #[ItV x, .bool b]) T w G R L L'.tail X) := by
  subst hx hb
  cases L' with
  | nil => exact h.r0 fun S hS => rtake0 _ R S hS
  | cons y t => exact h.r fun S hS => rtake1 _ R S y t hS hl
theorem hq_least {T : Nat → Prop} {w W : World} {G R : Nat} {L L' : List It} {X : List (Nat × Obj)} (h : TwoT T w W G R L L' X) (x : It) (b : Bool) (hx : x = hd L) (hb : b = !L.isEmpty) : Calls Try.prog 22 #[.pointer (some ⟨G, 0, none⟩)] W (AnsTT (.tuple #[ItV x, .bool b]) T w G R L L' X) := by
  subst hx hb
  cases L with
  | nil => exact h.h0 fun F hF => hp_least0 hF
  | cons y t => exact h.h0 fun F hF => hp_least1 hF
theorem rq_least {T : Nat → Prop} {w W : World} {G R : Nat} {L L' : List It} {X : List (Nat × Obj)} (h : TwoT T w W G R L L' X) (hl : L'.length ≤ 1000000) (x : It) (b : Bool) (hx : x = hd L') (hb : b = !L'.isEmpty) : Calls Try.prog 26 #[.pointer (some ⟨R, 0, none⟩)] W (AnsTT (.tuple #[ItV x, .bool b]) T w G R L L' X) := by
  subst hx hb
  cases L' with
  | nil => exact h.r0 fun S hS => rleast0 _ R S hS
  | cons y t => exact h.r0 fun S hS => rleast1 _ R S y t hS hl
theorem hq_most {T : Nat → Prop} {w W : World} {G R : Nat} {L L' : List It} {X : List (Nat × Obj)} (h : TwoT T w W G R L L' X) (x : It) (b : Bool) (hx : x = lt L) (hb : b = !L.isEmpty) : Calls Try.prog 23 #[.pointer (some ⟨G, 0, none⟩)] W (AnsTT (.tuple #[ItV x, .bool b]) T w G R L L' X) := by
  subst hx hb
  rcases List.eq_nil_or_concat L with rfl | ⟨t, x, rfl⟩
  · exact h.h0 fun F hF => hp_most0 hF
  · rw [List.concat_eq_append] at h ⊢
    refine (h.h0 fun F hF => hp_most1 hF).mono fun _ _ e => ⟨e.1.trans ?_, e.2⟩
    unfold Go.Proofs.Ytgfoagpmkbdciaa.lt
    simp
theorem rq_most {T : Nat → Prop} {w W : World} {G R : Nat} {L L' : List It} {X : List (Nat × Obj)} (h : TwoT T w W G R L L' X) (hl : L'.length ≤ 1000000) (x : It) (b : Bool) (hx : x = lt L') (hb : b = !L'.isEmpty) : Calls Try.prog 27 #[.pointer (some ⟨R, 0, none⟩)] W (AnsTT (.tuple #[ItV x, .bool b]) T w G R L L' X) := by
  subst hx hb
  rcases List.eq_nil_or_concat L' with rfl | ⟨t, x, rfl⟩
  · exact h.r0 fun S hS => rmost0 _ R S hS
  · rw [List.concat_eq_append] at h hl ⊢
    refine (h.r0 fun S hS => rmost1 _ R S x t hS hl).mono fun _ _ e => ⟨e.1.trans ?_, e.2⟩
    unfold Go.Proofs.Ytgfoagpmkbdciaa.lt
    simp
/-- what is put, by both -/
theorem q_put (hput : RPutNew) (L : List It) (x : It) (hl : L.length < 1024) : ∃ (r : Int) (L2 : List It), L2.length ≤ L.length + 1 ∧
    (∀ T w W G R L' X, TwoT T w W G R L L' X → Calls Try.prog 15 #[.pointer (some ⟨G, 0, none⟩), ItV x] W (AnsTT (.int .i64 r) T w G R L2 L' X)) ∧
    (∀ T w W G R L' X, TwoT T w W G R L' L X → Calls Try.prog 16 #[.pointer (some ⟨R, 0, none⟩), ItV x] W (AnsTT (.int .i64 r) T w G R L' L2 X)) := by
  by_cases hex : ∃ y ∈ L, nm y = nm x
  · exact ⟨7, L, Nat.le_succ _, fun T w W G R L' X h => h.hn fun F hF => hp_there hF x hex, fun T w W G R L' X h => h.rn fun S hS => rput_there _ R S L x hS (by omega) hex⟩
  · have hn : ∀ y ∈ L, nm y ≠ nm x := fun y hy e => hex ⟨y, hy, e⟩
    exact ⟨0, ins iLt L x, by rw [ins_len]; omega, fun T w W G R L' X h => h.h fun F hF => hp_put hF x hn hl rfl, fun T w W G R L' X h => h.r fun S hS => hput _ R S L x hS hn hl⟩
/-- what is dropped, by both -/
theorem q_drop (L : List It) (p q : Int) (hl : L.length ≤ 2000) : ∃ (z : It) (b : Bool) (L2 : List It), L2.length ≤ L.length ∧
    (∀ T w W G R L' X, TwoT T w W G R L L' X → Calls Try.prog 17 #[.pointer (some ⟨G, 0, none⟩), .int .i64 p, .int .i64 q] W (AnsTT (.tuple #[ItV z, .bool b]) T w G R L2 L' X)) ∧
    (∀ T w W G R L' X, TwoT T w W G R L' L X → Calls Try.prog 18 #[.pointer (some ⟨R, 0, none⟩), .int .i64 p, .int .i64 q] W (AnsTT (.tuple #[ItV z, .bool b]) T w G R L' L2 X)) := by
  by_cases hex : ∃ y ∈ L, nm y = (p, q)
  · obtain ⟨k, z, hz, hzn, hzf⟩ := first_of L (p, q) hex
    have e := erase_at L k z hz (by rw [hzn]; exact hzf)
    refine ⟨z, true, L.erase z, List.erase_sublist.length_le, fun T w W G R L' X h => h.h fun F hF => hp_drop1 hF _ _ z (List.mem_of_getElem? hz) hzn rfl, fun T w W G R L' X h => ?_⟩
    rw [e]
    exact h.r fun S hS => rdrop_some _ R S L p q k z hS hl hz hzn hzf
  · have hn : ∀ y ∈ L, nm y ≠ (p, q) := fun y hy e => hex ⟨y, hy, e⟩
    exact ⟨itZ, false, L, Nat.le_refl _, fun T w W G R L' X h => h.h0 fun F hF => hp_drop0 hF _ _ hn, fun T w W G R L' X h => h.r0 fun S hS => rdrop_none _ R S L p q hS (by omega) hn⟩

set_option maxHeartbeats 2000000 in
set_option maxRecDepth 100000 in
theorem do1 (hput : RPutNew) (T : Nat → Prop) (w W : World) (G R : Nat) (L : List It) (h : TwoT T w W G R L L []) (hl : L.length ≤ 1000) (x : It) (n : Int) : Calls Try.prog 9 #[.pointer (some ⟨G, 0, none⟩), .pointer (some ⟨R, 0, none⟩), ActV 1 x n] W (OneTo (.bool true) T w G R L) := by
  obtain ⟨r, L2, hl2, hH, hR⟩ := q_put hput L x (by omega)
  have HH := Lib.hid hH
  have HR := Lib.hid hR
  have HL2 := Lib.hid hl2
  have h1 := h.box (ActO 1 x n)
  obtain ⟨a0, a1, a2, a3, a4, a5, a6, a7, a8⟩ := act_here (h1.get (List.Mem.head _))
  have H1 : Hid (TwoT T w _ G R L L _) := h1.below (Below.refl _ _).drew
  clear h hl hl2 hH hR h1
  go_enter Try.func9, Try.ntmps9
  go_wp2_with fail
  go_region_with (first
    | (go_at_call 16; refine (HR.out _ _ _ _ _ _ _ H3.out).mono ?_; rintro e w4 ⟨rfl, h4⟩; have H4 := Lib.hid h4; clear h4)
    | (go_at_call 15; refine (HH.out _ _ _ _ _ _ _ H1.out).mono ?_; rintro e w3 ⟨rfl, h3⟩; have H3 := Lib.hid h3; obtain ⟨b0, b1, b2, b3, b4, b5, b6, b7, b8⟩ := act_here (h3.get (List.Mem.head _)); clear h3))
  all_goals
    go_wp2
    go_ret
    exact ⟨L2, HL2.out, rfl, H4.out.less⟩
set_option maxRecDepth 100000 in
theorem do2 (T : Nat → Prop) (w W : World) (G R : Nat) (L : List It) (h : TwoT T w W G R L L []) (hl : L.length ≤ 1000) (x0 : It) (n : Int) : Calls Try.prog 9 #[.pointer (some ⟨G, 0, none⟩), .pointer (some ⟨R, 0, none⟩), ActV 2 x0 n] W (OneTo (.bool true) T w G R L) := by
  obtain ⟨x, hx⟩ : ∃ x, x = hd L := ⟨_, rfl⟩
  obtain ⟨b, hb⟩ : ∃ b, b = !L.isEmpty := ⟨_, rfl⟩
  have HX := Lib.hid (And.intro hx hb)
  have HL := Lib.hid hl
  have H1 : Hid (TwoT T w _ G R L L _) := h.box (ActO 2 x0 n)
  have he : ∀ w, (binOp .eql 36 (ItV x) (ItV x)).run Try.prog w = .ok (.bool true) w := fun w => by rw [itEq]; simp
  have hgd := fun (op : BinOp) (x y : Operand) (xs ys : Array Value) (w : World) => run_eqGuard_agg (P := Try.prog) w op 36 x y xs ys itGuard
  clear h hl hx hb
  go_enter Try.func9, Try.ntmps9
  go_wp2_with (first
    | (go_at_call 25; refine (rq_take H3.out (by have := HL.out; omega) x b HX.out.1 HX.out.2).mono ?_; rintro e w4 ⟨rfl, h4⟩; have h5 := h4.box (ItO x); obtain ⟨u0, u1, u2, u3, u4, u5, u6, -, -, -, -, -, -, -⟩ := box_here (h5.get (List.Mem.head _)); obtain ⟨y0, y1, y2, y3, y4, y5, y6, -, -, -, -, -, -, -⟩ := box_here (x := x) (h5.get (b := w3.heap.size) (List.Mem.tail _ (List.Mem.head _))); have H5 := Lib.hid h5; clear h4 h5)
    | (go_at_call 19; refine (hq_take H1.out x b HX.out.1 HX.out.2).mono ?_; rintro e w3 ⟨rfl, h3⟩; have H3 := Lib.hid (h3.box (ItO x)); clear h3))
  go_ret
  exact ⟨L.tail, by simp; omega, rfl, H5.out.less⟩
set_option maxRecDepth 100000 in
theorem do3 (T : Nat → Prop) (w W : World) (G R : Nat) (L : List It) (h : TwoT T w W G R L L []) (hl : L.length ≤ 1000) (x0 : It) (n : Int) : Calls Try.prog 9 #[.pointer (some ⟨G, 0, none⟩), .pointer (some ⟨R, 0, none⟩), ActV 3 x0 n] W (OneTo (.bool true) T w G R L) := by
  obtain ⟨x, b, L2, hl2, hH, hR⟩ := q_drop L x0.1.1.2.1 x0.2 (by omega)
  have HH := Lib.hid hH
  have HR := Lib.hid hR
  have HL2 := Lib.hid hl2
  have h1 := h.box (ActO 3 x0 n)
  obtain ⟨a0, a1, a2, a3, a4, a5, a6, a7, a8⟩ := act_here (h1.get (List.Mem.head _))
  have H1 := Lib.hid h1
  have he : ∀ w, (binOp .eql 36 (ItV x) (ItV x)).run Try.prog w = .ok (.bool true) w := fun w => by rw [itEq]; simp
  have hgd := fun (op : BinOp) (x y : Operand) (xs ys : Array Value) (w : World) => run_eqGuard_agg (P := Try.prog) w op 36 x y xs ys itGuard
  clear h hl hl2 hH hR h1
  go_enter Try.func9, Try.ntmps9
  go_wp2_with (first
    | (go_at_call 18; refine (HR.out _ _ _ _ _ _ _ H3.out).mono ?_; rintro e w4 ⟨rfl, h4⟩; have h5 := h4.box (ItO x); obtain ⟨u0, u1, u2, u3, u4, u5, u6, -, -, -, -, -, -, -⟩ := box_here (h5.get (List.Mem.head _)); obtain ⟨y0, y1, y2, y3, y4, y5, y6, -, -, -, -, -, -, -⟩ := box_here (x := x) (h5.get (b := w3.heap.size) (List.Mem.tail _ (List.Mem.head _))); have H5 := Lib.hid h5; clear h4 h5)
    | (go_at_call 17; refine (HH.out _ _ _ _ _ _ _ H1.out).mono ?_; rintro e w3 ⟨rfl, h3⟩; have h5 := h3.box (ItO x); have H3 := Lib.hid h5; obtain ⟨b0, b1, b2, b3, b4, b5, b6, b7, b8⟩ := act_here (k := 3) (x := x0) (n := n) (h5.get (b := W.heap.size) (List.Mem.tail _ (List.Mem.head _))); clear h3 h5))
  go_ret
  exact ⟨L2, Nat.le_succ_of_le HL2.out, rfl, H5.out.less⟩
set_option maxHeartbeats 2000000 in
set_option maxRecDepth 100000 in
theorem do4 (T : Nat → Prop) (w W : World) (G R : Nat) (L : List It) (h : TwoT T w W G R L L []) (hl : L.length ≤ 1000) (x0 : It) (n : Int) : Calls Try.prog 9 #[.pointer (some ⟨G, 0, none⟩), .pointer (some ⟨R, 0, none⟩), ActV 4 x0 n] W (OneTo (.bool true) T w G R L) := by
  obtain ⟨x, hx⟩ : ∃ x, x = hd L := ⟨_, rfl⟩
  obtain ⟨z, hz⟩ : ∃ z, z = lt L := ⟨_, rfl⟩
  obtain ⟨b, hb⟩ : ∃ b, b = !L.isEmpty := ⟨_, rfl⟩
  have HX := Lib.hid (And.intro hx hb)
  have HZ := Lib.hid hz
  have HL : Hid (L.length ≤ 1000000) := by show _ ≤ _; omega
  have H1 : Hid (TwoT T w _ G R L L _) := h.box (ActO 4 x0 n)
  have he : ∀ w, (binOp .eql 36 (ItV x) (ItV x)).run Try.prog w = .ok (.bool true) w := fun w => by rw [itEq]; simp
  have he2 : ∀ w, (binOp .eql 36 (ItV z) (ItV z)).run Try.prog w = .ok (.bool true) w := fun w => by rw [itEq]; simp
  have hgd := fun (op : BinOp) (x y : Operand) (xs ys : Array Value) (w : World) => run_eqGuard_agg (P := Try.prog) w op 36 x y xs ys itGuard
  clear h hl hx hb hz
  go_enter Try.func9, Try.ntmps9
  go_wp2_with (first
    | (go_at_call 27; refine (rq_most H5.out HL.out z b HZ.out HX.out.2).mono ?_; rintro e w6 ⟨rfl, h6⟩; have h7 := h6.box (ItO z); obtain ⟨u0, u1, u2, u3, u4, u5, u6, -, -, -, -, -, -, -⟩ := box_here (x := z) (h7.get (b := w6.heap.size) (List.Mem.head _)); obtain ⟨y0, y1, y2, y3, y4, y5, y6, -, -, -, -, -, -, -⟩ := box_here (x := z) (h7.get (b := w5.heap.size) (List.Mem.tail _ (List.Mem.head _))); obtain ⟨v0, v1, v2, v3, v4, v5, v6, -, -, -, -, -, -, -⟩ := box_here (x := x) (h7.get (b := w4.heap.size) (List.Mem.tail _ (List.Mem.tail _ (List.Mem.head _)))); obtain ⟨q0, q1, q2, q3, q4, q5, q6, -, -, -, -, -, -, -⟩ := box_here (x := x) (h7.get (b := w3.heap.size) (List.Mem.tail _ (List.Mem.tail _ (List.Mem.tail _ (List.Mem.head _))))); have H7 := Lib.hid h7; clear h6 h7)
    | (go_at_call 23; refine (hq_most H4.out z b HZ.out HX.out.2).mono ?_; rintro e w5 ⟨rfl, h5⟩; have H5 := Lib.hid (h5.box (ItO z)); clear h5)
    | (go_at_call 26; refine (rq_least H3.out HL.out x b HX.out.1 HX.out.2).mono ?_; rintro e w4 ⟨rfl, h4⟩; have H4 := Lib.hid (h4.box (ItO x)); clear h4)
    | (go_at_call 22; refine (hq_least H1.out x b HX.out.1 HX.out.2).mono ?_; rintro e w3 ⟨rfl, h3⟩; have H3 := Lib.hid (h3.box (ItO x)); clear h3))
  go_ret
  exact ⟨L, Nat.le_succ _, rfl, H7.out.less⟩
end Go.Proofs.Ytgfoagpmkbdciaa
