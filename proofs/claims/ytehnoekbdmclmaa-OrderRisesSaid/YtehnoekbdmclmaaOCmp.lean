/-
  The walk of the law OrderCompares.
-/
import Derived.Test.YtehnoekbdmclmaaOKnown
namespace Go.Proofs.Ytehnoekbdmclmaa
open Go Go.RowKit Go.Sort Go.Proofs

theorem below_grow (w : World) (os : Array Obj) : Below w.heap.size w (grow w os) := ⟨rfl, rfl, rfl, by simp, fun _ hk => heap_grow_old w os hk⟩
def TellsIB (n : Int) (w : World) (e : Ending) (w' : World) : Prop := e = .returned (.int .i64 n) ∧ Below w.heap.size w w'
theorem oless_b (a b c x y z : Int) (w : World) : Calls Try.prog 9 #[.agg #[.int .i64 a, .int .i64 b, .int .i64 c], .agg #[.int .i64 x, .int .i64 y, .int .i64 z]] w (TellsBB (kLt (a, b, c) (x, y, z)) w) :=
  (oless_any a b c x y z w).mono fun _ _ ⟨he, os, hw⟩ => ⟨he, by rw [hw]; exact below_grow w os⟩
theorem rless_b (a b c x y z : Int) (w : World) : Calls Try.prog 7 #[.agg #[.int .i64 a, .int .i64 b, .int .i64 c], .agg #[.int .i64 x, .int .i64 y, .int .i64 z]] w (TellsBB (kLt (a, b, c) (x, y, z)) w) :=
  (rless_any a b c x y z w).mono fun _ _ ⟨he, os, hw⟩ => ⟨he, by rw [hw]; exact below_grow w os⟩
theorem compare_b (a b c x y z : Int) (w : World) : Calls Try.prog 8 #[.agg #[.int .i64 a, .int .i64 b, .int .i64 c], .agg #[.int .i64 x, .int .i64 y, .int .i64 z]] w (TellsIB (kCmp (a, b, c) (x, y, z)) w) :=
  (compare_any a b c x y z w).mono fun _ _ ⟨he, os, hw⟩ => ⟨he, by rw [hw]; exact below_grow w os⟩
theorem byKey_b (a b c d e f a' b' c' d' e' f' : Int) (w : World) : Calls Try.prog 10 #[.agg #[.int .i64 a, .int .i64 b, .int .i64 c, .int .i64 d, .int .i64 e, .int .i64 f], .agg #[.int .i64 a', .int .i64 b', .int .i64 c', .int .i64 d', .int .i64 e', .int .i64 f']] w (TellsIB (kCmp (a, b, c) (a', b', c')) w) :=
  (byKey_any ((a, b, c), d, e, f) ((a', b', c'), d', e', f') w).mono fun _ _ ⟨he, os, hw⟩ => ⟨he, by rw [hw]; exact below_grow w os⟩

/-- three keys lie boxed, from g on -/
structure Boxes3 (w wx : World) (a b c x y z p q r : Int) : Prop where
  bel : Below w.heap.size w wx
  h0 : wx.heap[w.heap.size]? = some (.cells #[.int .i64 a, .int .i64 b, .int .i64 c] 23)
  h1 : wx.heap[w.heap.size + 1]? = some (.cells #[.int .i64 x, .int .i64 y, .int .i64 z] 23)
  h2 : wx.heap[w.heap.size + 1 + 1]? = some (.cells #[.int .i64 p, .int .i64 q, .int .i64 r] 23)
theorem Boxes3.mk' (w : World) (a b c x y z p q r : Int) : Boxes3 w (((w.alloc (.cells #[.int .i64 a, .int .i64 b, .int .i64 c] 23)).alloc (.cells #[.int .i64 x, .int .i64 y, .int .i64 z] 23)).alloc (.cells #[.int .i64 p, .int .i64 q, .int .i64 r] 23)) a b c x y z p q r := by
  have s1 : (w.alloc (.cells #[.int .i64 a, .int .i64 b, .int .i64 c] 23)).heap.size = w.heap.size + 1 := by simp
  have s2 : ((w.alloc (.cells #[.int .i64 a, .int .i64 b, .int .i64 c] 23)).alloc (.cells #[.int .i64 x, .int .i64 y, .int .i64 z] 23)).heap.size = w.heap.size + 1 + 1 := by simp
  refine ⟨((((Below.refl _ _).alloc (Nat.le_refl _) _).alloc (by omega) _).alloc (by omega) _), ?_, ?_, ?_⟩
  · exact ((heap_alloc_old _ _ (by omega)).trans (heap_alloc_old _ _ (by omega))).trans (heap_alloc_new _ _)
  · refine (heap_alloc_old _ _ (by omega)).trans ?_
    rw [← s1]
    exact heap_alloc_new _ _
  · rw [← s2]
    exact heap_alloc_new _ _
theorem heap_lt' {w : World} {k : Nat} {o : Obj} (h : w.heap[k]? = some o) : k < w.heap.size := (Array.getElem?_eq_some_iff.1 h).1
theorem Boxes3.next {w wx w' : World} {a b c x y z p q r : Int} (h : Boxes3 w wx a b c x y z p q r) (hb : Below wx.heap.size wx w') : Boxes3 w w' a b c x y z p q r :=
  ⟨h.bel.trans (hb.mono h.bel.size), (hb.block _ (heap_lt' h.h0)).trans h.h0, (hb.block _ (heap_lt' h.h1)).trans h.h1, (hb.block _ (heap_lt' h.h2)).trans h.h2⟩
theorem Boxes3.cells {w wx : World} {a b c x y z p q r : Int} (h : Boxes3 w wx a b c x y z p q r) :
    wx.cell? ⟨w.heap.size, 0, none⟩ = some (.int .i64 a) ∧ wx.cell? ⟨w.heap.size, 1, none⟩ = some (.int .i64 b) ∧ wx.cell? ⟨w.heap.size, 2, none⟩ = some (.int .i64 c) ∧
    wx.cell? ⟨w.heap.size + 1, 0, none⟩ = some (.int .i64 x) ∧ wx.cell? ⟨w.heap.size + 1, 1, none⟩ = some (.int .i64 y) ∧ wx.cell? ⟨w.heap.size + 1, 2, none⟩ = some (.int .i64 z) ∧
    wx.cell? ⟨w.heap.size + 1 + 1, 0, none⟩ = some (.int .i64 p) ∧ wx.cell? ⟨w.heap.size + 1 + 1, 1, none⟩ = some (.int .i64 q) ∧ wx.cell? ⟨w.heap.size + 1 + 1, 2, none⟩ = some (.int .i64 r) := by
  refine ⟨?_, ?_, ?_, ?_, ?_, ?_, ?_, ?_, ?_⟩
  · rw [cell_of_row _ _ _ _ _ _ h.h0]; rfl
  · rw [cell_of_row _ _ _ _ _ _ h.h0]; rfl
  · rw [cell_of_row _ _ _ _ _ _ h.h0]; rfl
  · rw [cell_of_row _ _ _ _ _ _ h.h1]; rfl
  · rw [cell_of_row _ _ _ _ _ _ h.h1]; rfl
  · rw [cell_of_row _ _ _ _ _ _ h.h1]; rfl
  · rw [cell_of_row _ _ _ _ _ _ h.h2]; rfl
  · rw [cell_of_row _ _ _ _ _ _ h.h2]; rfl
  · rw [cell_of_row _ _ _ _ _ _ h.h2]; rfl

set_option maxHeartbeats 4000000 in
set_option maxRecDepth 100000 in
theorem compares_law (a b c x y z p q r : Int) (w : World) : Calls Try.prog 3 #[.agg #[.int .i64 a, .int .i64 b, .int .i64 c], .agg #[.int .i64 x, .int .i64 y, .int .i64 z], .agg #[.int .i64 p, .int .i64 q, .int .i64 r]] w (TellsBB true w) := by
  have HB := Lib.hid (Boxes3.mk' w a b c x y z p q r)
  have he := keyEq a b c x y z
  have hgd := fun (op : BinOp) (x y : Operand) (xs ys : Array Value) (w : World) => run_eqGuard_agg (P := Try.prog) w op 23 x y xs ys keyGuard
  obtain ⟨t3, ht3⟩ : ∃ t, t = kLt (a, b, c) (p, q, r) := ⟨_, rfl⟩
  obtain ⟨t2, ht2⟩ : ∃ t, t = kLt (x, y, z) (p, q, r) := ⟨_, rfl⟩
  have T3 := Lib.hid ht3
  have T2 := Lib.hid ht2
  have HTR : Hid (kLt (a, b, c) (x, y, z) = true → t2 = true → t3 = true) := fun h1 h2 => by rw [ht3]; exact kLt_swo.trans _ _ _ h1 (ht2 ▸ h2)
  clear ht2 ht3
  rcases h1 : kLt (a, b, c) (x, y, z) with _ | _
  · rcases h2 : kLt (x, y, z) (a, b, c) with _ | _
    · -- the same
      have hxy := ky_eq h1 h2
      simp only [Prod.mk.injEq] at hxy
      obtain ⟨rfl, rfl, rfl⟩ := hxy
      have L1 := Lib.hid h1
      have C1 : Hid (kCmp (a, b, c) (a, b, c) = 0) := (kCmp_zero _ _).2 rfl
      have he' : ∀ w, (binOp .eql 23 (.agg #[.int .i64 a, .int .i64 b, .int .i64 c]) (.agg #[.int .i64 a, .int .i64 b, .int .i64 c])).run Try.prog w = .ok (.bool true) w := fun w => by rw [he]; simp
      clear h1 h2 he
      go_enter Try.func3, Try.ntmps3
      go_wp2_with (first
        | (go_at_call 7; refine (rless_b _ _ _ _ _ _ _).mono ?_; rintro e w1 ⟨rfl, hb⟩; have HB := Lib.hid (HB.out.next hb); obtain ⟨x0, x1, x2, x3, x4, x5, x6, x7, x8⟩ := HB.out.cells; clear hb; rw [L1.out])
        | (go_at_call 8; refine (compare_b _ _ _ _ _ _ _).mono ?_; rintro e w1 ⟨rfl, hb⟩; have HB := Lib.hid (HB.out.next hb); obtain ⟨x0, x1, x2, x3, x4, x5, x6, x7, x8⟩ := HB.out.cells; clear hb; rw [C1.out])
        | (go_at_call 10; refine (byKey_b _ _ _ _ _ _ _ _ _ _ _ _ _).mono ?_; rintro e w1 ⟨rfl, hb⟩; have HB := Lib.hid (HB.out.next hb); obtain ⟨x0, x1, x2, x3, x4, x5, x6, x7, x8⟩ := HB.out.cells; clear hb; rw [C1.out])
        | (go_at_call 9; refine (oless_b _ _ _ _ _ _ _).mono ?_; rintro e w1 ⟨rfl, hb⟩; have HB := Lib.hid (HB.out.next hb); obtain ⟨x0, x1, x2, x3, x4, x5, x6, x7, x8⟩ := HB.out.cells; clear hb; rw [L1.out])
        | (go_at_call 11; refine (known_any _).mono ?_; rintro e w1 ⟨rfl, hb⟩; have HB := Lib.hid (HB.out.next hb); clear hb))
      go_ret
      exact ⟨rfl, HB.out.bel⟩
    · -- the second one ahead
      have L1 := Lib.hid h1
      have L2 := Lib.hid h2
      have C1 : Hid (kCmp (a, b, c) (x, y, z) = 1) := by show _ = _; rw [kCmp_eq, h2]; rfl
      have C2 : Hid (kCmp (x, y, z) (a, b, c) = -1) := by show _ = _; rw [kCmp_symm (a, b, c) (x, y, z), C1.out]
      have hne : ¬ ((a, b, c) : Ky) = (x, y, z) := fun h => by rw [h, kLt_swo.irrefl] at h2; cases h2
      have he' : ∀ w, (binOp .eql 23 (.agg #[.int .i64 a, .int .i64 b, .int .i64 c]) (.agg #[.int .i64 x, .int .i64 y, .int .i64 z])).run Try.prog w = .ok (.bool false) w := fun w => by rw [he, decide_eq_false hne]
      clear h1 h2 he hne
      go_enter Try.func3, Try.ntmps3
      go_wp2_with (first
        | (go_at_call 7; refine (rless_b _ _ _ _ _ _ _).mono ?_; rintro e w1 ⟨rfl, hb⟩; have HB := Lib.hid (HB.out.next hb); obtain ⟨x0, x1, x2, x3, x4, x5, x6, x7, x8⟩ := HB.out.cells; clear hb; first | rw [L1.out] | rw [L2.out])
        | (go_at_call 8; refine (compare_b _ _ _ _ _ _ _).mono ?_; rintro e w1 ⟨rfl, hb⟩; have HB := Lib.hid (HB.out.next hb); obtain ⟨x0, x1, x2, x3, x4, x5, x6, x7, x8⟩ := HB.out.cells; clear hb; first | rw [C1.out] | rw [C2.out])
        | (go_at_call 10; refine (byKey_b _ _ _ _ _ _ _ _ _ _ _ _ _).mono ?_; rintro e w1 ⟨rfl, hb⟩; have HB := Lib.hid (HB.out.next hb); obtain ⟨x0, x1, x2, x3, x4, x5, x6, x7, x8⟩ := HB.out.cells; clear hb; first | rw [C1.out] | rw [C2.out])
        | (go_at_call 9; refine (oless_b _ _ _ _ _ _ _).mono ?_; rintro e w1 ⟨rfl, hb⟩; have HB := Lib.hid (HB.out.next hb); obtain ⟨x0, x1, x2, x3, x4, x5, x6, x7, x8⟩ := HB.out.cells; clear hb; first | rw [L1.out] | rw [L2.out])
        | (go_at_call 11; refine (known_any _).mono ?_; rintro e w1 ⟨rfl, hb⟩; have HB := Lib.hid (HB.out.next hb); clear hb))
      go_ret
      exact ⟨rfl, HB.out.bel⟩
  · -- the first one ahead
    have h2 : kLt (x, y, z) (a, b, c) = false := kLt_swo.asymmA h1
    have L1 := Lib.hid h1
    have L2 := Lib.hid h2
    have C2 : Hid (kCmp (x, y, z) (a, b, c) = 1) := by show _ = _; rw [kCmp_eq, h1]; rfl
    have C1 : Hid (kCmp (a, b, c) (x, y, z) = -1) := by show _ = _; rw [kCmp_symm (x, y, z) (a, b, c), C2.out]
    have hne : ¬ ((a, b, c) : Ky) = (x, y, z) := fun h => by rw [h, kLt_swo.irrefl] at h1; cases h1
    have he' : ∀ w, (binOp .eql 23 (.agg #[.int .i64 a, .int .i64 b, .int .i64 c]) (.agg #[.int .i64 x, .int .i64 y, .int .i64 z])).run Try.prog w = .ok (.bool false) w := fun w => by rw [he, decide_eq_false hne]
    have HT : t2 = false ∨ (t2 = true ∧ t3 = true) := by
      cases ht : t2 with
      | false => exact .inl rfl
      | true => exact .inr ⟨rfl, HTR.out h1 ht⟩
    clear h1 h2 he hne
    rcases HT with rfl | ⟨rfl, rfl⟩
    all_goals
      go_enter Try.func3, Try.ntmps3
      go_wp2_with (first
        | (go_at_call 7; refine (rless_b _ _ _ _ _ _ _).mono ?_; rintro e w1 ⟨rfl, hb⟩; have HB := Lib.hid (HB.out.next hb); obtain ⟨x0, x1, x2, x3, x4, x5, x6, x7, x8⟩ := HB.out.cells; clear hb; first | rw [L1.out] | rw [L2.out])
        | (go_at_call 8; refine (compare_b _ _ _ _ _ _ _).mono ?_; rintro e w1 ⟨rfl, hb⟩; have HB := Lib.hid (HB.out.next hb); obtain ⟨x0, x1, x2, x3, x4, x5, x6, x7, x8⟩ := HB.out.cells; clear hb; first | rw [C1.out] | rw [C2.out])
        | (go_at_call 10; refine (byKey_b _ _ _ _ _ _ _ _ _ _ _ _ _).mono ?_; rintro e w1 ⟨rfl, hb⟩; have HB := Lib.hid (HB.out.next hb); obtain ⟨x0, x1, x2, x3, x4, x5, x6, x7, x8⟩ := HB.out.cells; clear hb; first | rw [C1.out] | rw [C2.out])
        | (go_at_call 9; refine (oless_b _ _ _ _ _ _ _).mono ?_; rintro e w1 ⟨rfl, hb⟩; have HB := Lib.hid (HB.out.next hb); obtain ⟨x0, x1, x2, x3, x4, x5, x6, x7, x8⟩ := HB.out.cells; clear hb; first | rw [L1.out] | rw [L2.out] | rw [← T2.out] | rw [← T3.out])
        | (go_at_call 11; refine (known_any _).mono ?_; rintro e w1 ⟨rfl, hb⟩; have HB := Lib.hid (HB.out.next hb); clear hb))
      go_ret
      exact ⟨rfl, HB.out.bel⟩
end Go.Proofs.Ytehnoekbdmclmaa
