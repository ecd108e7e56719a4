/-
  The walks of frame's functions that call little: Size, mayBeLength, number, New, Rest, isBroken, pass, Push, Wrong.
-/
import Derived.Test.YthlmjadknklafaaDoorMem
namespace Go.Proofs.YthlmjadknklafaaDoor
open Go.RowKit CrcM FrM

theorem size_any (n : Int) (w : World) (h0 : 0 ≤ n) (h1 : n ≤ 1000000000) : Calls Tryd.prog 16 #[.int .i64 n] w fun e w' => e = .returned (.int .i64 (6 + n)) ∧ w = w' := by
  go_enter Tryd.func16, Tryd.ntmps16
  go_wp2
  go_ret
  exact ⟨rfl, rfl⟩

theorem may_yes (n : Int) (w : World) (h0 : 1 ≤ n) (h1 : n ≤ 4096) : Calls Tryd.prog 21 #[.int .i64 n] w fun e w' => e = .returned (.bool true) ∧ w = w' := by
  go_enter Tryd.func21, Tryd.ntmps21
  go_wp2
  go_ret
  exact ⟨rfl, rfl⟩
theorem may_no (n : Int) (w : World) (h : n < 1 ∨ 4096 < n) : Calls Tryd.prog 21 #[.int .i64 n] w fun e w' => e = .returned (.bool false) ∧ w = w' := by
  by_cases h0 : n < 1
  · have h2 : ¬ 1 ≤ n := by omega
    clear h
    go_enter Tryd.func21, Tryd.ntmps21
    go_wp2
    go_ret
    exact ⟨rfl, rfl⟩
  · have h2 : 1 ≤ n := by omega
    have h3 : ¬ n ≤ 4096 := by omega
    clear h
    go_enter Tryd.func21, Tryd.ntmps21
    go_wp2
    go_ret
    exact ⟨rfl, rfl⟩

/-- a decoder: at so many bytes, these left, wrong there -/
def Dec (w : World) (gd lb : Nat) (at_ : Nat) (l : List Nat) (wat werr : Nat) : Prop :=
  ∃ v, w.heap[gd]? = some (.cells #[.int .i64 (at_ : Int), v, .int .i64 (wat : Int), .int .i64 (werr : Int)] 49 (0, 0)) ∧ Row8 w lb v l ∧ (v = .slice none 0 0 ∨ lb ≠ gd) ∧ (∀ x ∈ l, x < 256) ∧
    at_ + l.length ≤ 1000000 ∧ wat ≤ 1000000 ∧ werr ≤ 1000

theorem Dec.lt {w : World} {gd lb at_ wat werr : Nat} {l : List Nat} (h : Dec w gd lb at_ l wat werr) : gd < w.heap.size := by
  obtain ⟨v, h, _⟩ := h; exact lt_of_block h
theorem Dec.but {S : Nat → Prop} {w w' : World} {gd lb at_ wat werr : Nat} {l : List Nat} (h : Dec w gd lb at_ l wat werr) (hb : But S w w') (h1 : ¬ S gd) (h2 : ¬ S lb) : Dec w' gd lb at_ l wat werr := by
  obtain ⟨v, h, hr, rest⟩ := h
  exact ⟨v, hb.heap h h1, hr.but hb h2, rest⟩
theorem Dec.below {w w' : World} {gd lb at_ wat werr : Nat} {l : List Nat} (h : Dec w gd lb at_ l wat werr) (hb : Below w.heap.size w w') : Dec w' gd lb at_ l wat werr :=
  h.but (S := fun _ => False) (But.of hb) (fun h => h) (fun h => h)

theorem cells4 {w : World} {gd : Nat} {a b c d : Value} {t : TypeId} (h : w.heap[gd]? = some (.cells #[a, b, c, d] t (0, 0))) :
    w.cell? ⟨gd, 0, none⟩ = some a ∧ w.cell? ⟨gd, 1, none⟩ = some b ∧ w.cell? ⟨gd, 2, none⟩ = some c ∧ w.cell? ⟨gd, 3, none⟩ = some d ∧ ∀ i, w.frozen? ⟨gd, i, none⟩ = false := by
  refine ⟨?_, ?_, ?_, ?_, fun i => frozen_of_row _ _ _ _ _ h⟩ <;> rw [cell_of_row _ _ _ _ _ _ h] <;> rfl

theorem isBroken_any (w : World) (gd lb at_ wat werr : Nat) (l : List Nat) (h : Dec w gd lb at_ l wat werr) :
    Calls Tryd.prog 17 #[.pointer (some ⟨gd, 0, none⟩)] w fun e w' => e = .returned (.bool (decide (werr ≠ 0))) ∧ w = w' := by
  obtain ⟨v, hh, hr, _, hx, hb1, hb2, hb3⟩ := h
  obtain ⟨c0, c1, c2, c3, cf⟩ := cells4 hh
  clear hh hr hx
  by_cases h0 : werr = 0
  · subst h0
    go_enter Tryd.func17, Tryd.ntmps17
    go_wp2
    go_ret
    exact ⟨rfl, rfl⟩
  · have h1 : (((werr : Int)) != 0) = true := by simp; omega
    go_enter Tryd.func17, Tryd.ntmps17
    go_wp2
    go_ret
    exact ⟨by simp [h0], rfl⟩

theorem rest_any (w : World) (gd lb at_ wat werr : Nat) (l : List Nat) (h : Dec w gd lb at_ l wat werr) :
    Calls Tryd.prog 11 #[.pointer (some ⟨gd, 0, none⟩)] w fun e w' => e = .returned (.int .i64 (l.length : Int)) ∧ w = w' := by
  obtain ⟨v, hh, hr, _, hx, hb1, hb2, hb3⟩ := h
  obtain ⟨a, cap, rfl, _, _⟩ := hr.bts hx
  obtain ⟨c0, c1, c2, c3, cf⟩ := cells4 hh
  clear hh hr hx
  go_enter Tryd.func11, Tryd.ntmps11
  go_wp2
  go_ret
  exact ⟨rfl, rfl⟩

theorem new_any (w : World) : Calls Tryd.prog 6 #[] w fun e w' => e = .returned (.pointer (some ⟨w.heap.size, 0, none⟩)) ∧ Dec w' w.heap.size w.heap.size 0 [] 0 0 ∧ Below w.heap.size w w' := by
  go_enter Tryd.func6, Tryd.ntmps6
  go_wp2
  go_ret
  exact ⟨rfl, ⟨_, heap_alloc_new _ _, .inl ⟨rfl, rfl⟩, .inl rfl, by simp, by simp, by simp, by simp⟩, (Below.refl _ _).alloc (Nat.le_refl _) _⟩
end Go.Proofs.YthlmjadknklafaaDoor
