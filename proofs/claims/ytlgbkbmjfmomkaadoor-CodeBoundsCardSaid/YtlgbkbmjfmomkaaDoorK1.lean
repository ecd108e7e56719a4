/-
  The law CodeBounds, walked.
-/
import Derived.Test.YtlgbkbmjfmomkaaDoorJ3
namespace Go.Proofs.YtlgbkbmjfmomkaaDoor
open Go.RowKit CodM

/-- May, where the head of a program alone says no -/
theorem may_head_any (a : Option Addr) (n c : Nat) (v : Int) (w : World) (hv : I64 v) (hn : n ≤ 9223372036854775807) (h : v < 0 ∨ 8 < v ∨ n < 1 ∨ 8 < n) : Calls Tryd.prog 14 #[.agg #[.int .i64 v, .slice a n c]] w (TellsBB false w) := by
  obtain ⟨v0, v1⟩ := hv
  by_cases h1 : v < 0
  · clear h
    go_enter Tryd.func14, Tryd.ntmps14; go_wp2; go_ret
    exact ⟨rfl, (Below.refl _ _).alloc (Nat.le_refl _) _⟩
  by_cases h2 : 8 < v
  · clear h
    go_enter Tryd.func14, Tryd.ntmps14; go_wp2; go_ret
    exact ⟨rfl, (Below.refl _ _).alloc (Nat.le_refl _) _⟩
  by_cases h3 : n < 1
  · clear h
    go_enter Tryd.func14, Tryd.ntmps14; go_wp2; go_ret
    exact ⟨rfl, (Below.refl _ _).alloc (Nat.le_refl _) _⟩
  have h4 : 8 < n := by omega
  clear h
  go_enter Tryd.func14, Tryd.ntmps14; go_wp2; go_ret
  exact ⟨rfl, (Below.refl _ _).alloc (Nat.le_refl _) _⟩

/-- the cells of 129 instructions, of which so many are ends -/
def longC (k : Nat) : Array Value := (Array.range 258).map fun j => .int .i64 (if j % 2 = 0 ∧ j / 2 < k then 17 else 0)
theorem longC_size (k : Nat) : (longC k).size = 258 := by simp [longC]
theorem longC_get (k j : Nat) (h : j < 258) : (longC k)[j]? = some (.int .i64 (if j % 2 = 0 ∧ j / 2 < k then 17 else 0)) := by
  unfold longC
  rw [Array.getElem?_map, Array.getElem?_range, if_pos h]
  rfl
theorem longC_zero : zeroI 129 = longC 0 := by
  apply Array.ext_getElem?
  intro j
  by_cases h : j < 258
  · rw [longC_get 0 j h, if_neg (by omega)]
    unfold zeroI madeCells
    rw [Array.getElem?_map, Array.getElem?_range, if_pos h]
    have hz : (Value.agg #[.int .i64 0, .int .i64 0]).cells = #[.int .i64 0, .int .i64 0] := rfl
    rw [hz]
    rcases Nat.mod_two_eq_zero_or_one j with e | e
    · simp only [Option.map_some, Option.some.injEq]
      show #[Value.int .i64 0, Value.int .i64 0][j % 2]! = _
      rw [e]; rfl
    · simp only [Option.map_some, Option.some.injEq]
      show #[Value.int .i64 0, Value.int .i64 0][j % 2]! = _
      rw [e]; rfl
  · rw [Array.getElem?_eq_none (by rw [zeroI_size]; omega), Array.getElem?_eq_none (by rw [longC_size]; omega)]
theorem longC_step (k : Nat) (h : k < 129) : (longC k).setIfInBounds (k * 2) (.int .i64 17) = longC (k + 1) := by
  apply Array.ext_getElem?
  intro j
  rw [Array.getElem?_setIfInBounds]
  by_cases hj : j < 258
  · rw [longC_get (k + 1) j hj]
    by_cases e : k * 2 = j
    · rw [if_pos e, longC_size, if_pos (by omega), if_pos (by omega)]
    · rw [if_neg e, longC_get k j hj]
      congr 2
      by_cases e1 : j % 2 = 0 ∧ j / 2 < k
      · rw [if_pos e1, if_pos (by omega)]
      · rw [if_neg e1, if_neg (by omega)]
  · rw [if_neg (by omega), Array.getElem?_eq_none (by rw [longC_size]; omega), Array.getElem?_eq_none (by rw [longC_size]; omega)]
/-- so many ends -/
abbrev endsL (n : Nat) : List Ins := List.replicate n (17, 0)
theorem longC_ins {w : World} {L : Nat} (h : w.heap[L]? = some (.cells (longC 129) 49 (0, 0))) (n : Nat) (hn : n ≤ 129) : InsAt w (some ⟨L, 0, none⟩) n (endsL n) := by
  refine ⟨by simp, fun x hx => ?_, by omega, .inr ⟨L, 0, rfl, heap_lt h, fun i hi => ?_⟩⟩
  · rw [List.eq_of_mem_replicate hx]
    show (-9223372036854775808 ≤ (17 : Int) ∧ (17 : Int) ≤ 9223372036854775807) ∧ (-9223372036854775808 ≤ (0 : Int) ∧ (0 : Int) ≤ 9223372036854775807)
    omega
  · have e : (endsL n).getD i (0, 0) = (17, 0) := by simp [List.getD, hi]
    rw [cell_of_row _ _ _ _ _ _ h, cell_of_row _ _ _ _ _ _ h, longC_get _ _ (by omega), longC_get _ _ (by omega), e, if_pos (by omega), if_neg (by omega)]
    exact ⟨rfl, rfl⟩
def LongRel (w : World) (i : Value) (wr : World) : Prop := ∃ k : Nat, k ≤ 129 ∧ i = .int .i64 k ∧ wr.heap[w.heap.size]? = some (.cells (longC k) 49 (0, 0)) ∧ Below w.heap.size w wr ∧ wr.heap.size = w.heap.size + 1
end Go.Proofs.YtlgbkbmjfmomkaaDoor
