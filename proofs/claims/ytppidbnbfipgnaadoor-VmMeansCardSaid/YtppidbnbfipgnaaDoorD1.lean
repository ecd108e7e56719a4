/-
  The walks of slices.Equal and slices.EqualFunc at instructions, and of Same.
-/
import Derived.Test.YtppidbnbfipgnaaDoorC3
import Derived.Laws.StructEq
import Derived.Lib.Slices
namespace Go.Proofs.YtppidbnbfipgnaaDoor
open Go.RowKit CodM

theorem insNe (a b c d : Int) (w : World) : (binOp .neq 62 (.agg #[.int .i64 a, .int .i64 b]) (.agg #[.int .i64 c, .int .i64 d])).run Tryd.prog w = .ok (.bool (!(decide (a = c) && decide (b = d)))) w := by
  have u3 := Tryd.underlying60
  have u2 := Tryd.underlying2
  have a3 := Tryd.isAgg60
  have a2 := Tryd.isAgg2
  have z3 := Tryd.sizeOf60
  have z2 := Tryd.sizeOf2
  have hS : Tryd.prog.underlying 62 = some (.struct (Tryd.prog.fieldsOf 62)) := by kernel_rfl
  have hp : Tryd.prog.stoodInHeld 62 = false := by kernel_rfl
  rw [run_neq_struct, show (10000 : Nat) = 9999 + 1 from rfl, run_equalIn_agg w 9999 62 _ _ hS hp]
  simp only [Program.fieldsOf, Tryd.underlying62]
  go_simp
  by_cases h1 : a = c <;> by_cases h2 : b = d <;> simp [h1, h2]
theorem insEq (a b c d : Int) (w : World) : (binOp .eql 62 (.agg #[.int .i64 a, .int .i64 b]) (.agg #[.int .i64 c, .int .i64 d])).run Tryd.prog w = .ok (.bool (decide (a = c) && decide (b = d))) w := by
  have u3 := Tryd.underlying60
  have u2 := Tryd.underlying2
  have a3 := Tryd.isAgg60
  have a2 := Tryd.isAgg2
  have z3 := Tryd.sizeOf60
  have z2 := Tryd.sizeOf2
  have hS : Tryd.prog.underlying 62 = some (.struct (Tryd.prog.fieldsOf 62)) := by kernel_rfl
  have hp : Tryd.prog.stoodInHeld 62 = false := by kernel_rfl
  rw [run_eql_struct, show (10000 : Nat) = 9999 + 1 from rfl, run_equalIn_agg w 9999 62 _ _ hS hp]
  simp only [Program.fieldsOf, Tryd.underlying62]
  go_simp
  by_cases h1 : a = c <;> by_cases h2 : b = d <;> simp [h1, h2]
theorem insGuard : Tryd.prog.eqGuardType Tryd.prog.depth 62 = false := by kernel_rfl

theorem take_eq_step {α : Type} [DecidableEq α] (l r : List α) (k : Nat) (d : α) (hl : k < l.length) (hr : k < r.length) (h : l.take k = r.take k) (he : l.getD k d = r.getD k d) : l.take (k + 1) = r.take (k + 1) := by
  rw [List.take_succ_eq_append_getElem hl, List.take_succ_eq_append_getElem hr, h]
  simp [List.getD, hl, hr] at he
  rw [he]
theorem ne_at {α : Type} (l r : List α) (k : Nat) (d : α) (he : l.getD k d ≠ r.getD k d) : l ≠ r := fun h => he (by rw [h])

theorem below_drewN {B : Nat} {a w : World} (h : Below B a w) (q : Nat) : Below B a (w.drewN q) := ⟨h.os, h.tape, h.output, h.size, h.block⟩
def EqRel (w : World) (n : Nat) (l r : List Ins) (i : Value) (wr : World) : Prop := ∃ k : Nat, k ≤ n ∧ i = .int .i64 k ∧ l.take k = r.take k ∧ Below w.heap.size w wr

def EqsRel (w : World) (n : Nat) (l r : List (List Ins)) (i : Value) (wr : World) : Prop := ∃ k : Nat, k ≤ n ∧ i = .int .i64 k ∧ l.take k = r.take k ∧ Below w.heap.size w wr
def sameP (p q : Prg) : Bool := decide (p.vars = q.vars) && decide (p.kinds = q.kinds)
end Go.Proofs.YtppidbnbfipgnaaDoor
