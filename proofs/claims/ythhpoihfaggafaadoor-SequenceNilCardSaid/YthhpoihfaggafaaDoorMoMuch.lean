/-
  The walk of the document's Much.
-/
import Derived.Test.YthhpoihfaggafaaDoorMoSame
import Derived.Test.YthhpoihfaggafaaDoorD3
namespace Go.Proofs.YthhpoihfaggafaaDoor
open Go Go.RowKit Go.Sort Go.Proofs CodM VmM

def muchPm (x : Pm) : Bool := muchB x.prog || decide (20 < x.vars.length)
def muchM (m : Mo) : Bool := decide (20 < m.procs.length) || decide (80 < m.first.length) || m.procs.any muchPm
theorem any_take {α : Type} (f : α → Bool) (l : List α) (k : Nat) (x : α) (h : l[k]? = some x) : (l.take (k + 1)).any f = ((l.take k).any f || f x) := by
  rw [List.take_add_one, h]
  simp
theorem any_of_take {α : Type} (f : α → Bool) (l : List α) (k : Nat) (h : (l.take k).any f = true) : l.any f = true := by
  rw [List.any_eq_true] at h ⊢
  obtain ⟨x, hx, hf⟩ := h
  exact ⟨x, List.mem_of_mem_take hx, hf⟩
def MuchMRel (wb : World) (n : Nat) (l : List Pm) (i : Value) (wr : World) : Prop := ∃ k : Nat, k ≤ n ∧ i = .int .i64 k ∧ (l.take k).any muchPm = false ∧ Below wb.heap.size wb wr
end Go.Proofs.YthhpoihfaggafaaDoor
