/-
  The walks of the document's Same and Much.
-/
import Derived.Test.YtppidbnbfipgnaaDoorD1
namespace Go.Proofs.YtppidbnbfipgnaaDoor
open Go.RowKit CodM

/-- both programs lie boxed, at g and g + 1 -/
def Boxes (wb : World) (g : Nat) (x y : Int) (a b : Option Addr) (n m c d : Nat) : Prop :=
  wb.heap[g]? = some (.cells #[.int .i64 x, .slice a n c] 24) ∧ wb.heap[g + 1]? = some (.cells #[.int .i64 y, .slice b m d] 24)
theorem Boxes.mk' (w : World) (x y : Int) (a b : Option Addr) (n m c d : Nat) :
    Boxes ((w.alloc (.cells #[.int .i64 x, .slice a n c] 24)).alloc (.cells #[.int .i64 y, .slice b m d] 24)) w.heap.size x y a b n m c d := by
  refine ⟨(heap_alloc_old _ _ (by simp)).trans (heap_alloc_new _ _), ?_⟩
  have := heap_alloc_new (w.alloc (.cells #[.int .i64 x, .slice a n c] 24)) (.cells #[.int .i64 y, .slice b m d] 24)
  simpa using this
theorem Boxes.next {wb wr : World} {g : Nat} {x y : Int} {a b : Option Addr} {n m c d : Nat} (h : Boxes wb g x y a b n m c d) (hb : Below wb.heap.size wb wr) : Boxes wr g x y a b n m c d :=
  ⟨(hb.block _ (by rcases Nat.lt_or_ge g wb.heap.size with h' | h'; exact h'; have := h.1; rw [Array.getElem?_eq_none h'] at this; cases this)).trans h.1,
   (hb.block _ (by rcases Nat.lt_or_ge (g + 1) wb.heap.size with h' | h'; exact h'; have := h.2; rw [Array.getElem?_eq_none h'] at this; cases this)).trans h.2⟩
theorem Boxes.cells {wb : World} {g : Nat} {x y : Int} {a b : Option Addr} {n m c d : Nat} (h : Boxes wb g x y a b n m c d) :
    wb.cell? ⟨g, 1, none⟩ = some (.slice a n c) ∧ wb.cell? ⟨g + 1, 1, none⟩ = some (.slice b m d) :=
  ⟨by rw [cell_of_row _ _ _ _ _ _ h.1]; rfl, by rw [cell_of_row _ _ _ _ _ _ h.2]; rfl⟩

end Go.Proofs.YtppidbnbfipgnaaDoor
