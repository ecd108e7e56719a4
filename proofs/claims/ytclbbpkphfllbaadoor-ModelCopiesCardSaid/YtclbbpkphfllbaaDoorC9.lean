/-
  The walks of the law's known and of CodeWords.
-/
import Derived.Test.YtclbbpkphfllbaaDoorC8
namespace Go.Proofs.YtclbbpkphfllbaaDoor
open Go.RowKit CodM

def textB (p : Prg) : List UInt8 := if CodM.may (codeNk p) p then text p else []
theorem text_any (w : World) (a : Option Addr) (n c : Nat) (p : Prg) (hG : Glo w) (hp : ProgAt w a n p) :
    Calls Tryd.prog 38 #[.agg #[.int .i64 p.vars, .slice a n c]] w (TellsSB (textB p) w) := by
  unfold textB
  rcases hm : CodM.may (codeNk p) p with _ | _
  · exact text_no w a n c p hG hp hm
  · obtain ⟨vars, ks⟩ := p
    have h := (may_parts hm).1
    obtain ⟨k, rfl⟩ : ∃ k : Nat, vars = (k : Int) := ⟨vars.toNat, by have : 0 ≤ vars := h.1; omega⟩
    exact text_yes w a n c k ks hG hp hm

abbrev knownP : Prg := ⟨0, [[(4, 0), (16, 0)]]⟩
theorem known_text : (strU (textB knownP)).toList = [118, 97, 114, 115, 32, 48, 10, 107, 105, 110, 100, 10, 32, 32, 116, 105, 109, 101, 10, 32, 32, 116, 101, 108, 108, 10] := by
  rw [strU_toList]
  decide +kernel
theorem known_prog (w : World) (t u : TypeId) (fr fs : Nat × Nat) : ProgAt ((w.alloc (.cells #[.int .i64 4, .int .i64 0, .int .i64 16, .int .i64 0] t fr)).alloc (.cells #[.slice (some ⟨w.heap.size, 0, none⟩) 2 2] u fs)) (some ⟨w.heap.size + 1, 0, none⟩) 1 knownP := by
  have hb := heap_alloc_new (w.alloc (.cells #[.int .i64 4, .int .i64 0, .int .i64 16, .int .i64 0] t fr)) (.cells #[.slice (some ⟨w.heap.size, 0, none⟩) 2 2] u fs)
  have ha := (heap_alloc_old (w.alloc (.cells #[.int .i64 4, .int .i64 0, .int .i64 16, .int .i64 0] t fr)) (.cells #[.slice (some ⟨w.heap.size, 0, none⟩) 2 2] u fs) (r := w.heap.size) (by simp)).trans (heap_alloc_new w (.cells #[.int .i64 4, .int .i64 0, .int .i64 16, .int .i64 0] t fr))
  rw [show (w.alloc (.cells #[.int .i64 4, .int .i64 0, .int .i64 16, .int .i64 0] t fr)).heap.size = w.heap.size + 1 from by simp] at hb
  refine ⟨⟨by decide, by decide⟩, rfl, by decide, .inr ⟨w.heap.size + 1, 0, rfl, by simp, fun i hi => ?_⟩⟩
  obtain rfl : i = 0 := by omega
  refine ⟨some ⟨w.heap.size, 0, none⟩, 2, 2, ?_, ⟨Nat.le_refl _, fun h => by cases h⟩, rfl, ?_, by decide, .inr ⟨w.heap.size, 0, rfl, by simp; omega, fun j hj => ?_⟩⟩
  · rw [cell_of_row _ _ _ _ _ _ hb]; rfl
  · intro x hx
    simp at hx
    rcases hx with rfl | rfl <;> exact ⟨⟨by decide, by decide⟩, ⟨by decide, by decide⟩⟩
  · rw [cell_of_row _ _ _ _ _ _ ha, cell_of_row _ _ _ _ _ _ ha]
    match j, hj with
    | 0, _ => exact ⟨rfl, rfl⟩
    | 1, _ => exact ⟨rfl, rfl⟩

end Go.Proofs.YtclbbpkphfllbaaDoor
