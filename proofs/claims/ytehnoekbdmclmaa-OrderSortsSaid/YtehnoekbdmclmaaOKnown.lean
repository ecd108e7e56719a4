/-
  The walk of known.
-/
import Derived.Test.YtehnoekbdmclmaaOSorted2
namespace Go.Proofs.Ytehnoekbdmclmaa
open Go Go.RowKit Go.Sort Go.Proofs

def TellsBB (t : Bool) (w : World) (e : Ending) (w' : World) : Prop := e = .returned (.bool t) ∧ Below w.heap.size w w'
def row3 : List Ev := [((5, 2, 0), 0, 0, 0), ((5, 1, 9), 0, 0, 0), ((4, 3, 3), 0, 0, 0)]
theorem row3_sort : evSort row3 = [((4, 3, 3), 0, 0, 0), ((5, 1, 9), 0, 0, 0), ((5, 2, 0), 0, 0, 0)] := by decide +kernel
theorem row3_at (w : World) : EvAt (w.alloc (.cells #[.int .i64 5, .int .i64 2, .int .i64 0, .int .i64 0, .int .i64 0, .int .i64 0, .int .i64 5, .int .i64 1, .int .i64 9, .int .i64 0, .int .i64 0, .int .i64 0, .int .i64 4, .int .i64 3, .int .i64 3, .int .i64 0, .int .i64 0, .int .i64 0] 28)) (some ⟨w.heap.size, 0, none⟩) 3 row3 := by
  refine ⟨rfl, by decide, .inr ⟨w.heap.size, 0, rfl, by simp, fun i hi => ?_⟩⟩
  have hh := heap_alloc_new w (.cells #[.int .i64 5, .int .i64 2, .int .i64 0, .int .i64 0, .int .i64 0, .int .i64 0, .int .i64 5, .int .i64 1, .int .i64 9, .int .i64 0, .int .i64 0, .int .i64 0, .int .i64 4, .int .i64 3, .int .i64 3, .int .i64 0, .int .i64 0, .int .i64 0] 28)
  refine EvCell.of fun c hc => ?_
  rw [cell_of_row _ _ _ _ _ _ hh]
  match i, hi, c, hc with
  | 0, _, 0, _ => rfl
  | 0, _, 1, _ => rfl
  | 0, _, 2, _ => rfl
  | 0, _, 3, _ => rfl
  | 0, _, 4, _ => rfl
  | 0, _, 5, _ => rfl
  | 1, _, 0, _ => rfl
  | 1, _, 1, _ => rfl
  | 1, _, 2, _ => rfl
  | 1, _, 3, _ => rfl
  | 1, _, 4, _ => rfl
  | 1, _, 5, _ => rfl
  | 2, _, 0, _ => rfl
  | 2, _, 1, _ => rfl
  | 2, _, 2, _ => rfl
  | 2, _, 3, _ => rfl
  | 2, _, 4, _ => rfl
  | 2, _, 5, _ => rfl

set_option maxHeartbeats 1000000 in
set_option maxRecDepth 100000 in
theorem known_any (w : World) : Calls Try.prog 11 #[] w (TellsBB true w) := by
  go_enter Try.func11, Try.ntmps11
  go_wp2_with (first
    | (go_at_call 15; refine (sorted_any _ _ _ _ row3 (row3_at _)).mono ?_; rintro e w1 ⟨v, rfl, ho, hb⟩; rw [row3_sort] at ho; refine Hid.out ?_))
  obtain ⟨a, c, rfl, hc, h1, h2, h3 | ⟨B, off, rfl, hB, hcell⟩⟩ := ho.at (by decide)
  · exact absurd h3 (by decide)
  · have x0 := (hcell 0 (by decide)).1
    have x1 := (hcell 1 (by decide)).2.1
    have HB := Lib.hid hb
    clear hcell hb ho h1 h2
    simp only [List.length_cons, List.length_nil] at hc
    simp only [Nat.zero_mul, Nat.add_zero, Nat.one_mul, List.getElem_cons_zero, List.getElem_cons_succ] at x0 x1
    refine Lib.hid ?_
    go_wp2
    go_ret
    exact ⟨rfl, ((Below.refl _ _).alloc (Nat.le_refl _) _).trans (HB.out.mono (by simp))⟩
end Go.Proofs.Ytehnoekbdmclmaa
