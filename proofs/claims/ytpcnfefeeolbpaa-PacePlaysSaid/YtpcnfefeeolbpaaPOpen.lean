/-
  Arguments: rows of numbers, rows of acts.
-/
import Derived.Test.YtpcnfefeeolbpaaGOpen
import Derived.Test.YtpcnfefeeolbpaaPFar
namespace Go.Proofs.Ytpcnfefeeolbpaa
open Go Go.ChangeShapes Go.WideShapes Go.RowKit Go.Joins Go.Deep

/-- a number of 64 bits, as far as is asked -/
abbrev N64 := { n : Int // n ≤ 9223372036854775807 }
def CN : Cod N64 := ⟨fun x => [.int .i64 x.1], 1, by decide, fun _ => rfl, fun x v hv => by simp at hv; subst hv; rfl⟩
abbrev Act := Int × N64 × N64
def CA : Cod Act := ⟨fun x => [.int .i64 x.1, .int .i64 x.2.1.1, .int .i64 x.2.2.1], 3, by decide, fun _ => rfl, fun x v hv => by simp at hv; rcases hv with h | h | h <;> (subst h; rfl)⟩
section
variable {H : Type} {enc : TypeId × Value → H} {W : World} {base : Nat} {spare : Nat → Bool} {held : Bool}
theorem cells64 : Try.prog.cellsOf 2 = 1 := by kernel_rfl
theorem cellsI : Try.prog.cellsOf 3 = 1 := by kernel_rfl
theorem cellsAc : Try.prog.cellsOf 31 = 3 := by kernel_rfl
theorem open_n64 {fuel : Nat} {cs : List Value} {x : DataW H × List MemPlace} (h : DataW.trod enc Try.prog W base spare held fuel 2 cs = some x) : ∃ y : N64, cs = CN.enc y := by
  obtain ⟨n, e, _, hw⟩ := DataW.trod_int Try.underlying2 h
  exact ⟨⟨n, (bounds_i64 hw).2⟩, e⟩
theorem open_act {fuel : Nat} {cs : List Value} {x : DataW H × List MemPlace} (h : DataW.trod enc Try.prog W base spare held fuel 31 cs = some x) : ∃ y : Act, cs = CA.enc y := by
  obtain ⟨xs, n, _, _, hlen, hxl, hf⟩ := DataW.trod_struct Try.underlying31 h
  have h0 : DataW.trod enc Try.prog W base spare held n 3 ((cs.drop 0).take (Try.prog.cellsOf 3)) = xs[0]? := hf 0 _ rfl
  have h1 : DataW.trod enc Try.prog W base spare held n 2 ((cs.drop 1).take (Try.prog.cellsOf 2)) = xs[1]? := hf 1 _ rfl
  have h2 : DataW.trod enc Try.prog W base spare held n 2 ((cs.drop 2).take (Try.prog.cellsOf 2)) = xs[2]? := hf 2 _ rfl
  rw [cellsAc] at hlen
  rw [cells64] at h1 h2
  rw [cellsI] at h0
  have hx : xs.length = 3 := hxl
  rw [List.getElem?_eq_getElem (by omega)] at h0 h1 h2
  obtain ⟨n0, e0, _, _⟩ := DataW.trod_int Try.underlying3 h0
  obtain ⟨n1, e1, _, w1⟩ := DataW.trod_int Try.underlying2 h1
  obtain ⟨n2, e2, _, w2⟩ := DataW.trod_int Try.underlying2 h2
  match cs, hlen with
  | [c0, c1, c2], _ =>
    simp at e0 e1 e2
    exact ⟨(n0, ⟨n1, (bounds_i64 w1).2⟩, ⟨n2, (bounds_i64 w2).2⟩), by rw [e0, e1, e2]; rfl⟩
theorem open_nums {fuel : Nat} {v : Value} {x : DataW H × List MemPlace} (h : DataW.trod enc Try.prog W base spare held fuel 45 v.cells.toList = some x) (hv : ∃ a n c, v = .slice a n c) : ∃ a n c l, v = .slice a n c ∧ l.length = n ∧ n ≤ maxLen ∧ (n ≤ 1000000 → CN.At W a n l) :=
  open_rowsV Try.underlying45 cells64 ⟨0, by decide⟩ (fun _ _ _ h => open_n64 h) h hv
theorem open_acts {fuel : Nat} {v : Value} {x : DataW H × List MemPlace} (h : DataW.trod enc Try.prog W base spare held fuel 22 v.cells.toList = some x) (hv : ∃ a n c, v = .slice a n c) : ∃ a n c l, v = .slice a n c ∧ l.length = n ∧ n ≤ maxLen ∧ (n ≤ 1000000 → CA.At W a n l) :=
  open_rowsV Try.underlying22 cellsAc (0, ⟨0, by decide⟩, ⟨0, by decide⟩) (fun _ _ _ h => open_act h) h hv
end
end Go.Proofs.Ytpcnfefeeolbpaa
