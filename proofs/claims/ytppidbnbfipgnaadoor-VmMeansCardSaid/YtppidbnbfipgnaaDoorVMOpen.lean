/-
  Arguments that are states, and rows of events, opened to cells.
-/
import Derived.Test.YtppidbnbfipgnaaDoorE1
import Derived.Test.YtppidbnbfipgnaaDoorGOpen
import Derived.Test.YtppidbnbfipgnaaDoorVBase
namespace Go.Proofs.YtppidbnbfipgnaaDoor
open Go Go.ChangeShapes Go.WideShapes Go.RowKit Go.Joins Go.Deep CodM VmM

section
variable {H : Type} {enc : TypeId × Value → H} {W : World} {base : Nat} {spare : Nat → Bool} {held : Bool}
theorem ccK : Tryd.prog.cellsOf 29 = 3 := by kernel_rfl
theorem ccE : Tryd.prog.cellsOf 31 = 6 := by kernel_rfl
theorem cc64 : Tryd.prog.cellsOf 2 = 1 := by kernel_rfl
theorem ccInt : Tryd.prog.cellsOf 3 = 1 := by kernel_rfl
set_option maxRecDepth 100000 in
theorem open_key {fuel : Nat} {cs : List Value} {x : DataW H × List MemPlace} (h : DataW.trod enc Tryd.prog W base spare held fuel 29 cs = some x) : ∃ a b c : Int, cs = [.int .i64 a, .int .i64 b, .int .i64 c] := by
  obtain ⟨xs, n, _, _, hlen, hxl, hf⟩ := DataW.trod_struct Tryd.underlying29 h
  have h0 : DataW.trod enc Tryd.prog W base spare held n 2 ((cs.drop 0).take (Tryd.prog.cellsOf 2)) = xs[0]? := hf 0 _ rfl
  have h1 : DataW.trod enc Tryd.prog W base spare held n 3 ((cs.drop 1).take (Tryd.prog.cellsOf 3)) = xs[1]? := hf 1 _ rfl
  have h2 : DataW.trod enc Tryd.prog W base spare held n 2 ((cs.drop 2).take (Tryd.prog.cellsOf 2)) = xs[2]? := hf 2 _ rfl
  rw [ccK] at hlen
  rw [cc64] at h0 h2
  rw [ccInt] at h1
  have hx : xs.length = 3 := hxl
  rw [List.getElem?_eq_getElem (by omega)] at h0 h1 h2
  obtain ⟨n0, e0, _, _⟩ := DataW.trod_int Tryd.underlying2 h0
  obtain ⟨n1, e1, _, _⟩ := DataW.trod_int Tryd.underlying3 h1
  obtain ⟨n2, e2, _, _⟩ := DataW.trod_int Tryd.underlying2 h2
  match cs, hlen with
  | [c0, c1, c2], _ =>
    simp at e0 e1 e2
    exact ⟨n0, n1, n2, by rw [e0, e1, e2]⟩
set_option maxRecDepth 100000 in
theorem open_event {fuel : Nat} {cs : List Value} {x : DataW H × List MemPlace} (h : DataW.trod enc Tryd.prog W base spare held fuel 31 cs = some x) : ∃ y : Ev, cs = CEv.enc y := by
  obtain ⟨xs, n, _, _, hlen, hxl, hf⟩ := DataW.trod_struct Tryd.underlying31 h
  have h0 : DataW.trod enc Tryd.prog W base spare held n 29 ((cs.drop 0).take (Tryd.prog.cellsOf 29)) = xs[0]? := hf 0 _ rfl
  have h1 : DataW.trod enc Tryd.prog W base spare held n 3 ((cs.drop 3).take (Tryd.prog.cellsOf 3)) = xs[1]? := hf 1 _ rfl
  have h2 : DataW.trod enc Tryd.prog W base spare held n 3 ((cs.drop 4).take (Tryd.prog.cellsOf 3)) = xs[2]? := hf 2 _ rfl
  have h3 : DataW.trod enc Tryd.prog W base spare held n 2 ((cs.drop 5).take (Tryd.prog.cellsOf 2)) = xs[3]? := hf 3 _ rfl
  rw [ccE] at hlen
  rw [ccK] at h0
  rw [cc64] at h3
  rw [ccInt] at h1 h2
  have hx : xs.length = 4 := hxl
  rw [List.getElem?_eq_getElem (by omega)] at h0 h1 h2 h3
  obtain ⟨a, b, c, e0⟩ := open_key h0
  obtain ⟨n1, e1, _, _⟩ := DataW.trod_int Tryd.underlying3 h1
  obtain ⟨n2, e2, _, _⟩ := DataW.trod_int Tryd.underlying3 h2
  obtain ⟨n3, e3, _, _⟩ := DataW.trod_int Tryd.underlying2 h3
  match cs, hlen with
  | [c0, c1, c2, c3, c4, c5], _ =>
    simp at e0 e1 e2 e3
    obtain ⟨f0, f1, f2⟩ := e0
    exact ⟨⟨a, b, c, n1, n2, n3⟩, by rw [f0, f1, f2, e1, e2, e3]; rfl⟩
theorem open_num {fuel : Nat} {cs : List Value} {x : DataW H × List MemPlace} (h : DataW.trod enc Tryd.prog W base spare held fuel 2 cs = some x) : ∃ y : Int, cs = CV.enc y := by
  obtain ⟨n, e, _, _⟩ := DataW.trod_int Tryd.underlying2 h
  exact ⟨n, e⟩
theorem open_events {fuel : Nat} {v : Value} {x : DataW H × List MemPlace} (h : DataW.trod enc Tryd.prog W base spare held fuel 43 v.cells.toList = some x) (hv : ∃ a n c, v = .slice a n c) : ∃ a n c l, v = .slice a n c ∧ l.length = n ∧ n ≤ maxLen ∧ (n ≤ 1000000 → CEv.At W a n l) :=
  open_rowsV Tryd.underlying43 ccE ⟨0, 0, 0, 0, 0, 0⟩ (fun _ _ _ h => open_event h) h hv
theorem nil_cap {S T : TypeId} (hT : Tryd.prog.underlying S = some (.slice T)) {fuel : Nat} {a : Option Addr} {n c : Nat} {x : DataW H × List MemPlace} (h : DataW.trod enc Tryd.prog W base spare held fuel S [.slice a n c] = some x) : a = none → c = 0 := by
  rcases open_slice hT h with ⟨hcs, _⟩ | ⟨a', len, cap, m, n', D, Pl, hcs, _⟩
  · simp at hcs
    exact fun _ => hcs.2.2
  · simp at hcs
    intro e
    rw [e] at hcs
    cases hcs.1
set_option maxRecDepth 100000 in
theorem open_state {r : Reach} {b0 : Nat} {v : Value} {d : DataW H} {p : List MemPlace} (hv : Value.okWide Tryd.prog W r b0 27 v) (h : DataW.Trod enc Tryd.prog W base spare held 27 v d p) :
    ∃ a n c l sent drawn, v = .agg #[.slice a n c, .int .i64 sent, .int .i64 drawn] ∧ l.length = n ∧ n ≤ maxLen ∧ (n ≤ 1000000 → CV.At W a n l) ∧ (a = none → c = 0) := by
  obtain ⟨v0, v1, v2, y0, y1, y2, k, rfl, _, _, h0, h1, h2⟩ := open_agg3 Tryd.underlying27 (by kernel_rfl) (by kernel_rfl) hv h
  obtain ⟨x, e1, _, _⟩ := DataW.trod_int Tryd.underlying2 h1
  obtain ⟨y, e2, _, _⟩ := DataW.trod_int Tryd.underlying2 h2
  simp at e1 e2
  subst e1
  subst e2
  obtain ⟨a, n, c, l, rfl, g1, g2, g3⟩ := open_rows Tryd.underlying25 cc64 0 (fun _ _ _ h => open_num h) h0
  exact ⟨a, n, c, l, x, y, rfl, g1, g2, g3, nil_cap Tryd.underlying25 h0⟩
end
end Go.Proofs.YtppidbnbfipgnaaDoor
