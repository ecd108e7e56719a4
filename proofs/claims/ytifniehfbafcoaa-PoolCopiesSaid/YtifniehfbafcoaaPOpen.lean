/-
  Arguments that are rows of acts, opened to cells.
-/
import Derived.Test.YtifniehfbafcoaaPBase
import Derived.Test.YtifniehfbafcoaaGOpen
namespace Go.Proofs.Ytifniehfbafcoaa
open Go Go.ChangeShapes Go.WideShapes Go.RowKit Go.Joins Go.Deep

def encEv (e : Ev) : List Value := [.int .i64 e.1.1, .int .i64 e.1.2.1, .int .i64 e.1.2.2, .int .i64 e.2.1, .int .i64 e.2.2.1, .int .i64 e.2.2.2]
/-- an act: its kind, message, number -/
abbrev Ac := Int × Ms × Int
def encA (a : Ac) : List Value := [.int .i64 a.1, .int .i64 a.2.1.1.1.1, .int .i64 a.2.1.1.1.2.1, .int .i64 a.2.1.1.1.2.2, .int .i64 a.2.1.1.2.1, .int .i64 a.2.1.1.2.2.1, .int .i64 a.2.1.1.2.2.2, .int .i64 a.2.1.2.1, .bool a.2.1.2.2.1, .bool a.2.1.2.2.2.1, .int .i64 a.2.1.2.2.2.2, .int .i64 a.2.2]
theorem encA_one (x : Ac) : ∀ v ∈ encA x, v.oneCell' = true := by
  intro v hv
  simp [encA] at hv
  rcases hv with rfl | rfl | rfl | rfl | rfl | rfl | rfl | rfl | rfl | rfl | rfl | rfl <;> rfl
def AcC : Cod Ac := ⟨encA, 12, by decide, fun _ => rfl, encA_one⟩
abbrev Twelve (w : World) (B o : Nat) (x : Ac) : Prop :=
  w.cell? ⟨B, o, none⟩ = some (.int .i64 x.1) ∧ w.cell? ⟨B, o + 1, none⟩ = some (.int .i64 x.2.1.1.1.1) ∧ w.cell? ⟨B, o + 2, none⟩ = some (.int .i64 x.2.1.1.1.2.1) ∧ w.cell? ⟨B, o + 3, none⟩ = some (.int .i64 x.2.1.1.1.2.2) ∧ w.cell? ⟨B, o + 4, none⟩ = some (.int .i64 x.2.1.1.2.1) ∧ w.cell? ⟨B, o + 5, none⟩ = some (.int .i64 x.2.1.1.2.2.1) ∧ w.cell? ⟨B, o + 6, none⟩ = some (.int .i64 x.2.1.1.2.2.2) ∧ w.cell? ⟨B, o + 7, none⟩ = some (.int .i64 x.2.1.2.1) ∧ w.cell? ⟨B, o + 8, none⟩ = some (.bool x.2.1.2.2.1) ∧ w.cell? ⟨B, o + 9, none⟩ = some (.bool x.2.1.2.2.2.1) ∧ w.cell? ⟨B, o + 10, none⟩ = some (.int .i64 x.2.1.2.2.2.2) ∧ w.cell? ⟨B, o + 11, none⟩ = some (.int .i64 x.2.2)
theorem twelve {w : World} {B o : Nat} {x : Ac} (h : AcC.Cell w B o x) : Twelve w B o x :=
  ⟨h 0 (by decide), h 1 (by decide), h 2 (by decide), h 3 (by decide), h 4 (by decide), h 5 (by decide), h 6 (by decide), h 7 (by decide), h 8 (by decide), h 9 (by decide), h 10 (by decide), h 11 (by decide)⟩
theorem act_cell {w : World} {a : Option Addr} {n : Nat} {l : List Ac} (h : AcC.At w a n l) {i : Nat} (hi : i < n) : ∃ B off, a = some ⟨B, off, none⟩ ∧ B < w.heap.size ∧ ∃ x : Ac, AcC.Cell w B (off + i * 12) x := by
  obtain ⟨B, off, e, hB, x, _, hc⟩ := h.cell hi
  exact ⟨B, off, e, hB, x, hc⟩

section
variable {H : Type} {enc : TypeId × Value → H} {W : World} {base : Nat} {spare : Nat → Bool} {held : Bool}

theorem cellsK : Try.prog.cellsOf 32 = 3 := by kernel_rfl
theorem cellsE : Try.prog.cellsOf 34 = 6 := by kernel_rfl
theorem cells64 : Try.prog.cellsOf 2 = 1 := by kernel_rfl
theorem cellsInt : Try.prog.cellsOf 3 = 1 := by kernel_rfl

set_option maxRecDepth 100000 in
theorem open_key {fuel : Nat} {cs : List Value} {x : DataW H × List MemPlace} (h : DataW.trod enc Try.prog W base spare held fuel 32 cs = some x) : ∃ y : Ky, cs = encK y := by
  obtain ⟨xs, n, _, _, hlen, hxl, hf⟩ := DataW.trod_struct Try.underlying32 h
  have h0 : DataW.trod enc Try.prog W base spare held n 2 ((cs.drop 0).take (Try.prog.cellsOf 2)) = xs[0]? := hf 0 _ rfl
  have h1 : DataW.trod enc Try.prog W base spare held n 3 ((cs.drop 1).take (Try.prog.cellsOf 3)) = xs[1]? := hf 1 _ rfl
  have h2 : DataW.trod enc Try.prog W base spare held n 2 ((cs.drop 2).take (Try.prog.cellsOf 2)) = xs[2]? := hf 2 _ rfl
  rw [cellsK] at hlen
  rw [cells64] at h0 h2
  rw [cellsInt] at h1
  have hx : xs.length = 3 := hxl
  rw [List.getElem?_eq_getElem (by omega)] at h0 h1 h2
  obtain ⟨n0, e0, _, _⟩ := DataW.trod_int Try.underlying2 h0
  obtain ⟨n1, e1, _, _⟩ := DataW.trod_int Try.underlying3 h1
  obtain ⟨n2, e2, _, _⟩ := DataW.trod_int Try.underlying2 h2
  match cs, hlen with
  | [c0, c1, c2], _ =>
    simp at e0 e1 e2
    exact ⟨(n0, n1, n2), by rw [e0, e1, e2]; rfl⟩
set_option maxRecDepth 100000 in
theorem open_event {fuel : Nat} {cs : List Value} {x : DataW H × List MemPlace} (h : DataW.trod enc Try.prog W base spare held fuel 34 cs = some x) : ∃ y : Ev, cs = encEv y := by
  obtain ⟨xs, n, _, _, hlen, hxl, hf⟩ := DataW.trod_struct Try.underlying34 h
  have h0 : DataW.trod enc Try.prog W base spare held n 32 ((cs.drop 0).take (Try.prog.cellsOf 32)) = xs[0]? := hf 0 _ rfl
  have h1 : DataW.trod enc Try.prog W base spare held n 3 ((cs.drop 3).take (Try.prog.cellsOf 3)) = xs[1]? := hf 1 _ rfl
  have h2 : DataW.trod enc Try.prog W base spare held n 3 ((cs.drop 4).take (Try.prog.cellsOf 3)) = xs[2]? := hf 2 _ rfl
  have h3 : DataW.trod enc Try.prog W base spare held n 2 ((cs.drop 5).take (Try.prog.cellsOf 2)) = xs[3]? := hf 3 _ rfl
  rw [cellsE] at hlen
  rw [cellsK] at h0
  rw [cells64] at h3
  rw [cellsInt] at h1 h2
  have hx : xs.length = 4 := hxl
  rw [List.getElem?_eq_getElem (by omega)] at h0 h1 h2 h3
  obtain ⟨k, e0⟩ := open_key h0
  obtain ⟨n1, e1, _, _⟩ := DataW.trod_int Try.underlying3 h1
  obtain ⟨n2, e2, _, _⟩ := DataW.trod_int Try.underlying3 h2
  obtain ⟨n3, e3, _, _⟩ := DataW.trod_int Try.underlying2 h3
  match cs, hlen with
  | [c0, c1, c2, c3, c4, c5], _ =>
    simp [encK] at e0 e1 e2 e3
    obtain ⟨f0, f1, f2⟩ := e0
    exact ⟨(k, n1, n2, n3), by rw [f0, f1, f2, e1, e2, e3]; rfl⟩

theorem cellsM : Try.prog.cellsOf 36 = 10 := by kernel_rfl
theorem cellsBool : Try.prog.cellsOf 4 = 1 := by kernel_rfl
set_option maxRecDepth 100000 in
theorem open_msg {fuel : Nat} {cs : List Value} {x : DataW H × List MemPlace} (h : DataW.trod enc Try.prog W base spare held fuel 36 cs = some x) : ∃ y : Ms, cs = encM y := by
  obtain ⟨xs, n, _, _, hlen, hxl, hf⟩ := DataW.trod_struct Try.underlying36 h
  have h0 : DataW.trod enc Try.prog W base spare held n 34 ((cs.drop 0).take (Try.prog.cellsOf 34)) = xs[0]? := hf 0 _ rfl
  have h1 : DataW.trod enc Try.prog W base spare held n 2 ((cs.drop 6).take (Try.prog.cellsOf 2)) = xs[1]? := hf 1 _ rfl
  have h2 : DataW.trod enc Try.prog W base spare held n 4 ((cs.drop 7).take (Try.prog.cellsOf 4)) = xs[2]? := hf 2 _ rfl
  have h3 : DataW.trod enc Try.prog W base spare held n 4 ((cs.drop 8).take (Try.prog.cellsOf 4)) = xs[3]? := hf 3 _ rfl
  have h4 : DataW.trod enc Try.prog W base spare held n 3 ((cs.drop 9).take (Try.prog.cellsOf 3)) = xs[4]? := hf 4 _ rfl
  rw [cellsM] at hlen
  rw [cellsE] at h0
  rw [cells64] at h1
  rw [cellsBool] at h2 h3
  rw [cellsInt] at h4
  have hx : xs.length = 5 := hxl
  rw [List.getElem?_eq_getElem (by omega)] at h0 h1 h2 h3 h4
  obtain ⟨k, e0⟩ := open_event h0
  obtain ⟨n1, e1, _, _⟩ := DataW.trod_int Try.underlying2 h1
  obtain ⟨b2, e2, _⟩ := DataW.trod_bool Try.underlying4 h2
  obtain ⟨b3, e3, _⟩ := DataW.trod_bool Try.underlying4 h3
  obtain ⟨n4, e4, _, _⟩ := DataW.trod_int Try.underlying3 h4
  match cs, hlen with
  | [c0, c1, c2, c3, c4, c5, c6, c7, c8, c9], _ =>
    simp [encEv] at e0 e1 e2 e3 e4
    obtain ⟨f0, f1, f2, f3, f4, f5⟩ := e0
    exact ⟨(k, n1, b2, b3, n4), by rw [f0, f1, f2, f3, f4, f5, e1, e2, e3, e4]; rfl⟩
theorem cellsA : Try.prog.cellsOf 38 = 12 := by kernel_rfl
set_option maxRecDepth 100000 in
theorem open_act {fuel : Nat} {cs : List Value} {x : DataW H × List MemPlace} (h : DataW.trod enc Try.prog W base spare held fuel 38 cs = some x) : ∃ y : Ac, cs = encA y := by
  obtain ⟨xs, n, _, _, hlen, hxl, hf⟩ := DataW.trod_struct Try.underlying38 h
  have h0 : DataW.trod enc Try.prog W base spare held n 3 ((cs.drop 0).take (Try.prog.cellsOf 3)) = xs[0]? := hf 0 _ rfl
  have h1 : DataW.trod enc Try.prog W base spare held n 36 ((cs.drop 1).take (Try.prog.cellsOf 36)) = xs[1]? := hf 1 _ rfl
  have h2 : DataW.trod enc Try.prog W base spare held n 3 ((cs.drop 11).take (Try.prog.cellsOf 3)) = xs[2]? := hf 2 _ rfl
  rw [cellsA] at hlen
  rw [cellsM] at h1
  rw [cellsInt] at h0 h2
  have hx : xs.length = 3 := hxl
  rw [List.getElem?_eq_getElem (by omega)] at h0 h1 h2
  obtain ⟨n0, e0, _, _⟩ := DataW.trod_int Try.underlying3 h0
  obtain ⟨k, e1⟩ := open_msg h1
  obtain ⟨n2, e2, _, _⟩ := DataW.trod_int Try.underlying3 h2
  match cs, hlen with
  | [c0, c1, c2, c3, c4, c5, c6, c7, c8, c9, c10, c11], _ =>
    simp [encM] at e0 e1 e2
    obtain ⟨f0, f1, f2, f3, f4, f5, f6, f7, f8, f9⟩ := e1
    exact ⟨(n0, k, n2), by rw [e0, f0, f1, f2, f3, f4, f5, f6, f7, f8, f9, e2]; rfl⟩
theorem open_actsV {fuel : Nat} {v : Value} {x : DataW H × List MemPlace} (h : DataW.trod enc Try.prog W base spare held fuel 22 v.cells.toList = some x) (hv : ∃ a n c, v = .slice a n c) : ∃ a n c l, v = .slice a n c ∧ l.length = n ∧ n ≤ maxLen ∧ (n ≤ 1000000 → AcC.At W a n l) :=
  open_rowsV (C := AcC) Try.underlying22 cellsA (0, msZ, 0) (fun _ _ _ h => open_act h) h hv
end
end Go.Proofs.Ytifniehfbafcoaa
