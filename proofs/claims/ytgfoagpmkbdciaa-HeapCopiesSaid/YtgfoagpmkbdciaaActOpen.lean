/-
  Arguments that are rows of acts, opened to cells.
-/
import Derived.Test.YtgfoagpmkbdciaaItOpen
import Derived.Test.YtgfoagpmkbdciaaHDo
namespace Go.Proofs.Ytgfoagpmkbdciaa
open Go Go.ChangeShapes Go.WideShapes Go.RowKit Go.Joins Go.Deep

/-- an act: its kind, item, number -/
abbrev Ac := Int × It × Int
def encA (a : Ac) : List Value := [.int .i64 a.1, .int .i64 a.2.1.1.1.1, .int .i64 a.2.1.1.1.2.1, .int .i64 a.2.1.1.1.2.2, .int .i64 a.2.1.1.2.1, .int .i64 a.2.1.1.2.2.1, .int .i64 a.2.1.1.2.2.2, .int .i64 a.2.1.2, .int .i64 a.2.2]
def AcCell (w : World) (B o : Nat) (x : Ac) : Prop := ∀ c, c < 9 → w.cell? ⟨B, o + c, none⟩ = (encA x)[c]?
abbrev Cells9 (w : World) (B o : Nat) (x : Ac) : Prop :=
  w.cell? ⟨B, o, none⟩ = some (.int .i64 x.1) ∧ w.cell? ⟨B, o + 1, none⟩ = some (.int .i64 x.2.1.1.1.1) ∧ w.cell? ⟨B, o + 2, none⟩ = some (.int .i64 x.2.1.1.1.2.1) ∧ w.cell? ⟨B, o + 3, none⟩ = some (.int .i64 x.2.1.1.1.2.2) ∧
    w.cell? ⟨B, o + 4, none⟩ = some (.int .i64 x.2.1.1.2.1) ∧ w.cell? ⟨B, o + 5, none⟩ = some (.int .i64 x.2.1.1.2.2.1) ∧ w.cell? ⟨B, o + 6, none⟩ = some (.int .i64 x.2.1.1.2.2.2) ∧ w.cell? ⟨B, o + 7, none⟩ = some (.int .i64 x.2.1.2) ∧ w.cell? ⟨B, o + 8, none⟩ = some (.int .i64 x.2.2)
theorem AcCell.nine {w : World} {B o : Nat} {x : Ac} (h : AcCell w B o x) : Cells9 w B o x :=
  ⟨h 0 (by decide), h 1 (by decide), h 2 (by decide), h 3 (by decide), h 4 (by decide), h 5 (by decide), h 6 (by decide), h 7 (by decide), h 8 (by decide)⟩
theorem AcCell.below {w w' : World} {K B o : Nat} {x : Ac} (h : AcCell w B o x) (hb : Below K w w') (hK : B < K) : AcCell w' B o x := fun c hc => (World.cell?_of_block (w := w) (hb.block B hK)).trans (h c hc)
/-- a slice reads as acts -/
def AcAt (w : World) (a : Option Addr) (n : Nat) (l : List Ac) : Prop :=
  l.length = n ∧ n ≤ 1000000 ∧ (n = 0 ∨ ∃ B off, a = some ⟨B, off, none⟩ ∧ B < w.heap.size ∧ ∀ i (hi : i < l.length), AcCell w B (off + i * 9) l[i])
theorem AcAt.cell {w : World} {a : Option Addr} {n : Nat} {l : List Ac} (h : AcAt w a n l) {i : Nat} (hi : i < n) : ∃ B off, a = some ⟨B, off, none⟩ ∧ B < w.heap.size ∧ ∃ x : Ac, AcCell w B (off + i * 9) x := by
  obtain ⟨h1, _, h3 | ⟨B, off, rfl, hB, hc⟩⟩ := h
  · omega
  · exact ⟨B, off, rfl, hB, l[i]'(by omega), hc i (by omega)⟩

section
variable {H : Type} {enc : TypeId × Value → H} {W : World} {base : Nat} {spare : Nat → Bool} {held : Bool}

theorem cellsA : Try.prog.cellsOf 38 = 9 := by kernel_rfl
set_option maxRecDepth 100000 in
theorem open_act {fuel : Nat} {cs : List Value} {x : DataW H × List MemPlace} (h : DataW.trod enc Try.prog W base spare held fuel 38 cs = some x) : ∃ y : Ac, cs = encA y := by
  obtain ⟨xs, n, _, _, hlen, hxl, hf⟩ := DataW.trod_struct Try.underlying38 h
  have h0 : DataW.trod enc Try.prog W base spare held n 3 ((cs.drop 0).take (Try.prog.cellsOf 3)) = xs[0]? := hf 0 _ rfl
  have h1 : DataW.trod enc Try.prog W base spare held n 36 ((cs.drop 1).take (Try.prog.cellsOf 36)) = xs[1]? := hf 1 _ rfl
  have h2 : DataW.trod enc Try.prog W base spare held n 3 ((cs.drop 8).take (Try.prog.cellsOf 3)) = xs[2]? := hf 2 _ rfl
  rw [cellsA] at hlen
  rw [cellsI] at h1
  rw [cellsInt] at h0 h2
  have hx : xs.length = 3 := hxl
  rw [List.getElem?_eq_getElem (by omega)] at h0 h1 h2
  obtain ⟨n0, e0, _, _⟩ := DataW.trod_int Try.underlying3 h0
  obtain ⟨k, e1⟩ := open_item h1
  obtain ⟨n2, e2, _, _⟩ := DataW.trod_int Try.underlying3 h2
  match cs, hlen with
  | [c0, c1, c2, c3, c4, c5, c6, c7, c8], _ =>
    simp [encI, encE] at e0 e1 e2
    obtain ⟨f0, f1, f2, f3, f4, f5, f6⟩ := e1
    exact ⟨(n0, k, n2), by rw [e0, f0, f1, f2, f3, f4, f5, f6, e2]; rfl⟩
set_option maxRecDepth 100000 in
theorem open_acts {fuel : Nat} {v : Value} {x : DataW H × List MemPlace} (h : DataW.trod enc Try.prog W base spare held fuel 22 [v] = some x) : ∃ a n c l, v = .slice a n c ∧ l.length = n ∧ n ≤ maxLen ∧ (n ≤ 1000000 → AcAt W a n l) := by
  rcases open_slice Try.underlying22 h with ⟨hcs, _⟩ | ⟨a, len, cap, m, n, D, Pl, hcs, _, hl, hm, hmm, _, hi⟩
  · simp at hcs
    subst hcs
    exact ⟨none, 0, 0, [], rfl, rfl, Nat.zero_le _, fun _ => ⟨rfl, by omega, .inl rfl⟩⟩
  · simp at hcs
    subst hcs
    have hlm : len ≤ m := by rw [hmm]; split <;> omega
    have hall : ∀ i, ∃ y : Ac, i < len → ∀ c, c < 9 → W.cell? (a.add (i * 9 + c)) = (encA y)[c]? := fun i => by
      by_cases hil : i < len
      · obtain ⟨cs', hc, ht⟩ := hi i (by omega)
        rw [cellsA] at hc
        obtain ⟨y, rfl⟩ := open_act ht
        obtain ⟨_, _, hat⟩ := World.cells?_some hc
        refine ⟨y, fun _ c hc6 => ?_⟩
        have e := hat c hc6
        rw [Addr.add_add] at e
        exact e
      · exact ⟨(0, (((0, 0, 0), 0, 0, 0), 0), 0), fun h => absurd h hil⟩
    obtain ⟨f, hf⟩ := Classical.axiomOfChoice hall
    refine ⟨some a, len, cap, (List.range len).map f, rfl, by simp, by omega, fun hbig => ⟨by simp, hbig, ?_⟩⟩
    by_cases h0 : len = 0
    · exact .inl h0
    · obtain ⟨B, off, spot⟩ := a
      have hs := hf 0 (by omega) 0 (by decide)
      have hspot : spot = none := by
        have hs' : W.cell? ((⟨B, off, spot⟩ : Addr).add (0 * 9 + 0)) = some (.int .i64 (f 0).1) := hs
        simpa [Addr.add] using World.cell?_spot hs'
      subst hspot
      refine .inr ⟨B, off, rfl, ?_, fun i hi' => fun c hc => ?_⟩
      · have hs' : W.cell? ((⟨B, off, none⟩ : Addr).add (0 * 9 + 0)) = some (.int .i64 (f 0).1) := hs
        have := World.block_lt_of_cell? W _ hs'
        rwa [Addr.add_lit] at this
      · have hil : i < len := by simpa using hi'
        have := hf i hil c hc
        rw [Addr.add_lit, ← Nat.add_assoc] at this
        rw [this]
        simp
theorem open_actsV {fuel : Nat} {v : Value} {x : DataW H × List MemPlace} (h : DataW.trod enc Try.prog W base spare held fuel 22 v.cells.toList = some x) (hv : ∃ a n c, v = .slice a n c) : ∃ a n c l, v = .slice a n c ∧ l.length = n ∧ n ≤ maxLen ∧ (n ≤ 1000000 → AcAt W a n l) := by
  obtain ⟨a, n, c, rfl⟩ := hv
  rw [show (Value.slice a n c).cells.toList = [Value.slice a n c] from rfl] at h
  exact open_acts h
end
end Go.Proofs.Ytgfoagpmkbdciaa
