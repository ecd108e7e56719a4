/-
  Arguments that are keys, events, and rows of them, opened to cells.
-/
import Derived.Test.YtehnoekbdmclmaaEvMem
import Derived.Deep.Slices
import Derived.Deep.Fields
import Derived.Lib.SmallJoins
import Derived.ChangeSame
import Derived.ProofKit
import Derived.OpenShut
namespace Go.Proofs.Ytehnoekbdmclmaa
open Go Go.ChangeShapes Go.WideShapes Go.RowKit Go.Joins Go.Deep

section
variable {H : Type} {enc : TypeId × Value → H} {W : World} {base : Nat} {spare : Nat → Bool} {held : Bool}

theorem cellsK : Try.prog.cellsOf 23 = 3 := by kernel_rfl
theorem cellsE : Try.prog.cellsOf 28 = 6 := by kernel_rfl
theorem cells64 : Try.prog.cellsOf 2 = 1 := by kernel_rfl
theorem cellsInt : Try.prog.cellsOf 3 = 1 := by kernel_rfl

theorem open_key {fuel : Nat} {cs : List Value} {x : DataW H × List MemPlace} (h : DataW.trod enc Try.prog W base spare held fuel 23 cs = some x) : ∃ y : Ky, cs = encK y := by
  obtain ⟨xs, n, _, _, hlen, hxl, hf⟩ := DataW.trod_struct Try.underlying23 h
  have h0 : DataW.trod enc Try.prog W base spare held n 2 ((cs.drop 0).take (Try.prog.cellsOf 2)) = xs[0]? := hf 0 _ rfl
  have h1 : DataW.trod enc Try.prog W base spare held n 3 ((cs.drop 1).take (Try.prog.cellsOf 3)) = xs[1]? := hf 1 _ rfl
  have h2 : DataW.trod enc Try.prog W base spare held n 2 ((cs.drop 2).take (Try.prog.cellsOf 2)) = xs[2]? := hf 2 _ rfl
  rw [cellsK] at hlen
  rw [cells64] at h0 h2
  rw [cellsInt] at h1
  have hx : xs.length = 3 := hxl
  rw [List.getElem?_eq_getElem (by omega)] at h0 h1 h2
  obtain ⟨n0, e0, _, _⟩ := DataW.trod_int Try.underlying2 h0
  obtain ⟨n1, e1, _, _⟩ := DataW.trod_int Try.underlying3 h1
  obtain ⟨n2, e2, _, _⟩ := DataW.trod_int Try.underlying2 h2
  match cs, hlen with
  | [c0, c1, c2], _ =>
    simp at e0 e1 e2
    exact ⟨(n0, n1, n2), by rw [e0, e1, e2]; rfl⟩
theorem open_event {fuel : Nat} {cs : List Value} {x : DataW H × List MemPlace} (h : DataW.trod enc Try.prog W base spare held fuel 28 cs = some x) : ∃ y : Ev, cs = encE y := by
  obtain ⟨xs, n, _, _, hlen, hxl, hf⟩ := DataW.trod_struct Try.underlying28 h
  have h0 : DataW.trod enc Try.prog W base spare held n 23 ((cs.drop 0).take (Try.prog.cellsOf 23)) = xs[0]? := hf 0 _ rfl
  have h1 : DataW.trod enc Try.prog W base spare held n 3 ((cs.drop 3).take (Try.prog.cellsOf 3)) = xs[1]? := hf 1 _ rfl
  have h2 : DataW.trod enc Try.prog W base spare held n 3 ((cs.drop 4).take (Try.prog.cellsOf 3)) = xs[2]? := hf 2 _ rfl
  have h3 : DataW.trod enc Try.prog W base spare held n 2 ((cs.drop 5).take (Try.prog.cellsOf 2)) = xs[3]? := hf 3 _ rfl
  rw [cellsE] at hlen
  rw [cellsK] at h0
  rw [cells64] at h3
  rw [cellsInt] at h1 h2
  have hx : xs.length = 4 := hxl
  rw [List.getElem?_eq_getElem (by omega)] at h0 h1 h2 h3
  obtain ⟨k, e0⟩ := open_key h0
  obtain ⟨n1, e1, _, _⟩ := DataW.trod_int Try.underlying3 h1
  obtain ⟨n2, e2, _, _⟩ := DataW.trod_int Try.underlying3 h2
  obtain ⟨n3, e3, _, _⟩ := DataW.trod_int Try.underlying2 h3
  match cs, hlen with
  | [c0, c1, c2, c3, c4, c5], _ =>
    simp [encK] at e0 e1 e2 e3
    obtain ⟨f0, f1, f2⟩ := e0
    exact ⟨(k, n1, n2, n3), by rw [f0, f1, f2, e1, e2, e3]; rfl⟩

/-- a slice reads as keys -/
def KyCell (w : World) (B o : Nat) (x : Ky) : Prop := w.cell? ⟨B, o, none⟩ = some (.int .i64 x.1) ∧ w.cell? ⟨B, o + 1, none⟩ = some (.int .i64 x.2.1) ∧ w.cell? ⟨B, o + 2, none⟩ = some (.int .i64 x.2.2)
def KyAt (w : World) (a : Option Addr) (n : Nat) (l : List Ky) : Prop :=
  l.length = n ∧ (n = 0 ∨ ∃ B off, a = some ⟨B, off, none⟩ ∧ B < w.heap.size ∧ ∀ i (hi : i < l.length), KyCell w B (off + i * 3) l[i])

theorem add_spot {B off : Nat} (j : Nat) : (⟨B, off, none⟩ : Addr).add j = ⟨B, off + j, none⟩ := by unfold Addr.add; split <;> simp_all

theorem open_events {fuel : Nat} {v : Value} {x : DataW H × List MemPlace} (h : DataW.trod enc Try.prog W base spare held fuel 33 [v] = some x) : ∃ a n c l, v = .slice a n c ∧ l.length = n ∧ n ≤ maxLen ∧ (n ≤ 1000000 → EvAt W a n l) := by
  rcases open_slice Try.underlying33 h with ⟨hcs, _⟩ | ⟨a, len, cap, m, n, D, Pl, hcs, _, hl, hm, hmm, _, hi⟩
  · simp at hcs
    subst hcs
    exact ⟨none, 0, 0, [], rfl, rfl, Nat.zero_le _, fun _ => ⟨rfl, by omega, .inl rfl⟩⟩
  · simp at hcs
    subst hcs
    have hlm : len ≤ m := by rw [hmm]; split <;> omega
    have hall : ∀ i, ∃ y : Ev, i < len → ∀ c, c < 6 → W.cell? (a.add (i * 6 + c)) = (encE y)[c]? := fun i => by
      by_cases hil : i < len
      · obtain ⟨cs', hc, ht⟩ := hi i (by omega)
        rw [cellsE] at hc
        obtain ⟨y, rfl⟩ := open_event ht
        obtain ⟨_, _, hat⟩ := World.cells?_some hc
        refine ⟨y, fun _ c hc6 => ?_⟩
        have e := hat c hc6
        rw [Addr.add_add] at e
        exact e
      · exact ⟨((0, 0, 0), 0, 0, 0), fun h => absurd h hil⟩
    obtain ⟨f, hf⟩ := Classical.axiomOfChoice hall
    refine ⟨some a, len, cap, (List.range len).map f, rfl, by simp, by omega, fun hbig => ⟨by simp, hbig, ?_⟩⟩
    by_cases h0 : len = 0
    · exact .inl h0
    · obtain ⟨B, off, spot⟩ := a
      have hs := hf 0 (by omega) 0 (by decide)
      have hspot : spot = none := by
        have hs' : W.cell? ((⟨B, off, spot⟩ : Addr).add (0 * 6 + 0)) = some (.int .i64 (f 0).1.1) := hs
        simpa [Addr.add] using World.cell?_spot hs'
      subst hspot
      refine .inr ⟨B, off, rfl, ?_, fun i hi' => EvCell.of fun c hc => ?_⟩
      · have hs' : W.cell? ((⟨B, off, none⟩ : Addr).add (0 * 6 + 0)) = some (.int .i64 (f 0).1.1) := hs
        have := World.block_lt_of_cell? W _ hs'
        rwa [add_spot] at this
      · have hil : i < len := by simpa using hi'
        have := hf i hil c hc
        rw [add_spot, ← Nat.add_assoc] at this
        rw [this]
        simp
theorem open_keys {fuel : Nat} {v : Value} {x : DataW H × List MemPlace} (h : DataW.trod enc Try.prog W base spare held fuel 37 [v] = some x) : ∃ a n c l, v = .slice a n c ∧ n ≤ maxLen ∧ KyAt W a n l := by
  rcases open_slice Try.underlying37 h with ⟨hcs, _⟩ | ⟨a, len, cap, m, n, D, Pl, hcs, _, hl, hm, hmm, _, hi⟩
  · simp at hcs
    subst hcs
    exact ⟨none, 0, 0, [], rfl, Nat.zero_le _, rfl, .inl rfl⟩
  · simp at hcs
    subst hcs
    have hlm : len ≤ m := by rw [hmm]; split <;> omega
    have hall : ∀ i, ∃ y : Ky, i < len → ∀ c, c < 3 → W.cell? (a.add (i * 3 + c)) = (encK y)[c]? := fun i => by
      by_cases hil : i < len
      · obtain ⟨cs', hc, ht⟩ := hi i (by omega)
        rw [cellsK] at hc
        obtain ⟨y, rfl⟩ := open_key ht
        obtain ⟨_, _, hat⟩ := World.cells?_some hc
        refine ⟨y, fun _ c hc6 => ?_⟩
        have e := hat c hc6
        rw [Addr.add_add] at e
        exact e
      · exact ⟨(0, 0, 0), fun h => absurd h hil⟩
    obtain ⟨f, hf⟩ := Classical.axiomOfChoice hall
    refine ⟨some a, len, cap, (List.range len).map f, rfl, by omega, by simp, ?_⟩
    by_cases h0 : len = 0
    · exact .inl h0
    · obtain ⟨B, off, spot⟩ := a
      have hs := hf 0 (by omega) 0 (by decide)
      have hspot : spot = none := by
        have hs' : W.cell? ((⟨B, off, spot⟩ : Addr).add (0 * 3 + 0)) = some (.int .i64 (f 0).1) := hs
        simpa [Addr.add] using World.cell?_spot hs'
      subst hspot
      refine .inr ⟨B, off, rfl, ?_, fun i hi' => ?_⟩
      · have hs' : W.cell? ((⟨B, off, none⟩ : Addr).add (0 * 3 + 0)) = some (.int .i64 (f 0).1) := hs
        have := World.block_lt_of_cell? W _ hs'
        rwa [add_spot] at this
      · have hil : i < len := by simpa using hi'
        have e : ∀ c, c < 3 → W.cell? ⟨B, off + i * 3 + c, none⟩ = (encK (f i))[c]? := fun c hc => by
          have := hf i hil c hc
          rwa [add_spot, ← Nat.add_assoc] at this
        simp only [List.getElem_map, List.getElem_range]
        exact ⟨e 0 (by decide), e 1 (by decide), e 2 (by decide)⟩
theorem open_keysV {fuel : Nat} {v : Value} {x : DataW H × List MemPlace} (h : DataW.trod enc Try.prog W base spare held fuel 37 v.cells.toList = some x) (hv : ∃ a n c, v = .slice a n c) : ∃ a n c l, v = .slice a n c ∧ n ≤ maxLen ∧ KyAt W a n l := by
  obtain ⟨a, n, c, rfl⟩ := hv
  rw [show (Value.slice a n c).cells.toList = [Value.slice a n c] from rfl] at h
  exact open_keys h
theorem open_eventsV {fuel : Nat} {v : Value} {x : DataW H × List MemPlace} (h : DataW.trod enc Try.prog W base spare held fuel 33 v.cells.toList = some x) (hv : ∃ a n c, v = .slice a n c) : ∃ a n c l, v = .slice a n c ∧ l.length = n ∧ n ≤ maxLen ∧ (n ≤ 1000000 → EvAt W a n l) := by
  obtain ⟨a, n, c, rfl⟩ := hv
  rw [show (Value.slice a n c).cells.toList = [Value.slice a n c] from rfl] at h
  exact open_events h
/-- a key by value -/
theorem open_keyV {r : Reach} {b0 : Nat} {v : Value} {d : DataW H} {p : List MemPlace} (hv : Value.okWide Try.prog W r b0 23 v) (h : DataW.Trod enc Try.prog W base spare held 23 v d p) : ∃ a b c : Int, v = .agg #[.int .i64 a, .int .i64 b, .int .i64 c] := by
  obtain ⟨cs, rfl, hsz⟩ := okWide_struct Try.underlying23 hv
  obtain ⟨m, hm⟩ := h
  obtain ⟨y, hy⟩ := open_key hm
  exact ⟨y.1, y.2.1, y.2.2, by rw [show cs = #[.int .i64 y.1, .int .i64 y.2.1, .int .i64 y.2.2] from Array.ext' hy]⟩
theorem open_eventV {r : Reach} {b0 : Nat} {v : Value} {d : DataW H} {p : List MemPlace} (hv : Value.okWide Try.prog W r b0 28 v) (h : DataW.Trod enc Try.prog W base spare held 28 v d p) : ∃ a b c e f g : Int, v = .agg #[.int .i64 a, .int .i64 b, .int .i64 c, .int .i64 e, .int .i64 f, .int .i64 g] := by
  obtain ⟨cs, rfl, hsz⟩ := okWide_struct Try.underlying28 hv
  obtain ⟨m, hm⟩ := h
  obtain ⟨y, hy⟩ := open_event hm
  exact ⟨y.1.1, y.1.2.1, y.1.2.2, y.2.1, y.2.2.1, y.2.2.2, by rw [show cs = #[.int .i64 y.1.1, .int .i64 y.1.2.1, .int .i64 y.1.2.2, .int .i64 y.2.1, .int .i64 y.2.2.1, .int .i64 y.2.2.2] from Array.ext' hy]⟩
end
end Go.Proofs.Ytehnoekbdmclmaa
