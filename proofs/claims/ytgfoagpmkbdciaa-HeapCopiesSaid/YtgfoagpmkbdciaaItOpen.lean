/-
  Arguments that are rows of items, opened to cells.
-/
import Derived.Test.YtgfoagpmkbdciaaHMem
import Derived.Deep.Slices
import Derived.Deep.Fields
import Derived.Lib.SmallJoins
import Derived.ChangeSame
import Derived.ProofKit
import Derived.OpenShut
namespace Go.Proofs.Ytgfoagpmkbdciaa
open Go Go.ChangeShapes Go.WideShapes Go.RowKit Go.Joins Go.Deep

section
variable {H : Type} {enc : TypeId × Value → H} {W : World} {base : Nat} {spare : Nat → Bool} {held : Bool}

theorem cellsK : Try.prog.cellsOf 32 = 3 := by kernel_rfl
theorem cellsE : Try.prog.cellsOf 34 = 6 := by kernel_rfl
theorem cells64 : Try.prog.cellsOf 2 = 1 := by kernel_rfl
theorem cellsInt : Try.prog.cellsOf 3 = 1 := by kernel_rfl

set_option maxRecDepth 100000 in
theorem open_key {fuel : Nat} {cs : List Value} {x : DataW H × List MemPlace} (h : DataW.trod enc Try.prog W base spare held fuel 32 cs = some x) : ∃ y : Ky, cs = encK y := by
  obtain ⟨xs, n, _, _, hlen, hxl, hf⟩ := DataW.trod_struct Try.underlying32 h
  have h0 : DataW.trod enc Try.prog W base spare held n 2 ((cs.drop 0).take (Try.prog.cellsOf 2)) = xs[0]? := hf 0 _ rfl
  have h1 : DataW.trod enc Try.prog W base spare held n 3 ((cs.drop 1).take (Try.prog.cellsOf 3)) = xs[1]? := hf 1 _ rfl
  have h2 : DataW.trod enc Try.prog W base spare held n 2 ((cs.drop 2).take (Try.prog.cellsOf 2)) = xs[2]? := hf 2 _ rfl
  rw [cellsK] at hlen
  rw [cells64] at h0 h2
  rw [cellsInt] at h1
  have hx : xs.length = 3 := hxl
  rw [List.getElem?_eq_getElem (by omega)] at h0 h1 h2
  obtain ⟨n0, e0, _, _⟩ := DataW.trod_int Try.underlying2 h0
  obtain ⟨n1, e1, _, _⟩ := DataW.trod_int Try.underlying3 h1
  obtain ⟨n2, e2, _, _⟩ := DataW.trod_int Try.underlying2 h2
  match cs, hlen with
  | [c0, c1, c2], _ =>
    simp at e0 e1 e2
    exact ⟨(n0, n1, n2), by rw [e0, e1, e2]; rfl⟩
set_option maxRecDepth 100000 in
theorem open_event {fuel : Nat} {cs : List Value} {x : DataW H × List MemPlace} (h : DataW.trod enc Try.prog W base spare held fuel 34 cs = some x) : ∃ y : Ev, cs = encE y := by
  obtain ⟨xs, n, _, _, hlen, hxl, hf⟩ := DataW.trod_struct Try.underlying34 h
  have h0 : DataW.trod enc Try.prog W base spare held n 32 ((cs.drop 0).take (Try.prog.cellsOf 32)) = xs[0]? := hf 0 _ rfl
  have h1 : DataW.trod enc Try.prog W base spare held n 3 ((cs.drop 3).take (Try.prog.cellsOf 3)) = xs[1]? := hf 1 _ rfl
  have h2 : DataW.trod enc Try.prog W base spare held n 3 ((cs.drop 4).take (Try.prog.cellsOf 3)) = xs[2]? := hf 2 _ rfl
  have h3 : DataW.trod enc Try.prog W base spare held n 2 ((cs.drop 5).take (Try.prog.cellsOf 2)) = xs[3]? := hf 3 _ rfl
  rw [cellsE] at hlen
  rw [cellsK] at h0
  rw [cells64] at h3
  rw [cellsInt] at h1 h2
  have hx : xs.length = 4 := hxl
  rw [List.getElem?_eq_getElem (by omega)] at h0 h1 h2 h3
  obtain ⟨k, e0⟩ := open_key h0
  obtain ⟨n1, e1, _, _⟩ := DataW.trod_int Try.underlying3 h1
  obtain ⟨n2, e2, _, _⟩ := DataW.trod_int Try.underlying3 h2
  obtain ⟨n3, e3, _, _⟩ := DataW.trod_int Try.underlying2 h3
  match cs, hlen with
  | [c0, c1, c2, c3, c4, c5], _ =>
    simp [encK] at e0 e1 e2 e3
    obtain ⟨f0, f1, f2⟩ := e0
    exact ⟨(k, n1, n2, n3), by rw [f0, f1, f2, e1, e2, e3]; rfl⟩

theorem cellsI : Try.prog.cellsOf 36 = 7 := by kernel_rfl
set_option maxRecDepth 100000 in
theorem open_item {fuel : Nat} {cs : List Value} {x : DataW H × List MemPlace} (h : DataW.trod enc Try.prog W base spare held fuel 36 cs = some x) : ∃ y : It, cs = encI y := by
  obtain ⟨xs, n, _, _, hlen, hxl, hf⟩ := DataW.trod_struct Try.underlying36 h
  have h0 : DataW.trod enc Try.prog W base spare held n 34 ((cs.drop 0).take (Try.prog.cellsOf 34)) = xs[0]? := hf 0 _ rfl
  have h1 : DataW.trod enc Try.prog W base spare held n 2 ((cs.drop 6).take (Try.prog.cellsOf 2)) = xs[1]? := hf 1 _ rfl
  rw [cellsI] at hlen
  rw [cellsE] at h0
  rw [cells64] at h1
  have hx : xs.length = 2 := hxl
  rw [List.getElem?_eq_getElem (by omega)] at h0 h1
  obtain ⟨k, e0⟩ := open_event h0
  obtain ⟨n1, e1, _, _⟩ := DataW.trod_int Try.underlying2 h1
  match cs, hlen with
  | [c0, c1, c2, c3, c4, c5, c6], _ =>
    simp [encE] at e0 e1
    obtain ⟨f0, f1, f2, f3, f4, f5⟩ := e0
    exact ⟨(k, n1), by rw [f0, f1, f2, f3, f4, f5, e1]; rfl⟩
set_option maxRecDepth 100000 in
theorem open_items {fuel : Nat} {v : Value} {x : DataW H × List MemPlace} (h : DataW.trod enc Try.prog W base spare held fuel 27 [v] = some x) : ∃ a n c l, v = .slice a n c ∧ l.length = n ∧ n ≤ maxLen ∧ (n ≤ 1000000 → ItAt W a n l) := by
  rcases open_slice Try.underlying27 h with ⟨hcs, _⟩ | ⟨a, len, cap, m, n, D, Pl, hcs, _, hl, hm, hmm, _, hi⟩
  · simp at hcs
    subst hcs
    exact ⟨none, 0, 0, [], rfl, rfl, Nat.zero_le _, fun _ => ⟨rfl, by omega, .inl rfl⟩⟩
  · simp at hcs
    subst hcs
    have hlm : len ≤ m := by rw [hmm]; split <;> omega
    have hall : ∀ i, ∃ y : It, i < len → ∀ c, c < 7 → W.cell? (a.add (i * 7 + c)) = (encI y)[c]? := fun i => by
      by_cases hil : i < len
      · obtain ⟨cs', hc, ht⟩ := hi i (by omega)
        rw [cellsI] at hc
        obtain ⟨y, rfl⟩ := open_item ht
        obtain ⟨_, _, hat⟩ := World.cells?_some hc
        refine ⟨y, fun _ c hc6 => ?_⟩
        have e := hat c hc6
        rw [Addr.add_add] at e
        exact e
      · exact ⟨(((0, 0, 0), 0, 0, 0), 0), fun h => absurd h hil⟩
    obtain ⟨f, hf⟩ := Classical.axiomOfChoice hall
    refine ⟨some a, len, cap, (List.range len).map f, rfl, by simp, by omega, fun hbig => ⟨by simp, hbig, ?_⟩⟩
    by_cases h0 : len = 0
    · exact .inl h0
    · obtain ⟨B, off, spot⟩ := a
      have hs := hf 0 (by omega) 0 (by decide)
      have hspot : spot = none := by
        have hs' : W.cell? ((⟨B, off, spot⟩ : Addr).add (0 * 7 + 0)) = some (.int .i64 (f 0).1.1.1) := hs
        simpa [Addr.add] using World.cell?_spot hs'
      subst hspot
      refine .inr ⟨B, off, rfl, ?_, fun i hi' => fun c hc => ?_⟩
      · have hs' : W.cell? ((⟨B, off, none⟩ : Addr).add (0 * 7 + 0)) = some (.int .i64 (f 0).1.1.1) := hs
        have := World.block_lt_of_cell? W _ hs'
        rwa [Addr.add_lit] at this
      · have hil : i < len := by simpa using hi'
        have := hf i hil c hc
        rw [Addr.add_lit, ← Nat.add_assoc] at this
        rw [this]
        simp
theorem open_itemsV {fuel : Nat} {v : Value} {x : DataW H × List MemPlace} (h : DataW.trod enc Try.prog W base spare held fuel 27 v.cells.toList = some x) (hv : ∃ a n c, v = .slice a n c) : ∃ a n c l, v = .slice a n c ∧ l.length = n ∧ n ≤ maxLen ∧ (n ≤ 1000000 → ItAt W a n l) := by
  obtain ⟨a, n, c, rfl⟩ := hv
  rw [show (Value.slice a n c).cells.toList = [Value.slice a n c] from rfl] at h
  exact open_items h
end
end Go.Proofs.Ytgfoagpmkbdciaa
