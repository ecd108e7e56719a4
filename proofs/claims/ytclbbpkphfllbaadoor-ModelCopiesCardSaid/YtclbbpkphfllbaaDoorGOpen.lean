/-
  Arguments that are rows of structs, opened to cells; for any program.
-/
import Derived.Test.YtclbbpkphfllbaaDoorGMem
import Derived.Deep.Slices
import Derived.Deep.Fields
import Derived.Lib.SmallJoins
import Derived.ChangeSame
import Derived.ProofKit
import Derived.OpenShut
namespace Go.Proofs.YtclbbpkphfllbaaDoor
open Go Go.ChangeShapes Go.WideShapes Go.RowKit Go.Joins Go.Deep

section
variable {H : Type} {enc : TypeId × Value → H} {P : Program} {W : World} {base : Nat} {spare : Nat → Bool} {held : Bool} {α : Type} {C : Cod α} {S T : TypeId}
theorem open_rows (hT : P.underlying S = some (.slice T)) (hk : P.cellsOf T = C.k) (x0 : α) (ho : ∀ (fuel : Nat) (cs : List Value) (x : DataW H × List MemPlace), DataW.trod enc P W base spare held fuel T cs = some x → ∃ y : α, cs = C.enc y)
    {fuel : Nat} {v : Value} {x : DataW H × List MemPlace} (h : DataW.trod enc P W base spare held fuel S [v] = some x) : ∃ a n c l, v = .slice a n c ∧ l.length = n ∧ n ≤ maxLen ∧ (n ≤ 1000000 → C.At W a n l) := by
  rcases open_slice hT h with ⟨hcs, _⟩ | ⟨a, len, cap, m, n, D, Pl, hcs, _, hl, hm, hmm, _, hi⟩
  · simp at hcs
    subst hcs
    exact ⟨none, 0, 0, [], rfl, rfl, Nat.zero_le _, fun _ => Cod.At.nil W⟩
  · simp at hcs
    subst hcs
    have hlm : len ≤ m := by rw [hmm]; split <;> omega
    have hall : ∀ i, ∃ y : α, i < len → ∀ c, c < C.k → W.cell? (a.add (i * C.k + c)) = (C.enc y)[c]? := fun i => by
      by_cases hil : i < len
      · obtain ⟨cs', hc, ht⟩ := hi i (by omega)
        rw [hk] at hc
        obtain ⟨y, rfl⟩ := ho _ _ _ ht
        obtain ⟨_, _, hat⟩ := World.cells?_some hc
        refine ⟨y, fun _ c hc6 => ?_⟩
        have e := hat c hc6
        rw [Addr.add_add] at e
        exact e
      · exact ⟨x0, fun h => absurd h hil⟩
    obtain ⟨f, hf⟩ := Classical.axiomOfChoice hall
    refine ⟨some a, len, cap, (List.range len).map f, rfl, by simp, by omega, fun hbig => ⟨by simp, hbig, ?_⟩⟩
    by_cases h0 : len = 0
    · exact .inl h0
    · obtain ⟨B, off, spot⟩ := a
      have hp := C.pos
      have hs := hf 0 (by omega) 0 hp
      obtain ⟨u, hu⟩ : ∃ u, (C.enc (f 0))[0]? = some u := ⟨(C.enc (f 0))[0]'(by rw [C.len]; exact hp), List.getElem?_eq_getElem _⟩
      rw [hu] at hs
      have hspot : spot = none := by simpa [Addr.add] using World.cell?_spot hs
      subst hspot
      refine .inr ⟨B, off, rfl, ?_, fun i hi' => fun c hc => ?_⟩
      · have := World.block_lt_of_cell? W _ hs
        rwa [Addr.add_lit] at this
      · have hil : i < len := by simpa using hi'
        have := hf i hil c hc
        rw [Addr.add_lit, ← Nat.add_assoc] at this
        rw [this]
        simp
theorem open_rowsV (hT : P.underlying S = some (.slice T)) (hk : P.cellsOf T = C.k) (x0 : α) (ho : ∀ (fuel : Nat) (cs : List Value) (x : DataW H × List MemPlace), DataW.trod enc P W base spare held fuel T cs = some x → ∃ y : α, cs = C.enc y)
    {fuel : Nat} {v : Value} {x : DataW H × List MemPlace} (h : DataW.trod enc P W base spare held fuel S v.cells.toList = some x) (hv : ∃ a n c, v = .slice a n c) : ∃ a n c l, v = .slice a n c ∧ l.length = n ∧ n ≤ maxLen ∧ (n ≤ 1000000 → C.At W a n l) := by
  obtain ⟨a, n, c, rfl⟩ := hv
  rw [show (Value.slice a n c).cells.toList = [Value.slice a n c] from rfl] at h
  exact open_rows hT hk x0 ho h
end
end Go.Proofs.YtclbbpkphfllbaaDoor
