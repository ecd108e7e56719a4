/-
  Places that may be written, in later worlds.
-/
import Derived.Test.YtclbbpkphfllbaaDoorMoSpot
namespace Go.Proofs.YtclbbpkphfllbaaDoor
open Go Go.RowKit Go.Sort Go.Proofs CodM VmM

section
variable {B E n : Nat} {w w' : World} {a : Option Addr}
theorem Spot.below {p : Addr} (h : Spot w B E p) (hb : Below w.heap.size w w') : Spot w' B E p := by
  obtain ⟨h1, h2, ⟨q, h3⟩, h4⟩ := h
  exact ⟨h1, h2, ⟨q, keepc hb h3⟩, (World.frozen?_of_block (hb.block p.block (World.block_lt_of_cell? w _ h3))).trans h4⟩
theorem SpotV.below (h : SpotV w B E a n) (hb : Below w.heap.size w w') : SpotV w' B E a n := h.imp id fun ⟨V, e, h⟩ => ⟨V, e, fun k hk => (h k hk).below hb⟩
theorem SpotI.below (h : SpotI w B E a n) (hb : Below w.heap.size w w') : SpotI w' B E a n := h.imp id fun ⟨V, e, h⟩ => ⟨V, e, fun k hk => (h k hk).below hb⟩
theorem SpotE.below (h : SpotE w B E a n) (hb : Below w.heap.size w w') : SpotE w' B E a n := h.imp id fun ⟨V, e, h⟩ => ⟨V, e, fun k hk => (h k hk).below hb⟩
theorem SpotK.below (h : SpotK w B E a n) (hb : Below w.heap.size w w') : SpotK w' B E a n := h.imp id fun ⟨V, e, h⟩ => ⟨V, e, fun k hk => by
  obtain ⟨ia, im, ic, h1, h2, h3⟩ := h k hk
  exact ⟨ia, im, ic, keepc hb h1, h2, h3.below hb⟩⟩
theorem SpotPs.below (h : SpotPs w B E a n) (hb : Below w.heap.size w w') : SpotPs w' B E a n := h.imp id fun ⟨V, e, h⟩ => ⟨V, e, fun k hk => by
  obtain ⟨h1, ⟨va, vn, vc, h2, h3, h4⟩, ⟨ka, kn, kc, h5, h6, h7⟩⟩ := h k hk
  exact ⟨h1.below hb, ⟨va, vn, vc, keepc hb h2, h3, h4.below hb⟩, ⟨ka, kn, kc, keepc hb h5, h6, h7.below hb⟩⟩⟩
theorem SpotPs.get {i : Nat} (h : SpotPs w B E a n) (hi : i < n) : ∃ G, a = some ⟨G, 0, none⟩ ∧ SpotP w B E G i := by
  obtain h | ⟨G, e, h⟩ := h
  · omega
  · exact ⟨G, e, h i hi⟩
end
/-- a round of the law's loops -/
def MutR (B E : Nat) (w : World) (n : Nat) (i : Value) (wr : World) : Prop := ∃ k : Nat, k ≤ n ∧ i = .int .i64 k ∧ Mut B E w wr
end Go.Proofs.YtclbbpkphfllbaaDoor
