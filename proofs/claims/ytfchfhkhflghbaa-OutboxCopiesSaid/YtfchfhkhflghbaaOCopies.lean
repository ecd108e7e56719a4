/-
  The walk of the law OutboxCopies: two outboxes and the document's two, apart; the document's two read the same rows.
-/
import Derived.Test.YtfchfhkhflghbaaOPlays
import Derived.Test.YtfchfhkhflghbaaDSame
namespace Go.Proofs.Ytfchfhkhflghbaa
open Go Go.RowKit Go.Lib Go.Sort Go.Proofs

/-- two outboxes in blocks of their own, the document's two boxes, the blocks that both read; all behind w -/
def Fr (w W : World) (G R G2 R2 : Nat) (x : St) (y : Dt) (x' : St) (y' : Dt) : Prop :=
  ∃ F F2 Z : Nat → Prop, (∀ b, F b → w.heap.size ≤ b) ∧ (∀ b, F2 b → w.heap.size ≤ b) ∧ (∀ b, Z b → w.heap.size ≤ b) ∧ w.heap.size ≤ R ∧ w.heap.size ≤ R2 ∧ R ≠ R2 ∧ (∀ b, F b → ¬ F2 b) ∧ (∀ b, F b → ¬ Z b ∧ b ≠ R ∧ b ≠ R2) ∧ (∀ b, F2 b → ¬ Z b ∧ b ≠ R ∧ b ≠ R2) ∧ ¬ Z R ∧ ¬ Z R2 ∧
    Ob W G F x ∧ Ob W G2 F2 x' ∧ Rf W R (fun b => b = R ∨ Z b) y ∧ Rf W R2 (fun b => b = R2 ∨ Z b) y' ∧ Below w.heap.size w W
section
variable {w W : World} {G R G2 R2 : Nat} {x x' : St} {y y' : Dt}
theorem Fr.turn (h : Fr w W G R G2 R2 x y x' y') : Fr w W G2 R2 G R x' y' x y := by
  obtain ⟨F, F2, Z, h1, h2, h3, h4, h5, h6, h7, h8, h9, h10, h11, h12, h13, h14, h15, h16⟩ := h
  exact ⟨F2, F, Z, h2, h1, h3, h5, h4, fun e => h6 e.symm, fun b e k => h7 b k e, fun b e => ⟨(h9 b e).1, (h9 b e).2.2, (h9 b e).2.1⟩, fun b e => ⟨(h8 b e).1, (h8 b e).2.2, (h8 b e).2.1⟩, h11, h10, h13, h12, h15, h14, h16⟩
theorem Fr.out (h : Fr w W G R G2 R2 x y x' y') : Below w.heap.size w W := by
  obtain ⟨F, F2, Z, h1, h2, h3, h4, h5, h6, h7, h8, h9, h10, h11, h12, h13, h14, h15, h16⟩ := h
  exact h16
theorem Fr.below {W' : World} (h : Fr w W G R G2 R2 x y x' y') (hb : Below W.heap.size W W') : Fr w W' G R G2 R2 x y x' y' := by
  obtain ⟨F, F2, Z, h1, h2, h3, h4, h5, h6, h7, h8, h9, h10, h11, h12, h13, h14, h15, h16⟩ := h
  exact ⟨F, F2, Z, h1, h2, h3, h4, h5, h6, h7, h8, h9, h10, h11, h12.below hb, h13.below hb, h14.below hb, h15.below hb, h16.trans (hb.mono h16.size)⟩
theorem Rf.wide {w : World} {R : Nat} {S T : Nat → Prop} {y : Dt} (h : Rf w R S y) (h1 : ∀ b, S b → T b) (h2 : ∀ b, T b → b < w.heap.size) : Rf w R T y := by
  obtain ⟨a, c, d, e, k1, k2, k3, k4, k5, k6, k7, r⟩ := h
  exact ⟨a, c, d, e, k1, k2, k3, h1 _ k4, h2, fun p e => ⟨h1 _ (k6 p e).1, (k6 p e).2⟩, fun p e => ⟨h1 _ (k7 p e).1, (k7 p e).2⟩, r⟩
theorem Rf.lt {w : World} {R : Nat} {S : Nat → Prop} {y : Dt} (h : Rf w R S y) : ∀ b, S b → b < w.heap.size := rfT.lt h
theorem Rf.but {w w' : World} {R : Nat} {S T : Nat → Prop} {y : Dt} (h : Rf w R S y) (hb : But T w w') (hT : ∀ b, S b → ¬ T b) : Rf w' R S y := rfT.but h hb hT
/-- what is done by the first pair leaves the other one alone -/
theorem Fr.l {f : Nat} {args : Array Value} {v : Value} {p : St → Dt → Prop} (h : Fr w W G R G2 R2 x y x' y')
    (hc : ∀ T Z, (∀ b, T b → w.heap.size ≤ b) → Dd T Z W W G R x y [] → Calls Try.prog f args W (fun e W' => e = .returned v ∧ ∃ x2 y2, p x2 y2 ∧ Dd T Z W W' G R x2 y2 [])) :
    Calls Try.prog f args W (fun e W' => e = .returned v ∧ ∃ x2 y2, p x2 y2 ∧ Fr w W' G R G2 R2 x2 y2 x' y') := by
  obtain ⟨F, F2, Z, h1, h2, h3, h4, h5, h6, h7, h8, h9, h10, h11, h12, h13, h14, h15, h16⟩ := h
  have hF2 := obT.lt h13
  have hR2 := h15.lt
  have hR := h14.lt
  have hz := h16.size
  refine (hc (fun b => F b ∨ b = R) Z (fun b e => e.elim (h1 b) fun e => e ▸ h4) ⟨F, fun b => b = R ∨ Z b, fun b e => .inl (.inl e), fun b e => e.elim .inl fun e => .inr (.inl e), fun b e k => k.elim (fun k => (h8 b e).2.1 k) (h8 b e).1, .inl (.inr rfl), h12, h14, But.refl _ _, fun _ h => absurd h (List.not_mem_nil)⟩).mono fun e W' ⟨he, x2, y2, hp, F', S', q1, q2, q3, q4, q5, q6, q7, _⟩ => ⟨he, x2, y2, hp, ?_⟩
  have hs := q7.size
  have hSR := Rf.R_in q6
  have hF'lt := obT.lt q5
  have hS'lt := q6.lt
  have nT : ∀ b, (b = R2 ∨ Z b) → ¬ (F b ∨ b = R) := fun b e k => by
    rcases k with k | k
    · rcases e with e | e
      · exact (h8 b k).2.2 e
      · exact (h8 b k).1 e
    · rcases e with e | e
      · exact h6 (k.symm.trans e)
      · exact h10 (k ▸ e)
  refine ⟨F', F2, fun b => Z b ∨ (S' b ∧ b ≠ R ∧ W.heap.size ≤ b), fun b e => ?_, h2, fun b e => ?_, h4, h5, h6, fun b e k => ?_, fun b e => ⟨fun k => ?_, fun k => ?_, fun k => ?_⟩, fun b e => ⟨fun k => ?_, (h9 b e).2.1, (h9 b e).2.2⟩, fun k => ?_, fun k => ?_, q5, obT.but h13 q7 fun b e k => ?_, q6.wide (fun b e => ?_) (fun b e => ?_), (h15.but q7 nT).wide (fun b e => e.imp id .inl) (fun b e => ?_), h16.trans (q7.below hz fun k e => e.elim (h1 k) fun e => e ▸ h4)⟩
  · rcases q1 b e with (e | e) | e
    · exact h1 b e
    · exact e ▸ h4
    · exact Nat.le_trans hz e
  · rcases e with e | e
    · exact h3 b e
    · exact Nat.le_trans hz e.2.2
  · rcases q1 b e with (e | e) | e
    · exact h7 b e k
    · exact (h9 b k).2.1 e
    · exact absurd (hF2 b k) (Nat.not_lt.2 e)
  · rcases k with k | k
    · rcases q1 b e with (e2 | e2) | e2
      · exact (h8 b e2).1 k
      · exact h10 (e2 ▸ k)
      · exact absurd (hR b (.inr k)) (Nat.not_lt.2 e2)
    · exact q3 b e k.1
  · exact q3 b e (k ▸ hSR)
  · rcases q1 b e with (e2 | e2) | e2
    · exact (h8 b e2).2.2 k
    · exact h6 (e2.symm.trans k)
    · exact absurd (hR2 b (.inl k)) (Nat.not_lt.2 e2)
  · rcases k with k | k
    · exact (h9 b e).1 k
    · exact absurd (hF2 b e) (Nat.not_lt.2 k.2.2)
  · rcases k with k | k
    · exact h10 k
    · exact k.2.1 rfl
  · rcases k with k | k
    · exact h11 k
    · exact absurd (hR2 R2 (.inl rfl)) (Nat.not_lt.2 k.2.2)
  · rcases k with k | k
    · exact h7 b k e
    · exact (h9 b e).2.1 k
  · rcases q2 b e with e2 | e2 | e2
    · exact .inl e2
    · exact .inr (.inl e2)
    · by_cases hb : b = R
      · exact .inl hb
      · exact .inr (.inr ⟨e, hb, e2⟩)
  · rcases e with e | e | e
    · exact e ▸ hS'lt R hSR
    · exact Nat.lt_of_lt_of_le (hR b (.inr e)) hs
    · exact hS'lt b e.1
  · rcases e with e | e | e
    · exact Nat.lt_of_lt_of_le (hR2 b (.inl e)) hs
    · exact Nat.lt_of_lt_of_le (hR b (.inr e)) hs
    · exact hS'lt b e.1
end
end Go.Proofs.Ytfchfhkhflghbaa
