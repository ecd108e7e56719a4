/-
  Two pairs side by side, apart, and boxes beside them; frames of temporaries under a name.
-/
import Derived.Test.YtifniehfbafcoaaGDuo
import Derived.RangeFuncNested
namespace Go.Proofs.Ytifniehfbafcoaa
open Go Go.RowKit Go.Proofs

section
variable {α β : Type} {A : Thing α} {B : Thing β} {w W : World} {G R G2 R2 : Nat} {x x' : α} {y y' : β} {X : List (Nat × Obj)} {P : Program} {f : Nat} {args : Array Value} {v : Value}
variable (A B) in
/-- two pairs, apart, both behind w; and what else stands there -/
def FourX (w W : World) (G R G2 R2 : Nat) (x : α) (y : β) (x' : α) (y' : β) (X : List (Nat × Obj)) : Prop :=
  ∃ T U, (∀ b, T b → w.heap.size ≤ b) ∧ (∀ b, U b → w.heap.size ≤ b) ∧ (∀ b, T b → ¬ U b) ∧ Pair A B T W G R x y ∧ Pair A B U W G2 R2 x' y' ∧ Below w.heap.size w W ∧ ∀ p ∈ X, ¬ T p.1 ∧ ¬ U p.1 ∧ W.heap[p.1]? = some p.2
theorem Four.withX {W' : World} (h : Four A B w W G R G2 R2 x y x' y') (hb : Below W.heap.size W W') (hX : ∀ p ∈ X, W.heap.size ≤ p.1 ∧ W'.heap[p.1]? = some p.2) : FourX A B w W' G R G2 R2 x y x' y' X := by
  obtain ⟨T, U, h1, h2, h3, h4, h5, h6⟩ := h
  exact ⟨T, U, h1, h2, h3, h4.below hb, h5.below hb, h6.trans (hb.mono h6.size), fun p hp => ⟨fun e => Nat.lt_irrefl _ (Nat.lt_of_lt_of_le (h4.lt _ e) (hX p hp).1), fun e => Nat.lt_irrefl _ (Nat.lt_of_lt_of_le (h5.lt _ e) (hX p hp).1), (hX p hp).2⟩⟩
theorem FourX.four (h : FourX A B w W G R G2 R2 x y x' y' X) : Four A B w W G R G2 R2 x y x' y' := by
  obtain ⟨T, U, h1, h2, h3, h4, h5, h6, h7⟩ := h
  exact ⟨T, U, h1, h2, h3, h4, h5, h6⟩
theorem FourX.turn (h : FourX A B w W G R G2 R2 x y x' y' X) : FourX A B w W G2 R2 G R x' y' x y X := by
  obtain ⟨T, U, h1, h2, h3, h4, h5, h6, h7⟩ := h
  exact ⟨U, T, h2, h1, fun b e k => h3 b k e, h5, h4, h6, fun p hp => ⟨(h7 p hp).2.1, (h7 p hp).1, (h7 p hp).2.2⟩⟩
theorem FourX.out (h : FourX A B w W G R G2 R2 x y x' y' X) : Below w.heap.size w W := h.four.out
theorem FourX.fst (h : FourX A B w W G R G2 R2 x y x' y' X) : ∃ F, A.at_ W G F x := h.four.fst
theorem FourX.snd (h : FourX A B w W G R G2 R2 x y x' y' X) : ∃ S, B.at_ W R S y := h.four.snd
theorem FourX.get (h : FourX A B w W G R G2 R2 x y x' y' X) {b : Nat} {o : Obj} (hm : (b, o) ∈ X) : W.heap[b]? = some o := by
  obtain ⟨T, U, h1, h2, h3, h4, h5, h6, h7⟩ := h
  exact (h7 _ hm).2.2
theorem FourX.below {W' : World} (h : FourX A B w W G R G2 R2 x y x' y' X) (hb : Below W.heap.size W W') : FourX A B w W' G R G2 R2 x y x' y' X := by
  obtain ⟨T, U, h1, h2, h3, h4, h5, h6, h7⟩ := h
  exact ⟨T, U, h1, h2, h3, h4.below hb, h5.below hb, h6.trans (hb.mono h6.size), fun p hp => ⟨(h7 p hp).1, (h7 p hp).2.1, (hb.block _ (Array.getElem?_eq_some_iff.1 (h7 p hp).2.2).1).trans (h7 p hp).2.2⟩⟩
theorem FourX.l {p : α → β → Prop} (h : FourX A B w W G R G2 R2 x y x' y' X) (hc : ∀ T, Duo A B T W W G R x y [] → Calls P f args W (fun e W' => ∃ x2 y2, p x2 y2 ∧ DuoTo A B v T W G R x2 y2 [] e W')) :
    Calls P f args W (fun e W' => e = .returned v ∧ ∃ x2 y2, p x2 y2 ∧ FourX A B w W' G R G2 R2 x2 y2 x' y' X) := by
  obtain ⟨T, U, h1, h2, h3, h4, h5, h6, h7⟩ := h
  refine (hc T h4.start).mono fun e W' ⟨x2, y2, hp, he, k⟩ => ⟨he, x2, y2, hp, Ext T W W', U, fun b hb => ?_, h2, fun b hb hu => ?_, k.stop h4.lt, h5.but k.keep fun b hu ht => h3 b ht hu, h6.trans (k.keep.below h6.size h1), fun q hq => ?_⟩
  · rcases hb with e | e
    · exact h1 b e
    · exact Nat.le_trans h6.size e.1
  · rcases hb with e | e
    · exact h3 b e hu
    · have := h5.lt b hu
      omega
  · obtain ⟨q1, q2, q3⟩ := h7 q hq
    have hl := (Array.getElem?_eq_some_iff.1 q3).1
    exact ⟨fun e => e.elim q1 fun e => absurd hl (Nat.not_lt.2 e.1), q2, (k.keep.block _ hl q1).trans q3⟩
theorem FourX.r {p : α → β → Prop} (h : FourX A B w W G R G2 R2 x y x' y' X) (hc : ∀ T, Duo A B T W W G2 R2 x' y' [] → Calls P f args W (fun e W' => ∃ x2 y2, p x2 y2 ∧ DuoTo A B v T W G2 R2 x2 y2 [] e W')) :
    Calls P f args W (fun e W' => e = .returned v ∧ ∃ x2 y2, p x2 y2 ∧ FourX A B w W' G R G2 R2 x y x2 y2 X) :=
  (h.turn.l hc).mono fun _ _ ⟨he, x2, y2, hp, k⟩ => ⟨he, x2, y2, hp, k.turn⟩
end
/-- the temporaries under a name -/
theorem tmps_named {F : Fence} {n : Nat} {P : Program} {c : Code} {Q : Exit → Act → World → Prop} {tm : Array Value} {df : List Deferred} {w : World} (h : ∀ t, t = tm → c.wpIn F n P Q { tmps := t, defers := df } w) : c.wpIn F n P Q { tmps := tm, defers := df } w := h tm rfl
end Go.Proofs.Ytifniehfbafcoaa
