/-
  One thing behind a world, and boxes beside it.
-/
import Derived.Test.YtfchfhkhflghbaaGDuo
namespace Go.Proofs.Ytfchfhkhflghbaa
open Go Go.RowKit Go.Proofs

section
variable {α : Type} {A : Thing α} {w W : World} {G : Nat} {x : α} {X : List (Nat × Obj)} {P : Program} {f : Nat} {args : Array Value} {v : Value}
variable (A) in
/-- a thing that lies behind w's blocks; and what else stands there -/
def Uno (w W : World) (G : Nat) (x : α) (X : List (Nat × Obj)) : Prop :=
  ∃ F, (∀ b, F b → w.heap.size ≤ b) ∧ A.at_ W G F x ∧ Below w.heap.size w W ∧ ∀ p ∈ X, ¬ F p.1 ∧ W.heap[p.1]? = some p.2
theorem Uno.out (h : Uno A w W G x X) : Below w.heap.size w W := by
  obtain ⟨F, h1, h2, h3, h4⟩ := h
  exact h3
theorem Uno.get (h : Uno A w W G x X) {b : Nat} {o : Obj} (hm : (b, o) ∈ X) : W.heap[b]? = some o := by
  obtain ⟨F, h1, h2, h3, h4⟩ := h
  exact (h4 _ hm).2
theorem Uno.below {W' : World} (h : Uno A w W G x X) (hb : Below W.heap.size W W') : Uno A w W' G x X := by
  obtain ⟨F, h1, h2, h3, h4⟩ := h
  exact ⟨F, h1, Thing.below h2 hb, h3.trans (hb.mono h3.size), fun p hp => ⟨(h4 p hp).1, (hb.block _ (Array.getElem?_eq_some_iff.1 (h4 p hp).2).1).trans (h4 p hp).2⟩⟩
theorem Uno.box (h : Uno A w W G x X) (o : Obj) : Uno A w (W.alloc o) G x ((W.heap.size, o) :: X) := by
  have hb : Below W.heap.size W (W.alloc o) := (Below.refl W.heap.size W).alloc (Nat.le_refl _) o
  obtain ⟨F, h1, h2, h3, h4⟩ := h
  refine ⟨F, h1, Thing.below h2 hb, h3.trans (hb.mono h3.size), fun p hp => ?_⟩
  rcases List.mem_cons.1 hp with rfl | hp
  · exact ⟨fun e => Nat.lt_irrefl _ (A.lt h2 _ e), heap_alloc_new _ _⟩
  · exact ⟨(h4 p hp).1, (hb.block _ (Array.getElem?_eq_some_iff.1 (h4 p hp).2).1).trans (h4 p hp).2⟩
theorem Uno.less (h : Uno A w W G x X) : Uno A w W G x [] := by
  obtain ⟨F, h1, h2, h3, h4⟩ := h
  exact ⟨F, h1, h2, h3, fun _ h => absurd h (List.not_mem_nil)⟩
theorem Uno.at_ (h : Uno A w W G x X) : ∃ F, A.at_ W G F x := by
  obtain ⟨F, h1, h2, h3, h4⟩ := h
  exact ⟨F, h2⟩
/-- a new one -/
theorem Uno.new (hb : Below w.heap.size w W) (hc : Calls P f args W (A.New x W)) : Calls P f args W (fun e W' => ∃ G, e = .returned (.pointer (some ⟨G, 0, none⟩)) ∧ Uno A w W' G x []) :=
  hc.mono fun _ _ ⟨G, F, he, h1, h2, h3⟩ => ⟨G, he, F, fun b e => Nat.le_trans hb.size (h2 b e), h1, hb.trans (h3.mono hb.size), fun _ h => absurd h (List.not_mem_nil)⟩
/-- it stands for another one now -/
theorem Uno.l {x2 : α} (h : Uno A w W G x X) (hc : ∀ F, A.at_ W G F x → Calls P f args W (A.To v G F x2 W)) : Calls P f args W (fun e W' => e = .returned v ∧ Uno A w W' G x2 X) := by
  obtain ⟨F, h1, h2, h3, h4⟩ := h
  have hz := h3.size
  refine (hc F h2).mono fun e W' ⟨he, k1, k2⟩ => ⟨he, _, fun b hb => ?_, k1, h3.trans (k2.below hz h1), fun p hp => ?_⟩
  · rcases hb with hb | hb
    · exact h1 b hb
    · exact Nat.le_trans hz hb.1
  · obtain ⟨p1, p2⟩ := h4 p hp
    have hl := (Array.getElem?_eq_some_iff.1 p2).1
    exact ⟨fun e => e.elim p1 fun e => absurd hl (Nat.not_lt.2 e.1), (k2.block _ hl p1).trans p2⟩
/-- what only lays blocks -/
theorem Uno.l0 (h : Uno A w W G x X) (hc : ∀ F, A.at_ W G F x → Calls P f args W (Tells v W)) : Calls P f args W (fun e W' => e = .returned v ∧ Uno A w W' G x X) := by
  obtain ⟨F, hF⟩ := h.at_
  exact (hc F hF).mono fun e W' ⟨he, k⟩ => ⟨he, h.below k⟩
end
end Go.Proofs.Ytfchfhkhflghbaa
