/-
  An outbox and the document's, apart, within blocks that may turn and blocks that are read; what is put, what is taken, by both.
-/
import Derived.Test.YtfchfhkhflghbaaOTake
import Derived.Test.YtfchfhkhflghbaaDTake
import Derived.Test.YtfchfhkhflghbaaDPut
namespace Go.Proofs.Ytfchfhkhflghbaa
open Go Go.RowKit Go.Lib Go.Sort Go.Proofs

/-- as it began at w, but within T and behind it, reading within Z too: an outbox and the document's; and what else stands there -/
def Dd (T Z : Nat → Prop) (w W : World) (G R : Nat) (x : St) (y : Dt) (X : List (Nat × Obj)) : Prop :=
  ∃ F S, (∀ b, F b → T b ∨ w.heap.size ≤ b) ∧ (∀ b, S b → b = R ∨ Z b ∨ w.heap.size ≤ b) ∧ (∀ b, F b → ¬ S b) ∧ (T R ∨ w.heap.size ≤ R) ∧ Ob W G F x ∧ Rf W R S y ∧ But T w W ∧ ∀ p ∈ X, ¬ F p.1 ∧ ¬ S p.1 ∧ W.heap[p.1]? = some p.2
def DdTo (v : Value) (T Z : Nat → Prop) (w : World) (G R : Nat) (x : St) (y : Dt) (X : List (Nat × Obj)) (e : Ending) (W' : World) : Prop := e = .returned v ∧ Dd T Z w W' G R x y X
theorem Rf.R_in {w : World} {R : Nat} {S : Nat → Prop} {y : Dt} (h : Rf w R S y) : S R := by
  obtain ⟨a, c, d, e, h1, h2, h3, h4, _⟩ := h
  exact h4
section
variable {T Z : Nat → Prop} {w W : World} {G R : Nat} {x : St} {y : Dt} {X : List (Nat × Obj)} {f : Nat} {args : Array Value} {v : Value}
theorem Dd.keep (h : Dd T Z w W G R x y X) : But T w W := by
  obtain ⟨F, S, h1, h2, h3, h4, h5, h6, h7, h8⟩ := h
  exact h7
theorem Dd.get (h : Dd T Z w W G R x y X) {b : Nat} {o : Obj} (hm : (b, o) ∈ X) : W.heap[b]? = some o := by
  obtain ⟨F, S, h1, h2, h3, h4, h5, h6, h7, h8⟩ := h
  exact (h8 _ hm).2.2
theorem Dd.fst (h : Dd T Z w W G R x y X) : ∃ F, Ob W G F x := by
  obtain ⟨F, S, h1, h2, h3, h4, h5, h6, h7, h8⟩ := h
  exact ⟨F, h5⟩
theorem Dd.snd (h : Dd T Z w W G R x y X) : ∃ S, Rf W R S y := by
  obtain ⟨F, S, h1, h2, h3, h4, h5, h6, h7, h8⟩ := h
  exact ⟨S, h6⟩
theorem Dd.sub (h : Dd T Z w W G R x y X) {Y : List (Nat × Obj)} (hs : ∀ p ∈ Y, p ∈ X) : Dd T Z w W G R x y Y := by
  obtain ⟨F, S, h1, h2, h3, h4, h5, h6, h7, h8⟩ := h
  exact ⟨F, S, h1, h2, h3, h4, h5, h6, h7, fun p hp => h8 p (hs p hp)⟩
theorem Dd.less (h : Dd T Z w W G R x y X) : Dd T Z w W G R x y [] := h.sub fun _ h => absurd h (List.not_mem_nil)
theorem Dd.below {W' : World} (h : Dd T Z w W G R x y X) (hb : Below W.heap.size W W') : Dd T Z w W' G R x y X := by
  obtain ⟨F, S, h1, h2, h3, h4, h5, h6, h7, h8⟩ := h
  exact ⟨F, S, h1, h2, h3, h4, h5.below hb, h6.below hb, h7.next (T := fun _ => False) (But.of hb) fun _ _ e => e.elim, fun p hp => ⟨(h8 p hp).1, (h8 p hp).2.1, (hb.block _ (heap_lt (h8 p hp).2.2)).trans (h8 p hp).2.2⟩⟩
/-- a block more -/
theorem Dd.newbox {W' : World} (h : Dd T Z w W G R x y X) (hb : Below W.heap.size W W') {b : Nat} {o : Obj} (h0 : W.heap.size ≤ b) (ho : W'.heap[b]? = some o) : Dd T Z w W' G R x y ((b, o) :: X) := by
  obtain ⟨F, S, h1, h2, h3, h4, h5, h6, h7, h8⟩ := h
  refine ⟨F, S, h1, h2, h3, h4, h5.below hb, h6.below hb, h7.next (T := fun _ => False) (But.of hb) fun _ _ e => e.elim, fun p hp => ?_⟩
  rcases List.mem_cons.1 hp with rfl | hp
  · exact ⟨fun e => absurd (obT.lt h5 _ e) (Nat.not_lt.2 h0), fun e => absurd (rfT.lt h6 _ e) (Nat.not_lt.2 h0), ho⟩
  · exact ⟨(h8 p hp).1, (h8 p hp).2.1, (hb.block _ (heap_lt (h8 p hp).2.2)).trans (h8 p hp).2.2⟩
theorem Dd.box (h : Dd T Z w W G R x y X) (o : Obj) : Dd T Z w (W.alloc o) G R x y ((W.heap.size, o) :: X) := h.newbox ((Below.refl _ _).alloc (Nat.le_refl _) o) (Nat.le_refl _) (heap_alloc_new _ _)
/-- a block beside them turns -/
theorem Dd.turn {W' : World} {b : Nat} {o o' : Obj} (h : Dd T Z w W G R x y ((b, o) :: X)) (hw : w.heap.size ≤ b) (hX : ∀ p ∈ X, p.1 ≠ b) (hb : But (fun k => k = b) W W') (ho : W'.heap[b]? = some o') : Dd T Z w W' G R x y ((b, o') :: X) := by
  obtain ⟨F, S, h1, h2, h3, h4, h5, h6, h7, h8⟩ := h
  have hbx := h8 _ (List.mem_cons_self ..)
  refine ⟨F, S, h1, h2, h3, h4, obT.but h5 hb fun k e e2 => hbx.1 (e2 ▸ e), rfT.but h6 hb fun k e e2 => hbx.2.1 (e2 ▸ e), h7.next hb fun k hk e => by omega, fun p hp => ?_⟩
  rcases List.mem_cons.1 hp with rfl | hp
  · exact ⟨hbx.1, hbx.2.1, ho⟩
  · have := h8 p (List.mem_cons_of_mem _ hp)
    exact ⟨this.1, this.2.1, (hb.block _ (heap_lt this.2.2) (hX p hp)).trans this.2.2⟩
theorem Dd.l0 (h : Dd T Z w W G R x y X) (hc : ∀ F, Ob W G F x → Calls Try.prog f args W (Tells v W)) : Calls Try.prog f args W (DdTo v T Z w G R x y X) := by
  obtain ⟨F, hF⟩ := h.fst
  exact (hc F hF).mono fun e W' ⟨he, k⟩ => ⟨he, h.below k⟩
theorem Dd.r0 (h : Dd T Z w W G R x y X) (hc : ∀ S, Rf W R S y → Calls Try.prog f args W (Tells v W)) : Calls Try.prog f args W (DdTo v T Z w G R x y X) := by
  obtain ⟨S, hS⟩ := h.snd
  exact (hc S hS).mono fun e W' ⟨he, k⟩ => ⟨he, h.below k⟩
theorem Dd.l {x2 : St} (h : Dd T Z w W G R x y X) (hc : ∀ F, Ob W G F x → Calls Try.prog f args W (obT.To v G F x2 W)) : Calls Try.prog f args W (DdTo v T Z w G R x2 y X) := by
  obtain ⟨F, S, h1, h2, h3, h4, h5, h6, h7, h8⟩ := h
  have hz := h7.size
  refine (hc F h5).mono fun e W' ⟨he, k1, k2⟩ => ⟨he, _, S, fun b hb => ?_, h2, fun b hb hs => ?_, h4, k1, rfT.but h6 k2 fun b hs hf => h3 b hf hs, h7.next k2 fun j hj hf => ?_, fun p hp => ?_⟩
  · rcases hb with hb | hb
    · exact h1 b hb
    · exact .inr (Nat.le_trans hz hb.1)
  · rcases hb with hb | hb
    · exact h3 b hb hs
    · have := rfT.lt h6 b hs
      omega
  · rcases h1 j hf with e | e
    · exact e
    · omega
  · obtain ⟨p1, p2, p3⟩ := h8 p hp
    have hl := heap_lt p3
    exact ⟨fun e => e.elim p1 fun e => absurd hl (Nat.not_lt.2 e.1), p2, (k2.block _ hl p1).trans p3⟩
/-- the document's has new rows, in its own box -/
theorem Dd.r {y2 : Dt} (h : Dd T Z w W G R x y X) (hc : ∀ S, Rf W R S y → Calls Try.prog f args W (fun e w' => e = .returned v ∧ Rf w' R (Ext S W w') y2 ∧ But (fun k => k = R) W w')) : Calls Try.prog f args W (DdTo v T Z w G R x y2 X) := by
  obtain ⟨F, S, h1, h2, h3, h4, h5, h6, h7, h8⟩ := h
  have hz := h7.size
  have hSR := h6.R_in
  refine (hc S h6).mono fun e W' ⟨he, k1, k2⟩ => ⟨he, F, _, h1, fun b hb => ?_, fun b hf hb => ?_, h4, obT.but h5 k2 fun b hf e => h3 b hf (e ▸ hSR), k1, h7.next k2 fun j hj e => ?_, fun p hp => ?_⟩
  · rcases hb with hb | hb
    · exact h2 b hb
    · exact .inr (.inr (Nat.le_trans hz hb.1))
  · rcases hb with hb | hb
    · exact h3 b hf hb
    · have := obT.lt h5 b hf
      omega
  · subst e
    rcases h4 with e | e
    · exact e
    · omega
  · obtain ⟨p1, p2, p3⟩ := h8 p hp
    have hl := heap_lt p3
    exact ⟨p1, fun e => e.elim p2 fun e => absurd hl (Nat.not_lt.2 e.1), (k2.block _ hl (fun e => p2 (e ▸ hSR))).trans p3⟩
/-- what is taken: memory of its own beside them -/
theorem Dd.take {x2 : St} {K : Nat} {t : By} (h : Dd T Z w W G R x y X) (hc : ∀ F, Ob W G F x → Calls Try.prog f args W (TakeTo K t G F x2 W)) : Calls Try.prog f args W (fun e W' => ∃ TB, e = .returned (.slice (some ⟨TB, 0, none⟩) K K) ∧ W.heap.size ≤ TB ∧ w.heap.size ≤ TB ∧ Dd T Z w W' G R x2 y ((TB, BO t) :: X)) := by
  obtain ⟨F, S, h1, h2, h3, h4, h5, h6, h7, h8⟩ := h
  have hz := h7.size
  refine (hc F h5).mono fun e W' ⟨TB, he, k0, k1, k2, k3⟩ => ⟨TB, he, k0, Nat.le_trans hz k0, F, S, h1, h2, h3, h4, k2, rfT.but h6 k3 fun b hs hf => h3 b hf hs, h7.next k3 fun j hj hf => ?_, fun p hp => ?_⟩
  · rcases h1 j hf with e | e
    · exact e
    · omega
  · rcases List.mem_cons.1 hp with rfl | hp
    · exact ⟨fun e => absurd (obT.lt h5 _ e) (Nat.not_lt.2 k0), fun e => absurd (rfT.lt h6 _ e) (Nat.not_lt.2 k0), k1⟩
    · obtain ⟨p1, p2, p3⟩ := h8 p hp
      exact ⟨p1, p2, (k3.block _ (heap_lt p3) p1).trans p3⟩
theorem Dd.rtake {y2 : Dt} {t : By} (h : Dd T Z w W G R x y X) (hc : ∀ S, Rf W R S y → Calls Try.prog f args W (RTakeTo t R S y2 W)) : Calls Try.prog f args W (fun e W' => ∃ a c, e = .returned (.slice a t.length c) ∧ CB.At W' a t.length t ∧ Dd T Z w W' G R x y2 X) := by
  obtain ⟨F, S, h1, h2, h3, h4, h5, h6, h7, h8⟩ := h
  have hSR := h6.R_in
  refine (hc S h6).mono fun e W' ⟨a, c, he, k0, k1, k2⟩ => ⟨a, c, he, k0, F, S, h1, h2, h3, h4, obT.but h5 k2 fun b hf e => h3 b hf (e ▸ hSR), k1, h7.next k2 fun j hj e => ?_, fun p hp => ?_⟩
  · subst e
    rcases h4 with e | e
    · exact e
    · omega
  · obtain ⟨p1, p2, p3⟩ := h8 p hp
    exact ⟨p1, p2, (k2.block _ (heap_lt p3) (fun e => p2 (e ▸ hSR))).trans p3⟩
end
/-- what is put, by both -/
theorem q_put {K : Nat} {x : St} {y : Dt} (ht : Tie K x y) (hK : K + 300 ≤ 100000) (b : By) (h0 : b ≠ []) (hb : b.length ≤ 300) (hm : (x.2.1.length : Int) ≤ x.1) : ∃ (c : Int) (x2 : St) (y2 : Dt), Tie (K + 300) x2 y2 ∧
    (∀ T Z w W G R z X p cc, Dd T Z w W G R x z X → CB.At W (some p) b.length b → Calls Try.prog 16 #[.pointer (some ⟨G, 0, none⟩), .slice (some p) b.length cc] W (DdTo (.int .i64 c) T Z w G R x2 z X)) ∧
    (∀ T Z w W G R z X p cc, Dd T Z w W G R z y X → CB.At W (some p) b.length b → Calls Try.prog 21 #[.pointer (some ⟨R, 0, none⟩), .slice (some p) b.length cc] W (DdTo (.int .i64 c) T Z w G R z y2 X)) := by
  have hf := ht.few
  have hl : b.length ≠ 0 := fun e => h0 (List.length_eq_zero_iff.1 e)
  by_cases hr : (x.2.1.length : Int) < x.1
  · refine ⟨0, (x.1, x.2.1 ++ [b], x.2.2), _, ht.put b h0 hb, fun T Z w W G R z X p cc h hA => h.l fun F hF => put_there hF p cc b hA h0 hr (by omega) (by omega), fun T Z w W G R z X p cc h hA => h.r fun S hS => rput_there hS p cc b hA h0 (by rw [ht.rlen, ht.most]; exact hr) (by have := ht.le; omega) (by omega)⟩
  · refine ⟨5, x, y, ht.mono (by omega), fun T Z w W G R z X p cc h hA => h.l0 fun F hF => put_full hF _ _ _ hl (by omega), fun T Z w W G R z X p cc h hA => h.r0 fun S hS => rput_full hS _ _ _ hl (by rw [ht.rlen, ht.most]; omega)⟩
end Go.Proofs.Ytfchfhkhflghbaa
