/-
  The walk of the law OutboxCopies.
-/
import Derived.Test.YtfchfhkhflghbaaOCopies
namespace Go.Proofs.Ytfchfhkhflghbaa
open Go Go.RowKit Go.Lib Go.Sort Go.Proofs

/-- an outbox, the document's, a copy of the first, apart, behind w -/
def Thr (w W : World) (G R G2 : Nat) (x : St) (y : Dt) : Prop :=
  ∃ F S F2 : Nat → Prop, (∀ b, F b → w.heap.size ≤ b) ∧ (∀ b, S b → w.heap.size ≤ b) ∧ (∀ b, F2 b → w.heap.size ≤ b) ∧ (∀ b, F b → ¬ S b) ∧ (∀ b, F b → ¬ F2 b) ∧ (∀ b, S b → ¬ F2 b) ∧ Ob W G F x ∧ Rf W R S y ∧ Ob W G2 F2 x ∧ Below w.heap.size w W
section
variable {w W : World} {G R G2 R2 K K' : Nat} {x x' : St} {y y' : Dt}
theorem dd_three (h : Dd NoB NoB w W G R x y []) (ht : Tie K x y) : Calls Try.prog 12 #[.pointer (some ⟨G, 0, none⟩)] W (fun e W' => ∃ G2, e = .returned (.pointer (some ⟨G2, 0, none⟩)) ∧ Thr w W' G R G2 x y) := by
  have ho := h.old
  obtain ⟨F, S, h1, h2, h3, h4, h5, h6, h7, h8⟩ := h
  have hR := h4.resolve_left fun e => e
  refine (copy_any h5 ht.ne).mono fun e W' ⟨G2, F2, he, k1, k2, k3⟩ => ⟨G2, he, F, S, F2, fun b e => (h1 b e).resolve_left fun e => e, fun b e => ?_, fun b e => Nat.le_trans ho.size (k2 b e), h3, fun b e e2 => ?_, fun b e e2 => ?_, h5.below k3, h6.below k3, k1, ho.trans (k3.mono ho.size)⟩
  · rcases h2 b e with e | e | e
    · exact e ▸ hR
    · exact e.elim
    · exact e
  · have := obT.lt h5 b e
    have := k2 b e2
    omega
  · have := h6.lt b e
    have := k2 b e2
    omega
theorem dd_four (h : Thr w W G R G2 x y) : Calls Try.prog 13 #[.pointer (some ⟨R, 0, none⟩)] W (fun e W' => ∃ R2, e = .returned (.pointer (some ⟨R2, 0, none⟩)) ∧ Fr w W' G R G2 R2 x y x y) := by
  obtain ⟨F, S, F2, h1, h2, h3, h4, h5, h6, h7, h8, h9, h10⟩ := h
  have hz := h10.size
  have hSR := h8.R_in
  have hSl := h8.lt
  have hFl := obT.lt h7
  have hF2l := obT.lt h9
  refine (rcopy_any h8).mono fun e W' ⟨R2, he, k1, k2, k3⟩ => ⟨R2, he, F, F2, fun b => S b ∧ b ≠ R, h1, h3, fun b e => h2 b e.1, h2 R hSR, Nat.le_trans hz k1, fun e => ?_, h5, fun b e => ⟨fun k => h4 b e k.1, fun k => h4 b e (k ▸ hSR), fun k => ?_⟩, fun b e => ⟨fun k => h6 b k.1 e, fun k => h6 R hSR (k ▸ e), fun k => ?_⟩, fun k => k.2 rfl, fun k => ?_, h7.below k3, h9.below k3, (h8.below k3).wide (fun b e => ?_) (fun b e => ?_), k2, h10.trans (k3.mono hz)⟩
  · have := hSl R hSR
    omega
  · have := hFl b e
    omega
  · have := hF2l b e
    omega
  · have := hSl R2 k.1
    omega
  · by_cases hb : b = R
    · exact .inl hb
    · exact .inr ⟨e, hb⟩
  · rcases e with e | e
    · exact Nat.lt_of_lt_of_le (e ▸ hSl R hSR) k3.size
    · exact Nat.lt_of_lt_of_le (hSl b e.1) k3.size
/-- the document's Same says the same -/
theorem rsame_alike (ht : Tie K x y) (ht' : Tie K' x' y') : rsame y y' = alike x x' := by
  have htl : ∀ {K : Nat} {x : St} {y : Dt}, Tie K x y → tl y = sums x.2.2 x.2.1 := fun {K x y} ht => by
    obtain ⟨E, h1, h2⟩ := ht.ends
    unfold tl
    rw [ht.rlen, h1, List.length_append, sums_len, Nat.add_sub_cancel, List.drop_left]
  unfold rsame alike
  rw [htl ht, htl ht', ht.rlen, ht'.rlen, ht.most, ht'.most, ht.sent, ht'.sent, ht.flat, ht'.flat]
  by_cases h1 : x.1 = x'.1
  · by_cases h2 : x.2.2 = x'.2.2
    · by_cases h3 : x.2.1 = x'.2.1
      · simp [h1, h2, h3]
      · have hno : ¬ (x.2.1.flatten = x'.2.1.flatten ∧ sums x.2.2 x.2.1 = sums x'.2.2 x'.2.1) := fun ⟨e1, e2⟩ => h3 (sums_inj x.2.2 _ _ e1 (by rw [e2, h2]))
        rw [decide_eq_true h1, decide_eq_true h2, decide_eq_false h3]
        by_cases e1 : x.2.1.flatten = x'.2.1.flatten
        · have e2 : ¬ sums x.2.2 x.2.1 = sums x'.2.2 x'.2.1 := fun e2 => hno ⟨e1, e2⟩
          rw [decide_eq_false e2]
          simp
        · rw [decide_eq_false e1]
          simp
    · rw [decide_eq_false h2]; simp
  · rw [decide_eq_false h1]; simp
theorem alike_sym (x y : St) : alike x y = alike y x := by
  unfold alike
  rw [show decide (x.1 = y.1) = decide (y.1 = x.1) from decide_eq_decide.2 eq_comm, show decide (x.2.2 = y.2.2) = decide (y.2.2 = x.2.2) from decide_eq_decide.2 eq_comm, show decide (x.2.1 = y.2.1) = decide (y.2.1 = x.2.1) from decide_eq_decide.2 eq_comm]
theorem alike_self (x : St) : alike x x = true := by simp [alike]
def FrTo (t : Bool) (w : World) (G R G2 R2 : Nat) (x : St) (y : Dt) (x' : St) (y' : Dt) (e : Ending) (W' : World) : Prop := e = .returned (.bool t) ∧ Fr w W' G R G2 R2 x y x' y'
theorem fr_same (h : Fr w W G R G2 R2 x y x' y') (t : Bool) (ht : t = alike x x') : Calls Try.prog 14 #[.pointer (some ⟨G, 0, none⟩), .pointer (some ⟨G2, 0, none⟩)] W (FrTo t w G R G2 R2 x y x' y') := by
  subst ht
  obtain ⟨F, F2, Z, h1, h2, h3, h4, h5, h6, h7, h8, h9, h10, h11, h12, h13, h14, h15, h16⟩ := id h
  exact (same_any h12 h13).mono fun _ _ ⟨he, hg⟩ => ⟨he, h.below hg.below⟩
theorem fr_same2 (h : Fr w W G R G2 R2 x y x' y') (t : Bool) (ht : t = alike x x') : Calls Try.prog 14 #[.pointer (some ⟨G2, 0, none⟩), .pointer (some ⟨G, 0, none⟩)] W (FrTo t w G R G2 R2 x y x' y') :=
  (fr_same h.turn t (by rw [ht]; exact alike_sym _ _)).mono fun _ _ ⟨he, hb⟩ => ⟨he, hb.turn⟩
theorem fr_rsame (h : Fr w W G R G2 R2 x y x' y') (t : Bool) (ht : t = rsame y y') : Calls Try.prog 15 #[.pointer (some ⟨R, 0, none⟩), .pointer (some ⟨R2, 0, none⟩)] W (FrTo t w G R G2 R2 x y x' y') := by
  subst ht
  obtain ⟨F, F2, Z, h1, h2, h3, h4, h5, h6, h7, h8, h9, h10, h11, h12, h13, h14, h15, h16⟩ := id h
  exact (rsame_any h14 h15).mono fun _ _ ⟨he, hg⟩ => ⟨he, h.below hg.below⟩
theorem fr_known (h : Fr w W G R G2 R2 x y x' y') : Calls Try.prog 7 #[] W (FrTo true w G R G2 R2 x y x' y') := (known_any W).mono fun _ _ ⟨he, hb⟩ => ⟨he, h.below hb⟩
theorem fr_l (h : Fr w W G R G2 R2 x y x' y') (ht : Tie K x y) : Calls Try.prog 11 #[.pointer (some ⟨G, 0, none⟩), .pointer (some ⟨R, 0, none⟩)] W (FrTo true w G R G2 R2 x y x' y') := by
  obtain ⟨F, F2, Z, h1, h2, h3, h4, h5, h6, h7, h8, h9, h10, h11, h12, h13, h14, h15, h16⟩ := id h
  exact (lsame_any h12 h14 ht).mono fun _ _ ⟨he, hg⟩ => ⟨he, h.below hg.below⟩
theorem fr_r (h : Fr w W G R G2 R2 x y x' y') (ht : Tie K x' y') : Calls Try.prog 11 #[.pointer (some ⟨G2, 0, none⟩), .pointer (some ⟨R2, 0, none⟩)] W (FrTo true w G R G2 R2 x y x' y') := (fr_l h.turn ht).mono fun _ _ ⟨he, hb⟩ => ⟨he, hb.turn⟩
/-- do, by the first pair, by the second one -/
def FrL (K : Nat) (w : World) (G R G2 R2 : Nat) (x' : St) (y' : Dt) (e : Ending) (W' : World) : Prop := e = .returned (.bool true) ∧ ∃ x2 y2, Tie (K + 300) x2 y2 ∧ Fr w W' G R G2 R2 x2 y2 x' y'
def FrR (K : Nat) (w : World) (G R G2 R2 : Nat) (x : St) (y : Dt) (e : Ending) (W' : World) : Prop := e = .returned (.bool true) ∧ ∃ x2 y2, Tie (K + 300) x2 y2 ∧ Fr w W' G R G2 R2 x y x2 y2
theorem fr_do (h : Fr w W G R G2 R2 x y x' y') (ht : Tie K x y) (hK : K + 300 ≤ 100000) (k : Int) (s : Sl) (hg : Good w s) (hl : s.2.1 ≤ 300) (n : Int) : Calls Try.prog 10 #[.pointer (some ⟨G, 0, none⟩), .pointer (some ⟨R, 0, none⟩), ActV k s n] W (FrL K w G R G2 R2 x' y') :=
  h.l (p := fun x2 y2 => Tie (K + 300) x2 y2) fun _ _ hT hD => (dd_do hD ht hK h.out hT k s hg hl n).mono fun _ _ ⟨he, x2, y2, h1, h2⟩ => ⟨he, x2, y2, h1, h2⟩
theorem fr_do2 (h : Fr w W G R G2 R2 x y x' y') (ht : Tie K x' y') (hK : K + 300 ≤ 100000) (k : Int) (s : Sl) (hg : Good w s) (hl : s.2.1 ≤ 300) (n : Int) : Calls Try.prog 10 #[.pointer (some ⟨G2, 0, none⟩), .pointer (some ⟨R2, 0, none⟩), ActV k s n] W (FrR K w G R G2 R2 x y) :=
  (fr_do h.turn ht hK k s hg hl n).mono fun _ _ ⟨he, x2, y2, h1, h2⟩ => ⟨he, x2, y2, h1, h2.turn⟩
end
end Go.Proofs.Ytfchfhkhflghbaa
