/-
  A heap and the document's heap, side by side, within a footprint.
-/
import Derived.Test.YtgfoagpmkbdciaaHTwo
namespace Go.Proofs.Ytgfoagpmkbdciaa
open Go Go.Shelf Go.RowKit Go.Lib Go.Sort Go.Proofs HpM

/-- as it began at w, but within T and behind it: a heap of one list, the document's of another one; and what else stands there -/
def TwoT (T : Nat → Prop) (w W : World) (G R : Nat) (L L' : List It) (X : List (Nat × Obj)) : Prop :=
  ∃ F S, (∀ b, F b → T b ∨ w.heap.size ≤ b) ∧ (∀ b, S b → T b ∨ w.heap.size ≤ b) ∧ (∀ b, F b → ¬ S b) ∧ Hp W G F L ∧ RfS W R S L' ∧ But T w W ∧ ∀ p ∈ X, ¬ F p.1 ∧ ¬ S p.1 ∧ W.heap[p.1]? = some p.2
theorem TwoT.but {T : Nat → Prop} {w W : World} {G R : Nat} {L L' : List It} {X : List (Nat × Obj)} (h : TwoT T w W G R L L' X) : But T w W := by
  obtain ⟨F, S, h1, h2, h3, h4, h5, h6, h7⟩ := h
  exact h6
theorem TwoT.get {T : Nat → Prop} {w W : World} {G R : Nat} {L L' : List It} {X : List (Nat × Obj)} (h : TwoT T w W G R L L' X) {b : Nat} {o : Obj} (hm : (b, o) ∈ X) : W.heap[b]? = some o := by
  obtain ⟨F, S, h1, h2, h3, h4, h5, h6, h7⟩ := h
  exact (h7 _ hm).2.2
theorem TwoT.less {T : Nat → Prop} {w W : World} {G R : Nat} {L L' : List It} {X : List (Nat × Obj)} (h : TwoT T w W G R L L' X) : TwoT T w W G R L L' [] := by
  obtain ⟨F, S, h1, h2, h3, h4, h5, h6, h7⟩ := h
  exact ⟨F, S, h1, h2, h3, h4, h5, h6, fun _ h => absurd h (List.not_mem_nil)⟩
theorem TwoT.below {T : Nat → Prop} {w W W' : World} {G R : Nat} {L L' : List It} {X : List (Nat × Obj)} (h : TwoT T w W G R L L' X) (hb : Below W.heap.size W W') : TwoT T w W' G R L L' X := by
  obtain ⟨F, S, h1, h2, h3, h4, h5, h6, h7⟩ := h
  exact ⟨F, S, h1, h2, h3, h4.below hb, h5.below hb, h6.next (T := fun _ => False) (But.of hb) fun _ _ e => e.elim, fun p hp => ⟨(h7 p hp).1, (h7 p hp).2.1, (hb.block _ (Array.getElem?_eq_some_iff.1 (h7 p hp).2.2).1).trans (h7 p hp).2.2⟩⟩
/-- a block more -/
theorem TwoT.box {T : Nat → Prop} {w W : World} {G R : Nat} {L L' : List It} {X : List (Nat × Obj)} (h : TwoT T w W G R L L' X) (o : Obj) : TwoT T w (W.alloc o) G R L L' ((W.heap.size, o) :: X) := by
  obtain ⟨F, S, h1, h2, h3, h4, h5, h6, h7⟩ := h
  have hb : Below W.heap.size W (W.alloc o) := (Below.refl W.heap.size W).alloc (Nat.le_refl _) o
  have hl : ∀ b, S b → b < W.heap.size := by
    obtain ⟨u, _, _, _, hl, _⟩ := h5
    exact hl
  refine ⟨F, S, h1, h2, h3, h4.below hb, h5.below hb, h6.alloc o, fun p hp => ?_⟩
  rcases List.mem_cons.1 hp with rfl | hp
  · exact ⟨fun e => Nat.lt_irrefl _ (h4.lt _ e), fun e => Nat.lt_irrefl _ (hl _ e), heap_alloc_new _ _⟩
  · exact ⟨(h7 p hp).1, (h7 p hp).2.1, (hb.block _ (Array.getElem?_eq_some_iff.1 (h7 p hp).2.2).1).trans (h7 p hp).2.2⟩
def AnsTT (v : Value) (T : Nat → Prop) (w : World) (G R : Nat) (L L' : List It) (X : List (Nat × Obj)) (e : Ending) (W' : World) : Prop := e = .returned v ∧ TwoT T w W' G R L L' X
/-- what the heap does leaves the document's alone -/
theorem TwoT.h {T : Nat → Prop} {P : Program} {f : Nat} {args : Array Value} {w W : World} {G R : Nat} {L L' L2 : List It} {X : List (Nat × Obj)} {v : Value} (h : TwoT T w W G R L L' X) (hc : ∀ F, Hp W G F L → Calls P f args W (HpTo v G F L2 W)) : Calls P f args W (AnsTT v T w G R L2 L' X) := by
  obtain ⟨F, S, h1, h2, h3, h4, h5, h6, h7⟩ := h
  have hz := h6.size
  refine (hc F h4).mono fun e W' ⟨he, k1, k2⟩ => ⟨he, _, S, fun b hb => ?_, h2, fun b hb hs => ?_, k1, h5.but k2 fun b hs hf => h3 b hf hs, h6.next k2 fun j hj hf => ?_, fun p hp => ?_⟩
  · rcases hb with hb | hb
    · exact h1 b hb
    · exact .inr (Nat.le_trans hz hb.1)
  · rcases hb with hb | hb
    · exact h3 b hb hs
    · have : b < W.heap.size := by
        obtain ⟨u, _, _, _, hl, _⟩ := h5
        exact hl b hs
      omega
  · rcases h1 j hf with e | e
    · exact e
    · omega
  · obtain ⟨p1, p2, p3⟩ := h7 p hp
    have hl := (Array.getElem?_eq_some_iff.1 p3).1
    exact ⟨fun e => e.elim p1 fun e => absurd hl (Nat.not_lt.2 e.1), p2, (k2.block _ hl p1).trans p3⟩
theorem TwoT.h0 {T : Nat → Prop} {P : Program} {f : Nat} {args : Array Value} {w W : World} {G R : Nat} {L L' : List It} {X : List (Nat × Obj)} {x : It} {t : Bool} (h : TwoT T w W G R L L' X) (hc : ∀ F, Hp W G F L → Calls P f args W (ItTo x t W)) : Calls P f args W (AnsTT (.tuple #[ItV x, .bool t]) T w G R L L' X) := by
  obtain ⟨F, S, h1, h2, h3, h4, h5, h6, h7⟩ := id h
  exact (hc F h4).mono fun e W' ⟨he, k⟩ => ⟨he, h.below k⟩
theorem TwoT.hn {T : Nat → Prop} {P : Program} {f : Nat} {args : Array Value} {w W : World} {G R : Nat} {L L' : List It} {X : List (Nat × Obj)} {n : Int} (h : TwoT T w W G R L L' X) (hc : ∀ F, Hp W G F L → Calls P f args W (TellsIB n W)) : Calls P f args W (AnsTT (.int .i64 n) T w G R L L' X) := by
  obtain ⟨F, S, h1, h2, h3, h4, h5, h6, h7⟩ := id h
  exact (hc F h4).mono fun e W' ⟨he, k⟩ => ⟨he, h.below k⟩
/-- what the document's does leaves the heap alone -/
theorem TwoT.r {T : Nat → Prop} {P : Program} {f : Nat} {args : Array Value} {w W : World} {G R : Nat} {L L' L2 : List It} {X : List (Nat × Obj)} {v : Value} (h : TwoT T w W G R L L' X) (hc : ∀ S, RfS W R S L' → Calls P f args W (RfTo v R S L2 W)) : Calls P f args W (AnsTT v T w G R L L2 X) := by
  obtain ⟨F, S, h1, h2, h3, h4, h5, h6, h7⟩ := h
  have hz := h6.size
  refine (hc S h5).mono fun e W' ⟨he, k1, k2⟩ => ⟨he, F, _, h1, fun b hb => ?_, fun b hf hb => ?_, h4.but k2 fun b hf hs => h3 b hf hs, k1, h6.next k2 fun j hj hf => ?_, fun p hp => ?_⟩
  · rcases hb with hb | hb
    · exact h2 b hb
    · exact .inr (Nat.le_trans hz hb.1)
  · rcases hb with hb | hb
    · exact h3 b hf hb
    · have := h4.lt b hf
      omega
  · rcases h2 j hf with e | e
    · exact e
    · omega
  · obtain ⟨p1, p2, p3⟩ := h7 p hp
    have hl := (Array.getElem?_eq_some_iff.1 p3).1
    exact ⟨p1, fun e => e.elim p2 fun e => absurd hl (Nat.not_lt.2 e.1), (k2.block _ hl p2).trans p3⟩
theorem TwoT.r0 {T : Nat → Prop} {P : Program} {f : Nat} {args : Array Value} {w W : World} {G R : Nat} {L L' : List It} {X : List (Nat × Obj)} {x : It} {t : Bool} (h : TwoT T w W G R L L' X) (hc : ∀ S, RfS W R S L' → Calls P f args W (ItTo x t W)) : Calls P f args W (AnsTT (.tuple #[ItV x, .bool t]) T w G R L L' X) := by
  obtain ⟨F, S, h1, h2, h3, h4, h5, h6, h7⟩ := id h
  exact (hc S h5).mono fun e W' ⟨he, k⟩ => ⟨he, h.below k⟩
theorem TwoT.rn {T : Nat → Prop} {P : Program} {f : Nat} {args : Array Value} {w W : World} {G R : Nat} {L L' : List It} {X : List (Nat × Obj)} {n : Int} (h : TwoT T w W G R L L' X) (hc : ∀ S, RfS W R S L' → Calls P f args W (TellsIB n W)) : Calls P f args W (AnsTT (.int .i64 n) T w G R L L' X) := by
  obtain ⟨F, S, h1, h2, h3, h4, h5, h6, h7⟩ := id h
  exact (hc S h5).mono fun e W' ⟨he, k⟩ => ⟨he, h.below k⟩
theorem TwoT.hp {T : Nat → Prop} {w W : World} {G R : Nat} {L L' : List It} {X : List (Nat × Obj)} (h : TwoT T w W G R L L' X) : ∃ F, Hp W G F L := by
  obtain ⟨F, S, h1, h2, h3, h4, h5, h6, h7⟩ := h
  exact ⟨F, h4⟩
theorem TwoT.rs {T : Nat → Prop} {w W : World} {G R : Nat} {L L' : List It} {X : List (Nat × Obj)} (h : TwoT T w W G R L L' X) : ∃ S, RfS W R S L' := by
  obtain ⟨F, S, h1, h2, h3, h4, h5, h6, h7⟩ := h
  exact ⟨S, h5⟩
theorem Hp.asc {w : World} {G : Nat} {F : Nat → Prop} {L : List It} (h : Hp w G F L) : Asc1 iLt L := by
  obtain ⟨d, f, h4, h5⟩ := h
  exact h5.asc
theorem TwoT.asc {T : Nat → Prop} {w W : World} {G R : Nat} {L L' : List It} {X : List (Nat × Obj)} (h : TwoT T w W G R L L' X) : Asc1 iLt L := by
  obtain ⟨F, h⟩ := h.hp
  exact h.asc
theorem RfS.rf {W : World} {R : Nat} {S : Nat → Prop} {L : List It} (h : RfS W R S L) (hl : L.length ≤ 1000000) : ∃ a n c, W.cell? ⟨R, 0, none⟩ = some (.slice a n c) ∧ n = L.length ∧ n ≤ c ∧ ItAt W a n L := by
  obtain ⟨a, n, c, hR, hn, hc, hA, _⟩ := h.open hl
  exact ⟨a, n, c, by rw [cell_of_row _ _ _ _ _ _ hR]; rfl, hn, hc, hA⟩
/-- both of the same list, within T -/
def Pair (T : Nat → Prop) (W : World) (G R : Nat) (L : List It) : Prop :=
  ∃ F S, (∀ b, F b → T b) ∧ (∀ b, S b → T b) ∧ (∀ b, F b → ¬ S b) ∧ Hp W G F L ∧ RfS W R S L ∧ ∀ b, T b → b < W.heap.size
theorem Pair.start {T : Nat → Prop} {W : World} {G R : Nat} {L : List It} (h : Pair T W G R L) : TwoT T W W G R L L [] := by
  obtain ⟨F, S, h1, h2, h3, h4, h5, h6⟩ := h
  exact ⟨F, S, fun b e => .inl (h1 b e), fun b e => .inl (h2 b e), h3, h4, h5, But.refl _ _, fun _ h => absurd h (List.not_mem_nil)⟩
theorem Pair.but {T S : Nat → Prop} {w W : World} {G R : Nat} {L : List It} (h : Pair T w G R L) (hb : But S w W) (hs : ∀ b, T b → ¬ S b) : Pair T W G R L := by
  obtain ⟨F, S', h1, h2, h3, h4, h5, h6⟩ := h
  exact ⟨F, S', h1, h2, h3, h4.but hb fun b e => hs b (h1 b e), h5.but hb fun b e => hs b (h2 b e), fun b e => Nat.lt_of_lt_of_le (h6 b e) hb.size⟩
theorem Pair.below {T : Nat → Prop} {w W : World} {G R : Nat} {L : List It} (h : Pair T w G R L) (hb : Below w.heap.size w W) : Pair T W G R L :=
  h.but (S := fun _ => False) (But.of hb) fun _ _ e => e
theorem Pair.lt {T : Nat → Prop} {w : World} {G R : Nat} {L : List It} (h : Pair T w G R L) : ∀ b, T b → b < w.heap.size := by
  obtain ⟨F, S', h1, h2, h3, h4, h5, h6⟩ := h
  exact h6
theorem TwoT.stop {T : Nat → Prop} {w W : World} {G R : Nat} {L : List It} {X : List (Nat × Obj)} (h : TwoT T w W G R L L X) (hT : ∀ b, T b → b < w.heap.size) : Pair (Ext T w W) W G R L := by
  obtain ⟨F, S, h1, h2, h3, h4, h5, h6, h7⟩ := h
  have hz := h6.size
  refine ⟨F, S, fun b e => ?_, fun b e => ?_, h3, h4, h5, fun b e => ?_⟩
  · rcases h1 b e with k | k
    · exact .inl k
    · exact .inr ⟨k, h4.lt b e⟩
  · rcases h2 b e with k | k
    · exact .inl k
    · obtain ⟨u, _, _, _, hl, _⟩ := h5
      exact .inr ⟨k, hl b e⟩
  · rcases e with k | k
    · exact Nat.lt_of_lt_of_le (hT b k) hz
    · exact k.2
/-- two such pairs, apart, both behind w -/
def Four (w W : World) (G R G2 R2 : Nat) (L M : List It) : Prop :=
  ∃ T U, (∀ b, T b → w.heap.size ≤ b) ∧ (∀ b, U b → w.heap.size ≤ b) ∧ (∀ b, T b → ¬ U b) ∧ Pair T W G R L ∧ Pair U W G2 R2 M ∧ Below w.heap.size w W
theorem Four.turn {w W : World} {G R G2 R2 : Nat} {L M : List It} (h : Four w W G R G2 R2 L M) : Four w W G2 R2 G R M L := by
  obtain ⟨T, U, h1, h2, h3, h4, h5, h6⟩ := h
  exact ⟨U, T, h2, h1, fun b e k => h3 b k e, h5, h4, h6⟩
theorem Four.out {w W : World} {G R G2 R2 : Nat} {L M : List It} (h : Four w W G R G2 R2 L M) : Below w.heap.size w W := by
  obtain ⟨T, U, h1, h2, h3, h4, h5, h6⟩ := h
  exact h6
theorem Four.below {w W W' : World} {G R G2 R2 : Nat} {L M : List It} (h : Four w W G R G2 R2 L M) (hb : Below W.heap.size W W') : Four w W' G R G2 R2 L M := by
  obtain ⟨T, U, h1, h2, h3, h4, h5, h6⟩ := h
  exact ⟨T, U, h1, h2, h3, h4.below hb, h5.below hb, h6.trans (hb.mono h6.size)⟩
/-- what is done by the first pair leaves the other one alone; its list grows by one at most -/
def OneTo (v : Value) (T : Nat → Prop) (w : World) (G R : Nat) (L : List It) (e : Ending) (W' : World) : Prop := ∃ L2, L2.length ≤ L.length + 1 ∧ AnsTT v T w G R L2 L2 [] e W'
theorem Four.l {P : Program} {f : Nat} {args : Array Value} {w W : World} {G R G2 R2 : Nat} {L M : List It} {v : Value} (h : Four w W G R G2 R2 L M) (hc : ∀ T, TwoT T W W G R L L [] → Calls P f args W (OneTo v T W G R L)) :
    Calls P f args W (fun e W' => e = .returned v ∧ ∃ L2, L2.length ≤ L.length + 1 ∧ Four w W' G R G2 R2 L2 M) := by
  obtain ⟨T, U, h1, h2, h3, h4, h5, h6⟩ := h
  refine (hc T h4.start).mono fun e W' ⟨L2, hl, he, k⟩ => ⟨he, L2, hl, Ext T W W', U, fun b hb => ?_, h2, fun b hb hu => ?_, k.stop h4.lt, h5.but k.but fun b hu ht => h3 b ht hu, h6.trans (k.but.below h6.size h1)⟩
  · rcases hb with e | e
    · exact h1 b e
    · exact Nat.le_trans h6.size e.1
  · rcases hb with e | e
    · exact h3 b e hu
    · have := h5.lt b hu
      omega
theorem Four.r {P : Program} {f : Nat} {args : Array Value} {w W : World} {G R G2 R2 : Nat} {L M : List It} {v : Value} (h : Four w W G R G2 R2 L M) (hc : ∀ T, TwoT T W W G2 R2 M M [] → Calls P f args W (OneTo v T W G2 R2 M)) :
    Calls P f args W (fun e W' => e = .returned v ∧ ∃ M2, M2.length ≤ M.length + 1 ∧ Four w W' G R G2 R2 L M2) :=
  (h.turn.l hc).mono fun _ _ ⟨he, M2, hl, k⟩ => ⟨he, M2, hl, k.turn⟩
end Go.Proofs.Ytgfoagpmkbdciaa
