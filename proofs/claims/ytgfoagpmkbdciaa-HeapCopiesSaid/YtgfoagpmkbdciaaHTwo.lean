/-
  A heap and the document's heap, side by side, apart.
-/
import Derived.Test.YtgfoagpmkbdciaaHRef
namespace Go.Proofs.Ytgfoagpmkbdciaa
open Go Go.Shelf Go.RowKit Go.Lib Go.Sort Go.Proofs HpM

/-- as it began at w; a heap of one list, the document's of another one -/
def Two (w W : World) (G R : Nat) (L L' : List It) : Prop :=
  ∃ F S, (∀ b, F b → w.heap.size ≤ b) ∧ (∀ b, S b → w.heap.size ≤ b) ∧ (∀ b, F b → ¬ S b) ∧ Hp W G F L ∧ RfS W R S L' ∧ Below w.heap.size w W
theorem Two.out {w W : World} {G R : Nat} {L L' : List It} (h : Two w W G R L L') : Below w.heap.size w W := by
  obtain ⟨F, S, h1, h2, h3, h4, h5, h6⟩ := h
  exact h6
theorem Two.below {w W W' : World} {G R : Nat} {L L' : List It} (h : Two w W G R L L') (hb : Below W.heap.size W W') : Two w W' G R L L' := by
  obtain ⟨F, S, h1, h2, h3, h4, h5, h6⟩ := h
  exact ⟨F, S, h1, h2, h3, h4.below hb, h5.below hb, h6.trans (hb.mono h6.size)⟩
def AnsT (v : Value) (w : World) (G R : Nat) (L L' : List It) (e : Ending) (W' : World) : Prop := e = .returned v ∧ Two w W' G R L L'
/-- what the heap does leaves the document's alone -/
theorem Two.h {P : Program} {f : Nat} {args : Array Value} {w W : World} {G R : Nat} {L L' L2 : List It} {v : Value} (h : Two w W G R L L') (hc : ∀ F, Hp W G F L → Calls P f args W (HpTo v G F L2 W)) : Calls P f args W (AnsT v w G R L2 L') := by
  obtain ⟨F, S, h1, h2, h3, h4, h5, h6⟩ := h
  refine (hc F h4).mono fun e W' ⟨he, k1, k2⟩ => ⟨he, _, S, fun b hb => ?_, h2, fun b hb hs => ?_, k1, h5.but k2 fun b hs hf => h3 b hf hs, h6.trans (k2.below h6.size h1)⟩
  · rcases hb with hb | hb
    · exact h1 b hb
    · exact Nat.le_trans h6.size hb.1
  · rcases hb with hb | hb
    · exact h3 b hb hs
    · have : b < W.heap.size := by
        obtain ⟨u, _, _, _, hl, _⟩ := h5
        exact hl b hs
      omega
theorem Two.h0 {P : Program} {f : Nat} {args : Array Value} {w W : World} {G R : Nat} {L L' : List It} {x : It} {t : Bool} (h : Two w W G R L L') (hc : ∀ F, Hp W G F L → Calls P f args W (ItTo x t W)) : Calls P f args W (AnsT (.tuple #[ItV x, .bool t]) w G R L L') := by
  obtain ⟨F, S, h1, h2, h3, h4, h5, h6⟩ := id h
  exact (hc F h4).mono fun e W' ⟨he, k⟩ => ⟨he, h.below k⟩
theorem Two.hn {P : Program} {f : Nat} {args : Array Value} {w W : World} {G R : Nat} {L L' : List It} {n : Int} (h : Two w W G R L L') (hc : ∀ F, Hp W G F L → Calls P f args W (TellsIB n W)) : Calls P f args W (AnsT (.int .i64 n) w G R L L') := by
  obtain ⟨F, S, h1, h2, h3, h4, h5, h6⟩ := id h
  exact (hc F h4).mono fun e W' ⟨he, k⟩ => ⟨he, h.below k⟩
/-- what the document's does leaves the heap alone -/
theorem Two.r {P : Program} {f : Nat} {args : Array Value} {w W : World} {G R : Nat} {L L' L2 : List It} {v : Value} (h : Two w W G R L L') (hc : ∀ S, RfS W R S L' → Calls P f args W (RfTo v R S L2 W)) : Calls P f args W (AnsT v w G R L L2) := by
  obtain ⟨F, S, h1, h2, h3, h4, h5, h6⟩ := h
  refine (hc S h5).mono fun e W' ⟨he, k1, k2⟩ => ⟨he, F, _, h1, fun b hb => ?_, fun b hf hb => ?_, h4.but k2 fun b hf hs => h3 b hf hs, k1, h6.trans (k2.below h6.size h2)⟩
  · rcases hb with hb | hb
    · exact h2 b hb
    · exact Nat.le_trans h6.size hb.1
  · rcases hb with hb | hb
    · exact h3 b hf hb
    · have := h4.lt b hf
      omega
theorem Two.r0 {P : Program} {f : Nat} {args : Array Value} {w W : World} {G R : Nat} {L L' : List It} {x : It} {t : Bool} (h : Two w W G R L L') (hc : ∀ S, RfS W R S L' → Calls P f args W (ItTo x t W)) : Calls P f args W (AnsT (.tuple #[ItV x, .bool t]) w G R L L') := by
  obtain ⟨F, S, h1, h2, h3, h4, h5, h6⟩ := id h
  exact (hc S h5).mono fun e W' ⟨he, k⟩ => ⟨he, h.below k⟩
theorem Two.rn {P : Program} {f : Nat} {args : Array Value} {w W : World} {G R : Nat} {L L' : List It} {n : Int} (h : Two w W G R L L') (hc : ∀ S, RfS W R S L' → Calls P f args W (TellsIB n W)) : Calls P f args W (AnsT (.int .i64 n) w G R L L') := by
  obtain ⟨F, S, h1, h2, h3, h4, h5, h6⟩ := id h
  exact (hc S h5).mono fun e W' ⟨he, k⟩ => ⟨he, h.below k⟩
/-- a document's heap without items, laid behind a heap -/
theorem Two.new {w W : World} {G : Nat} {F : Nat → Prop} (h1 : ∀ b, F b → w.heap.size ≤ b) (h4 : Hp W G F []) (h6 : Below w.heap.size w W) : Two w (W.alloc (.cells #[.slice none 0 0] 29)) G W.heap.size [] [] := by
  have hb : Below W.heap.size W (W.alloc (.cells #[.slice none 0 0] 29)) := (Below.refl _ _).alloc (Nat.le_refl _) _
  refine ⟨F, fun b => b = W.heap.size, h1, fun b e => e ▸ h6.size, fun b hf e => ?_, h4.below hb, ⟨.slice none 0 0, heap_alloc_new _ _, World.ownsRow_nil _ _ _ _, rfl, fun b e => by subst e; simp, fun b e => by cases e⟩, h6.trans (hb.mono h6.size)⟩
  have := h4.lt b hf
  omega
end Go.Proofs.Ytgfoagpmkbdciaa
