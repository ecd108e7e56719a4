/-
  Two things, four things side by side, apart: what one does leaves the others alone.
-/
import Derived.Test.YtfchfhkhflghbaaGMem
namespace Go.Proofs.Ytfchfhkhflghbaa
open Go Go.RowKit Go.Proofs

/-- a thing in memory: at a world, a block, within blocks, it stands for x -/
structure Thing (α : Type) where
  at_ : World → Nat → (Nat → Prop) → α → Prop
  lt : ∀ {w G F x}, at_ w G F x → ∀ b, F b → b < w.heap.size
  but : ∀ {w w' G F S x}, at_ w G F x → But S w w' → (∀ b, F b → ¬ S b) → at_ w' G F x
section
variable {α β : Type} {A : Thing α} {B : Thing β}
theorem Thing.below {w w' : World} {G : Nat} {F : Nat → Prop} {x : α} (h : A.at_ w G F x) (hb : Below w.heap.size w w') : A.at_ w' G F x := A.but (S := fun _ => False) h (But.of hb) fun _ _ e => e
variable (A) in
/-- it stands for another one now -/
def Thing.To (v : Value) (G : Nat) (F : Nat → Prop) (x : α) (w : World) (e : Ending) (w' : World) : Prop := e = .returned v ∧ A.at_ w' G (Ext F w w') x ∧ But F w w'
variable (A) in
/-- a new one is told, in memory of its own -/
def Thing.New (x : α) (w : World) (e : Ending) (w' : World) : Prop := ∃ G F, e = .returned (.pointer (some ⟨G, 0, none⟩)) ∧ A.at_ w' G F x ∧ (∀ b, F b → w.heap.size ≤ b) ∧ Below w.heap.size w w'

variable (A B) in
/-- as it began at w, but within T and behind it: two things; and what else stands there -/
def Duo (T : Nat → Prop) (w W : World) (G R : Nat) (x : α) (y : β) (X : List (Nat × Obj)) : Prop :=
  ∃ F S, (∀ b, F b → T b ∨ w.heap.size ≤ b) ∧ (∀ b, S b → T b ∨ w.heap.size ≤ b) ∧ (∀ b, F b → ¬ S b) ∧ A.at_ W G F x ∧ B.at_ W R S y ∧ But T w W ∧ ∀ p ∈ X, ¬ F p.1 ∧ ¬ S p.1 ∧ W.heap[p.1]? = some p.2
variable {T : Nat → Prop} {w W : World} {G R : Nat} {x : α} {y : β} {X : List (Nat × Obj)}
theorem Duo.keep (h : Duo A B T w W G R x y X) : But T w W := by
  obtain ⟨F, S, h1, h2, h3, h4, h5, h6, h7⟩ := h
  exact h6
theorem Duo.get (h : Duo A B T w W G R x y X) {b : Nat} {o : Obj} (hm : (b, o) ∈ X) : W.heap[b]? = some o := by
  obtain ⟨F, S, h1, h2, h3, h4, h5, h6, h7⟩ := h
  exact (h7 _ hm).2.2
theorem Duo.less (h : Duo A B T w W G R x y X) : Duo A B T w W G R x y [] := by
  obtain ⟨F, S, h1, h2, h3, h4, h5, h6, h7⟩ := h
  exact ⟨F, S, h1, h2, h3, h4, h5, h6, fun _ h => absurd h (List.not_mem_nil)⟩
theorem Duo.below {W' : World} (h : Duo A B T w W G R x y X) (hb : Below W.heap.size W W') : Duo A B T w W' G R x y X := by
  obtain ⟨F, S, h1, h2, h3, h4, h5, h6, h7⟩ := h
  exact ⟨F, S, h1, h2, h3, Thing.below h4 hb, Thing.below h5 hb, h6.next (T := fun _ => False) (But.of hb) fun _ _ e => e.elim, fun p hp => ⟨(h7 p hp).1, (h7 p hp).2.1, (hb.block _ (Array.getElem?_eq_some_iff.1 (h7 p hp).2.2).1).trans (h7 p hp).2.2⟩⟩
/-- a block more -/
theorem Duo.box (h : Duo A B T w W G R x y X) (o : Obj) : Duo A B T w (W.alloc o) G R x y ((W.heap.size, o) :: X) := by
  obtain ⟨F, S, h1, h2, h3, h4, h5, h6, h7⟩ := h
  have hb : Below W.heap.size W (W.alloc o) := (Below.refl W.heap.size W).alloc (Nat.le_refl _) o
  refine ⟨F, S, h1, h2, h3, Thing.below h4 hb, Thing.below h5 hb, h6.alloc o, fun p hp => ?_⟩
  rcases List.mem_cons.1 hp with rfl | hp
  · exact ⟨fun e => Nat.lt_irrefl _ (A.lt h4 _ e), fun e => Nat.lt_irrefl _ (B.lt h5 _ e), heap_alloc_new _ _⟩
  · exact ⟨(h7 p hp).1, (h7 p hp).2.1, (hb.block _ (Array.getElem?_eq_some_iff.1 (h7 p hp).2.2).1).trans (h7 p hp).2.2⟩
variable (A B) in
def DuoTo (v : Value) (T : Nat → Prop) (w : World) (G R : Nat) (x : α) (y : β) (X : List (Nat × Obj)) (e : Ending) (W' : World) : Prop := e = .returned v ∧ Duo A B T w W' G R x y X
variable {P : Program} {f : Nat} {args : Array Value} {v : Value}
/-- what the first does leaves the second alone -/
theorem Duo.l {x2 : α} (h : Duo A B T w W G R x y X) (hc : ∀ F, A.at_ W G F x → Calls P f args W (A.To v G F x2 W)) : Calls P f args W (DuoTo A B v T w G R x2 y X) := by
  obtain ⟨F, S, h1, h2, h3, h4, h5, h6, h7⟩ := h
  have hz := h6.size
  refine (hc F h4).mono fun e W' ⟨he, k1, k2⟩ => ⟨he, _, S, fun b hb => ?_, h2, fun b hb hs => ?_, k1, B.but h5 k2 fun b hs hf => h3 b hf hs, h6.next k2 fun j hj hf => ?_, fun p hp => ?_⟩
  · rcases hb with hb | hb
    · exact h1 b hb
    · exact .inr (Nat.le_trans hz hb.1)
  · rcases hb with hb | hb
    · exact h3 b hb hs
    · have := B.lt h5 b hs
      omega
  · rcases h1 j hf with e | e
    · exact e
    · omega
  · obtain ⟨p1, p2, p3⟩ := h7 p hp
    have hl := (Array.getElem?_eq_some_iff.1 p3).1
    exact ⟨fun e => e.elim p1 fun e => absurd hl (Nat.not_lt.2 e.1), p2, (k2.block _ hl p1).trans p3⟩
/-- what the second does leaves the first alone -/
theorem Duo.r {y2 : β} (h : Duo A B T w W G R x y X) (hc : ∀ S, B.at_ W R S y → Calls P f args W (B.To v R S y2 W)) : Calls P f args W (DuoTo A B v T w G R x y2 X) := by
  obtain ⟨F, S, h1, h2, h3, h4, h5, h6, h7⟩ := h
  have hz := h6.size
  refine (hc S h5).mono fun e W' ⟨he, k1, k2⟩ => ⟨he, F, _, h1, fun b hb => ?_, fun b hf hb => ?_, A.but h4 k2 fun b hf hs => h3 b hf hs, k1, h6.next k2 fun j hj hf => ?_, fun p hp => ?_⟩
  · rcases hb with hb | hb
    · exact h2 b hb
    · exact .inr (Nat.le_trans hz hb.1)
  · rcases hb with hb | hb
    · exact h3 b hf hb
    · have := A.lt h4 b hf
      omega
  · rcases h2 j hf with e | e
    · exact e
    · omega
  · obtain ⟨p1, p2, p3⟩ := h7 p hp
    have hl := (Array.getElem?_eq_some_iff.1 p3).1
    exact ⟨p1, fun e => e.elim p2 fun e => absurd hl (Nat.not_lt.2 e.1), (k2.block _ hl p2).trans p3⟩
/-- what only lays blocks -/
theorem Duo.l0 (h : Duo A B T w W G R x y X) (hc : ∀ F, A.at_ W G F x → Calls P f args W (Tells v W)) : Calls P f args W (DuoTo A B v T w G R x y X) := by
  obtain ⟨F, S, h1, h2, h3, h4, h5, h6, h7⟩ := id h
  exact (hc F h4).mono fun e W' ⟨he, k⟩ => ⟨he, h.below k⟩
theorem Duo.r0 (h : Duo A B T w W G R x y X) (hc : ∀ S, B.at_ W R S y → Calls P f args W (Tells v W)) : Calls P f args W (DuoTo A B v T w G R x y X) := by
  obtain ⟨F, S, h1, h2, h3, h4, h5, h6, h7⟩ := id h
  exact (hc S h5).mono fun e W' ⟨he, k⟩ => ⟨he, h.below k⟩
theorem Duo.fst (h : Duo A B T w W G R x y X) : ∃ F, A.at_ W G F x := by
  obtain ⟨F, S, h1, h2, h3, h4, h5, h6, h7⟩ := h
  exact ⟨F, h4⟩
theorem Duo.snd (h : Duo A B T w W G R x y X) : ∃ S, B.at_ W R S y := by
  obtain ⟨F, S, h1, h2, h3, h4, h5, h6, h7⟩ := h
  exact ⟨S, h5⟩
/-- nothing of what was -/
abbrev NoB : Nat → Prop := fun _ => False
theorem Duo.old (h : Duo A B NoB w W G R x y X) : Below w.heap.size w W := h.keep.below (Nat.le_refl _) fun _ e => e.elim
/-- the first one is there, the second one has been laid behind it -/
theorem Duo.start0 {F S : Nat → Prop} (h : A.at_ W G F x) (h1 : ∀ b, F b → w.heap.size ≤ b) (k : B.at_ W R S y) (k1 : ∀ b, S b → w.heap.size ≤ b) (hd : ∀ b, F b → ¬ S b) (hb : Below w.heap.size w W) : Duo A B NoB w W G R x y [] :=
  ⟨F, S, fun b e => .inr (h1 b e), fun b e => .inr (k1 b e), hd, h, k, But.of hb, fun _ h => absurd h (List.not_mem_nil)⟩

variable (A B) in
/-- both within T -/
def Pair (T : Nat → Prop) (W : World) (G R : Nat) (x : α) (y : β) : Prop :=
  ∃ F S, (∀ b, F b → T b) ∧ (∀ b, S b → T b) ∧ (∀ b, F b → ¬ S b) ∧ A.at_ W G F x ∧ B.at_ W R S y ∧ ∀ b, T b → b < W.heap.size
theorem Pair.start (h : Pair A B T W G R x y) : Duo A B T W W G R x y [] := by
  obtain ⟨F, S, h1, h2, h3, h4, h5, h6⟩ := h
  exact ⟨F, S, fun b e => .inl (h1 b e), fun b e => .inl (h2 b e), h3, h4, h5, But.refl _ _, fun _ h => absurd h (List.not_mem_nil)⟩
theorem Pair.but {S : Nat → Prop} {W' : World} (h : Pair A B T W G R x y) (hb : But S W W') (hs : ∀ b, T b → ¬ S b) : Pair A B T W' G R x y := by
  obtain ⟨F, S', h1, h2, h3, h4, h5, h6⟩ := h
  exact ⟨F, S', h1, h2, h3, A.but h4 hb fun b e => hs b (h1 b e), B.but h5 hb fun b e => hs b (h2 b e), fun b e => Nat.lt_of_lt_of_le (h6 b e) hb.size⟩
theorem Pair.below {W' : World} (h : Pair A B T W G R x y) (hb : Below W.heap.size W W') : Pair A B T W' G R x y := h.but (S := fun _ => False) (But.of hb) fun _ _ e => e
theorem Pair.lt (h : Pair A B T W G R x y) : ∀ b, T b → b < W.heap.size := by
  obtain ⟨F, S', h1, h2, h3, h4, h5, h6⟩ := h
  exact h6
theorem Duo.stop (h : Duo A B T w W G R x y X) (hT : ∀ b, T b → b < w.heap.size) : Pair A B (Ext T w W) W G R x y := by
  obtain ⟨F, S, h1, h2, h3, h4, h5, h6, h7⟩ := h
  have hz := h6.size
  refine ⟨F, S, fun b e => ?_, fun b e => ?_, h3, h4, h5, fun b e => ?_⟩
  · rcases h1 b e with k | k
    · exact .inl k
    · exact .inr ⟨k, A.lt h4 b e⟩
  · rcases h2 b e with k | k
    · exact .inl k
    · exact .inr ⟨k, B.lt h5 b e⟩
  · rcases e with k | k
    · exact Nat.lt_of_lt_of_le (hT b k) hz
    · exact k.2
variable {G2 R2 : Nat} {x' : α} {y' : β}
variable (A B) in
/-- two such pairs, apart, both behind w -/
def Four (w W : World) (G R G2 R2 : Nat) (x : α) (y : β) (x' : α) (y' : β) : Prop :=
  ∃ T U, (∀ b, T b → w.heap.size ≤ b) ∧ (∀ b, U b → w.heap.size ≤ b) ∧ (∀ b, T b → ¬ U b) ∧ Pair A B T W G R x y ∧ Pair A B U W G2 R2 x' y' ∧ Below w.heap.size w W
theorem Four.turn (h : Four A B w W G R G2 R2 x y x' y') : Four A B w W G2 R2 G R x' y' x y := by
  obtain ⟨T, U, h1, h2, h3, h4, h5, h6⟩ := h
  exact ⟨U, T, h2, h1, fun b e k => h3 b k e, h5, h4, h6⟩
theorem Four.out (h : Four A B w W G R G2 R2 x y x' y') : Below w.heap.size w W := by
  obtain ⟨T, U, h1, h2, h3, h4, h5, h6⟩ := h
  exact h6
theorem Four.below {W' : World} (h : Four A B w W G R G2 R2 x y x' y') (hb : Below W.heap.size W W') : Four A B w W' G R G2 R2 x y x' y' := by
  obtain ⟨T, U, h1, h2, h3, h4, h5, h6⟩ := h
  exact ⟨T, U, h1, h2, h3, h4.below hb, h5.below hb, h6.trans (hb.mono h6.size)⟩
theorem Four.fst (h : Four A B w W G R G2 R2 x y x' y') : ∃ F, A.at_ W G F x := by
  obtain ⟨T, U, -, -, -, ⟨F, S, -, -, -, k, -, -⟩, -, -⟩ := h
  exact ⟨F, k⟩
theorem Four.snd (h : Four A B w W G R G2 R2 x y x' y') : ∃ S, B.at_ W R S y := by
  obtain ⟨T, U, -, -, -, ⟨F, S, -, -, -, -, k, -⟩, -, -⟩ := h
  exact ⟨S, k⟩
/-- what is done by the first pair leaves the other one alone; p says what may become of it -/
theorem Four.l {p : α → β → Prop} (h : Four A B w W G R G2 R2 x y x' y') (hc : ∀ T, Duo A B T W W G R x y [] → Calls P f args W (fun e W' => ∃ x2 y2, p x2 y2 ∧ DuoTo A B v T W G R x2 y2 [] e W')) :
    Calls P f args W (fun e W' => e = .returned v ∧ ∃ x2 y2, p x2 y2 ∧ Four A B w W' G R G2 R2 x2 y2 x' y') := by
  obtain ⟨T, U, h1, h2, h3, h4, h5, h6⟩ := h
  refine (hc T h4.start).mono fun e W' ⟨x2, y2, hp, he, k⟩ => ⟨he, x2, y2, hp, Ext T W W', U, fun b hb => ?_, h2, fun b hb hu => ?_, k.stop h4.lt, h5.but k.keep fun b hu ht => h3 b ht hu, h6.trans (k.keep.below h6.size h1)⟩
  · rcases hb with e | e
    · exact h1 b e
    · exact Nat.le_trans h6.size e.1
  · rcases hb with e | e
    · exact h3 b e hu
    · have := h5.lt b hu
      omega
theorem Four.r {p : α → β → Prop} (h : Four A B w W G R G2 R2 x y x' y') (hc : ∀ T, Duo A B T W W G2 R2 x' y' [] → Calls P f args W (fun e W' => ∃ x2 y2, p x2 y2 ∧ DuoTo A B v T W G2 R2 x2 y2 [] e W')) :
    Calls P f args W (fun e W' => e = .returned v ∧ ∃ x2 y2, p x2 y2 ∧ Four A B w W' G R G2 R2 x y x2 y2) :=
  (h.turn.l hc).mono fun _ _ ⟨he, x2, y2, hp, k⟩ => ⟨he, x2, y2, hp, k.turn⟩

variable (A B) in
/-- the first, the second, a copy of the first, apart -/
def Three (w W : World) (G R G2 : Nat) (x : α) (y : β) (x' : α) : Prop :=
  ∃ F S F2, (∀ b, F b → w.heap.size ≤ b) ∧ (∀ b, S b → w.heap.size ≤ b) ∧ (∀ b, F2 b → w.heap.size ≤ b) ∧ (∀ b, F b → ¬ S b) ∧ (∀ b, F b → ¬ F2 b) ∧ (∀ b, S b → ¬ F2 b) ∧ A.at_ W G F x ∧ B.at_ W R S y ∧ A.at_ W G2 F2 x' ∧ Below w.heap.size w W
theorem Duo.three (h : Duo A B NoB w W G R x y X) (hc : ∀ F, A.at_ W G F x → Calls P f args W (A.New x' W)) : Calls P f args W (fun e W' => ∃ G2, e = .returned (.pointer (some ⟨G2, 0, none⟩)) ∧ Three A B w W' G R G2 x y x') := by
  have ho := h.old
  obtain ⟨F, S, h1, h2, h3, h4, h5, h6, -⟩ := h
  refine (hc F h4).mono fun e W' ⟨G2, F2, he, k1, k2, k3⟩ => ⟨G2, he, F, S, F2, fun b e => (h1 b e).resolve_left fun e => e, fun b e => (h2 b e).resolve_left fun e => e, fun b e => Nat.le_trans ho.size (k2 b e), h3, fun b e e2 => ?_, fun b e e2 => ?_, Thing.below h4 k3, Thing.below h5 k3, k1, ho.trans (k3.mono ho.size)⟩
  · have := A.lt h4 b e
    have := k2 b e2
    omega
  · have := B.lt h5 b e
    have := k2 b e2
    omega
theorem Three.four (h : Three A B w W G R G2 x y x') (hc : ∀ S, B.at_ W R S y → Calls P f args W (B.New y' W)) : Calls P f args W (fun e W' => ∃ R2, e = .returned (.pointer (some ⟨R2, 0, none⟩)) ∧ Four A B w W' G R G2 R2 x y x' y') := by
  obtain ⟨F, S, F2, h1, h2, h3, h4, h5, h6, h7, h8, h9, h10⟩ := h
  have hz := h10.size
  refine (hc S h8).mono fun e W' ⟨R2, S2, he, k1, k2, k3⟩ => ⟨R2, he, fun b => F b ∨ S b, fun b => F2 b ∨ S2 b, fun b e => e.elim (h1 b) (h2 b), fun b e => e.elim (h3 b) fun e => Nat.le_trans hz (k2 b e), fun b e e2 => ?_, ?_, ?_, h10.trans (k3.mono hz)⟩
  · rcases e2 with e2 | e2
    · exact e.elim (fun e => h5 b e e2) fun e => h6 b e e2
    · have := k2 b e2
      rcases e with e | e
      · have := A.lt h7 b e
        omega
      · have := B.lt h8 b e
        omega
  · exact ⟨F, S, fun b e => .inl e, fun b e => .inr e, h4, Thing.below h7 k3, Thing.below h8 k3, fun b e => e.elim (A.lt (Thing.below h7 k3) b) (B.lt (Thing.below h8 k3) b)⟩
  · refine ⟨F2, S2, fun b e => .inl e, fun b e => .inr e, fun b e e2 => ?_, Thing.below h9 k3, k1, fun b e => e.elim (A.lt (Thing.below h9 k3) b) (B.lt k1 b)⟩
    have := A.lt h9 b e
    have := k2 b e2
    omega
end
end Go.Proofs.Ytfchfhkhflghbaa
