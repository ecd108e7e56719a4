/-
  Numbers that pass in the midst of a box: a message's.
-/
import Derived.Test.YtdpfmaikijilkaaW7
namespace Go.Proofs.Ytdpfmaikijilkaa
open Go Go.RowKit Go.Sort Go.Proofs

theorem num_keeps {S S' : Wi} {n v : Int} {s : Nat} (h : S.num n s = some (v, S')) : S'.fn1 = S.fn1 ∧ S'.fn2 = S.fn2 ∧ S'.bytes.length ≤ S.bytes.length + s := by
  cases S with
  | wr o =>
    simp only [Wi.num, Option.some.injEq, Prod.mk.injEq] at h
    obtain ⟨_, rfl⟩ := h
    exact ⟨rfl, rfl, by simp [Wi.bytes, beR_len]⟩
  | rd l =>
    simp only [Wi.num] at h
    split at h
    · simp only [Option.some.injEq, Prod.mk.injEq] at h
      obtain ⟨_, rfl⟩ := h
      exact ⟨rfl, rfl, by simp [Wi.bytes]; omega⟩
    · cases h
def Keeps (S S' : Wi) (n : Nat) : Prop := S'.fn1 = S.fn1 ∧ S'.fn2 = S.fn2 ∧ S'.bytes.length ≤ S.bytes.length + n
theorem word_keeps {S S' : Wi} {v v' : Int} (h : wordW S v = some (v', S')) : Keeps S S' 8 := by
  have := num_keeps h
  exact ⟨this.1, this.2.1, by omega⟩
theorem whole_keeps {S S' : Wi} {v v' : Int} (h : wholeW S v = some (v', S')) : Keeps S S' 8 := by
  unfold wholeW at h
  simp only [Option.map_eq_some_iff] at h
  obtain ⟨p, h1, e⟩ := h
  cases e
  exact num_keeps (v := p.1) h1
theorem oct_keeps {S S' : Wi} {v m v' : Int} (h : octW S v m = some (v', S')) : Keeps S S' 8 := by
  unfold octW at h
  simp only [Option.bind_eq_some_iff] at h
  obtain ⟨p, h1, e⟩ := h
  split at e
  · cases e
    have := num_keeps (v := p.1) h1
    exact ⟨this.1, this.2.1, by omega⟩
  · cases e
theorem any_keeps {S S' : Wi} {v v' : Int} (h : anyW S v = some (v', S')) : Keeps S S' 8 := by
  unfold anyW at h
  split at h
  · cases h
  · simp only [Option.map_eq_some_iff] at h
    obtain ⟨⟨p, q⟩, h1, e⟩ := h
    cases e
    exact oct_keeps h1

/-- a wire, and a box that is no part of it -/
structure BAt (f1 f2 : FuncId) (w : World) (P g : Nat) (F : Nat → Prop) (S : Wi) (M : Nat) (T : TypeId) (c : Array Value) (K : Nat) : Prop where
  wire : WAt w P g F S
  box : w.heap[M]? = some (.cells c T (0, 0))
  nf : ¬ F M
  ne : M ≠ P
  bd : S.bytes.length ≤ K
  e1 : S.fn1 = f1
  e2 : S.fn2 = f2
/-- .. as they stand later on -/
def Mid (f1 f2 : FuncId) (P g M : Nat) (T : TypeId) (F : Nat → Prop) (w : World) (c : Array Value) (S : Wi) (K : Nat) (w' : World) : Prop :=
  But (fun k => F k ∨ k = M) w w' ∧ ∃ F', (∀ b, F' b → F b ∨ w.heap.size ≤ b) ∧ BAt f1 f2 w' P g F' S M T c K
def BxTo (f1 f2 : FuncId) (P g M : Nat) (T : TypeId) (F : Nat → Prop) (w : World) (K : Nat) (r : Option (Array Value × Wi)) (e : Ending) (w' : World) : Prop :=
  match r with
  | none => But (fun k => F k ∨ k = M) w w' ∧ e = .panicked fieldPanic
  | some (c, S) => e = .returned (.tuple #[]) ∧ Mid f1 f2 P g M T F w c S K w'
section
variable {f1 f2 : FuncId} {P g M : Nat} {T : TypeId} {F : Nat → Prop} {w w' : World} {c : Array Value} {S : Wi} {K : Nat}
theorem BAt.lt (h : BAt f1 f2 w P g F S M T c K) : M < w.heap.size := (Array.getElem?_eq_some_iff.1 h.box).1
theorem BAt.below (h : BAt f1 f2 w P g F S M T c K) (hb : Below w.heap.size w w') : BAt f1 f2 w' P g F S M T c K := ⟨h.wire.below hb, (hb.block M h.lt).trans h.box, h.nf, h.ne, h.bd, h.e1, h.e2⟩
theorem BAt.mid (h : BAt f1 f2 w P g F S M T c K) : Mid f1 f2 P g M T F w c S K w := ⟨But.refl _ _, F, fun _ e => .inl e, h⟩
theorem Mid.below {w2 : World} (h : Mid f1 f2 P g M T F w c S K w') (hb : Below w'.heap.size w' w2) : Mid f1 f2 P g M T F w c S K w2 :=
  ⟨h.1.trans (But.of hb), h.2.elim fun F' e => ⟨F', e.1, e.2.below hb⟩⟩
theorem Mid.alloc (h : Mid f1 f2 P g M T F w c S K w') (O : Obj) : Mid f1 f2 P g M T F w c S K (w'.alloc O) := h.below ((Below.refl _ _).alloc (Nat.le_refl _) _)
theorem Mid.drew (h : Mid f1 f2 P g M T F w c S K w') : Mid f1 f2 P g M T F w c S K w'.drew := h.below (Below.refl _ _).drew
theorem Mid.cell (h : Mid f1 f2 P g M T F w c S K w') {o : Nat} {v : Value} (hc : c[o]? = some v) : w'.cell? ⟨M, o, none⟩ = some v := by
  obtain ⟨_, F', _, h2⟩ := h
  rw [cell_of_row _ _ _ _ _ _ h2.box]
  exact hc
theorem Mid.fro (h : Mid f1 f2 P g M T F w c S K w') {o : Nat} : w'.frozen? ⟨M, o, none⟩ = false := by
  obtain ⟨_, F', _, h2⟩ := h
  exact frozen_of_row _ _ _ _ _ h2.box
theorem Mid.chain {w1 w2 : World} {c1 : Array Value} {S1 : Wi} {K1 : Nat} {F1 : Nat → Prop} (h : But (fun k => F k ∨ k = M) w w1) (hsub : ∀ b, F1 b → F b ∨ w.heap.size ≤ b) (h' : Mid f1 f2 P g M T F1 w1 c1 S1 K1 w2) : Mid f1 f2 P g M T F w c1 S1 K1 w2 := by
  obtain ⟨hb, F', hs, h2⟩ := h'
  have := h.size
  refine ⟨h.next hb fun j hj e => ?_, F', fun b e => (hs b e).elim (hsub b) fun e => .inr (by omega), h2⟩
  rcases e with e | e
  · exact .inl ((hsub j e).resolve_right (by omega))
  · exact .inr e
theorem BxTo.chain {w1 w2 : World} {K1 : Nat} {F1 : Nat → Prop} {r : Option (Array Value × Wi)} {e : Ending} (h : But (fun k => F k ∨ k = M) w w1) (hsub : ∀ b, F1 b → F b ∨ w.heap.size ≤ b) (h' : BxTo f1 f2 P g M T F1 w1 K1 r e w2) : BxTo f1 f2 P g M T F w K1 r e w2 := by
  cases r with
  | none =>
    refine ⟨h.next h'.1 fun j hj e => ?_, h'.2⟩
    rcases e with e | e
    · exact .inl ((hsub j e).resolve_right (by omega))
    · exact .inr e
  | some r => exact ⟨h'.1, Mid.chain h hsub h'.2⟩
theorem leaf_bx {o : Nat} {mk : Int → Value} {r : Option (Int × Wi)} {e : Ending} (h : BAt f1 f2 w P g F S M T c K) (hk : ∀ v S', r = some (v, S') → Keeps S S' 8) (hl : LeafTo P g M o F w mk r e w') :
    BxTo f1 f2 P g M T F w (K + 8) (r.map fun p => (c.setIfInBounds o (mk p.1), p.2)) e w' := by
  obtain ⟨hb, hr⟩ := hl
  cases r with
  | none => exact ⟨hb, hr⟩
  | some r =>
    obtain ⟨v, S'⟩ := r
    obtain ⟨rfl, ⟨F', hsub, hw⟩, hst⟩ := hr
    have hkk := hk _ _ rfl
    have := h.bd
    have := hkk.2.2
    have := h.lt
    exact ⟨rfl, hb, F', hsub, hw, hst.trans (heap_setCell_same _ _ _ _ _ _ h.box), fun e => (hsub M e).elim h.nf (by omega), h.ne, Nat.le_trans hkk.2.2 (by omega), hkk.1.trans h.e1, hkk.2.1.trans h.e2⟩
theorem BAt.plc (h : BAt f1 f2 w P g F S M T c K) {o : Nat} {v : Value} (hc : c[o]? = some v) : Plc w P M o F v :=
  ⟨by rw [cell_of_row _ _ _ _ _ _ h.box]; exact hc, frozen_of_row _ _ _ _ _ h.box, h.nf, h.ne⟩

/-- the four leaves, in the midst -/
theorem word_mid (h : Mid f1 f2 P g M T F w c S K w') {o : Nat} {v : Int} (hc : c[o]? = some (.int .u32 v)) (hv : U32 v) (hK : K ≤ 1000000) :
    Calls Try.prog 75 #[wv f1 f2 P, .pointer (some ⟨M, o, none⟩)] w' (BxTo f1 f2 P g M T F w (K + 8) ((wordW S v).map fun p => (c.setIfInBounds o (.int .u32 p.1), p.2))) := by
  obtain ⟨hb, F', hsub, h2⟩ := h
  obtain rfl := h2.e1
  obtain rfl := h2.e2
  exact (word_any S P g M o F' v w' h2.wire (h2.plc hc) hv (Nat.le_trans h2.bd hK)).mono fun e w'' hl => BxTo.chain hb hsub (leaf_bx h2 (fun _ _ e => word_keeps e) hl)
theorem whole_mid (h : Mid f1 f2 P g M T F w c S K w') {o : Nat} {v : Int} (hc : c[o]? = some (.int .i64 v)) (hK : K ≤ 1000000) :
    Calls Try.prog 77 #[wv f1 f2 P, .pointer (some ⟨M, o, none⟩)] w' (BxTo f1 f2 P g M T F w (K + 8) ((wholeW S v).map fun p => (c.setIfInBounds o (.int .i64 p.1), p.2))) := by
  obtain ⟨hb, F', hsub, h2⟩ := h
  obtain rfl := h2.e1
  obtain rfl := h2.e2
  exact (whole_any S P g M o F' v w' h2.wire (h2.plc hc) (Nat.le_trans h2.bd hK)).mono fun e w'' hl => BxTo.chain hb hsub (leaf_bx h2 (fun _ _ e => whole_keeps e) hl)
theorem octet_mid (h : Mid f1 f2 P g M T F w c S K w') {o : Nat} {v : Int} (most : Int) (hc : c[o]? = some (.int .i64 v)) (hK : K ≤ 1000000) :
    Calls Try.prog 76 #[wv f1 f2 P, .pointer (some ⟨M, o, none⟩), .int .i64 most] w' (BxTo f1 f2 P g M T F w (K + 8) ((octW S v most).map fun p => (c.setIfInBounds o (.int .i64 p.1), p.2))) := by
  obtain ⟨hb, F', hsub, h2⟩ := h
  obtain rfl := h2.e1
  obtain rfl := h2.e2
  exact (octet_any S P g M o F' v w' h2.wire (h2.plc hc) most (Nat.le_trans h2.bd hK)).mono fun e w'' hl => BxTo.chain hb hsub (leaf_bx h2 (fun _ _ e => oct_keeps e) hl)
theorem octetE_mid (h : Mid f1 f2 P g M T F w c S K w') {o : Nat} {v : Int} (most : Int) (hc : c[o]? = some (.int .i64 v)) (hK : K ≤ 1000000) :
    Calls Try.prog 87 #[wv f1 f2 P, .pointer (some ⟨M, o, none⟩), .int .i64 most] w' (BxTo f1 f2 P g M T F w (K + 8) ((octW S v most).map fun p => (c.setIfInBounds o (.int .i64 p.1), p.2))) := by
  obtain ⟨hb, F', hsub, h2⟩ := h
  obtain rfl := h2.e1
  obtain rfl := h2.e2
  exact (octetE_any S P g M o F' v w' h2.wire (h2.plc hc) most (Nat.le_trans h2.bd hK)).mono fun e w'' hl => BxTo.chain hb hsub (leaf_bx h2 (fun _ _ e => oct_keeps e) hl)
theorem kind_mid (h : Mid f1 f2 P g M T F w c S K w') {o : Nat} {v : Int} (hc : c[o]? = some (.int .i64 v)) (hK : K ≤ 1000000) :
    Calls Try.prog 79 #[wv f1 f2 P, .pointer (some ⟨M, o, none⟩)] w' (BxTo f1 f2 P g M T F w (K + 8) ((anyW S v).map fun p => (c.setIfInBounds o (.int .i64 p.1), p.2))) := by
  obtain ⟨hb, F', hsub, h2⟩ := h
  obtain rfl := h2.e1
  obtain rfl := h2.e2
  exact (any_any S P g M o F' v w' h2.wire (h2.plc hc) (Nat.le_trans h2.bd hK)).mono fun e w'' hl => BxTo.chain hb hsub (leaf_bx h2 (fun _ _ e => any_keeps e) hl)
end
end Go.Proofs.Ytdpfmaikijilkaa
