/-
  The heap's Same in all cases; three, four side by side.
-/
import Derived.Test.YtgfoagpmkbdciaaHSame
import Derived.Test.YtgfoagpmkbdciaaHPlays
import Derived.Test.YtgfoagpmkbdciaaHCopy
import Derived.BigRegion
namespace Go.Proofs.Ytgfoagpmkbdciaa
open Go Go.Shelf Go.RowKit Go.Lib Go.Sort Go.Proofs HpM

set_option maxRecDepth 100000 in
set_option maxHeartbeats 1000000 in
theorem hsame_ne (w : World) (G G2 : Nat) (F F2 : Nat → Prop) (d d2 : Array It) (f f2 : Pl) (h : HeapSt w G F d f) (k : HeapSt w G2 F2 d2 f2) (hd : d.size ≠ d2.size) : Calls Try.prog 13 #[.pointer (some ⟨G, 0, none⟩), .pointer (some ⟨G2, 0, none⟩)] w (TellsBB false w) := by
  have mixed : Try.prog.follows .mixedOrders = true := by kernel_rfl
  have hal : Below w.heap.size w ((w.alloc (.cells #[.pointer (some ⟨G2, 0, none⟩)] 24)).alloc (.cells #[.bool false] 4)) := ((Below.refl w.heap.size w).alloc (Nat.le_refl _) _).alloc (by simp) _
  have hob : Boxed ((w.alloc (.cells #[.pointer (some ⟨G2, 0, none⟩)] 24)).alloc (.cells #[.bool false] 4)) w.heap.size 24 (.pointer (some ⟨G2, 0, none⟩)) := (Boxed.new w _ _).alloc _
  have hrb : Boxed ((w.alloc (.cells #[.pointer (some ⟨G2, 0, none⟩)] 24)).alloc (.cells #[.bool false] 4)) (w.heap.size + 1) 4 (.bool false) := by
    have := Boxed.new (w.alloc (.cells #[.pointer (some ⟨G2, 0, none⟩)] 24)) 4 (.bool false)
    rwa [World.size_alloc] at this
  have HB := Lib.hid (And.intro hal (And.intro hob hrb))
  obtain ⟨a, c, g1⟩ := (h.below hal).c0
  obtain ⟨a2, c2, k1⟩ := (k.below hal).c0
  have hne : ((d.size : Int) != (d2.size : Int)) = true := bne_iff_ne.2 (by omega)
  clear h k hd hal hob hrb
  go_enter Try.func13, Try.ntmps13
  go_wp2_with fail
  obtain ⟨w0, hw0⟩ : ∃ w0, w0 = (w.alloc (.cells #[.pointer (some ⟨G2, 0, none⟩)] 24)).alloc (.cells #[.bool false] 4) := ⟨_, rfl⟩
  rw [← hw0] at HB g1 k1 ⊢
  have hobc := HB.out.2.1.cell
  clear hw0
  go_region
  all_goals
    have HB1 : Hid (Below w.heap.size w w0.drew ∧ Boxed w0.drew (w.heap.size + 1) 4 (.bool false)) := ⟨HB.out.1.drew, HB.out.2.2⟩
    generalize w0.drew = w5 at HB1 ⊢
    have hcl := HB1.out.2.cell
    have hfz := HB1.out.2.frozen
    go_wp2
    have hv2 := (HB1.out.2.set (.bool false)).cell
    exact bodyPost_ret (v := .bool false) (by simp [results, Try.results13, go_sem, hv2]) rfl ⟨rfl, HB1.out.1.setCell (p := ⟨w.heap.size + 1, 0, none⟩) (Nat.le_succ _) _⟩
theorem hsame_any {w : World} {G G2 : Nat} {F F2 : Nat → Prop} {L M : List It} (h : Hp w G F L) (k : Hp w G2 F2 M) (hl : L.length ≤ 1000) : Calls Try.prog 13 #[.pointer (some ⟨G, 0, none⟩), .pointer (some ⟨G2, 0, none⟩)] w (TellsBB (decide (L = M)) w) := by
  obtain ⟨d, f, h, r⟩ := h
  obtain ⟨d2, f2, k, s⟩ := k
  by_cases hd : d.size = d2.size
  · exact hsame_eq w G G2 F F2 d d2 f f2 L M h r k s hd (by rw [r.size]; omega)
  · have hne : L ≠ M := fun e => hd (by rw [r.size, s.size, e])
    rw [decide_eq_false hne]
    exact hsame_ne w G G2 F F2 d d2 f f2 h k hd

/-- a heap, the document's, a heap, of one list, apart -/
def Three (w W : World) (G R G2 : Nat) (L : List It) : Prop :=
  ∃ F S F2, (∀ b, F b → w.heap.size ≤ b) ∧ (∀ b, S b → w.heap.size ≤ b) ∧ (∀ b, F2 b → w.heap.size ≤ b) ∧ (∀ b, F b → ¬ S b) ∧ (∀ b, F b → ¬ F2 b) ∧ (∀ b, S b → ¬ F2 b) ∧ Hp W G F L ∧ RfS W R S L ∧ Hp W G2 F2 L ∧ Below w.heap.size w W
def ThreeTo (w : World) (G R : Nat) (L : List It) (e : Ending) (W' : World) : Prop := ∃ G2, e = .returned (.pointer (some ⟨G2, 0, none⟩)) ∧ Three w W' G R G2 L
theorem three_of {w W : World} {G R : Nat} {L : List It} (h : TwoT NoB w W G R L L []) (hl : L.length ≤ 10000) : Calls Try.prog 11 #[.pointer (some ⟨G, 0, none⟩)] W (ThreeTo w G R L) := by
  have ho := h.old
  obtain ⟨F, S, h1, h2, h3, h4, h5, h6, -⟩ := h
  refine (copy_any W G F L h4 hl).mono fun e W' ⟨G2, F2, he, k1, k2, k3⟩ => ⟨G2, he, F, S, F2, fun b e => (h1 b e).resolve_left fun e => e, fun b e => (h2 b e).resolve_left fun e => e, fun b e => Nat.le_trans ho.size (k2 b e), h3, fun b e e2 => ?_, fun b e e2 => ?_, h4.below k3, h5.below k3, k1, ho.trans (k3.mono ho.size)⟩
  · have := h4.lt b e
    have := k2 b e2
    omega
  · have := h5.lt b e
    have := k2 b e2
    omega
def FourTo (w : World) (G R G2 : Nat) (L : List It) (e : Ending) (W' : World) : Prop := ∃ R2, e = .returned (.pointer (some ⟨R2, 0, none⟩)) ∧ Four w W' G R G2 R2 L L
theorem four_of {w W : World} {G R G2 : Nat} {L : List It} (h : Three w W G R G2 L) (hl : L.length ≤ 10000) : Calls Try.prog 12 #[.pointer (some ⟨R, 0, none⟩)] W (FourTo w G R G2 L) := by
  obtain ⟨F, S, F2, h1, h2, h3, h4, h5, h6, h7, h8, h9, h10⟩ := h
  have hz := h10.size
  refine (rcopy_any W R S L h8 hl).mono fun e W' ⟨R2, S2, he, k1, k2, k3⟩ => ⟨R2, he, fun b => F b ∨ S b, fun b => F2 b ∨ S2 b, fun b e => e.elim (h1 b) (h2 b), fun b e => e.elim (h3 b) fun e => Nat.le_trans hz (k2 b e), fun b e e2 => ?_, ?_, ?_, h10.trans (k3.mono hz)⟩
  · rcases e2 with e2 | e2
    · exact e.elim (fun e => h5 b e e2) fun e => h6 b e e2
    · have := k2 b e2
      rcases e with e | e
      · have := h7.lt b e
        omega
      · have := h8.lt b e
        omega
  · exact ⟨F, S, fun b e => .inl e, fun b e => .inr e, h4, h7.below k3, h8.below k3, fun b e => e.elim ((h7.below k3).lt b) ((h8.below k3).lt b)⟩
  · refine ⟨F2, S2, fun b e => .inl e, fun b e => .inr e, fun b e e2 => ?_, h9.below k3, k1, fun b e => e.elim ((h9.below k3).lt b) (k1.lt b)⟩
    have := h9.lt b e
    have := k2 b e2
    omega
/-- an answer, the four as they were -/
def FourB (t : Bool) (w : World) (G R G2 R2 : Nat) (L M : List It) (e : Ending) (W' : World) : Prop := e = .returned (.bool t) ∧ Four w W' G R G2 R2 L M
theorem Four.hs {w W : World} {G R G2 R2 : Nat} {L M : List It} (h : Four w W G R G2 R2 L M) (hl : L.length ≤ 1000) (t : Bool) (ht : t = decide (L = M)) : Calls Try.prog 13 #[.pointer (some ⟨G, 0, none⟩), .pointer (some ⟨G2, 0, none⟩)] W (FourB t w G R G2 R2 L M) := by
  subst ht
  obtain ⟨T, U, -, -, -, ⟨F, S, -, -, -, hF, -, -⟩, ⟨F2, S2, -, -, -, hF2, -, -⟩, -⟩ := id h
  exact (hsame_any hF hF2 hl).mono fun _ _ ⟨he, hb⟩ => ⟨he, h.below hb⟩
theorem Four.hs2 {w W : World} {G R G2 R2 : Nat} {L M : List It} (h : Four w W G R G2 R2 L M) (hl : M.length ≤ 1000) (t : Bool) (ht : t = decide (L = M)) : Calls Try.prog 13 #[.pointer (some ⟨G2, 0, none⟩), .pointer (some ⟨G, 0, none⟩)] W (FourB t w G R G2 R2 L M) :=
  (h.turn.hs hl t (by rw [ht]; simp [eq_comm])).mono fun _ _ ⟨he, hb⟩ => ⟨he, hb.turn⟩
theorem Four.ls {w W : World} {G R G2 R2 : Nat} {L M : List It} (h : Four w W G R G2 R2 L M) (hl : L.length ≤ 1000) : Calls Try.prog 10 #[.pointer (some ⟨G, 0, none⟩), .pointer (some ⟨R, 0, none⟩)] W (FourB true w G R G2 R2 L M) := by
  obtain ⟨T, U, -, -, -, ⟨F, S, -, -, -, hF, hS, -⟩, -, -⟩ := id h
  exact (same_any W G R F S L hF hS hl).mono fun _ _ ⟨he, hb⟩ => ⟨he, h.below hb⟩
theorem Four.rs {w W : World} {G R G2 R2 : Nat} {L M : List It} (h : Four w W G R G2 R2 L M) (hl : M.length ≤ 1000) : Calls Try.prog 10 #[.pointer (some ⟨G2, 0, none⟩), .pointer (some ⟨R2, 0, none⟩)] W (FourB true w G R G2 R2 L M) :=
  (h.turn.ls hl).mono fun _ _ ⟨he, hb⟩ => ⟨he, hb.turn⟩
theorem Four.rows {w W : World} {G R G2 R2 : Nat} {L M : List It} (h : Four w W G R G2 R2 L M) (hl : L.length ≤ 1000) (hm : M.length ≤ 1000) : (∃ a n c, W.cell? ⟨R, 0, none⟩ = some (.slice a n c) ∧ ItAt W a n L) ∧ ∃ a n c, W.cell? ⟨R2, 0, none⟩ = some (.slice a n c) ∧ ItAt W a n M := by
  obtain ⟨T, U, -, -, -, ⟨F, S, -, -, -, -, hS, -⟩, ⟨F2, S2, -, -, -, -, hS2, -⟩, -⟩ := h
  obtain ⟨a, n, c, h1, -, -, h2⟩ := hS.rf (by omega)
  obtain ⟨a', n', c', h1', -, -, h2'⟩ := hS2.rf (by omega)
  exact ⟨⟨a, n, c, h1, h2⟩, a', n', c', h1', h2'⟩
end Go.Proofs.Ytgfoagpmkbdciaa
