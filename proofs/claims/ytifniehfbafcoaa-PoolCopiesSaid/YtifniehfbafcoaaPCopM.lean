/-
  Two pools and the document's two, apart: what each call does.
-/
import Derived.Test.YtifniehfbafcoaaGFour
import Derived.Test.YtifniehfbafcoaaPPlays
import Derived.Test.YtifniehfbafcoaaPCopyL
import Derived.Test.YtifniehfbafcoaaPSame
namespace Go.Proofs.Ytifniehfbafcoaa
open Go Go.Shelf Go.RowKit Go.Lib Go.Sort Go.Proofs

abbrev Fr (w W : World) (G R G2 R2 : Nat) (x z : List Ms × Nat) : Prop := Four plT rfT w W G R G2 R2 x x z z
abbrev Fx (w W : World) (G R G2 R2 : Nat) (x z : List Ms × Nat) (X : List (Nat × Obj)) : Prop := FourX plT rfT w W G R G2 R2 x x z z X
/-- what a closure over a row of L is kept by -/
def AllX (L : List Ms) (S0 : Nat) (a : Option Addr) (c : Nat) (X : List (Nat × Obj)) : Prop :=
  ∀ W : World, (∀ p ∈ X, W.heap[p.1]? = some p.2) → W.heap[S0]? = some (.cells #[.slice a L.length c] 27 (0, 0)) ∧ MsC.At W a L.length L ∧ ∃ b : Option Addr, (L = [] ∨ b = a) ∧ ∀ p, b = some p → p.block < W.heap.size
theorem four_all {w W : World} {G R G2 R2 : Nat} {x z : List Ms × Nat} (h : Fr w W G R G2 R2 x z) : Calls Try.prog 12 #[.pointer (some ⟨G, 0, none⟩)] W (fun e W' => ∃ S0 a c X, e = .returned (.func (.func 36) #[] #[.pointer (some ⟨S0, 0, none⟩)]) ∧ Fx w W' G R G2 R2 x z X ∧ AllX x.1 S0 a c X) := by
  obtain ⟨F, hF⟩ := h.fst
  refine (all_any W G F x hF).mono ?_
  rintro e W' ⟨S0, a, c, rfl, hS, hat, hb, hS0, hlo⟩
  by_cases hL : x.1 = []
  · refine ⟨S0, a, c, [(S0, .cells #[.slice a x.1.length c] 27)], rfl, h.withX hb (fun p hp => ?_), fun V hV => ⟨hV _ (List.mem_singleton.2 rfl), ?_, none, .inl hL, fun p e => by cases e⟩⟩
    · rw [List.mem_singleton.1 hp]
      exact ⟨hS0, hS⟩
    · exact ⟨rfl, hat.2.1, .inl (by rw [hL]; rfl)⟩
  · have hl0 : 0 < x.1.length := Nat.pos_of_ne_zero fun e => hL (List.length_eq_zero_iff.1 e)
    obtain ⟨h1, h2, h3 | ⟨B, off, rfl, hB, hc⟩⟩ := hat
    · omega
    · have ho : W'.heap[B]? = some (W'.heap[B]'hB) := Array.getElem?_eq_getElem hB
      have hBl : W.heap.size ≤ B := hlo _ rfl
      refine ⟨S0, some ⟨B, off, none⟩, c, [(S0, .cells #[.slice (some ⟨B, off, none⟩) x.1.length c] 27), (B, W'.heap[B]'hB)], rfl, h.withX hb (fun p hp => ?_), fun V hV => ?_⟩
      · rcases List.mem_cons.1 hp with e | hp
        · rw [e]
          exact ⟨hS0, hS⟩
        · rw [List.mem_singleton.1 hp]
          exact ⟨hBl, ho⟩
      · have hVB := hV _ (List.mem_cons_of_mem _ (List.mem_singleton.2 rfl))
        refine ⟨hV _ (List.mem_cons_self ..), ⟨h1, h2, .inr ⟨B, off, rfl, (Array.getElem?_eq_some_iff.1 hVB).1, fun i hi => (hc i hi).same (hVB.trans ho.symm)⟩⟩, some ⟨B, off, none⟩, .inr rfl, fun p e => ?_⟩
        cases e
        exact (Array.getElem?_eq_some_iff.1 hVB).1
theorem FourX.all {α β : Type} {A : Thing α} {B : Thing β} {w W : World} {G R G2 R2 : Nat} {x x' : α} {y y' : β} {X : List (Nat × Obj)} (h : FourX A B w W G R G2 R2 x y x' y' X) : ∀ p ∈ X, W.heap[p.1]? = some p.2 := fun p hp => h.get (b := p.1) (o := p.2) hp
/-- the copies -/
theorem dd_three {w W : World} {G R : Nat} {x : List Ms × Nat} (h : Dd NoB w W G R x x []) : Calls Try.prog 10 #[.pointer (some ⟨G, 0, none⟩)] W (fun e W' => ∃ G2, e = .returned (.pointer (some ⟨G2, 0, none⟩)) ∧ Three plT rfT w W' G R G2 x x x) := h.three fun _ hF => pl_copy hF
theorem dd_four {w W : World} {G R G2 : Nat} {x : List Ms × Nat} (h : Three plT rfT w W G R G2 x x x) : Calls Try.prog 11 #[.pointer (some ⟨R, 0, none⟩)] W (fun e W' => ∃ R2, e = .returned (.pointer (some ⟨R2, 0, none⟩)) ∧ Fr w W' G R G2 R2 x x) := h.four fun _ hS => rcopy_any hS
section
variable {w W : World} {G R G2 R2 : Nat} {x z : List Ms × Nat} {X : List (Nat × Obj)}
def FxTo (t : Bool) (w : World) (G R G2 R2 : Nat) (x z : List Ms × Nat) (X : List (Nat × Obj)) (e : Ending) (W' : World) : Prop := e = .returned (.bool t) ∧ Fx w W' G R G2 R2 x z X
theorem fx_same (h : Fx w W G R G2 R2 x z X) (t : Bool) (ht : t = decide (x.1 = z.1 ∧ x.2 = z.2)) : Calls Try.prog 13 #[.pointer (some ⟨G, 0, none⟩), .pointer (some ⟨G2, 0, none⟩)] W (FxTo t w G R G2 R2 x z X) := by
  subst ht
  obtain ⟨F, hF⟩ := h.fst
  obtain ⟨F2, hF2⟩ := h.turn.fst
  exact (pl_same hF hF2).mono fun _ _ ⟨he, hb⟩ => ⟨he, h.below hb⟩
theorem fx_same2 (h : Fx w W G R G2 R2 x z X) (t : Bool) (ht : t = decide (x.1 = z.1 ∧ x.2 = z.2)) : Calls Try.prog 13 #[.pointer (some ⟨G2, 0, none⟩), .pointer (some ⟨G, 0, none⟩)] W (FxTo t w G R G2 R2 x z X) :=
  (fx_same h.turn t (by rw [ht]; exact decide_eq_decide.2 ⟨fun h => ⟨h.1.symm, h.2.symm⟩, fun h => ⟨h.1.symm, h.2.symm⟩⟩)).mono fun _ _ ⟨he, hb⟩ => ⟨he, hb.turn⟩
theorem fx_known (h : Fx w W G R G2 R2 x z X) : Calls Try.prog 6 #[] W (FxTo true w G R G2 R2 x z X) := (known_any W).mono fun _ _ ⟨he, hb⟩ => ⟨he, h.below hb⟩
theorem fx_l (h : Fx w W G R G2 R2 x z X) : Calls Try.prog 9 #[.pointer (some ⟨G, 0, none⟩), .pointer (some ⟨R, 0, none⟩)] W (FxTo true w G R G2 R2 x z X) := by
  obtain ⟨F, hF⟩ := h.fst
  obtain ⟨S, hS⟩ := h.snd
  exact (same_any W G R F S x hF hS).mono fun _ _ ⟨he, hb⟩ => ⟨he, h.below hb⟩
theorem fx_r (h : Fx w W G R G2 R2 x z X) : Calls Try.prog 9 #[.pointer (some ⟨G2, 0, none⟩), .pointer (some ⟨R2, 0, none⟩)] W (FxTo true w G R G2 R2 x z X) := (fx_l h.turn).mono fun _ _ ⟨he, hb⟩ => ⟨he, hb.turn⟩
/-- do, by the first pair, by the second one -/
def FxL (w : World) (G R G2 R2 : Nat) (x z : List Ms × Nat) (X : List (Nat × Obj)) (e : Ending) (W' : World) : Prop := e = .returned (.bool true) ∧ ∃ x2 : List Ms × Nat, x2.2 ≤ x.2 + 1 ∧ Fx w W' G R G2 R2 x2 z X
def FxR (w : World) (G R G2 R2 : Nat) (x z : List Ms × Nat) (X : List (Nat × Obj)) (e : Ending) (W' : World) : Prop := e = .returned (.bool true) ∧ ∃ z2 : List Ms × Nat, z2.2 ≤ z.2 + 1 ∧ Fx w W' G R G2 R2 x z2 X
theorem fx_do (h : Fx w W G R G2 R2 x z X) (hl : x.2 ≤ 1000) (k : Int) (y : Ms) (n : Int) : Calls Try.prog 8 #[.pointer (some ⟨G, 0, none⟩), .pointer (some ⟨R, 0, none⟩), ActV k y n] W (FxL w G R G2 R2 x z X) :=
  (h.l (p := fun x2 y2 => x2 = y2 ∧ x2.2 ≤ x.2 + 1) fun T hT => (do_any T W W G R x hT hl k y n).mono fun _ _ ⟨x2, hx2, k2⟩ => ⟨x2, x2, ⟨rfl, hx2⟩, k2⟩).mono fun _ _ ⟨he, x2, y2, ⟨e, hx2⟩, k2⟩ => ⟨he, x2, hx2, by subst e; exact k2⟩
theorem fx_do2 (h : Fx w W G R G2 R2 x z X) (hl : z.2 ≤ 1000) (k : Int) (y : Ms) (n : Int) : Calls Try.prog 8 #[.pointer (some ⟨G2, 0, none⟩), .pointer (some ⟨R2, 0, none⟩), ActV k y n] W (FxR w G R G2 R2 x z X) :=
  (fx_do h.turn hl k y n).mono fun _ _ ⟨he, x2, hx2, k2⟩ => ⟨he, x2, hx2, k2.turn⟩
/-- the document's two rows -/
theorem Rf.rows {w : World} {R : Nat} {S : Nat → Prop} {x : List Ms × Nat} (h : Rf w R S x) : ∃ a n c, (w.cell? ⟨R, 0, none⟩ = some (.slice a n c) ∧ w.cell? ⟨R, 1, none⟩ = some (.int .i64 (x.2 : Nat))) ∧ MsC.At w a n x.1 := by
  obtain ⟨a, n, c, hR, hn, hc, hA, -⟩ := h.open
  exact ⟨a, n, c, ⟨by rw [cell_of_row _ _ _ _ _ _ hR]; rfl, by rw [cell_of_row _ _ _ _ _ _ hR]; rfl⟩, hA⟩
end
end Go.Proofs.Ytifniehfbafcoaa
