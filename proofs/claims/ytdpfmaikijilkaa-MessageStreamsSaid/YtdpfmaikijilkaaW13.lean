/-
  The walk of a request's model.
-/
import Derived.Test.YtdpfmaikijilkaaW12
namespace Go.Proofs.Ytdpfmaikijilkaa
open Go Go.RowKit Go.Sort Go.Proofs

theorem Wi.rest_keeps {S S' : Wi} {l l' : List UInt8} (h : S.rest l = some (l', S')) : S'.fn1 = S.fn1 ∧ S'.fn2 = S.fn2 ∧ S'.bytes.length ≤ S.bytes.length + 5000 := by
  cases S with
  | wr o =>
    simp only [Wi.rest] at h
    split at h
    · rename_i h1
      cases h
      exact ⟨rfl, rfl, by simp [Wi.bytes]; omega⟩
    · cases h
  | rd o =>
    simp only [Wi.rest] at h
    split at h
    · cases h
      exact ⟨rfl, rfl, by simp [Wi.bytes]⟩
    · cases h
theorem RqC_nobyte (q : Rq) (a : Option Addr) (n c j : Nat) (x : Int) : (RqC q (.slice a n c))[j]? ≠ some (.int .u8 x) := by
  intro h
  have hm := Array.mem_of_getElem? h
  simp [RqC] at hm
/-- the end of it -/
theorem model_end {N : Nat} {f1 f2 : FuncId} {P g M : Nat} {F F' F2 : Nat → Prop} {w w' w2 : World} {q : Rq} {S S' : Wi} {K cap cap' : Nat} {a a' : Option Addr} {l' : List UInt8}
    (hb : But (fun k => F k ∨ k = M) w w') (hsub : ∀ b, F' b → F b ∨ w.heap.size ≤ b) (hB : BAt f1 f2 w' P g F' S M 32 (RqC q (.slice a q.model.length cap)) K) (hmod : ∀ p, a = some p → q.model ≠ [] → (¬ F' p.block ∧ p.block ≠ M) ∧ N ≤ p.block) (hN : N ≤ w'.heap.size) (hfr : a' = a ∧ l' = q.model ∨ ∀ p, a' = some p → w'.heap.size ≤ p.block) (hu1 : U32 q.id) (hu2 : U32 q.num)
    (hr : S.rest q.model = some (l', S')) (hb2 : But F' w' w2) (hc : l'.length ≤ cap') (hat : CB.At w2 a' l'.length l') (hsub2 : ∀ b, F2 b → F' b ∨ w'.heap.size ≤ b) (hw : WAt w2 P g F2 S') (hF : ∀ p, a' = some p → ¬ F2 p.block) :
    QMid N f1 f2 P g M F w { q with model := l' } S' (K + 5000) (w2.setCell ⟨M, 3, none⟩ (.slice a' l'.length cap')) := by
  have hz := hb.size
  have hl := hB.lt
  have hbox : w2.heap[M]? = some (.cells (RqC q (.slice a q.model.length cap)) 32 (0, 0)) := (hb2.block M hl hB.nf).trans hB.box
  have hc2 : w2.cell? ⟨M, 3, none⟩ = some (.slice a q.model.length cap) := by rw [cell_of_row _ _ _ _ _ _ hbox]; rfl
  have hnF : ¬ F2 M := fun e => (hsub2 M e).elim hB.nf (by omega)
  have hk := Wi.rest_keeps hr
  have hbd := hB.bd
  refine ⟨(hb.next hb2 fun j hj e => .inl ((hsub j e).resolve_right (by omega))).setCell (.inr rfl) _, F2, a', cap', fun b e => (hsub2 b e).elim (hsub b) fun e => .inr (by omega), ⟨hw.set hc2 (fun x e => by cases e) hnF hB.ne _, heap_setCell_same _ _ _ _ _ _ hbox, hnF, hB.ne, by omega, hk.1.trans hB.e1, hk.2.1.trans hB.e2⟩, hc, hat.set hc2 (fun x e => by cases e) _, fun p e e2 => ⟨⟨hF p e, fun e3 => ?_⟩, ?_⟩, Nat.le_trans hN (by simpa [World.setCell] using hb2.size), hu1, hu2⟩
  rotate_left
  · rcases hfr with ⟨rfl, rfl⟩ | hfr
    · exact (hmod p e e2).2
    · exact Nat.le_trans hN (hfr p e)
  obtain ⟨B, off, e4, -, x, hx, hcell⟩ := hat.cell (i := 0) (List.length_pos_iff.2 e2)
  rw [e] at e4
  cases e4
  have e5 := hcell 0 (by decide)
  obtain rfl : B = M := e3
  rw [cell_of_row _ _ _ _ _ _ hbox] at e5
  exact RqC_nobyte _ _ _ _ _ _ e5

set_option maxHeartbeats 1000000 in
set_option maxRecDepth 100000 in
theorem fieldModel : FieldQ 54 fModel := by
  intro N f1 f2 P g M F w q S K w' ⟨hb, F', a, cap, hsub, hB, hcap, hat, hmod, hN, hu1, hu2⟩ hK
  have hbd := hB.bd
  have hrest : ∀ w1 : World, Below w'.heap.size w' w1 → Calls Try.prog f2 #[.slice a q.model.length cap, .int .i64 4091, .pointer (some ⟨P, 0, none⟩)] w1 (RestTo a q.model P g F' w1 (S.rest q.model)) := fun w1 hb1 => by
    rw [← hB.e2]
    exact rest_any S P g F' a cap q.model w1 (hB.wire.below hb1) (hat.below hb1) hcap (fun p e e2 => (hmod p e e2).1.1) (by omega)
  have hent := S.enters2
  rw [hB.e2] at hent
  have hlt := hB.lt
  have hpl := hB.plc (o := 3) rfl
  have hc3 := hpl.cell
  have hf3 := hpl.fro
  have hend := fun (w1 w2 : World) (l' : List UInt8) (S' : Wi) (F2 : Nat → Prop) (a' : Option Addr) (cap' : Nat) (hr : S.rest q.model = some (l', S')) (hw1 : Below w'.heap.size w' w1) (hb2 : But F' w1 w2) (hc : l'.length ≤ cap') (hfr : a' = a ∧ l' = q.model ∨ ∀ p, a' = some p → w1.heap.size ≤ p.block) (hat2 : CB.At w2 a' l'.length l') (hsub2 : ∀ b, F2 b → F' b ∨ w1.heap.size ≤ b) (hw : WAt w2 P g F2 S') (hF : ∀ p, a' = some p → ¬ F2 p.block) =>
    model_end hb hsub hB hmod hN (hfr.imp_right fun e p e2 => Nat.le_trans hw1.size (e p e2)) hu1 hu2 hr ((But.of hw1).trans hb2) hc hat2 (fun b e => (hsub2 b e).imp_right fun e => by have := hw1.size; omega) hw hF
  have hno : ∀ w1 w2 : World, Below w'.heap.size w' w1 → But F' w1 w2 → But (fun k => F k ∨ k = M) w w2 := fun w1 w2 hb1 hb2 => hb.next ((But.of hb1).trans hb2) fun j hj e => .inl ((hsub j e).resolve_right (by omega))
  have hst : ∀ w1 w2 : World, Below w'.heap.size w' w1 → But F' w1 w2 → w2.cell? ⟨M, 3, none⟩ = some (.slice a q.model.length cap) ∧ w2.frozen? ⟨M, 3, none⟩ = false := fun w1 w2 hb1 hb2 => by
    have e := (((But.of hb1).trans hb2).block M hlt hB.nf).trans hB.box
    exact ⟨by rw [cell_of_row _ _ _ _ _ _ e]; rfl, frozen_of_row _ _ _ _ _ e⟩
  obtain ⟨m, hm⟩ : ∃ m, m = q.model.length := ⟨_, rfl⟩
  rw [← hm] at hrest hc3 hst
  have HE := Lib.hid hend
  have HN := Lib.hid hno
  have HST := Lib.hid hst
  clear hend hno hst hb hsub hB hcap hat hmod hN hu1 hu2 hK hbd hm hpl
  obtain ⟨R, hR⟩ : ∃ R, R = fModel q S := ⟨_, rfl⟩
  rw [← hR]
  cases hr : S.rest q.model with
  | none =>
    have HR : Hid (R = none) := by rw [Lib.hid_eq, hR]; simp only [fModel, hr, Option.map_none]
    rw [hr] at hrest
    have HC := Lib.hid hrest
    clear hrest hR hr
    go_enter Try.func54, Try.ntmps54
    go_wp2
    go_region_dies
    all_goals
      refine (HC.out _ (boxed w' _)).mono ?_
      rintro e w2 ⟨hb2, rfl⟩
      exact ⟨rfl, by rw [HR.out]; exact ⟨HN.out _ _ (boxed w' _) hb2, rfl⟩⟩
  | some r =>
    obtain ⟨l', S'⟩ := r
    have HR : Hid (R = some ({ q with model := l' }, S')) := by rw [Lib.hid_eq, hR]; simp only [fModel, hr, Option.map_some]
    rw [hr] at hrest
    have HC := Lib.hid hrest
    have HRR := Lib.hid hr
    clear hrest hR hr
    go_enter Try.func54, Try.ntmps54
    go_wp2
    go_region_law (first
      | (go_simp; refine (HC.out _ (boxed w' _)).mono ?_; rintro e w2 ⟨hb2, a', cap', rfl, hrs⟩; obtain ⟨c2, fz2⟩ := HST.out _ _ (boxed w' _) hb2; have HRS := Lib.hid (And.intro hb2 hrs); clear hb2 hrs; dsimp only))
    all_goals
      go_wp2
      go_end0
      rw [HR.out]
      obtain ⟨hb2, hc, hfr, hat2, F2, hsub2, hw, hF⟩ := HRS.out
      exact ⟨rfl, HE.out _ _ _ _ _ _ _ HRR.out (boxed w' _) hb2 hc hfr hat2 hsub2 hw hF⟩
end Go.Proofs.Ytdpfmaikijilkaa
