/-
  A response in memory, as its fields pass.
-/
import Derived.Test.YtdpfmaikijilkaaW11
import Derived.Test.YtdpfmaikijilkaaW12
namespace Go.Proofs.Ytdpfmaikijilkaa
open Go Go.RowKit Go.Sort Go.Proofs

def SMid (N : Nat) (f1 f2 : FuncId) (P g M : Nat) (F : Nat → Prop) (w : World) (q : Rs) (S : Wi) (K : Nat) (w' : World) : Prop :=
  But (fun k => F k ∨ k = M) w w' ∧ ∃ F' a cap, (∀ b, F' b → F b ∨ w.heap.size ≤ b) ∧ BAt f1 f2 w' P g F' S M 47 (RsC q (.slice a q.vars.length cap)) K ∧ q.vars.length ≤ cap ∧ CV.At w' a q.vars.length q.vars ∧
    (∀ p, a = some p → q.vars ≠ [] → (¬ F' p.block ∧ p.block ≠ M) ∧ N ≤ p.block) ∧ N ≤ w'.heap.size ∧ U32 q.id ∧ U32 q.num
def STo (N : Nat) (f1 f2 : FuncId) (P g M : Nat) (F : Nat → Prop) (w : World) (K : Nat) (r : Option (Rs × Wi)) (e : Ending) (w' : World) : Prop :=
  match r with
  | none => But (fun k => F k ∨ k = M) w w' ∧ e = .panicked fieldPanic
  | some (q, S) => e = .returned (.tuple #[]) ∧ SMid N f1 f2 P g M F w q S K w'
/-- a field's function does as a field does -/
def FieldS (fn : FuncId) (sem : FldS) : Prop := ∀ (N : Nat) (f1 f2 : FuncId) (P g M : Nat) (F : Nat → Prop) (w : World) (q : Rs) (S : Wi) (K : Nat) (w' : World), SMid N f1 f2 P g M F w q S K w' → K ≤ 990000 →
  Calls Try.prog fn #[wv f1 f2 P, .pointer (some ⟨M, 0, none⟩)] w' (STo N f1 f2 P g M F w (K + 5000) (sem q S))
theorem FieldS.lift {fn : FuncId} {sem : FldS} {n : Nat}
    (hbx : ∀ {f1 f2 : FuncId} {P g M : Nat} {F : Nat → Prop} {w : World} {S : Wi} {K : Nat} {q : Rs} {mv : Value}, BAt f1 f2 w P g F S M 47 (RsC q mv) K → U32 q.id → U32 q.num → K ≤ 999000 →
      Calls Try.prog fn #[wv f1 f2 P, .pointer (some ⟨M, 0, none⟩)] w (BxTo f1 f2 P g M 47 F w (K + n) ((sem q S).map fun p => (RsC p.1 mv, p.2))))
    (hn : n ≤ 5000) (hkeep : ∀ q S q' S', sem q S = some (q', S') → U32 q.id → U32 q.num → q'.vars = q.vars ∧ U32 q'.id ∧ U32 q'.num) : FieldS fn sem := by
  intro N f1 f2 P g M F w q S K w' ⟨hb, F', a, cap, hsub, hB, hcap, hat, hmod, hN, hu1, hu2⟩ hK
  refine (hbx hB hu1 hu2 (by omega)).mono fun e w'' hx => ?_
  cases hq : sem q S with
  | none =>
    rw [hq] at hx
    exact BxTo.chain (f1 := f1) (f2 := f2) (P := P) (g := g) (T := 47) (K1 := K) (r := none) hb hsub hx
  | some r =>
    obtain ⟨q', S'⟩ := r
    rw [hq] at hx
    obtain ⟨hm, hi1, hi2⟩ := hkeep _ _ _ _ hq hu1 hu2
    obtain ⟨he, hb2, F'', hsub2, hB2⟩ := hx
    have hz := hb.size
    refine ⟨he, (Mid.chain hb hsub ⟨hb2, F'', hsub2, hB2⟩).1, F'', a, cap, fun b e => (hsub2 b e).elim (hsub b) fun e => .inr (by omega), ?_, by rw [hm]; exact hcap, ?_, ?_, Nat.le_trans hN hb2.size, hi1, hi2⟩
    · have hbd := hB2.bd
      dsimp only at hB2 hbd
      rw [hm]
      exact ⟨hB2.wire, hB2.box, hB2.nf, hB2.ne, by omega, hB2.e1, hB2.e2⟩
    · rw [hm]
      exact hat.but' hb2 fun p e e2 _ e3 => e3.elim (hmod p e e2).1.1 (hmod p e e2).1.2
    · intro p e e2
      rw [hm] at e2
      obtain ⟨⟨hp1, hp2⟩, hp3⟩ := hmod p e e2
      refine ⟨⟨fun e3 => (hsub2 _ e3).elim hp1 fun e4 => ?_, hp2⟩, hp3⟩
      subst e
      obtain ⟨B, off, e5, hlt, -⟩ := hat.cell (i := 0) (List.length_pos_iff.2 e2)
      cases e5
      exact Nat.not_le.2 hlt e4

theorem fieldSID : FieldS 64 gID := FieldS.lift (fun h h1 _ hK => sid_bx h h1 hK) (by decide) fun q S q' S' h h1 h2 => by
  simp only [gID, Option.map_eq_some_iff] at h
  obtain ⟨p, hp, e⟩ := h
  cases e
  exact ⟨rfl, wordW_bd hp h1, h2⟩
theorem fieldSNum : FieldS 69 gNum := FieldS.lift (fun h _ h2 hK => snum_bx h h2 hK) (by decide) fun q S q' S' h h1 h2 => by
  simp only [gNum, Option.map_eq_some_iff] at h
  obtain ⟨p, hp, e⟩ := h
  cases e
  exact ⟨rfl, h1, wordW_bd hp h2⟩
theorem fieldSErr : FieldS 65 gErr := FieldS.lift (fun h _ _ hK => serr_bx h hK) (by decide) fun q S q' S' h h1 h2 => by
  simp only [gErr, Option.map_eq_some_iff] at h
  obtain ⟨p, hp, e⟩ := h
  cases e
  exact ⟨rfl, h1, h2⟩
theorem fieldSFloor : FieldS 66 gFloor := FieldS.lift (fun h _ _ hK => sfloor_bx h hK) (by decide) fun q S q' S' h h1 h2 => by
  simp only [gFloor, Option.map_eq_some_iff] at h
  obtain ⟨p, hp, e⟩ := h
  cases e
  exact ⟨rfl, h1, h2⟩
theorem fieldSRecord : FieldS 68 gRecord := FieldS.lift (fun h _ _ hK => srecord_bx h hK) (by decide) fun q S q' S' h h1 h2 => by
  simp only [gRecord, Option.map_eq_some_iff, Option.bind_eq_some_iff] at h
  obtain ⟨_, _, _, _, _, _, p, hp, e⟩ := h
  cases e
  exact ⟨rfl, h1, h2⟩
theorem fieldSEvent : FieldS 70 gEvent := FieldS.lift (fun h _ _ hK => sevent_bx h hK) (by decide) fun q S q' S' h h1 h2 => by
  simp only [gEvent, Option.map_eq_some_iff, Option.bind_eq_some_iff] at h
  obtain ⟨_, _, p, hp, e⟩ := h
  cases e
  exact ⟨rfl, h1, h2⟩
end Go.Proofs.Ytdpfmaikijilkaa
