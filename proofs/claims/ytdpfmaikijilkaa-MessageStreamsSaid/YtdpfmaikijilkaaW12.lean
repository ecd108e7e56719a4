/-
  A request in memory, as its fields pass; the walk of its model.
-/
import Derived.Test.YtdpfmaikijilkaaW10
namespace Go.Proofs.Ytdpfmaikijilkaa
open Go Go.RowKit Go.Sort Go.Proofs

def QMid (N : Nat) (f1 f2 : FuncId) (P g M : Nat) (F : Nat → Prop) (w : World) (q : Rq) (S : Wi) (K : Nat) (w' : World) : Prop :=
  But (fun k => F k ∨ k = M) w w' ∧ ∃ F' a cap, (∀ b, F' b → F b ∨ w.heap.size ≤ b) ∧ BAt f1 f2 w' P g F' S M 32 (RqC q (.slice a q.model.length cap)) K ∧ q.model.length ≤ cap ∧ CB.At w' a q.model.length q.model ∧
    (∀ p, a = some p → q.model ≠ [] → (¬ F' p.block ∧ p.block ≠ M) ∧ N ≤ p.block) ∧ N ≤ w'.heap.size ∧ U32 q.id ∧ U32 q.num
def QTo (N : Nat) (f1 f2 : FuncId) (P g M : Nat) (F : Nat → Prop) (w : World) (K : Nat) (r : Option (Rq × Wi)) (e : Ending) (w' : World) : Prop :=
  match r with
  | none => But (fun k => F k ∨ k = M) w w' ∧ e = .panicked fieldPanic
  | some (q, S) => e = .returned (.tuple #[]) ∧ QMid N f1 f2 P g M F w q S K w'
/-- a field's function does as a field does -/
def FieldQ (fn : FuncId) (sem : FldQ) : Prop := ∀ (N : Nat) (f1 f2 : FuncId) (P g M : Nat) (F : Nat → Prop) (w : World) (q : Rq) (S : Wi) (K : Nat) (w' : World), QMid N f1 f2 P g M F w q S K w' → K ≤ 990000 →
  Calls Try.prog fn #[wv f1 f2 P, .pointer (some ⟨M, 0, none⟩)] w' (QTo N f1 f2 P g M F w (K + 5000) (sem q S))
theorem CB_nil (w : World) (a : Option Addr) : CB.At w a 0 [] := ⟨rfl, by decide, .inl rfl⟩
theorem Cod.At.but' {α : Type} {C : Cod α} {T : Nat → Prop} {w w' : World} {a : Option Addr} {n : Nat} {l : List α} (h : C.At w a n l) (hb : But T w w') (hs : ∀ p, a = some p → l ≠ [] → p.block < w.heap.size → ¬ T p.block) : C.At w' a n l := by
  by_cases e : l = []
  · subst e
    obtain ⟨h1, h2, _⟩ := h
    exact ⟨h1, h2, .inl h1.symm⟩
  · exact h.same hb.size fun p e2 hp => hb.block _ hp (hs p e2 e hp)
theorem FieldQ.lift {fn : FuncId} {sem : FldQ} {n : Nat}
    (hbx : ∀ {f1 f2 : FuncId} {P g M : Nat} {F : Nat → Prop} {w : World} {S : Wi} {K : Nat} {q : Rq} {mv : Value}, BAt f1 f2 w P g F S M 32 (RqC q mv) K → U32 q.id → U32 q.num → K ≤ 999000 →
      Calls Try.prog fn #[wv f1 f2 P, .pointer (some ⟨M, 0, none⟩)] w (BxTo f1 f2 P g M 32 F w (K + n) ((sem q S).map fun p => (RqC p.1 mv, p.2))))
    (hn : n ≤ 5000) (hkeep : ∀ q S q' S', sem q S = some (q', S') → U32 q.id → U32 q.num → q'.model = q.model ∧ U32 q'.id ∧ U32 q'.num) : FieldQ fn sem := by
  intro N f1 f2 P g M F w q S K w' ⟨hb, F', a, cap, hsub, hB, hcap, hat, hmod, hN, hu1, hu2⟩ hK
  refine (hbx hB hu1 hu2 (by omega)).mono fun e w'' hx => ?_
  cases hq : sem q S with
  | none =>
    rw [hq] at hx
    exact BxTo.chain (f1 := f1) (f2 := f2) (P := P) (g := g) (T := 32) (K1 := K) (r := none) hb hsub hx
  | some r =>
    obtain ⟨q', S'⟩ := r
    rw [hq] at hx
    obtain ⟨hm, hi1, hi2⟩ := hkeep _ _ _ _ hq hu1 hu2
    obtain ⟨he, hb2, F'', hsub2, hB2⟩ := hx
    have hz := hb.size
    refine ⟨he, (Mid.chain hb hsub ⟨hb2, F'', hsub2, hB2⟩).1, F'', a, cap, fun b e => (hsub2 b e).elim (hsub b) fun e => .inr (by omega), ?_, by rw [hm]; exact hcap, ?_, ?_, Nat.le_trans hN hb2.size, hi1, hi2⟩
    · have hbd := hB2.bd
      dsimp only at hB2 hbd
      rw [hm]
      exact ⟨hB2.wire, hB2.box, hB2.nf, hB2.ne, by omega, hB2.e1, hB2.e2⟩
    · rw [hm]
      exact hat.but' hb2 fun p e e2 _ e3 => e3.elim (hmod p e e2).1.1 (hmod p e e2).1.2
    · intro p e e2
      rw [hm] at e2
      obtain ⟨⟨hp1, hp2⟩, hp3⟩ := hmod p e e2
      refine ⟨⟨fun e3 => (hsub2 _ e3).elim hp1 fun e4 => ?_, hp2⟩, hp3⟩
      subst e
      obtain ⟨B, off, e5, hlt, -⟩ := hat.cell (i := 0) (List.length_pos_iff.2 e2)
      cases e5
      exact Nat.not_le.2 hlt e4

theorem fieldID : FieldQ 52 fID := FieldQ.lift (fun h h1 _ hK => id_bx h h1 hK) (by decide) fun q S q' S' h h1 h2 => by
  simp only [fID, Option.map_eq_some_iff] at h
  obtain ⟨p, hp, e⟩ := h
  cases e
  exact ⟨rfl, wordW_bd hp h1, h2⟩
theorem fieldNum : FieldQ 56 fNum := FieldQ.lift (fun h _ h2 hK => num_bx h h2 hK) (by decide) fun q S q' S' h h1 h2 => by
  simp only [fNum, Option.map_eq_some_iff] at h
  obtain ⟨p, hp, e⟩ := h
  cases e
  exact ⟨rfl, h1, wordW_bd hp h2⟩
theorem fieldVer : FieldQ 53 fVer := FieldQ.lift (fun h _ _ hK => ver_bx h hK) (by decide) fun q S q' S' h h1 h2 => by
  simp only [fVer, Option.map_eq_some_iff] at h
  obtain ⟨p, hp, e⟩ := h
  cases e
  exact ⟨rfl, h1, h2⟩
theorem fieldProc : FieldQ 58 fProc := FieldQ.lift (fun h _ _ hK => proc_bx h hK) (by decide) fun q S q' S' h h1 h2 => by
  simp only [fProc, Option.map_eq_some_iff] at h
  obtain ⟨p, hp, e⟩ := h
  cases e
  exact ⟨rfl, h1, h2⟩
theorem fieldEvent : FieldQ 55 fEvent := FieldQ.lift (fun h _ _ hK => event_bx h hK) (by decide) fun q S q' S' h h1 h2 => by
  simp only [fEvent, Option.map_eq_some_iff, Option.bind_eq_some_iff] at h
  obtain ⟨_, _, p, hp, e⟩ := h
  cases e
  exact ⟨rfl, h1, h2⟩
theorem fieldBreak : FieldQ 57 fBreak := FieldQ.lift (fun h _ _ hK => break_bx h hK) (by decide) fun q S q' S' h h1 h2 => by
  simp only [fBreak, Option.map_eq_some_iff, Option.bind_eq_some_iff] at h
  obtain ⟨_, _, _, _, p, hp, e⟩ := h
  cases e
  exact ⟨rfl, h1, h2⟩
theorem fieldRate : FieldQ 59 fRate := FieldQ.lift (fun h _ _ hK => rate_bx h hK) (by decide) fun q S q' S' h h1 h2 => by
  simp only [fRate, Option.map_eq_some_iff, Option.bind_eq_some_iff] at h
  obtain ⟨_, _, p, hp, e⟩ := h
  cases e
  exact ⟨rfl, h1, h2⟩
end Go.Proofs.Ytdpfmaikijilkaa
