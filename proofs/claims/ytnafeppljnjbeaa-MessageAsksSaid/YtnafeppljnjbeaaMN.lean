/-
  The walk of the document's MayRequest, whole.
-/
import Derived.Test.YtnafeppljnjbeaaDM
import Derived.Test.YtnafeppljnjbeaaDMa
import Derived.Test.YtnafeppljnjbeaaDMb
import Derived.Test.YtnafeppljnjbeaaDMc
import Derived.Test.YtnafeppljnjbeaaDMd
import Derived.Test.YtnafeppljnjbeaaDMe
import Derived.Test.YtnafeppljnjbeaaDMf
namespace Go.Proofs.Ytnafeppljnjbeaa
open Go Go.RowKit

def lenOk (q : Rq) : Bool := decide (q.kind = 2 → 1 ≤ q.model.length ∧ q.model.length ≤ 4091)
theorem lenOk_iff (q : Rq) : lenOk q = true ↔ (q.kind = 2 → 1 ≤ q.model.length ∧ q.model.length ≤ 4091) := by unfold lenOk; rw [decide_eq_true_eq]
theorem Lims.iff (q : Rq) : Lims q ↔ (1 ≤ q.kind ∧ q.kind ≤ 12 ∧ in8 q.ver = true ∧ in8 q.pr = true ∧ in8 q.pt = true ∧ in8 q.ek = true ∧ q.org = 0 ∧ q.seq = 0 ∧ in8 q.bp = true ∧ -1 ≤ q.bk ∧ q.bk ≤ 254) :=
  ⟨fun h => ⟨h.k0, h.k1, h.ver, h.pr, h.pt, h.ek, h.org, h.seq, h.bp, h.b0, h.b1⟩, fun ⟨a, b, c, d, e, f, g, h, i, j, k⟩ => ⟨a, b, c, d, e, f, g, h, i, j, k⟩⟩
theorem may_iff_1 (q : Rq) (hk : q.kind = 1) : mayQ q = true ↔ Lims q ∧ lenOk q = true ∧ onlyQ q = q := by
  rw [Lims.iff, lenOk_iff]
  unfold mayQ
  rw [Bool.and_eq_true, Bool.and_eq_true, decide_eq_true_eq, sameQ_iff]
  unfold backQ onlyQ
  obtain ⟨k, i, ve, mo, ti, og, sq, pt, ek, da, nu, bp, bk, bt, pr, nm, dn⟩ := q
  dsimp only at hk ⊢
  subst hk
  simp [tabM, oks, sets, mID, mVer, zeroQ, in8_iff]
  intros
  omega
theorem may_iff_2 (q : Rq) (hk : q.kind = 2) : mayQ q = true ↔ Lims q ∧ lenOk q = true ∧ onlyQ q = q := by
  rw [Lims.iff, lenOk_iff]
  unfold mayQ
  rw [Bool.and_eq_true, Bool.and_eq_true, decide_eq_true_eq, sameQ_iff]
  unfold backQ onlyQ
  obtain ⟨k, i, ve, mo, ti, og, sq, pt, ek, da, nu, bp, bk, bt, pr, nm, dn⟩ := q
  dsimp only at hk ⊢
  subst hk
  simp [tabM, oks, sets, mID, mModel, zeroQ, in8_iff]
  intros
  omega
theorem may_iff_3 (q : Rq) (hk : q.kind = 3) : mayQ q = true ↔ Lims q ∧ lenOk q = true ∧ onlyQ q = q := by
  rw [Lims.iff, lenOk_iff]
  unfold mayQ
  rw [Bool.and_eq_true, Bool.and_eq_true, decide_eq_true_eq, sameQ_iff]
  unfold backQ onlyQ
  obtain ⟨k, i, ve, mo, ti, og, sq, pt, ek, da, nu, bp, bk, bt, pr, nm, dn⟩ := q
  dsimp only at hk ⊢
  subst hk
  simp [tabM, oks, sets, mID, mEvent, zeroQ, in8_iff]
  constructor
  · intro h
    refine ⟨by omega, ?_⟩
    first | (simp_all; done) | (simp_all; omega)
  · intro h
    first | (simp_all; done) | (simp_all; omega)
theorem may_iff_4 (q : Rq) (hk : q.kind = 4) : mayQ q = true ↔ Lims q ∧ lenOk q = true ∧ onlyQ q = q := by
  rw [Lims.iff, lenOk_iff]
  unfold mayQ
  rw [Bool.and_eq_true, Bool.and_eq_true, decide_eq_true_eq, sameQ_iff]
  unfold backQ onlyQ
  obtain ⟨k, i, ve, mo, ti, og, sq, pt, ek, da, nu, bp, bk, bt, pr, nm, dn⟩ := q
  dsimp only at hk ⊢
  subst hk
  simp [tabM, oks, sets, mID, mNum, mBreak, zeroQ, in8_iff]
  intros
  omega
theorem may_iff_5 (q : Rq) (hk : q.kind = 5) : mayQ q = true ↔ Lims q ∧ lenOk q = true ∧ onlyQ q = q := by
  rw [Lims.iff, lenOk_iff]
  unfold mayQ
  rw [Bool.and_eq_true, Bool.and_eq_true, decide_eq_true_eq, sameQ_iff]
  unfold backQ onlyQ
  obtain ⟨k, i, ve, mo, ti, og, sq, pt, ek, da, nu, bp, bk, bt, pr, nm, dn⟩ := q
  dsimp only at hk ⊢
  subst hk
  simp [tabM, oks, sets, mID, mNum, zeroQ, in8_iff]
  intros
  omega
theorem may_iff_6 (q : Rq) (hk : q.kind = 6) : mayQ q = true ↔ Lims q ∧ lenOk q = true ∧ onlyQ q = q := by
  rw [Lims.iff, lenOk_iff]
  unfold mayQ
  rw [Bool.and_eq_true, Bool.and_eq_true, decide_eq_true_eq, sameQ_iff]
  unfold backQ onlyQ
  obtain ⟨k, i, ve, mo, ti, og, sq, pt, ek, da, nu, bp, bk, bt, pr, nm, dn⟩ := q
  dsimp only at hk ⊢
  subst hk
  simp [tabM, oks, sets, mID, mProc, zeroQ, in8_iff]
  intros
  omega
theorem may_iff_10 (q : Rq) (hk : q.kind = 10) : mayQ q = true ↔ Lims q ∧ lenOk q = true ∧ onlyQ q = q := by
  rw [Lims.iff, lenOk_iff]
  unfold mayQ
  rw [Bool.and_eq_true, Bool.and_eq_true, decide_eq_true_eq, sameQ_iff]
  unfold backQ onlyQ
  obtain ⟨k, i, ve, mo, ti, og, sq, pt, ek, da, nu, bp, bk, bt, pr, nm, dn⟩ := q
  dsimp only at hk ⊢
  subst hk
  simp [tabM, oks, sets, mID, mRate, zeroQ, in8_iff]
  intros
  omega
theorem may_iff_0 (q : Rq) (hk : q.kind ≠ 1 ∧ q.kind ≠ 2 ∧ q.kind ≠ 3 ∧ q.kind ≠ 4 ∧ q.kind ≠ 5 ∧ q.kind ≠ 6 ∧ q.kind ≠ 10) : mayQ q = true ↔ Lims q ∧ lenOk q = true ∧ onlyQ q = q := by
  rw [Lims.iff, lenOk_iff]
  unfold mayQ
  rw [Bool.and_eq_true, Bool.and_eq_true, decide_eq_true_eq, sameQ_iff]
  unfold backQ onlyQ
  obtain ⟨k, i, ve, mo, ti, og, sq, pt, ek, da, nu, bp, bk, bt, pr, nm, dn⟩ := q
  dsimp only at hk ⊢
  obtain ⟨k1, k2, k3, k4, k5, k6, k7⟩ := hk
  simp [tabM, oks, sets, mID, zeroQ, in8_iff, k1, k2, k3, k4, k5, k6, k7]
  intros
  omega
theorem mayQ_iff (q : Rq) : mayQ q = true ↔ Lims q ∧ lenOk q = true ∧ onlyQ q = q := by
  by_cases k1 : q.kind = 1
  · exact may_iff_1 q k1
  by_cases k2 : q.kind = 2
  · exact may_iff_2 q k2
  by_cases k3 : q.kind = 3
  · exact may_iff_3 q k3
  by_cases k4 : q.kind = 4
  · exact may_iff_4 q k4
  by_cases k5 : q.kind = 5
  · exact may_iff_5 q k5
  by_cases k6 : q.kind = 6
  · exact may_iff_6 q k6
  by_cases k7 : q.kind = 10
  · exact may_iff_10 q k7
  exact may_iff_0 q ⟨k1, k2, k3, k4, k5, k6, k7⟩
theorem mayQ_no {q : Rq} (h : ¬ (Lims q ∧ lenOk q = true)) : mayQ q = false := by
  cases e : mayQ q with
  | false => rfl
  | true =>
    have := (mayQ_iff q).1 e
    exact absurd ⟨this.1, this.2.1⟩ h
theorem mayQ_same {q : Rq} (L : Lims q) (hl : lenOk q = true) : sameQ (onlyQ q) q = mayQ q := by
  cases e : mayQ q with
  | true => exact (sameQ_iff _ _).2 ((mayQ_iff q).1 e).2.2
  | false =>
    cases e2 : sameQ (onlyQ q) q with
    | false => rfl
    | true => rw [(mayQ_iff q).2 ⟨L, hl, (sameQ_iff _ _).1 e2⟩] at e; cases e
end Go.Proofs.Ytnafeppljnjbeaa
namespace Go.Proofs.Ytnafeppljnjbeaa
open Go Go.RowKit

theorem rMayRequest_any (w : World) (q : Rq) (a : Option Addr) (cap : Nat) (ha : CB.At w a q.model.length q.model) : Calls Try.prog 10 #[.agg (RqC q (.slice a q.model.length cap))] w (TellsB (mayQ q) w) := by
  by_cases h_k0 : 1 ≤ q.kind
  case neg =>
    rw [mayQ_no fun e => h_k0 e.1.k0]
    exact may_no_k0 w q a cap ha h_k0
  by_cases h_k1 : q.kind ≤ 12
  case neg =>
    rw [mayQ_no fun e => h_k1 e.1.k1]
    exact may_no_k1 w q a cap ha h_k0 h_k1
  cases h_ver : in8 q.ver
  case false =>
    rw [mayQ_no fun e => by rw [e.1.ver] at h_ver; cases h_ver]
    exact may_no_ver w q a cap ha h_k0 h_k1 h_ver
  cases h_pr : in8 q.pr
  case false =>
    rw [mayQ_no fun e => by rw [e.1.pr] at h_pr; cases h_pr]
    exact may_no_pr w q a cap ha h_k0 h_k1 h_ver h_pr
  cases h_pt : in8 q.pt
  case false =>
    rw [mayQ_no fun e => by rw [e.1.pt] at h_pt; cases h_pt]
    exact may_no_pt w q a cap ha h_k0 h_k1 h_ver h_pr h_pt
  cases h_ek : in8 q.ek
  case false =>
    rw [mayQ_no fun e => by rw [e.1.ek] at h_ek; cases h_ek]
    exact may_no_ek w q a cap ha h_k0 h_k1 h_ver h_pr h_pt h_ek
  by_cases h_org : q.org = 0
  case neg =>
    rw [mayQ_no fun e => h_org e.1.org]
    exact may_no_org w q a cap ha h_k0 h_k1 h_ver h_pr h_pt h_ek h_org
  by_cases h_seq : q.seq = 0
  case neg =>
    rw [mayQ_no fun e => h_seq e.1.seq]
    exact may_no_seq w q a cap ha h_k0 h_k1 h_ver h_pr h_pt h_ek h_org h_seq
  cases h_bp : in8 q.bp
  case false =>
    rw [mayQ_no fun e => by rw [e.1.bp] at h_bp; cases h_bp]
    exact may_no_bp w q a cap ha h_k0 h_k1 h_ver h_pr h_pt h_ek h_org h_seq h_bp
  by_cases h_b0 : -1 ≤ q.bk
  case neg =>
    rw [mayQ_no fun e => h_b0 e.1.b0]
    exact may_no_b0 w q a cap ha h_k0 h_k1 h_ver h_pr h_pt h_ek h_org h_seq h_bp h_b0
  by_cases h_b1 : q.bk ≤ 254
  case neg =>
    rw [mayQ_no fun e => h_b1 e.1.b1]
    exact may_no_b1 w q a cap ha h_k0 h_k1 h_ver h_pr h_pt h_ek h_org h_seq h_bp h_b0 h_b1
  have L : Lims q := ⟨h_k0, h_k1, h_ver, h_pr, h_pt, h_ek, h_org, h_seq, h_bp, h_b0, h_b1⟩
  by_cases hl : lenOk q = true
  case neg =>
    rw [mayQ_no fun e => hl e.2]
    have h2 : q.kind = 2 := Classical.byContradiction fun e => hl ((lenOk_iff q).2 fun e2 => absurd e2 e)
    exact may_two_no w q a cap ha L h2 fun e => hl ((lenOk_iff q).2 fun _ => e)
  rw [← mayQ_same L hl]
  have ho := L.org
  have hs := L.seq
  by_cases k1 : q.kind = 1
  · have h := may_k1 w q a cap ha L k1
    unfold onlyQ
    simp only [k1, ho, hs] at h ⊢
    exact h
  by_cases k2 : q.kind = 2
  · have h := may_k2 w q a cap ha L k2 ((lenOk_iff q).1 hl k2)
    unfold onlyQ
    simp only [k2, ho, hs] at h ⊢
    exact h
  by_cases k3 : q.kind = 3
  · have h := may_k3 w q a cap ha L k3
    unfold onlyQ
    simp only [k3, ho, hs] at h ⊢
    exact h
  by_cases k4 : q.kind = 4
  · have h := may_k4 w q a cap ha L k4
    unfold onlyQ
    simp only [k4, ho, hs] at h ⊢
    exact h
  by_cases k5 : q.kind = 5
  · have h := may_k5 w q a cap ha L k5
    unfold onlyQ
    simp only [k5, ho, hs] at h ⊢
    exact h
  by_cases k6 : q.kind = 6
  · have h := may_k6 w q a cap ha L k6
    unfold onlyQ
    simp only [k6, ho, hs] at h ⊢
    exact h
  by_cases k10 : q.kind = 10
  · have h := may_k10 w q a cap ha L k10
    unfold onlyQ
    simp only [k10, ho, hs] at h ⊢
    exact h
  have h := may_k0 w q a cap ha L ⟨k1, k2, k3, k4, k5, k6, k10⟩
  unfold onlyQ
  rw [if_neg k1, if_neg k2, if_neg k3, if_neg k4, if_neg k5, if_neg k6, if_neg k10]
  exact h
end Go.Proofs.Ytnafeppljnjbeaa
