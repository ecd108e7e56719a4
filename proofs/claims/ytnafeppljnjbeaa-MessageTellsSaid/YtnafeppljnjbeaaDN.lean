/-
  The walk of the document's MayResponse, whole.
-/
import Derived.Test.YtnafeppljnjbeaaDNa
import Derived.Test.YtnafeppljnjbeaaDNb
import Derived.Test.YtnafeppljnjbeaaDNc
namespace Go.Proofs.Ytnafeppljnjbeaa
open Go Go.RowKit

theorem rMayResponse_any (w : World) (q : Rs) (a : Option Addr) (cap : Nat) (ha : CV.At w a q.vars.length q.vars) : Calls Try.prog 16 #[.agg (RsC q (.slice a q.vars.length cap))] w (TellsB (mayS q) w) := by
  by_cases h_k0 : 1 ≤ q.kind
  case neg =>
    rw [mayS_no fun e => h_k0 e.k0]
    exact mayS_no_k0 w q a cap ha h_k0
  by_cases h_k1 : q.kind ≤ 5
  case neg =>
    rw [mayS_no fun e => h_k1 e.k1]
    exact mayS_no_k1 w q a cap ha h_k0 h_k1
  by_cases h_e0 : 0 ≤ q.err
  case neg =>
    rw [mayS_no fun e => h_e0 e.e0]
    exact mayS_no_e0 w q a cap ha h_k0 h_k1 h_e0
  by_cases h_e1 : q.err ≤ 16
  case neg =>
    rw [mayS_no fun e => h_e1 e.e1]
    exact mayS_no_e1 w q a cap ha h_k0 h_k1 h_e0 h_e1
  by_cases h_vs : q.vars.length ≤ 8
  case neg =>
    rw [mayS_no fun e => h_vs e.vs]
    exact mayS_no_vs w q a cap ha h_k0 h_k1 h_e0 h_e1 h_vs
  cases h_ro : in8 q.ro
  case false =>
    rw [mayS_no fun e => by rw [e.ro] at h_ro; cases h_ro]
    exact mayS_no_ro w q a cap ha h_k0 h_k1 h_e0 h_e1 h_vs h_ro
  cases h_rp : in8 q.rp
  case false =>
    rw [mayS_no fun e => by rw [e.rp] at h_rp; cases h_rp]
    exact mayS_no_rp w q a cap ha h_k0 h_k1 h_e0 h_e1 h_vs h_ro h_rp
  cases h_rn : in8 q.rn
  case false =>
    rw [mayS_no fun e => by rw [e.rn] at h_rn; cases h_rn]
    exact mayS_no_rn w q a cap ha h_k0 h_k1 h_e0 h_e1 h_vs h_ro h_rp h_rn
  cases h_org : in8 q.org
  case false =>
    rw [mayS_no fun e => by rw [e.org] at h_org; cases h_org]
    exact mayS_no_org w q a cap ha h_k0 h_k1 h_e0 h_e1 h_vs h_ro h_rp h_rn h_org
  cases h_pt : in8 q.pt
  case false =>
    rw [mayS_no fun e => by rw [e.pt] at h_pt; cases h_pt]
    exact mayS_no_pt w q a cap ha h_k0 h_k1 h_e0 h_e1 h_vs h_ro h_rp h_rn h_org h_pt
  cases h_ek : in8 q.ek
  case false =>
    rw [mayS_no fun e => by rw [e.ek] at h_ek; cases h_ek]
    exact mayS_no_ek w q a cap ha h_k0 h_k1 h_e0 h_e1 h_vs h_ro h_rp h_rn h_org h_pt h_ek
  have L : LimS q := ⟨h_k0, h_k1, h_e0, h_e1, h_vs, h_ro, h_rp, h_rn, h_org, h_pt, h_ek⟩
  rw [← mayS_same L]
  by_cases k1 : q.kind = 1
  · have h := mayS_k1 w q a cap ha L k1
    unfold onlyS
    simp only [k1] at h ⊢
    exact h
  by_cases k2 : q.kind = 2
  · have h := mayS_k2 w q a cap ha L k2
    unfold onlyS
    simp only [k2] at h ⊢
    exact h
  by_cases k3 : q.kind = 3
  · have h := mayS_k3 w q a cap ha L k3
    unfold onlyS
    simp only [k3] at h ⊢
    exact h
  by_cases k4 : q.kind = 4
  · have h := mayS_k4 w q a cap ha L k4
    unfold onlyS
    simp only [k4] at h ⊢
    exact h
  have k5 : q.kind = 5 := by omega
  have h := mayS_k5 w q a cap ha L k5
  unfold onlyS
  simp only [k5] at h ⊢
  exact h
end Go.Proofs.Ytnafeppljnjbeaa
