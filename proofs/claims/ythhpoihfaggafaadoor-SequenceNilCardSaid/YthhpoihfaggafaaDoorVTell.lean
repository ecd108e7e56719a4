/-
  The walk of tell.
-/
import Derived.Test.YthhpoihfaggafaaDoorVOps2
import Derived.Deep.RegionLaw
namespace Go.Proofs.YthhpoihfaggafaaDoor
open Go Go.RowKit Go.Sort Go.Proofs CodM VmM

section
variable {X : Fx} {W W0 w5 : World} {s : Run} {vv sv tv v5 : Value}
theorem St.told (h : St X W s vv sv tv) (hX : X.Ok) (rc : Rc) (hW0 : Below W.heap.size W W0) (ho : CRc.Own 224 X.w0.heap.size w5 v5 (s.tells ++ [rc])) (hg : W0.grownBy w5 tv.ownBlock) (hl : s.tells.length < 4) :
    (w5.cell? ⟨X.R, 13, none⟩ = some tv ∧ w5.frozen? ⟨X.R, 13, none⟩ = false) ∧ St X (w5.setCell ⟨X.R, 13, none⟩ v5) { s with tells := s.tells ++ [rc] } vv sv v5 := by
  have h0 := h.next hW0
  have hb : But (fun k => some k = tv.ownBlock) W0 w5 := But.grown hg
  have hbox := (hb.block _ (Array.getElem?_eq_some_iff.1 h0.box).1 fun e => (h0.tne e.symm).1 rfl).trans h0.box
  have hroom := h0.room.but hb fun e => (h0.tne e.symm).2 rfl
  have hb2 : But (fun k => k = X.R) w5 (w5.setCell ⟨X.R, 13, none⟩ v5) := (But.refl (fun k => k = X.R) _).setCell (p := ⟨X.R, 13, none⟩) rfl _
  have hv := h0.vars.but hb fun b e e2 => h0.vt e e2.symm rfl
  have hs := h0.sends.but hb fun b e e2 => h0.st e e2.symm rfl
  have hne : ∀ {A : Type} {C : Cod A} {T : TypeId} {B : Nat} {v : Value} {l : List A}, C.Own T B w5 v l → T ≠ 176 → ∀ b, v.ownBlock = some b → ¬ b = X.R := fun h hT b e e2 => by
    obtain ⟨cur, h1⟩ := h.typ e
    exact ne_types h1 hbox hT e2
  have hkept : ∀ p ∈ X.Ds, w5.heap[p.1]? = some (.cells p.2.1 p.2.2 (0, 0)) := fun p hp => (hb.block _ (Array.getElem?_eq_some_iff.1 (h0.kept p hp)).1 fun e => by obtain ⟨cur, h1⟩ := h0.tells.typ e.symm; exact ne_types (h0.kept p hp) h1 (hX.dT p hp).2.2.2.2 rfl).trans (h0.kept p hp)
  refine ⟨⟨by rw [cell_of_row _ _ _ _ _ _ hbox]; rfl, frozen_of_row _ _ _ _ _ hbox⟩, ⟨?_, ?_, hroom.but hb2 fun e => ?_, hv.but hb2 (hne hv (by decide)), hs.but hb2 (hne hs (by decide)), ho.but hb2 (hne ho (by decide)), h.ls, h.hs, by simp; omega, fun p hp => (hb2.block _ (Array.getElem?_eq_some_iff.1 (hkept p hp)).1 (ne_types (hkept p hp) hbox (hX.dT p hp).1)).trans (hkept p hp)⟩⟩
  · exact (h0.below.trans (hb.below h0.below.size fun k e => (h0.tells.lt k e.symm).1)).setCell (p := ⟨X.R, 13, none⟩) hX.R0 _
  · rw [heap_setCell_same _ _ _ _ _ _ hbox]
    rfl
  · exact h0.RK e.symm
end
set_option maxHeartbeats 2000000 in
theorem tell_any (X : Fx) (hX : X.Ok) (s : Run) (W : World) (h : At X s W) (n : Int) : Calls Tryd.prog 125 #[.pointer (some ⟨X.R, 0, none⟩), .int .i64 n] W (Done X (tell X.m X.e s)) := by
  have HX := Lib.hid hX
  obtain ⟨vv, sv, tv, h⟩ := h
  obtain ⟨ta, tc, rfl, -, -, -, -⟩ := h.tells.at_ (by have := h.ht; omega)
  have HS := Lib.hid h
  have hs := hX.self
  have hl4 := h.ht
  obtain ⟨x, hx⟩ : ∃ x, x = top s := ⟨_, rfl⟩
  obtain ⟨N, hN⟩ : ∃ N, N = s.tells.length := ⟨_, rfl⟩
  have HT : Hid (∀ W, St X W s vv sv (.slice ta N tc) → Calls Tryd.prog 140 #[.pointer (some ⟨X.R, 0, none⟩)] W (fun e w' => e = .returned (.int .i64 x) ∧ St X w' (drop s) vv sv (.slice ta N tc))) := by
    rw [Lib.hid_eq, hx, hN]
    exact fun W h => take_st X HX.out s W _ _ _ h
  rw [← hN] at HS hl4
  by_cases hl : N = 4
  · have HE : Hid (tell X.m X.e s = drop s) := by
      rw [Lib.hid_eq]
      exact if_pos (by rw [← hN]; exact hl)
    have hlI : ((N : Int) == 4) = true := by simp [hl]
    clear h hX hx hN hl
    go_enter Tryd.func125, Tryd.ntmps125
    go_wp2_with (first
      | (go_at_call 140; refine (HT.out _ HS.out).mono ?_; rintro e w1 ⟨rfl, h1⟩; have d13 := h1.cells.2.2.2.2.2.2.2.1; have H1 := Lib.hid h1; clear h1))
    go_end0
    refine ⟨rfl, vv, sv, .slice ta N tc, ?_⟩
    rw [HE.out]
    exact H1.out
  · obtain ⟨rc, hrc⟩ : ∃ rc : Rc, rc = ⟨X.e.time, X.e.org, X.e.seq, X.m.self, (N : Int), x⟩ := ⟨_, rfl⟩
    have HE : Hid (tell X.m X.e s = { drop s with tells := (drop s).tells ++ [rc] }) := by
      rw [Lib.hid_eq, hrc, hx, hN]
      exact if_neg (by rw [← hN]; exact hl)
    have hlI : ((N : Int) == 4) = false := by simp; omega
    have HLT : Hid ((drop s).tells.length < 4) := by
      rw [Lib.hid_eq]
      show s.tells.length < 4
      omega
    have HRC := Lib.hid hrc
    have HN : Hid (N = (drop s).tells.length) := Lib.hid hN
    clear h hX hx hN hl
    go_enter Tryd.func125, Tryd.ntmps125
    go_wp2_with (first
      | (go_at_call 140; refine (HT.out _ HS.out).mono ?_; rintro e w1 ⟨rfl, h1⟩; have d13 := h1.cells.2.2.2.2.2.2.2.1; have d0 := h1.cells.1; have d1 := h1.event.1; have d2 := h1.event.2.1; have d3 := h1.event.2.2.1; have d5 := (h1.mcells HX.out).1; have H1 := Lib.hid h1; clear h1))
    have HB : Hid (∀ o, Below w1.heap.size w1 (w1.drew.alloc o)) := Lib.hid fun o => (Below.refl _ w1).drew.alloc (Nat.le_refl _) o
    have HC : Hid (∀ o, Below w1.heap.size w1 (w1.alloc o).drew) := Lib.hid fun o => ((Below.refl _ w1).alloc (Nat.le_refl _) o).drew
    have e13 : (w1.alloc (.cells #[.int .i64 X.e.time, .int .i64 X.e.org, .int .i64 X.e.seq, .int .i64 X.m.self, .int .i64 (N : Int), .int .i64 x] 224)).cell? ⟨X.R, 13, none⟩ = some (.slice ta N tc) := (H1.out.next ((Below.refl _ w1).alloc (Nat.le_refl _) _)).cells.2.2.2.2.2.2.2.1
    go_region_law (first
      | (refine rowR.step rfl _ _ rfl X.w0.heap.size (.slice ta N tc) (drop s).tells rfl (by first | exact H1.out.tells.below (HB.out _) | exact H1.out.tells.below (HC.out _)) ⟨w1.heap.size, 0, none⟩ 1 1 [rc] rfl rfl (Cod.news_one (C := CRc) _ rc _ _ (by rw [HRC.out]; exact heap_alloc_new _ _)) (by have := HLT.out; omega) (by have := HLT.out; omega) (Nat.le_trans H1.out.below.size (by simp)) ?_; intro v5 w5 hown5 hgrow5 hnew5; have h5 := H1.out.told HX.out rc (by first | exact HB.out _ | exact HC.out _) hown5 hgrow5 HLT.out; have d13 := h5.1.1; have f13 := h5.1.2; have H5 := Lib.hid h5.2; obtain ⟨a5, n5, k5, rfl⟩ := hown5.shape; clear hown5 hgrow5 hnew5 h5))
    all_goals
      go_end0
      refine ⟨rfl, vv, sv, .slice a5 n5 k5, ?_⟩
      rw [HE.out]
      exact H5.out
end Go.Proofs.YthhpoihfaggafaaDoor
