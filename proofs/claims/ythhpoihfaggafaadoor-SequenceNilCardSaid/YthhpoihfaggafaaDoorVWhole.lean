/-
  The walk of whole: a run to its end.
-/
import Derived.Test.YthhpoihfaggafaaDoorVRun
import Derived.Test.YthhpoihfaggafaaDoorGLoad
namespace Go.Proofs.YthhpoihfaggafaaDoor
open Go Go.RowKit Go.Sort Go.Proofs CodM VmM

/-- all instructions of the code may stand there -/
def CodeOk (X : Fx) (nv : Nat) : Prop := X.cd.length ≤ 128 ∧ ∀ x ∈ X.cd, (1 ≤ x.1 ∧ x.1 ≤ 17) ∧ (x.1 = 2 ∨ x.1 = 3 → 0 ≤ x.2 ∧ x.2 < nv) ∧ (x.1 = 13 ∨ x.1 = 14 → 0 ≤ x.2 ∧ x.2 ≤ X.cd.length) ∧ I64 x.1 ∧ I64 x.2
theorem push_vars (n : Int) (s : Run) : (push n s).vars = s.vars := by unfold push; split <;> rfl
theorem two_vars (f : Int → Int → Int) (s : Run) : (two f s).vars = s.vars := by unfold two; rw [push_vars]; rfl
theorem send_vars (m : Mch) (e : Ev) (k : Int) (s : Run) : (send m e k s).vars = s.vars := by unfold send; dsimp only; split <;> rfl
theorem tell_vars (m : Mch) (e : Ev) (s : Run) : (tell m e s).vars = s.vars := by unfold tell; dsimp only; split <;> rfl
theorem op_vars (m : Mch) (e : Ev) (len : Nat) (x : Ins) (s : Run) : (VmM.op m e len x s).vars.length = s.vars.length := by
  unfold VmM.op
  by_cases h1 : x.1 = 1
  · rw [if_pos h1]
    first | done | (rw [push_vars])
  rw [if_neg h1]
  by_cases h2 : x.1 = 2
  · rw [if_pos h2]
    first | done | (rw [push_vars])
  rw [if_neg h2]
  by_cases h3 : x.1 = 3
  · rw [if_pos h3]
    first | done | (exact List.length_set)
  rw [if_neg h3]
  by_cases h4 : x.1 = 4
  · rw [if_pos h4]
    first | done | (rw [push_vars])
  rw [if_neg h4]
  by_cases h5 : x.1 = 5
  · rw [if_pos h5]
    first | done | (rw [push_vars])
  rw [if_neg h5]
  by_cases h6 : x.1 = 6
  · rw [if_pos h6]
    first | done | (rw [push_vars])
  rw [if_neg h6]
  by_cases h7 : x.1 = 7
  · rw [if_pos h7]
    first | done | (show (push _ s).vars.length = _; rw [push_vars])
  rw [if_neg h7]
  by_cases h8 : x.1 = 8
  · rw [if_pos h8]
    first | done | (rw [two_vars])
  rw [if_neg h8]
  by_cases h9 : x.1 = 9
  · rw [if_pos h9]
    first | done | (rw [two_vars])
  rw [if_neg h9]
  by_cases h10 : x.1 = 10
  · rw [if_pos h10]
    first | done | (rw [two_vars])
  rw [if_neg h10]
  by_cases h11 : x.1 = 11
  · rw [if_pos h11]
    first | done | (rw [two_vars])
  rw [if_neg h11]
  by_cases h12 : x.1 = 12
  · rw [if_pos h12]
    first | done | (rw [two_vars])
  rw [if_neg h12]
  by_cases h13 : x.1 = 13
  · rw [if_pos h13]
    first | done | (rfl)
  rw [if_neg h13]
  by_cases h14 : x.1 = 14
  · rw [if_pos h14]
    first | done | (split <;> rfl)
  rw [if_neg h14]
  by_cases h15 : x.1 = 15
  · rw [if_pos h15]
    first | done | (rw [send_vars])
  rw [if_neg h15]
  by_cases h16 : x.1 = 16
  · rw [if_pos h16]
    first | done | (rw [tell_vars])
  rw [if_neg h16]
/-- how far the loop is -/
structure Wh (X : Fx) (R : Run) (f : Nat) (s : Run) (nv : Nat) (W : World) : Prop where
  at_ : At X s W
  fuel : f ≤ 256
  goes : go X.m X.e X.cd f s = R
  vars : s.vars.length = nv
theorem Wh.stop {X : Fx} {R : Run} {f : Nat} {s : Run} {nv : Nat} {W : World} (h : Wh X R f s nv W) (hs : f = 0 ∨ X.cd.length ≤ s.next) : R = s := by
  rw [← h.goes]
  cases f with
  | zero => rfl
  | succ f =>
    rcases hs with hs | hs
    · cases hs
    · exact if_neg (by omega)
theorem Wh.step {X : Fx} {R : Run} {f : Nat} {s : Run} {nv : Nat} {W W' : World} (h : Wh X R (f + 1) s nv W) (hs : s.next < X.cd.length) (ha : At X (VmM.op X.m X.e X.cd.length (X.cd.getD s.next (0, 0)) { s with next := s.next + 1 }) W') : Wh X R f (VmM.op X.m X.e X.cd.length (X.cd.getD s.next (0, 0)) { s with next := s.next + 1 }) nv W' := by
  refine ⟨ha, by have := h.fuel; omega, ?_, by rw [op_vars]; exact h.vars⟩
  rw [← h.goes]
  exact (if_pos hs).symm
theorem opsC_one : opsC.all (·.oneCell') = true := by simp [opsC, Value.oneCell']
abbrev SlV := Option Addr × Nat × Nat
abbrev SlV.v (x : SlV) : Value := .slice x.1 x.2.1 x.2.2
def CSt : Cod (SlV × Int × Int × SlV × SlV) := ⟨fun x => [x.1.v, .int .i64 x.2.1, .int .i64 x.2.2.1, x.2.2.2.1.v, x.2.2.2.2.v], 5, by decide, fun _ => rfl, fun x v hv => by simp at hv; rcases hv with h | h | h | h | h <;> (subst h; rfl)⟩
theorem cst_at {w : World} {B : Nat} {va sa ta : Option Addr} {vn vc sn sc tn tc : Nat} {p q : Int} (h0 : w.cell? ⟨B, 9, none⟩ = some (.slice va vn vc)) (h1 : w.cell? ⟨B, 10, none⟩ = some (.int .i64 p)) (h2 : w.cell? ⟨B, 11, none⟩ = some (.int .i64 q)) (h3 : w.cell? ⟨B, 12, none⟩ = some (.slice sa sn sc)) (h4 : w.cell? ⟨B, 13, none⟩ = some (.slice ta tn tc)) : CSt.Cell w B 9 ((va, vn, vc), p, q, (sa, sn, sc), (ta, tn, tc)) := by
  intro c hc
  have hc5 : c < 5 := hc
  match c, hc5 with
  | 0, _ => exact h0
  | 1, _ => exact h1
  | 2, _ => exact h2
  | 3, _ => exact h3
  | 4, _ => exact h4
def StepTo (w0 : World) (R : Run) (e : Ending) (w' : World) : Prop :=
  ∃ vv sv tv, e = .returned (.agg #[vv, .int .i64 R.sent, .int .i64 R.drawn, sv, tv]) ∧ CV.Own 2 w0.heap.size w' vv R.vars ∧ CEv.Own 45 w0.heap.size w' sv R.sends ∧ CRc.Own 224 w0.heap.size w' tv R.tells ∧ R.sends.length ≤ 4 ∧ R.tells.length ≤ 4 ∧ Below w0.heap.size w0 w'
theorem infoSt (v : Array Value) (h : v.size = 5) : (Tryd.prog.info? 92).map (·.size) = some v.size := by
  rw [h]
  kernel_rfl
abbrev Fx.also (X : Fx) (l : List (Nat × Array Value × TypeId)) : Fx := { X with Ds := l }
theorem At.also {X : Fx} {s : Run} {W W' : World} (h : At X s W) (hb : Below W.heap.size W W') (l : List (Nat × Array Value × TypeId)) (hl : ∀ p ∈ l, W'.heap[p.1]? = some (.cells p.2.1 p.2.2 (0, 0))) : At (X.also l) s W' := by
  obtain ⟨vv, sv, tv, h⟩ := h
  have h2 := h.next hb
  exact ⟨vv, sv, tv, h2.below, h2.box, h2.room, h2.vars, h2.sends, h2.tells, h2.ls, h2.hs, h2.ht, hl⟩
abbrev stepZ : Array Value := #[.slice none 0 0, .int .i64 0, .int .i64 0, .slice none 0 0, .slice none 0 0]
set_option maxHeartbeats 8000000 in
set_option maxRecDepth 100000 in
theorem whole_any (X : Fx) (hX : X.Ok) (s : Run) (W : World) (h : At X s W) (nv : Nat) (hn : s.vars.length = nv) (hn8 : nv ≤ 8) (hc : CodeOk X nv) : Calls Tryd.prog 67 #[.pointer (some ⟨X.R, 0, none⟩)] W (StepTo X.w0 (go X.m X.e X.cd 256 s)) := by
  have HX := Lib.hid hX
  have HS := Lib.hid h
  have HC := Lib.hid hc
  obtain ⟨R, hR⟩ : ∃ R, R = go X.m X.e X.cd 256 s := ⟨_, rfl⟩
  rw [← hR]
  have HR := Lib.hid hR
  have HN := Lib.hid hn
  have hl128 := hc.1
  clear h hX hc hR hn
  go_enter Tryd.func67, Tryd.ntmps67
  go_wp2_with (first
    | (go_at_call 95; generalize hw0 : World.alloc _ _ = w1; have hb1 : Below W.heap.size W w1 := (by rw [← hw0]; exact (Below.refl _ _).alloc (Nat.le_refl _) _); have hx1 : w1.heap[W.heap.size]? = some (.cells #[.slice none 0 0, .int .i64 0, .int .i64 0, .slice none 0 0, .slice none 0 0] 92 (0, 0)) := (by rw [← hw0]; exact heap_alloc_new _ _); clear hw0; refine (operations_any _).mono ?_; rintro e w2 ⟨rfl, hb2⟩; have H2 := Lib.hid (And.intro (hb1.trans (hb2.mono hb1.size)) ((hb2.block _ (Array.getElem?_eq_some_iff.1 hx1).1).trans hx1)); clear hb1 hx1 hb2)
    | (show wpList _ _ _ (Oper.mk _ (.store _ (.tmp 3) (.tmp 6)) _ _ _ _ :: _) _ _; refine wpList_store_row rfl 178 (.tmp 3) (.tmp 6) rfl w2.heap.size opsC rfl rfl 178 #[.nilFunc, .nilFunc, .nilFunc, .nilFunc, .nilFunc, .nilFunc, .nilFunc, .nilFunc, .nilFunc, .nilFunc, .nilFunc, .nilFunc, .nilFunc, .nilFunc, .nilFunc, .nilFunc, .nilFunc, .nilFunc] (heap_alloc_new _ _) opsC_info rfl opsC_one ?_; generalize hw3 : World.setRow _ _ _ = w3; have g1 : Below w2.heap.size w2 w3 := (by rw [← hw3]; exact ((Below.refl _ w2).alloc (Nat.le_refl _) _).trans ((setRow_but _ _ _).below (by simp) (fun k e => by rw [e]; exact Nat.le_refl _))); have g2 : w3.heap[w2.heap.size]? = some (.cells opsC 178 (0, 0)) := (by rw [← hw3]; exact setRow_heap _ _ _ _ _ _ (heap_alloc_new _ _)); have H3 := Lib.hid (And.intro (H2.out.1.trans (g1.mono H2.out.1.size)) (And.intro ((g1.block _ (Array.getElem?_eq_some_iff.1 H2.out.2).1).trans H2.out.2) g2)); clear hw3 g1 g2))
  obtain ⟨D, hD⟩ : ∃ D, D = w2.heap.size := ⟨_, rfl⟩
  obtain ⟨Z, hZ⟩ : ∃ Z, Z = W.heap.size := ⟨_, rfl⟩
  rw [← hD, ← hZ] at H3
  rw [← hD, ← hZ]
  have HXL : Hid ((X.also [(D, opsC, 178), (Z, stepZ, 92)]).Ok) := Lib.hid ⟨HX.out.mch, HX.out.code, HX.out.R0, HX.out.K0, HX.out.time, HX.out.procs, HX.out.self, fun p hp => by
    simp at hp
    rcases hp with rfl | rfl <;> refine ⟨?_, ?_, ?_, ?_, ?_⟩ <;> (dsimp only; decide)⟩
  have HA : Hid (At (X.also [(D, opsC, 178), (Z, stepZ, 92)]) s w3) := Lib.hid (HS.out.also (by rw [← hZ]; exact H3.out.1) _ fun p hp => by
    simp at hp
    rcases hp with rfl | rfl
    · exact H3.out.2.2
    · exact H3.out.2.1)
  obtain ⟨Y, hY⟩ : ∃ Y, Y = X.also [(D, opsC, 178), (Z, stepZ, 92)] := ⟨_, rfl⟩
  have eR : X.R = Y.R := by rw [hY]
  have eW : X.w0 = Y.w0 := by rw [hY]
  have HG : Hid (R = go Y.m Y.e Y.cd 256 s) := by rw [Lib.hid_eq, hY]; exact HR.out
  have HCY : Hid (CodeOk Y nv) := by rw [Lib.hid_eq, hY]; exact HC.out
  have HZ : Hid (Y.w0.heap.size ≤ Z) := by
    obtain ⟨_, _, _, h⟩ := HS.out
    rw [Lib.hid_eq, hY, hZ]
    exact h.below.size
  have HDs : Hid (Y.Ds = [(D, opsC, 178), (Z, stepZ, 92)]) := by rw [Lib.hid_eq, hY]
  have HEW := Lib.hid eW
  rw [← hY] at HXL HA
  rw [eR, eW]
  clear HX HS HC HR H2 H3 hY eR eW hD hZ hl128
  have hl128 := HCY.out.1
  go_loopw [4, 5] (fun f _ wr => ∃ (n : Nat) (s' : Run), f = .int .i64 (n : Int) ∧ Wh Y R n s' nv wr) (fun f _ _ => (intOf f).toNat)
  case atStart => exact ⟨256, s, rfl, HA.out, Nat.le_refl _, HG.out.symm, HN.out⟩
  case round =>
    obtain ⟨n, t, rfl, hw⟩ := hrel
    have HW := Lib.hid hw
    obtain ⟨vv, sv, tv, h⟩ := hw.at_
    have h256 := hw.fuel
    have c7 := h.cells.2.1
    have c8 := h.cells.2.2.1
    have f8 := h.free 8
    have HST := Lib.hid h
    have q7 : ∀ p : InB wr, p.w.cell? ⟨Y.R, 7, none⟩ = some (.slice Y.ca Y.cd.length Y.cc) := fun p => cell_keep p c7
    have q8 : ∀ p : InB wr, p.w.cell? ⟨Y.R, 8, none⟩ = some (.int .i64 (t.next : Int)) := fun p => cell_keep p c8
    obtain ⟨va, vn, vc, rfl⟩ := h.vars.shape
    obtain ⟨sa, sn, sc, rfl⟩ := h.sends.shape
    obtain ⟨ta, tn, tc, rfl⟩ := h.tells.shape
    by_cases hs : n = 0 ∨ Y.cd.length ≤ t.next
    · have HE : Hid (R = t) := Lib.hid (hw.stop hs)
      have HF : Hid (∀ (w8 : World), (∃ p : InB wr, w8 = p.w) → w8.cell? ⟨Y.R, 9, none⟩ = some (.slice va vn vc) ∧ w8.cell? ⟨Y.R, 10, none⟩ = some (.int .i64 t.sent) ∧ w8.cell? ⟨Y.R, 11, none⟩ = some (.int .i64 t.drawn) ∧ w8.cell? ⟨Y.R, 12, none⟩ = some (.slice sa sn sc) ∧ w8.cell? ⟨Y.R, 13, none⟩ = some (.slice ta tn tc) ∧ w8.heap[Z]? = some (.cells stepZ 92 (0, 0)) ∧
          StepTo Y.w0 t (.returned (.agg #[.slice va vn vc, .int .i64 t.sent, .int .i64 t.drawn, .slice sa sn sc, .slice ta tn tc])) (w8.setRow Z #[.slice va vn vc, .int .i64 t.sent, .int .i64 t.drawn, .slice sa sn sc, .slice ta tn tc])) := by
        rw [Lib.hid_eq]
        rintro w8 ⟨p, rfl⟩
        have h8 := h.next p.h
        have hz := h8.kept (Z, stepZ, 92) (by rw [HDs.out]; simp)
        have hZ0 : Y.w0.heap.size ≤ Z := HZ.out
        have hb := setRow_but p.w Z #[.slice va vn vc, .int .i64 t.sent, .int .i64 t.drawn, .slice sa sn sc, .slice ta tn tc]
        have hne : ∀ {A : Type} {C : Cod A} {T : TypeId} {B : Nat} {v : Value} {l : List A}, C.Own T B p.w v l → T ≠ 92 → ∀ b, v.ownBlock = some b → ¬ b = Z := fun h hT b e e2 => by
          obtain ⟨cur, h1⟩ := h.typ e
          exact ne_types h1 hz hT e2
        exact ⟨h8.cells.2.2.2.1, h8.cells.2.2.2.2.1, h8.cells.2.2.2.2.2.1, h8.cells.2.2.2.2.2.2.1, h8.cells.2.2.2.2.2.2.2.1, hz, _, _, _, rfl, h8.vars.but hb (hne h8.vars (by decide)), h8.sends.but hb (hne h8.sends (by decide)), h8.tells.but hb (hne h8.tells (by decide)), h8.hs, h8.ht, h8.below.trans (hb.below h8.below.size fun k e => by rw [e]; exact hZ0)⟩
      rw [HE.out]
      have hq : (n = 0) ∨ (0 < n ∧ decide ((t.next : Int) < (Y.cd.length : Int)) = false ∧ decide (t.next < Y.cd.length) = false) := by
        rcases hs with hs | hs
        · exact .inl hs
        · by_cases h0 : n = 0
          · exact .inl h0
          · exact .inr ⟨by omega, decide_eq_false (by omega), decide_eq_false (by omega)⟩
      clear hw h HW HST hs c7 c8 f8
      rcases hq with hq | ⟨hq1, hq2, hq3⟩
      · subst hq
        go_wp2_with fail
        refine wp_region_below (by kernel_rfl) (by kernel_rfl) ?_
        repeat (refine WQ.step (fun K hK => ?_); go_simp; first | (refine hK _ ?_; clear hK K) | (apply Exists.intro; refine ⟨fun _ => ?_, hK _ ?_⟩; (fail); clear hK K))
        refine WQ.nil ?_
        intro w8 hw'
        obtain ⟨d1, d2, d3, d4, d5, d6, d7⟩ := HF.out _ hw'
        clear hw'
        have HD7 := Lib.hid (And.intro d6 d7)
        clear d6 d7 HF q7 q8
        have HCL := Lib.hid (cst_at d1 d2 d3 d4 d5)
        go_wp2_with (first
          | (show wpList _ _ _ (Oper.mk _ (.load _ (.tmp 50)) _ _ _ _ :: _) _ _; refine wpList_load_cell rfl 92 (.tmp 50) rfl Y.R 9 rfl ((va, vn, vc), t.sent, t.drawn, (sa, sn, sc), (ta, tn, tc)) #[.slice va vn vc, .int .i64 t.sent, .int .i64 t.drawn, .slice sa sn sc, .slice ta tn tc] _ HCL.out rfl Tryd.underlying92 rfl (by kernel_rfl) ?_)
          | (show wpList _ _ _ (Oper.mk _ (.store _ (.tmp 2) (.tmp 51)) _ _ _ _ :: _) _ _; refine wpList_store_row rfl 92 (.tmp 2) (.tmp 51) rfl Z #[.slice va vn vc, .int .i64 t.sent, .int .i64 t.drawn, .slice sa sn sc, .slice ta tn tc] rfl rfl 92 stepZ HD7.out.1 (infoSt _ rfl) rfl (by simp [Value.oneCell']) ?_))
        exact ⟨rfl, _, results_cell_row rfl _ _ Z 92 #[.slice va vn vc, .int .i64 t.sent, .int .i64 t.drawn, .slice sa sn sc, .slice ta tn tc] (0, 0) _ rfl (setRow_heap _ _ _ _ _ _ HD7.out.1) Tryd.underlying92 rfl (infoSt _ rfl), by rw [HEW.out, HE.out]; exact HD7.out.2⟩
      · clear h256
        go_wp2_with fail
        refine wp_region_below (by kernel_rfl) (by kernel_rfl) ?_
        repeat (refine WQ.step (fun K hK => ?_); go_simp; first | (refine hK _ ?_; clear hK K) | (apply Exists.intro; refine ⟨fun _ => ?_, hK _ ?_⟩; (fail); clear hK K))
        refine WQ.nil ?_
        intro w8 hw'
        obtain ⟨d1, d2, d3, d4, d5, d6, d7⟩ := HF.out _ hw'
        clear hw'
        have HD7 := Lib.hid (And.intro d6 d7)
        clear d6 d7 HF q7 q8
        have HCL := Lib.hid (cst_at d1 d2 d3 d4 d5)
        go_wp2_with (first
          | (show wpList _ _ _ (Oper.mk _ (.load _ (.tmp 50)) _ _ _ _ :: _) _ _; refine wpList_load_cell rfl 92 (.tmp 50) rfl Y.R 9 rfl ((va, vn, vc), t.sent, t.drawn, (sa, sn, sc), (ta, tn, tc)) #[.slice va vn vc, .int .i64 t.sent, .int .i64 t.drawn, .slice sa sn sc, .slice ta tn tc] _ HCL.out rfl Tryd.underlying92 rfl (by kernel_rfl) ?_)
          | (show wpList _ _ _ (Oper.mk _ (.store _ (.tmp 2) (.tmp 51)) _ _ _ _ :: _) _ _; refine wpList_store_row rfl 92 (.tmp 2) (.tmp 51) rfl Z #[.slice va vn vc, .int .i64 t.sent, .int .i64 t.drawn, .slice sa sn sc, .slice ta tn tc] rfl rfl 92 stepZ HD7.out.1 (infoSt _ rfl) rfl (by simp [Value.oneCell']) ?_))
        exact ⟨rfl, _, results_cell_row rfl _ _ Z 92 #[.slice va vn vc, .int .i64 t.sent, .int .i64 t.drawn, .slice sa sn sc, .slice ta tn tc] (0, 0) _ rfl (setRow_heap _ _ _ _ _ _ HD7.out.1) Tryd.underlying92 rfl (infoSt _ rfl), by rw [HEW.out, HE.out]; exact HD7.out.2⟩
    · obtain ⟨n, rfl⟩ : ∃ n' : Nat, n = n' + 1 := ⟨n - 1, by omega⟩
      have hlt : t.next < Y.cd.length := by omega
      have hltI : (t.next : Int) < (Y.cd.length : Int) := by omega
      have hq1 : 0 < n + 1 := by omega
      have hq2 : decide ((t.next : Int) < (Y.cd.length : Int)) = true := decide_eq_true hltI
      have hmem : Y.cd.getD t.next (0, 0) ∈ Y.cd := by rw [List.getD, List.getElem?_eq_getElem hlt]; exact List.getElem_mem hlt
      obtain ⟨ho, hvar, hjmp, hi1, hi2⟩ := HCY.out.2 _ hmem
      have hcode := (HXL.out.code.below h.below (Nat.le_refl _)).cell t.next hlt
      have HWS : Hid (∀ W', At Y (VmM.op Y.m Y.e Y.cd.length (Y.cd.getD t.next (0, 0)) { t with next := t.next + 1 }) W' → Wh Y R n (VmM.op Y.m Y.e Y.cd.length (Y.cd.getD t.next (0, 0)) { t with next := t.next + 1 }) nv W') := Lib.hid fun W' ha => hw.step hlt ha
      have HVN := Lib.hid hw.vars
      obtain ⟨⟨o, k⟩, hx⟩ : ∃ x, x = Y.cd.getD t.next (0, 0) := ⟨_, rfl⟩
      rw [← hx] at ho hvar hjmp hcode HWS
      have HIN : Hid (InsOk Y { t with next := t.next + 1 } (o, k)) := Lib.hid ⟨ho, fun e => by have := hvar e; rw [← HVN.out] at this; exact this, fun e => by have a1 := hjmp e; have a2 := HCY.out.1; dsimp only at a1; exact ⟨a1.1, by show k ≤ 128; omega⟩⟩
      clear hw HW hs hvar hjmp hi1 hi2 hmem hx
      obtain ⟨B, off, hca, hB, e0, e1⟩ := hcode
      rw [hca] at c7 q7
      have HCA := Lib.hid hca
      have HF : Hid (∀ (w8 : World), (∃ p : InB wr, w8 = p.w) → St Y w8 t (.slice va vn vc) (.slice sa sn sc) (.slice ta tn tc) ∧ w8.cell? ⟨B, off + t.next * 2, none⟩ = some (.int .i64 o) ∧ w8.cell? ⟨B, off + t.next * 2 + 1, none⟩ = some (.int .i64 k)) := by
        rw [Lib.hid_eq]
        rintro w8 ⟨p, rfl⟩
        exact ⟨h.next p.h, cell_keep p e0, cell_keep p e1⟩
      clear h HST c7 c8 f8 e0 e1 hB hca
      go_wp2_with fail
      refine wp_region_below (by kernel_rfl) (by kernel_rfl) ?_
      repeat (refine WQ.step (fun K hK => ?_); go_simp; first | (refine hK _ ?_; clear hK K) | (apply Exists.intro; refine ⟨fun _ => ?_, hK _ ?_⟩; (fail); clear hK K))
      refine WQ.nil ?_
      intro w8 hw'
      obtain ⟨h8, i0, i1⟩ := HF.out _ hw'
      have j7 := h8.cells.2.1
      have j8 := h8.cells.2.2.1
      rw [HCA.out] at j7
      have hb8 : Below w8.heap.size w8 (w8.alloc (.cells #[.int .i64 0, .int .i64 0] 66)) := (Below.refl _ _).alloc (Nat.le_refl _) _
      have k0 : (w8.alloc (.cells #[.int .i64 0, .int .i64 0] 66)).cell? ⟨B, off + t.next * 2, none⟩ = some (.int .i64 o) := (hb8.cell (World.block_lt_of_cell? w8 _ i0)).trans i0
      have k1 : (w8.alloc (.cells #[.int .i64 0, .int .i64 0] 66)).cell? ⟨B, off + t.next * 2 + 1, none⟩ = some (.int .i64 k) := (hb8.cell (World.block_lt_of_cell? w8 _ i1)).trans i1
      have k7 : (w8.alloc (.cells #[.int .i64 0, .int .i64 0] 66)).cell? ⟨Y.R, 7, none⟩ = some (.slice (some ⟨B, off, none⟩) Y.cd.length Y.cc) := (hb8.cell (World.block_lt_of_cell? w8 _ j7)).trans j7
      have k8 : (w8.alloc (.cells #[.int .i64 0, .int .i64 0] 66)).cell? ⟨Y.R, 8, none⟩ = some (.int .i64 (t.next : Int)) := (hb8.cell (World.block_lt_of_cell? w8 _ j8)).trans j8
      have H8 := Lib.hid h8
      clear hw' HF q7 q8 hb8 h8
      go_wp2_with fail
      go_region
      all_goals
        obtain ⟨w9, hw9⟩ : ∃ w9, w9 = (w8.alloc (.cells #[.int .i64 o, .int .i64 k] 66)).drew := ⟨_, rfl⟩
        obtain ⟨E, hE⟩ : ∃ E, E = w8.heap.size := ⟨_, rfl⟩
        rw [← hw9, ← hE]
        have h9 : St Y w9 t (.slice va vn vc) (.slice sa sn sc) (.slice ta tn tc) := by rw [hw9]; exact H8.out.next ((Below.refl _ _).alloc (Nat.le_refl _) _).drew
        have hx9 : w9.heap[E]? = some (.cells #[.int .i64 o, .int .i64 k] 66 (0, 0)) := by rw [hw9, hE]; exact heap_alloc_new _ _
        have hER : E ≠ Y.R := ne_types hx9 h9.box (by decide)
        obtain ⟨w10, hw10⟩ : ∃ w10, w10 = w9.setCell ⟨Y.R, 8, none⟩ (.int .i64 ((t.next : Int) + 1)) := ⟨_, rfl⟩
        have h10 : St Y w10 { t with next := t.next + 1 } (.slice va vn vc) (.slice sa sn sc) (.slice ta tn tc) := by rw [hw10]; exact h9.jump HXL.out (t.next + 1)
        have hx10 : w10.heap[E]? = some (.cells #[.int .i64 o, .int .i64 k] 66 (0, 0)) := by rw [hw10]; exact (Below.heap_setCell _ _ _ _ (by first | exact hER | exact fun e => hER e.symm)).trans hx9
        have hD10 : w10.heap[D]? = some (.cells opsC 178 (0, 0)) := h10.kept (D, opsC, 178) (by rw [HDs.out]; simp)
        have m8 := h9.cells.2.2.1
        have f8 := h9.free 8
        have d0 : w10.cell? ⟨E, 0, none⟩ = some (.int .i64 o) := by rw [cell_of_row _ _ _ _ _ _ hx10]; rfl
        have d1 : w10.cell? ⟨E, 1, none⟩ = some (.int .i64 k) := by rw [cell_of_row _ _ _ _ _ _ hx10]; rfl
        have HD10 := Lib.hid hD10
        have HS10 : Hid (At Y { t with next := t.next + 1 } w10.drew) := Lib.hid ⟨_, _, _, h10.drew⟩
        clear hw9 hE h9 hx9 hER h10 hx10 hD10 i0 i1 j7 j8 k0 k1 k7 k8 H8
        go_upto_region 7 with fail
        rw [← hw10]
        clear hw10 m8 f8
        have hoc : o = 1 ∨ o = 2 ∨ o = 3 ∨ o = 4 ∨ o = 5 ∨ o = 6 ∨ o = 7 ∨ o = 8 ∨ o = 9 ∨ o = 10 ∨ o = 11 ∨ o = 12 ∨ o = 13 ∨ o = 14 ∨ o = 15 ∨ o = 16 ∨ o = 17 := by omega
        clear ho
        rcases hoc with rfl | rfl | rfl | rfl | rfl | rfl | rfl | rfl | rfl | rfl | rfl | rfl | rfl | rfl | rfl | rfl | rfl
        · have dF : w10.cell? ⟨D, 1, none⟩ = some (.func (.func 110) #[] #[]) := by rw [cell_of_row _ _ _ _ _ _ HD10.out]; rfl
          go_region_with (go_at_call 110; refine (does_push Y HXL.out _ _ HS10.out k).mono ?_; rintro e w11 ⟨rfl, h11⟩; have H11 := Lib.hid h11; clear h11)
          all_goals
            go_wp2
            go_roundw
            case rel => exact ⟨n, _, by go_num, HWS.out _ H11.out⟩
            case measure => first | (simp [intOf]; done) | (simp [intOf]; omega)
        · have dF : w10.cell? ⟨D, 2, none⟩ = some (.func (.func 111) #[] #[]) := by rw [cell_of_row _ _ _ _ _ _ HD10.out]; rfl
          go_region_with (go_at_call 111; refine (does_load Y HXL.out _ _ HS10.out (by have := HVN.out; show t.vars.length ≤ 8; omega) k HIN.out).mono ?_; rintro e w11 ⟨rfl, h11⟩; have H11 := Lib.hid h11; clear h11)
          all_goals
            go_wp2
            go_roundw
            case rel => exact ⟨n, _, by go_num, HWS.out _ H11.out⟩
            case measure => first | (simp [intOf]; done) | (simp [intOf]; omega)
        · have dF : w10.cell? ⟨D, 3, none⟩ = some (.func (.func 112) #[] #[]) := by rw [cell_of_row _ _ _ _ _ _ HD10.out]; rfl
          go_region_with (go_at_call 112; refine (does_store Y HXL.out _ _ HS10.out (by have := HVN.out; show t.vars.length ≤ 8; omega) k HIN.out).mono ?_; rintro e w11 ⟨rfl, h11⟩; have H11 := Lib.hid h11; clear h11)
          all_goals
            go_wp2
            go_roundw
            case rel => exact ⟨n, _, by go_num, HWS.out _ H11.out⟩
            case measure => first | (simp [intOf]; done) | (simp [intOf]; omega)
        · have dF : w10.cell? ⟨D, 4, none⟩ = some (.func (.func 113) #[] #[]) := by rw [cell_of_row _ _ _ _ _ _ HD10.out]; rfl
          go_region_with (go_at_call 113; refine (does_time Y HXL.out _ _ HS10.out k).mono ?_; rintro e w11 ⟨rfl, h11⟩; have H11 := Lib.hid h11; clear h11)
          all_goals
            go_wp2
            go_roundw
            case rel => exact ⟨n, _, by go_num, HWS.out _ H11.out⟩
            case measure => first | (simp [intOf]; done) | (simp [intOf]; omega)
        · have dF : w10.cell? ⟨D, 5, none⟩ = some (.func (.func 114) #[] #[]) := by rw [cell_of_row _ _ _ _ _ _ HD10.out]; rfl
          go_region_with (go_at_call 114; refine (does_data Y HXL.out _ _ HS10.out k).mono ?_; rintro e w11 ⟨rfl, h11⟩; have H11 := Lib.hid h11; clear h11)
          all_goals
            go_wp2
            go_roundw
            case rel => exact ⟨n, _, by go_num, HWS.out _ H11.out⟩
            case measure => first | (simp [intOf]; done) | (simp [intOf]; omega)
        · have dF : w10.cell? ⟨D, 6, none⟩ = some (.func (.func 115) #[] #[]) := by rw [cell_of_row _ _ _ _ _ _ HD10.out]; rfl
          go_region_with (go_at_call 115; refine (does_self Y HXL.out _ _ HS10.out k).mono ?_; rintro e w11 ⟨rfl, h11⟩; have H11 := Lib.hid h11; clear h11)
          all_goals
            go_wp2
            go_roundw
            case rel => exact ⟨n, _, by go_num, HWS.out _ H11.out⟩
            case measure => first | (simp [intOf]; done) | (simp [intOf]; omega)
        · have dF : w10.cell? ⟨D, 7, none⟩ = some (.func (.func 116) #[] #[]) := by rw [cell_of_row _ _ _ _ _ _ HD10.out]; rfl
          go_region_with (go_at_call 116; refine (does_rand Y HXL.out _ _ HS10.out k).mono ?_; rintro e w11 ⟨rfl, h11⟩; have H11 := Lib.hid h11; clear h11)
          all_goals
            go_wp2
            go_roundw
            case rel => exact ⟨n, _, by go_num, HWS.out _ H11.out⟩
            case measure => first | (simp [intOf]; done) | (simp [intOf]; omega)
        · have dF : w10.cell? ⟨D, 8, none⟩ = some (.func (.func 117) #[] #[]) := by rw [cell_of_row _ _ _ _ _ _ HD10.out]; rfl
          go_region_with (go_at_call 117; refine (does_add Y HXL.out _ _ HS10.out k).mono ?_; rintro e w11 ⟨rfl, h11⟩; have H11 := Lib.hid h11; clear h11)
          all_goals
            go_wp2
            go_roundw
            case rel => exact ⟨n, _, by go_num, HWS.out _ H11.out⟩
            case measure => first | (simp [intOf]; done) | (simp [intOf]; omega)
        · have dF : w10.cell? ⟨D, 9, none⟩ = some (.func (.func 118) #[] #[]) := by rw [cell_of_row _ _ _ _ _ _ HD10.out]; rfl
          go_region_with (go_at_call 118; refine (does_sub Y HXL.out _ _ HS10.out k).mono ?_; rintro e w11 ⟨rfl, h11⟩; have H11 := Lib.hid h11; clear h11)
          all_goals
            go_wp2
            go_roundw
            case rel => exact ⟨n, _, by go_num, HWS.out _ H11.out⟩
            case measure => first | (simp [intOf]; done) | (simp [intOf]; omega)
        · have dF : w10.cell? ⟨D, 10, none⟩ = some (.func (.func 119) #[] #[]) := by rw [cell_of_row _ _ _ _ _ _ HD10.out]; rfl
          go_region_with (go_at_call 119; refine (does_mul Y HXL.out _ _ HS10.out k).mono ?_; rintro e w11 ⟨rfl, h11⟩; have H11 := Lib.hid h11; clear h11)
          all_goals
            go_wp2
            go_roundw
            case rel => exact ⟨n, _, by go_num, HWS.out _ H11.out⟩
            case measure => first | (simp [intOf]; done) | (simp [intOf]; omega)
        · have dF : w10.cell? ⟨D, 11, none⟩ = some (.func (.func 120) #[] #[]) := by rw [cell_of_row _ _ _ _ _ _ HD10.out]; rfl
          go_region_with (go_at_call 120; refine (does_less Y HXL.out _ _ HS10.out k).mono ?_; rintro e w11 ⟨rfl, h11⟩; have H11 := Lib.hid h11; clear h11)
          all_goals
            go_wp2
            go_roundw
            case rel => exact ⟨n, _, by go_num, HWS.out _ H11.out⟩
            case measure => first | (simp [intOf]; done) | (simp [intOf]; omega)
        · have dF : w10.cell? ⟨D, 12, none⟩ = some (.func (.func 121) #[] #[]) := by rw [cell_of_row _ _ _ _ _ _ HD10.out]; rfl
          go_region_with (go_at_call 121; refine (does_same Y HXL.out _ _ HS10.out k).mono ?_; rintro e w11 ⟨rfl, h11⟩; have H11 := Lib.hid h11; clear h11)
          all_goals
            go_wp2
            go_roundw
            case rel => exact ⟨n, _, by go_num, HWS.out _ H11.out⟩
            case measure => first | (simp [intOf]; done) | (simp [intOf]; omega)
        · have dF : w10.cell? ⟨D, 13, none⟩ = some (.func (.func 122) #[] #[]) := by rw [cell_of_row _ _ _ _ _ _ HD10.out]; rfl
          go_region_with (go_at_call 122; refine (does_jump Y HXL.out _ _ HS10.out k HIN.out).mono ?_; rintro e w11 ⟨rfl, h11⟩; have H11 := Lib.hid h11; clear h11)
          all_goals
            go_wp2
            go_roundw
            case rel => exact ⟨n, _, by go_num, HWS.out _ H11.out⟩
            case measure => first | (simp [intOf]; done) | (simp [intOf]; omega)
        · have dF : w10.cell? ⟨D, 14, none⟩ = some (.func (.func 123) #[] #[]) := by rw [cell_of_row _ _ _ _ _ _ HD10.out]; rfl
          go_region_with (go_at_call 123; refine (does_zero Y HXL.out _ _ HS10.out k HIN.out).mono ?_; rintro e w11 ⟨rfl, h11⟩; have H11 := Lib.hid h11; clear h11)
          all_goals
            go_wp2
            go_roundw
            case rel => exact ⟨n, _, by go_num, HWS.out _ H11.out⟩
            case measure => first | (simp [intOf]; done) | (simp [intOf]; omega)
        · have dF : w10.cell? ⟨D, 15, none⟩ = some (.func (.func 124) #[] #[]) := by rw [cell_of_row _ _ _ _ _ _ HD10.out]; rfl
          go_region_with (go_at_call 124; refine (does_send Y HXL.out _ _ HS10.out k).mono ?_; rintro e w11 ⟨rfl, h11⟩; have H11 := Lib.hid h11; clear h11)
          all_goals
            go_wp2
            go_roundw
            case rel => exact ⟨n, _, by go_num, HWS.out _ H11.out⟩
            case measure => first | (simp [intOf]; done) | (simp [intOf]; omega)
        · have dF : w10.cell? ⟨D, 16, none⟩ = some (.func (.func 125) #[] #[]) := by rw [cell_of_row _ _ _ _ _ _ HD10.out]; rfl
          go_region_with (go_at_call 125; refine (does_tell Y HXL.out _ _ HS10.out k).mono ?_; rintro e w11 ⟨rfl, h11⟩; have H11 := Lib.hid h11; clear h11)
          all_goals
            go_wp2
            go_roundw
            case rel => exact ⟨n, _, by go_num, HWS.out _ H11.out⟩
            case measure => first | (simp [intOf]; done) | (simp [intOf]; omega)
        · have dF : w10.cell? ⟨D, 17, none⟩ = some (.func (.func 126) #[] #[]) := by rw [cell_of_row _ _ _ _ _ _ HD10.out]; rfl
          go_region_with (go_at_call 126; refine (does_end Y HXL.out _ _ HS10.out k).mono ?_; rintro e w11 ⟨rfl, h11⟩; have H11 := Lib.hid h11; clear h11)
          all_goals
            go_wp2
            go_roundw
            case rel => exact ⟨n, _, by go_num, HWS.out _ H11.out⟩
            case measure => first | (simp [intOf]; done) | (simp [intOf]; omega)
end Go.Proofs.YthhpoihfaggafaaDoor
