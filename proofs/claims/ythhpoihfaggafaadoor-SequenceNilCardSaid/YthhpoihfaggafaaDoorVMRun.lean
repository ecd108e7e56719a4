/-
  The walk of a machine's Run.
-/
import Derived.Test.YthhpoihfaggafaaDoorVNewRun
import Derived.Test.YthhpoihfaggafaaDoorVWhole
namespace Go.Proofs.YthhpoihfaggafaaDoor
open Go Go.RowKit Go.Sort Go.Proofs CodM VmM

theorem results_two {P : Program} {fn : Func} {p u : Tmp} {ty : TypeId} (h : fn.results = #[.cell p ty, .tmp u]) (tmps : Array Value) (w : World) (g : Nat) (t : TypeId) (cs : Array Value) (fr : Nat × Nat) (d : TypeDesc)
    (hp : tmps.getD p undef = .pointer (some ⟨g, 0, none⟩)) (hg : w.heap[g]? = some (.cells cs t fr))
    (hu : P.underlying ty = some d) (hd : (match d with | .struct _ | .array _ _ => true | _ => false) = true) (hi : (P.info? ty).map (·.size) = some cs.size) :
    (results fn tmps).run P w = .ok (.tuple #[.agg cs, tmps.getD u undef]) w := by
  have hp' : tmps[p]?.getD undef = .pointer (some ⟨g, 0, none⟩) := by simpa using hp
  simp [results, h, hp', asAddr, run_loadVar_row w g t ty cs fr d hg hu hd hi]
def okR (m : Mch) (p : Prg) (s : Ps) (ev : Ev) : Bool := isOf p s && (mayE m.procs ev && decide (ev.to = m.self))
/-- a step in memory -/
structure StepAt (B : Nat) (w : World) (R : Stp) (vv sv tv : Value) : Prop where
  vars : CV.Own 2 B w vv R.st.vars
  sends : CEv.Own 45 B w sv R.sends
  tells : CRc.Own 224 B w tv R.tells
  hs : R.sends.length ≤ 4
  ht : R.tells.length ≤ 4
abbrev stepV (R : Stp) (vv sv tv : Value) : Array Value := #[vv, .int .i64 R.st.sent, .int .i64 R.st.drawn, sv, tv]
def RunTo (w : World) (ok : Bool) (R : Stp) (e : Ending) (w' : World) : Prop :=
  Below w.heap.size w w' ∧ if ok = true then ∃ vv sv tv, e = .returned (.tuple #[.agg (stepV R vv sv tv), .int .i64 0]) ∧ StepAt w.heap.size w' R vv sv tv else e = .returned (.tuple #[.agg stepZ, .int .i64 2])
theorem StepAt.below {B : Nat} {w w' : World} {R : Stp} {vv sv tv : Value} (h : StepAt B w R vv sv tv) (hb : Below w.heap.size w w') : StepAt B w' R vv sv tv := ⟨h.vars.below hb, h.sends.below hb, h.tells.below hb, h.hs, h.ht⟩
theorem may_code {p : Prg} (h : CodM.may (codeNk p) p = true) {w : World} {a : Option Addr} {n : Nat} (hp : ProgAt w a n p) {k : Int} (X : Fx) (hX : X.cd = codeOf p k) {nv : Nat} (hn : (nv : Int) = p.vars) : CodeOk X nv ∧ nv ≤ 8 := by
  unfold CodM.may mayHead at h
  simp only [Bool.and_eq_true, decide_eq_true_eq] at h
  obtain ⟨⟨h1, h2, h3, h4⟩, hk⟩ := h
  refine ⟨?_, by omega⟩
  unfold CodeOk
  rw [hX]
  by_cases hj : k.toNat < p.kinds.length
  · have hm : codeOf p k ∈ p.kinds := by
      unfold codeOf
      rw [List.getD, List.getElem?_eq_getElem hj]
      exact List.getElem_mem hj
    have hkk := List.all_eq_true.1 hk _ hm
    unfold CodM.mayKind at hkk
    simp only [Bool.and_eq_true, decide_eq_true_eq, List.all_eq_true] at hkk
    obtain ⟨hl, hall⟩ := hkk
    obtain ⟨_, _, _, _, _, _, _, _, _, hin⟩ := hp.2.cell k.toNat (by rw [← hp.2.1]; exact hj)
    refine ⟨hl, fun x hx => ?_⟩
    have hxi := hall x hx
    have hw := hin.2.1 x hx
    unfold CodM.mayIns mayNum many at hxi
    simp only [Bool.and_eq_true, Bool.or_eq_true, decide_eq_true_eq] at hxi
    obtain ⟨ho, hnum⟩ := hxi
    refine ⟨ho, fun he => ?_, fun he => ?_, hw.1, hw.2⟩
    · rcases hnum with hnum | hnum
      · omega
      · rw [if_pos he] at hnum
        omega
    · rcases hnum with hnum | hnum
      · omega
      · rw [if_neg (by omega), if_neg (by omega), if_pos he] at hnum
        omega
  · have he : codeOf p k = [] := by
      unfold codeOf
      rw [List.getD, List.getElem?_eq_none (by omega)]
      rfl
    rw [he]
    exact ⟨by simp, by simp⟩
set_option maxHeartbeats 2000000 in
set_option maxRecDepth 100000 in
theorem mRun_any (w : World) (M : Nat) (m : Mch) (p : Prg) (a : Option Addr) (n c : Nat) (h : MAt w M m p a n c) (va : Option Addr) (vc : Nat) (s : Ps) (hv : CV.At w va s.vars.length s.vars) (hl : s.vars.length ≤ 1000) (hnil : va = none → vc = 0) (ev : Ev) :
    Calls Tryd.prog 33 #[.pointer (some ⟨M, 0, none⟩), stV va s.vars.length vc s.sent s.drawn, evV ev] w (RunTo w (okR m p s ev) (run m p s ev)) := by
  obtain ⟨w3, hw3⟩ : ∃ w3, w3 = ((w.alloc (.cells #[.slice va s.vars.length vc, .int .i64 s.sent, .int .i64 s.drawn] 51)).alloc (.cells #[.int .i64 ev.time, .int .i64 ev.org, .int .i64 ev.seq, .int .i64 ev.to, .int .i64 ev.kind, .int .i64 ev.data] 45)).alloc (.cells stepZ 92) := ⟨_, rfl⟩
  have hb3 : Below w.heap.size w w3 := by rw [hw3]; exact (((Below.refl _ _).alloc (Nat.le_refl _) _).alloc (by simp) _).alloc (by simp; omega) _
  have z1 : (w.alloc (.cells #[.slice va s.vars.length vc, .int .i64 s.sent, .int .i64 s.drawn] 51)).heap.size = w.heap.size + 1 := by simp
  have x0 : w3.heap[w.heap.size]? = some (.cells #[.slice va s.vars.length vc, .int .i64 s.sent, .int .i64 s.drawn] 51 (0, 0)) := by
    rw [hw3, heap_alloc_old _ _ (by first | (simp; done) | (simp; omega)), heap_alloc_old _ _ (by first | (simp; done) | (simp; omega)), heap_alloc_new]
  have x1 : w3.heap[w.heap.size + 1]? = some (.cells #[.int .i64 ev.time, .int .i64 ev.org, .int .i64 ev.seq, .int .i64 ev.to, .int .i64 ev.kind, .int .i64 ev.data] 45 (0, 0)) := by
    rw [hw3, heap_alloc_old _ _ (by first | (simp; done) | (simp; omega))]
    rw [← z1, heap_alloc_new]
  have x2 : w3.heap[w.heap.size + 1 + 1]? = some (.cells stepZ 92 (0, 0)) := by
    rw [hw3]
    have z2 : ((w.alloc (.cells #[.slice va s.vars.length vc, .int .i64 s.sent, .int .i64 s.drawn] 51)).alloc (.cells #[.int .i64 ev.time, .int .i64 ev.org, .int .i64 ev.seq, .int .i64 ev.to, .int .i64 ev.kind, .int .i64 ev.data] 45)).heap.size = w.heap.size + 1 + 1 := by simp
    rw [← z2, heap_alloc_new]
  have hst : NwS w3 w.heap.size (w.heap.size + 1) va s.vars.length vc s.sent s.drawn ev w3 := by
    refine ⟨?_, ?_, ?_, ?_, ?_, ?_, ?_, ?_, ?_, Lib.hid (Below.refl _ _)⟩ <;> first | (rw [cell_of_row _ _ _ _ _ _ x0]; rfl) | (rw [cell_of_row _ _ _ _ _ _ x1]; rfl)
  have hmc := (h.below hb3).cells
  have m2 := hmc.2.2.1
  have m3 := hmc.2.2.2.1
  have HN : Hid (∀ W, Below w.heap.size w W → Calls Tryd.prog 64 #[.pointer (some ⟨M, 0, none⟩)] W (fun e w' => e = .returned (.bool false) ∧ W = w')) := Lib.hid fun W hb => isNone_any W M m p a n c (h.below hb)
  obtain ⟨u1, hu1⟩ : ∃ u1, u1 = isOf p s := ⟨_, rfl⟩
  obtain ⟨u2, hu2⟩ : ∃ u2, u2 = mayE m.procs ev := ⟨_, rfl⟩
  have HM : Hid (∀ q : InB w3, Calls Tryd.prog 65 #[.pointer (some ⟨M, 0, none⟩), stV va s.vars.length vc s.sent s.drawn] q.w (fun e w' => e = .returned (.bool u1) ∧ Below q.w.heap.size q.w w')) := Lib.hid fun q => mMay_any q.w M m p a n c ((h.below hb3).below q.h) va s.vars.length vc s.sent s.drawn u1 hu1
  have HO : Hid (∀ W, Calls Tryd.prog 37 #[evV ev, .int .i64 m.procs] W (fun e w' => e = .returned (.bool u2) ∧ Below W.heap.size W w')) := by
    rw [Lib.hid_eq, hu2, mayE_ev]
    exact fun W => omay_any _ _ _ _ _ _ _ W
  have HNR : Hid (u2 = true → ∀ W, Below w.heap.size w W → Calls Tryd.prog 66 #[.pointer (some ⟨M, 0, none⟩), stV va s.vars.length vc s.sent s.drawn, evV ev] W (NewTo W m p ev s)) := by
    rw [Lib.hid_eq, hu2]
    exact fun he W hb => newRun_any W M m p a n c (h.below hb) va vc s (hv.below hb) hl hnil ev he
  have HWH : Hid (u1 = true → ∀ (X : Fx) (W : World), X.Ok → X.m = m → X.e = ev → X.cd = codeOf p ev.kind → At X (VmM.start s) W → Calls Tryd.prog 67 #[.pointer (some ⟨X.R, 0, none⟩)] W (StepTo X.w0 (go m ev (codeOf p ev.kind) 256 (VmM.start s)))) := by
    rw [Lib.hid_eq, hu1]
    intro he X W hX e1 e2 e3 hA
    have hvl : (s.vars.length : Int) = p.vars := by
      unfold isOf at he
      simp only [decide_eq_true_eq] at he
      exact he.1
    obtain ⟨hc, h8⟩ := may_code h.may h.prog X e3 hvl
    have := whole_any X hX (VmM.start s) W hA s.vars.length rfl h8 hc
    rw [e1, e2, e3] at this
    exact this
  have HOK : Hid (okR m p s ev = (u1 && (u2 && decide (ev.to = m.self)))) := by rw [Lib.hid_eq, hu1, hu2]; rfl
  obtain ⟨R, hR⟩ : ∃ R, R = run m p s ev := ⟨_, rfl⟩
  have HR : Hid (R = done (go m ev (codeOf p ev.kind) 256 (VmM.start s))) := Lib.hid hR
  rw [← hR]
  have HS8 : Hid (∀ w8, (∃ q : InB w3, w8 = q.w) → NwS w3 w.heap.size (w.heap.size + 1) va s.vars.length vc s.sent s.drawn ev w8 ∧ w8.heap[w.heap.size + 1 + 1]? = some (.cells stepZ 92 (0, 0))) := by
    rw [Lib.hid_eq]
    rintro w8 ⟨q, rfl⟩
    exact ⟨nw_next hst q.h, (q.h.block _ (Array.getElem?_eq_some_iff.1 x2).1).trans x2⟩
  have q0 : ∀ q : InB w3, q.w.cell? ⟨w.heap.size, 0, none⟩ = some (.slice va s.vars.length vc) := fun q => cell_keep q hst.1
  have q1 : ∀ q : InB w3, q.w.cell? ⟨w.heap.size, 1, none⟩ = some (.int .i64 s.sent) := fun q => cell_keep q hst.2.1
  have q2 : ∀ q : InB w3, q.w.cell? ⟨w.heap.size, 2, none⟩ = some (.int .i64 s.drawn) := fun q => cell_keep q hst.2.2.1
  have q3 : ∀ q : InB w3, q.w.cell? ⟨w.heap.size + 1, 0, none⟩ = some (.int .i64 ev.time) := fun q => cell_keep q hst.2.2.2.1
  have q4 : ∀ q : InB w3, q.w.cell? ⟨w.heap.size + 1, 1, none⟩ = some (.int .i64 ev.org) := fun q => cell_keep q hst.2.2.2.2.1
  have q5 : ∀ q : InB w3, q.w.cell? ⟨w.heap.size + 1, 2, none⟩ = some (.int .i64 ev.seq) := fun q => cell_keep q hst.2.2.2.2.2.1
  have q6 : ∀ q : InB w3, q.w.cell? ⟨w.heap.size + 1, 3, none⟩ = some (.int .i64 ev.to) := fun q => cell_keep q hst.2.2.2.2.2.2.1
  have q7 : ∀ q : InB w3, q.w.cell? ⟨w.heap.size + 1, 4, none⟩ = some (.int .i64 ev.kind) := fun q => cell_keep q hst.2.2.2.2.2.2.2.1
  have q8 : ∀ q : InB w3, q.w.cell? ⟨w.heap.size + 1, 5, none⟩ = some (.int .i64 ev.data) := fun q => cell_keep q hst.2.2.2.2.2.2.2.2.1
  have r2 : ∀ q : InB w3, q.w.cell? ⟨M, 2, none⟩ = some (.int .i64 m.self) := fun q => cell_keep q m2
  have r3 : ∀ q : InB w3, q.w.cell? ⟨M, 3, none⟩ = some (.int .i64 m.procs) := fun q => cell_keep q m3
  have H3 := Lib.hid (And.intro hb3 x2)
  have HW3 := Lib.hid hw3
  clear h hv hl hnil hw3 hb3 z1 x0 x1 x2 hst hmc m2 m3 hu1 hu2 hR
  go_enter Tryd.func33, Tryd.ntmps33
  go_upto_region 1 with fail
  change Code.wp _ _ _ _ (World.alloc _ (Obj.cells stepZ _))
  rw [← HW3.out]
  go_upto_region 3 with (go_at_call 64; refine (HN.out _ H3.out.1).mono ?_; rintro e7 w7 ⟨rfl, rfl⟩)
  cases u1 with
  | false =>
    have HF : Hid (okR m p s ev = false) := by rw [Lib.hid_eq, HOK.out]; rfl
    refine wp_region_below (by kernel_rfl) (by kernel_rfl) ?_
    repeat (refine WQ.step (fun K hK => ?_); go_simp; first | (refine hK _ ?_; clear hK K) | (apply Exists.intro; refine ⟨fun _ => ?_, hK _ ?_⟩; (first | (go_at_call 65; exact Calls.inb (HM.out _)) | (go_at_call 37; exact Calls.inb (HO.out _))); clear hK K))
    refine WQ.nil ?_
    intro w8 hw8
    obtain ⟨hst8, hz8⟩ := HS8.out w8 hw8
    have hb8 := hst8.2.2.2.2.2.2.2.2.2
    clear hw8 HS8 q0 q1 q2 q3 q4 q5 q6 q7 q8 r2 r3
    have HST8 := Lib.hid hst8
    have HZ8 := Lib.hid hz8
    clear hst8 hz8
    go_upto_region 4 with fail
    refine wp_region_lit ?_
    refine wpList_build rfl 92 _ rfl (by kernel_rfl) ?_
    refine wpList_store_row rfl 92 (.tmp 6) (.tmp 35) rfl (w.heap.size + 1 + 1) stepZ rfl (by kernel_rfl) 92 stepZ HZ8.out (infoSt _ rfl) rfl (by simp [Value.oneCell']) ?_
    go_wp2
    have hb := H3.out.1.trans (hb8.out.mono H3.out.1.size)
    exact ⟨rfl, _, results_two rfl _ _ (w.heap.size + 1 + 1) 92 stepZ (0, 0) _ rfl (setRow_heap _ _ _ _ _ _ HZ8.out) Tryd.underlying92 rfl (infoSt _ rfl), hb.trans ((setRow_but _ _ _).below hb.size fun k e => by rw [e]; omega), by rw [HF.out]; rfl⟩
  | true =>
    cases u2 with
    | false =>
      have HF : Hid (okR m p s ev = false) := by rw [Lib.hid_eq, HOK.out]; rfl
      refine wp_region_below (by kernel_rfl) (by kernel_rfl) ?_
      repeat (refine WQ.step (fun K hK => ?_); go_simp; first | (refine hK _ ?_; clear hK K) | (apply Exists.intro; refine ⟨fun _ => ?_, hK _ ?_⟩; (first | (go_at_call 65; exact Calls.inb (HM.out _)) | (go_at_call 37; exact Calls.inb (HO.out _))); clear hK K))
      refine WQ.nil ?_
      intro w8 hw8
      obtain ⟨hst8, hz8⟩ := HS8.out w8 hw8
      have hb8 := hst8.2.2.2.2.2.2.2.2.2
      clear hw8 HS8 q0 q1 q2 q3 q4 q5 q6 q7 q8 r2 r3
      have HST8 := Lib.hid hst8
      have HZ8 := Lib.hid hz8
      clear hst8 hz8
      go_upto_region 4 with fail
      refine wp_region_lit ?_
      refine wpList_build rfl 92 _ rfl (by kernel_rfl) ?_
      refine wpList_store_row rfl 92 (.tmp 6) (.tmp 35) rfl (w.heap.size + 1 + 1) stepZ rfl (by kernel_rfl) 92 stepZ HZ8.out (infoSt _ rfl) rfl (by simp [Value.oneCell']) ?_
      go_wp2
      have hb := H3.out.1.trans (hb8.out.mono H3.out.1.size)
      exact ⟨rfl, _, results_two rfl _ _ (w.heap.size + 1 + 1) 92 stepZ (0, 0) _ rfl (setRow_heap _ _ _ _ _ _ HZ8.out) Tryd.underlying92 rfl (infoSt _ rfl), hb.trans ((setRow_but _ _ _).below hb.size fun k e => by rw [e]; omega), by rw [HF.out]; rfl⟩
    | true =>
      by_cases hto : ev.to = m.self
      · have HF : Hid (okR m p s ev = true) := by rw [Lib.hid_eq, HOK.out, decide_eq_true hto]; rfl
        have hto2 : (ev.to == m.self) = true := by simp [hto]
        clear hto
        refine wp_region_below (by kernel_rfl) (by kernel_rfl) ?_
        repeat (refine WQ.step (fun K hK => ?_); go_simp; first | (refine hK _ ?_; clear hK K) | (apply Exists.intro; refine ⟨fun _ => ?_, hK _ ?_⟩; (first | (go_at_call 65; exact Calls.inb (HM.out _)) | (go_at_call 37; exact Calls.inb (HO.out _))); clear hK K))
        refine WQ.nil ?_
        intro w8 hw8
        obtain ⟨hst8, hz8⟩ := HS8.out w8 hw8
        have hb8 := hst8.2.2.2.2.2.2.2.2.2
        clear hw8 HS8 q0 q1 q2 q3 q4 q5 q6 q7 q8 r2 r3
        have HST8 := Lib.hid hst8
        have HZ8 := Lib.hid hz8
        obtain ⟨e0, e1, e2, e3, e4, e5, e6, e7, e8, -⟩ := hst8
        clear hz8
        have HNX : Hid (Calls Tryd.prog 66 #[.pointer (some ⟨M, 0, none⟩), stV va s.vars.length vc s.sent s.drawn, evV ev] w8 (NewTo w8 m p ev s)) := Lib.hid (HNR.out (by trivial) w8 (H3.out.1.trans (hb8.out.mono H3.out.1.size)))
        have HWX : Hid (∀ (X : Fx) (W : World), X.Ok → X.m = m → X.e = ev → X.cd = codeOf p ev.kind → At X (VmM.start s) W → Calls Tryd.prog 67 #[.pointer (some ⟨X.R, 0, none⟩)] W (StepTo X.w0 (go m ev (codeOf p ev.kind) 256 (VmM.start s)))) := Lib.hid (HWH.out (by trivial))
        clear HNR HWH HM HO HN
        go_wp2_with (first
          | (go_at_call 66; refine HNX.out.mono ?_; rintro e9 w9 ⟨X, hX0, hXo, hXm, hXe, hXc, rfl, hXA⟩; have HX0 := Lib.hid hX0; have HXB : Hid (Below w8.heap.size w8 w9) := (by obtain ⟨_, _, _, hxs⟩ := hXA; rw [← hX0]; exact hxs.below); have HWY : Hid (Calls Tryd.prog 67 #[.pointer (some ⟨X.R, 0, none⟩)] w9 (StepTo X.w0 (go m ev (codeOf p ev.kind) 256 (VmM.start s)))) := Lib.hid (HWX.out X w9 hXo hXm hXe hXc hXA); clear hX0 hXo hXm hXe hXc hXA)
          | (go_at_call 67; refine HWY.out.mono ?_; rintro e10 w10 ⟨vv, sv, tv, rfl, ho1, ho2, ho3, hh1, hh2, hbb⟩; obtain ⟨v1, v2, v3, rfl⟩ := ho1.shape; obtain ⟨s1, s2, s3, rfl⟩ := ho2.shape; obtain ⟨t1, t2, t3, rfl⟩ := ho3.shape; rw [HX0.out] at ho1 ho2 ho3 hbb; have HG := Lib.hid (StepAt.mk (R := done (go m ev (codeOf p ev.kind) 256 (VmM.start s))) ho1 ho2 ho3 hh1 hh2); have HB10 := Lib.hid hbb; have HZ10 : Hid (w10.heap[w.heap.size + 1 + 1]? = some (.cells stepZ 92 (0, 0))) := Lib.hid ((hbb.block _ (Array.getElem?_eq_some_iff.1 HZ8.out).1).trans HZ8.out); clear ho1 ho2 ho3 hh1 hh2 hbb)
          | (show wpList _ _ _ (Oper.mk _ (.store _ (.tmp 6) (.tmp 40)) _ _ _ _ :: _) _ _; refine wpList_store_row rfl 92 (.tmp 6) (.tmp 40) rfl (w.heap.size + 1 + 1) _ rfl rfl 92 stepZ HZ10.out (infoSt _ rfl) rfl (by simp [Value.oneCell']) ?_))
        have hb := H3.out.1.trans (hb8.out.mono H3.out.1.size)
        have hb10 := hb.trans (HB10.out.mono hb.size)
        refine ⟨rfl, _, results_two rfl _ _ (w.heap.size + 1 + 1) 92 _ (0, 0) _ rfl (setRow_heap _ _ _ _ _ _ HZ10.out) Tryd.underlying92 rfl (infoSt _ rfl), hb10.trans ((setRow_but _ _ _).below hb10.size fun k e => by rw [e]; omega), ?_⟩
        rw [HF.out, if_pos rfl]
        refine ⟨.slice v1 v2 v3, .slice s1 s2 s3, .slice t1 t2 t3, ?_, ?_⟩
        · rw [HR.out]
          rfl
        · rw [HR.out]
          have hne : ∀ {A : Type} {C : Cod A} {T : TypeId} {B : Nat} {v : Value} {l : List A}, C.Own T B w10 v l → T ≠ 92 → ∀ b, v.ownBlock = some b → ¬ b = w.heap.size + 1 + 1 := fun h hT b e e2 => by
            obtain ⟨cur, h1⟩ := h.typ e
            exact ne_types h1 HZ10.out hT e2
          have hg := HG.out
          exact ⟨(hg.vars.but (setRow_but _ _ _) (hne hg.vars (by decide))).mono hb.size, (hg.sends.but (setRow_but _ _ _) (hne hg.sends (by decide))).mono hb.size, (hg.tells.but (setRow_but _ _ _) (hne hg.tells (by decide))).mono hb.size, hg.hs, hg.ht⟩
      · have HF : Hid (okR m p s ev = false) := by rw [Lib.hid_eq, HOK.out, decide_eq_false hto]; rfl
        have hto2 : (ev.to == m.self) = false := by simpa using hto
        clear hto
        refine wp_region_below (by kernel_rfl) (by kernel_rfl) ?_
        repeat (refine WQ.step (fun K hK => ?_); go_simp; first | (refine hK _ ?_; clear hK K) | (apply Exists.intro; refine ⟨fun _ => ?_, hK _ ?_⟩; (first | (go_at_call 65; exact Calls.inb (HM.out _)) | (go_at_call 37; exact Calls.inb (HO.out _))); clear hK K))
        refine WQ.nil ?_
        intro w8 hw8
        obtain ⟨hst8, hz8⟩ := HS8.out w8 hw8
        have hb8 := hst8.2.2.2.2.2.2.2.2.2
        clear hw8 HS8 q0 q1 q2 q3 q4 q5 q6 q7 q8 r2 r3
        have HST8 := Lib.hid hst8
        have HZ8 := Lib.hid hz8
        clear hst8 hz8
        go_upto_region 4 with fail
        refine wp_region_lit ?_
        refine wpList_build rfl 92 _ rfl (by kernel_rfl) ?_
        refine wpList_store_row rfl 92 (.tmp 6) (.tmp 35) rfl (w.heap.size + 1 + 1) stepZ rfl (by kernel_rfl) 92 stepZ HZ8.out (infoSt _ rfl) rfl (by simp [Value.oneCell']) ?_
        go_wp2
        have hb := H3.out.1.trans (hb8.out.mono H3.out.1.size)
        exact ⟨rfl, _, results_two rfl _ _ (w.heap.size + 1 + 1) 92 stepZ (0, 0) _ rfl (setRow_heap _ _ _ _ _ _ HZ8.out) Tryd.underlying92 rfl (infoSt _ rfl), hb.trans ((setRow_but _ _ _).below hb.size fun k e => by rw [e]; omega), by rw [HF.out]; rfl⟩
end Go.Proofs.YthhpoihfaggafaaDoor
