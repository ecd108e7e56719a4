/-
  The walk of the law ModelCopies.
-/
import Derived.Test.YtclbbpkphfllbaaDoorMoReg6
import Derived.Test.YtclbbpkphfllbaaDoorMoSpot2
import Derived.IntWalk
namespace Go.Proofs.YtclbbpkphfllbaaDoor
open Go Go.RowKit Go.Sort Go.Proofs CodM VmM

/-- the cells of the first model and state and of their copies -/
def Cel7 (g g9 g10 : Nat) (a fa va a' fa' sa : Option Addr) (n c fn fc vn vc c' fc' sc : Nat) (s1 d1 : Int) (w : World) : Prop :=
  w.cell? ⟨g, 0, none⟩ = some (.slice a n c) ∧ w.cell? ⟨g, 1, none⟩ = some (.slice fa fn fc) ∧ w.cell? ⟨g + 2, 0, none⟩ = some (.slice va vn vc) ∧ w.cell? ⟨g + 2, 1, none⟩ = some (.int .i64 s1) ∧ w.cell? ⟨g + 2, 2, none⟩ = some (.int .i64 d1) ∧
  w.cell? ⟨g9, 0, none⟩ = some (.slice a' n c') ∧ w.cell? ⟨g9, 1, none⟩ = some (.slice fa' fn fc') ∧ w.cell? ⟨g10, 0, none⟩ = some (.slice sa vn sc) ∧ w.cell? ⟨g10, 1, none⟩ = some (.int .i64 s1) ∧ w.cell? ⟨g10, 2, none⟩ = some (.int .i64 d1)
theorem Cel7.next {g g9 g10 : Nat} {a fa va a' fa' sa : Option Addr} {n c fn fc vn vc c' fc' sc : Nat} {s1 d1 : Int} {w w' : World} (h : Cel7 g g9 g10 a fa va a' fa' sa n c fn fc vn vc c' fc' sc s1 d1 w) (hb : Below w.heap.size w w') : Cel7 g g9 g10 a fa va a' fa' sa n c fn fc vn vc c' fc' sc s1 d1 w' := by
  obtain ⟨h0, h1, h2, h3, h4, h5, h6, h7, h8, h9⟩ := h
  exact ⟨keepc hb h0, keepc hb h1, keepc hb h2, keepc hb h3, keepc hb h4, keepc hb h5, keepc hb h6, keepc hb h7, keepc hb h8, keepc hb h9⟩
theorem ownV_len {B : Nat} {w : World} {va : Option Addr} {n c : Nat} {l : List Int} (h : CV.Own 2 B w (.slice va n c) l) : l.length = n := by
  obtain ⟨_, ⟨e, h0⟩ | ⟨g, cap, cur, e, _⟩⟩ := h
  · cases e; exact h0
  · cases e; rfl
set_option maxHeartbeats 4000000 in
set_option maxRecDepth 100000 in
theorem mc_in (w : World) (x : Mo) (lx : List Int) (a fa b fb va vb : Option Addr) (n c fn fc m d fm fd vn vc vm vd : Nat) (s1 d1 s2 d2 : Int) (t u : Bool)
    (HM1 : Hid (∀ W, Below w.heap.size w W → Calls Tryd.prog 10 #[mV a n c fa fn fc] W (TellsE false W)))
    (HM2 : Hid (∀ W, Below w.heap.size w W → Calls Tryd.prog 10 #[mV b m d fb fm fd] W (TellsE false W)))
    (HS : Hid (∀ W, Below w.heap.size w W → Calls Tryd.prog 11 #[mV a n c fa fn fc, mV b m d fb fm fd] W (TellsE t W)))
    (HR : Hid (∀ W, Below w.heap.size w W → Calls Tryd.prog 8 #[mV a n c fa fn fc, mV b m d fb fm fd] W (TellsE t W)))
    (HSS : Hid (∀ W, Below w.heap.size w W → Calls Tryd.prog 12 #[stA va vn vc s1 d1, stA vb vm vd s2 d2] W (TellsE u W)))
    (HRS : Hid (∀ W, Below w.heap.size w W → Calls Tryd.prog 13 #[stA va vn vc s1 d1, stA vb vm vd s2 d2] W (TellsE u W)))
    (HK : Hid (∀ W, Below w.heap.size w W → Calls Tryd.prog 5 #[] W (TellsBB true W)))
    (HCM : Hid (∀ W, Below w.heap.size w W → Calls Tryd.prog 14 #[mV a n c fa fn fc] W (fun e w' => ∃ u, e = .returned u ∧ F1 W n fn x.procs x.first u w' ∧ Below W.heap.size W w')))
    (HCS : Hid (∀ W, Below w.heap.size w W → Calls Tryd.prog 15 #[stA va vn vc s1 d1] W (fun e w' => ∃ u, e = .returned u ∧ F3 W vn lx s1 d1 u w' ∧ Below W.heap.size W w')))
    (HSC : Hid (∀ (W : World) (B : Nat) (a' fa' : Option Addr) (c' fc' : Nat), Below w.heap.size w W → CopPs B W a' n x.procs → CEv.Own 55 B W (.slice fa' fn fc') x.first → Calls Tryd.prog 8 #[mV a' n c' fa' fn fc', mV a n c fa fn fc] W (TellsE true W)))
    (HSD : Hid (∀ (W : World) (B : Nat) (a' fa' : Option Addr) (c' fc' : Nat), Below w.heap.size w W → CopPs B W a' n x.procs → CEv.Own 55 B W (.slice fa' fn fc') x.first → Calls Tryd.prog 11 #[mV a' n c' fa' fn fc', mV a n c fa fn fc] W (TellsE true W)))
    (HSX : Hid (∀ (W : World) (B : Nat) (sa : Option Addr) (sc : Nat), Below w.heap.size w W → CV.Own 2 B W (.slice sa vn sc) lx → Calls Tryd.prog 13 #[stA sa vn sc s1 d1, stA va vn vc s1 d1] W (TellsE true W)))
    (HSM : Hid (∀ y ∈ x.procs, y.prog.kinds.length ≤ 12 ∧ (∀ k ∈ y.prog.kinds, k.length ≤ 200) ∧ y.vars.length ≤ 1000))
    (HSI : Hid (∀ (W : World) (B : Nat) (oa : Option Addr) (oc : Nat), Below w.heap.size w W → CV.Own 2 B W (.slice oa vn oc) lx → Calls Tryd.prog 16 #[.slice oa vn oc, .slice va vn vc] W (TellsE true W)))
    (HVA : Hid (∀ W, Below w.heap.size w W → CV.At W va vn lx)) (hvnil : va = none → vc = 0)
    (hlx : lx.length = vn) (hvn : vn ≤ 20) (hvm : vm ≤ 20) (hn : n ≤ 20) (hfn : fn ≤ 80) :
    Calls Tryd.prog 4 #[mV a n c fa fn fc, mV b m d fb fm fd, stA va vn vc s1 d1, stA vb vm vd s2 d2] w (TellsBB true w) := by
  obtain ⟨hx0, hb0, hs0⟩ := box4_at w a fa b fb va vb n c fn fc m d fm fd vn vc vm vd s1 d1 s2 d2
  obtain ⟨wb, hwb⟩ : ∃ wb, wb = box4 w a fa b fb va vb n c fn fc m d fm fd vn vc vm vd s1 d1 s2 d2 := ⟨_, rfl⟩
  rw [← hwb] at hx0 hb0 hs0
  unfold box4 at hwb
  have HX0 := Lib.hid hx0.cel
  have HBX := Lib.hid hx0
  have HB0 := Lib.hid hb0
  have HWB := Lib.hid hwb
  have HZ := Lib.hid hs0
  clear hx0 hb0 hs0 hwb
  go_enter Tryd.func4, Tryd.ntmps4
  go_upto_region 1 with fail
  rw [← HWB.out]
  obtain ⟨p0, p1, p2, p3, p4, p5, p6, p7, p8, p9⟩ := HX0.out
  go_wp2_with (first
    | (go_at_call_of 10 (Value.agg #[.slice a n c, .slice fa fn fc]); refine (HM1.out _ HB0.out).mono ?_; rintro e w1 ⟨rfl, hb⟩; have HB1 := Lib.hid (HB0.out.trans (hb.mono HB0.out.size)); have HX1 := Lib.hid (HX0.out.next hb); have HE1 := Lib.hid hb; clear hb; refine Hid.out ?_))
  clear p0 p1 p2 p3 p4 p5 p6 p7 p8 p9
  obtain ⟨p0, p1, p2, p3, p4, p5, p6, p7, p8, p9⟩ := HX1.out
  refine Lib.hid ?_
  go_wp2_with (first
    | (go_at_call 10; refine (HM2.out _ HB1.out).mono ?_; rintro e w2 ⟨rfl, hb⟩; have HB2 := Lib.hid (HB1.out.trans (hb.mono HB1.out.size)); have HX2 := Lib.hid (HX1.out.next hb); have HR2 := Lib.hid (HBX.out.next (HE1.out.trans (hb.mono HE1.out.size)) HZ.out); clear hb; refine Hid.out ?_))
  clear p0 p1 p2 p3 p4 p5 p6 p7 p8 p9
  obtain ⟨p0, p1, p2, p3, p4, p5, p6, p7, p8, p9⟩ := HX2.out
  refine Lib.hid ?_
  go_upto_region 3 with fail
  have U1 : Hid (∀ q : InB w2, Calls Tryd.prog 11 #[mV a n c fa fn fc, mV b m d fb fm fd] q.w (TellsE t q.w)) := Lib.hid fun q => HS.out _ (HB2.out.trans (q.h.mono HB2.out.size))
  have U2 : Hid (∀ q : InB w2, Calls Tryd.prog 8 #[mV a n c fa fn fc, mV b m d fb fm fd] q.w (TellsE t q.w)) := Lib.hid fun q => HR.out _ (HB2.out.trans (q.h.mono HB2.out.size))
  have U3 : Hid (∀ q : InB w2, Calls Tryd.prog 12 #[stA va vn vc s1 d1, stA vb vm vd s2 d2] q.w (TellsE u q.w)) := Lib.hid fun q => HSS.out _ (HB2.out.trans (q.h.mono HB2.out.size))
  have U4 : Hid (∀ q : InB w2, Calls Tryd.prog 13 #[stA va vn vc s1 d1, stA vb vm vd s2 d2] q.w (TellsE u q.w)) := Lib.hid fun q => HRS.out _ (HB2.out.trans (q.h.mono HB2.out.size))
  have c0 := fun q : InB w2 => cell_keep q p0
  have c1 := fun q : InB w2 => cell_keep q p1
  have c2 := fun q : InB w2 => cell_keep q p2
  have c3 := fun q : InB w2 => cell_keep q p3
  have c4 := fun q : InB w2 => cell_keep q p4
  have c5 := fun q : InB w2 => cell_keep q p5
  have c6 := fun q : InB w2 => cell_keep q p6
  have c7 := fun q : InB w2 => cell_keep q p7
  have c8 := fun q : InB w2 => cell_keep q p8
  have c9 := fun q : InB w2 => cell_keep q p9
  clear p0 p1 p2 p3 p4 p5 p6 p7 p8 p9
  refine wp_region_below (by kernel_rfl) (by kernel_rfl) ?_
  repeat (refine WQ.step (fun K hK => ?_); go_simp; first
    | (refine hK _ ?_; clear hK K)
    | (apply Exists.intro; refine ⟨fun _ => ?_, hK _ ?_⟩; (first
        | (go_at_call 11; exact Calls.inb (U1.out _))
        | (go_at_call 8; exact Calls.inb (U2.out _))
        | (go_at_call 12; exact Calls.inb (U3.out _))
        | (go_at_call 13; exact Calls.inb (U4.out _))); clear hK K))
  refine WQ.nil ?_
  intro _ hw'
  obtain ⟨pq, hw''⟩ := hw'
  subst hw''
  clear c0 c1 c2 c3 c4 c5 c6 c7 c8 c9
  have HXB := Lib.hid (HX2.out.next pq.h)
  obtain ⟨wq, hwq⟩ : ∃ wq, wq = pq.w := ⟨_, rfl⟩
  have HBQ := Lib.hid (show Below w.heap.size w wq by rw [hwq]; exact HB2.out.trans (pq.h.mono HB2.out.size))
  have HR0 := Lib.hid (show wq.heap[w.heap.size]? = some (mB a n c fa fn fc) by rw [hwq, pq.h.block _ (by have := HR2.out.2; omega)]; exact HR2.out.1.b0)
  have HR1 := Lib.hid (show wq.heap[w.heap.size + 2]? = some (sB va vn vc s1 d1) by rw [hwq, pq.h.block _ (by have := HR2.out.2; omega)]; exact HR2.out.1.b2)
  rw [← hwq] at HXB
  rw [← hwq]
  clear hwq U1 U2 U3 U4
  go_upto_region 5 with fail
  refine region5 (G := w.heap.size) (H := w.heap.size + 2) (ps := x.procs) (es := x.first) (lx := lx) (n := n) (fn := fn) (vn := vn) (by simp) rfl rfl HR0.out HR1.out (fun W hb => HCM.out W (HBQ.out.trans (hb.mono HBQ.out.size))) (fun W hb => HCS.out W (HBQ.out.trans (hb.mono HBQ.out.size))) ?_
  intro v54 v56 g9 g10 a' fa' sa c' fc' sc w5 hg9 hg10 hne r9 r10 k1 k2 k3 hb5
  have HB5 := Lib.hid (HBQ.out.trans (hb5.mono HBQ.out.size))
  have HX5 := Lib.hid (HXB.out.next hb5)
  have HG9 := Lib.hid (And.intro hg9 hg10)
  have HNE := Lib.hid hne
  have HR9 := Lib.hid (And.intro r9 r10)
  have HKK := Lib.hid (And.intro k1 (And.intro k2 k3))
  obtain ⟨p0, p1, p2, p3, p4, p5, p6, p7, p8, p9⟩ := HX5.out
  clear p2 p3 p7 p8 p9
  have y0 : w5.cell? ⟨g9, 0, none⟩ = some (.slice a' n c') := (cell_of_row _ _ _ _ _ _ r9).trans rfl
  have y1 : w5.cell? ⟨g9, 1, none⟩ = some (.slice fa' fn fc') := (cell_of_row _ _ _ _ _ _ r9).trans rfl
  have z0 : w5.cell? ⟨g10, 0, none⟩ = some (.slice sa vn sc) := (cell_of_row _ _ _ _ _ _ r10).trans rfl
  have z1 : w5.cell? ⟨g10, 1, none⟩ = some (.int .i64 s1) := (cell_of_row _ _ _ _ _ _ r10).trans rfl
  have z2 : w5.cell? ⟨g10, 2, none⟩ = some (.int .i64 d1) := (cell_of_row _ _ _ _ _ _ r10).trans rfl
  have HC5 := Lib.hid (show Cel7 w.heap.size g9 g10 a fa va a' fa' sa n c fn fc vn vc c' fc' sc s1 d1 w5 from ⟨p0, p1, p4, p5, p6, y0, y1, z0, z1, z2⟩)
  have HS5 : Hid (∀ W, Below w5.heap.size w5 W → Below w.heap.size w W ∧ CopPs wq.heap.size W a' n x.procs ∧ CEv.Own 55 wq.heap.size W (.slice fa' fn fc') x.first ∧ CV.Own 2 wq.heap.size W (.slice sa vn sc) lx ∧ Cel7 w.heap.size g9 g10 a fa va a' fa' sa n c fn fc vn vc c' fc' sc s1 d1 W) :=
    Lib.hid fun W hb => ⟨HB5.out.trans (hb.mono HB5.out.size), (Nx.below hb).cops HKK.out.1, HKK.out.2.1.below hb, HKK.out.2.2.below hb, HC5.out.next hb⟩
  clear hg9 hg10 hne r9 r10 k1 k2 k3 hb5
  simp only [Act.put]
  go_wp2_with (first
    | (go_at_call 8; refine (HSC.out _ _ _ _ _ _ HB5.out HKK.out.1 HKK.out.2.1).mono ?_; rintro e w6 ⟨rfl, hb⟩; have HB6 := Lib.hid hb; clear hb; refine Hid.out ?_))
  obtain ⟨HI6, HP6, HE6, HV6, HC6⟩ := HS5.out _ HB6.out
  have HI6 := Lib.hid HI6
  have HP6 := Lib.hid HP6
  have HE6 := Lib.hid HE6
  have HV6 := Lib.hid HV6
  clear p0 p1 p4 p5 p6 y0 y1 z0 z1 z2
  obtain ⟨p0, p1, p4, p5, p6, y0, y1, z0, z1, z2⟩ := HC6
  refine Lib.hid ?_
  go_wp2_with (first
    | (go_at_call 11; refine (HSD.out _ _ _ _ _ _ HI6.out HP6.out HE6.out).mono ?_; rintro e w7 ⟨rfl, hb⟩; have HB7 := Lib.hid (HB6.out.trans (hb.mono HB6.out.size)); clear hb; refine Hid.out ?_))
  obtain ⟨HI7, HP7, HE7, HV7, HC7⟩ := HS5.out _ HB7.out
  have HI7 := Lib.hid HI7
  have HV7 := Lib.hid HV7
  clear HP7 HE7 p0 p1 p4 p5 p6 y0 y1 z0 z1 z2
  obtain ⟨p0, p1, p4, p5, p6, y0, y1, z0, z1, z2⟩ := HC7
  refine Lib.hid ?_
  go_wp2_with (first
    | (go_at_call 13; refine (HSX.out _ _ _ _ HI7.out HV7.out).mono ?_; rintro e w8 ⟨rfl, hb⟩; have HB8 := Lib.hid (HB7.out.trans (hb.mono HB7.out.size)); clear hb; refine Hid.out ?_))
  obtain ⟨HI8, HP8, HE8, HV8, HC8⟩ := HS5.out _ HB8.out
  have HI8 := Lib.hid HI8
  have HP8 := Lib.hid HP8
  have HE8 := Lib.hid HE8
  have HV8 := Lib.hid HV8
  clear p0 p1 p4 p5 p6 y0 y1 z0 z1 z2
  obtain ⟨p0, p1, p4, p5, p6, y0, y1, z0, z1, z2⟩ := HC8
  refine Lib.hid ?_
  go_wp2_with (first
    | (go_at_call 14; refine (HCM.out _ HI8.out).mono ?_; rintro e w9 ⟨uc, rfl, hf, hb⟩; have HB9 := Lib.hid (HB8.out.trans (hb.mono HB8.out.size)); have HF9 := Lib.hid hf; have HQ9 := Lib.hid hb; clear hb hf; refine Hid.out ?_))
  obtain ⟨a2, c2, fa2, fc2, rfl, hk1, hk2⟩ := HF9.out
  obtain ⟨HI9, HP9, HE9, HV9, HC9⟩ := HS5.out _ HB9.out
  have HSP := Lib.hid ((procs_spot HKK.out.1 (Nat.le_refl _) HSM.out).below HB9.out)
  have HSE := Lib.hid ((events_spot HKK.out.2.1 (Nat.le_refl _) (by rw [← (ownE_nil HKK.out.2.1).2]; omega)).below HB9.out)
  have HSV := Lib.hid ((ownV_spot HKK.out.2.2 (Nat.le_refl _) (by omega)).2.below HB9.out)
  have HI9 := Lib.hid HI9
  have HC9' := Lib.hid HC9
  have HK9 := Lib.hid (And.intro hk1 hk2)
  clear HP9 HE9 HV9 hk1 hk2 p0 p1 p4 p5 p6 y0 y1 z0 z1 z2
  refine Lib.hid ?_
  go_upto_region 9 with fail
  obtain ⟨W, hW⟩ : ∃ W, W = w9.alloc (mB a2 n c2 fa2 fn fc2) := ⟨_, rfl⟩
  have hbW : Below w9.heap.size w9 W := by rw [hW]; exact (Below.refl _ _).alloc (Nat.le_refl _) _
  have hx11 : W.heap[w9.heap.size]? = some (mB a2 n c2 fa2 fn fc2) := by rw [hW]; exact heap_alloc_new _ _
  obtain ⟨g11, hg11⟩ : ∃ g, g = w9.heap.size := ⟨_, rfl⟩
  rw [← hg11] at hx11
  rw [← hW, ← hg11]
  have HBW := Lib.hid hbW
  have H11 := Lib.hid (And.intro hx11 hg11)
  have HSPW := Lib.hid (HSP.out.below hbW)
  have HSEW := Lib.hid (HSE.out.below hbW)
  have HSVW := Lib.hid (HSV.out.below hbW)
  have HCW := Lib.hid (HC9'.out.next hbW)
  clear hW hbW hx11 hg11
  go_wp2
  go_loopw [12] (fun i wr => MutR wq.heap.size w5.heap.size W n i wr) (fun i _ => n - (intOf i).toNat)
  case atStart => exact ⟨0, Nat.zero_le _, rfl, Mut.refl _ _ _⟩
  case round =>
    obtain ⟨k, hk, rfl, hm⟩ := hrel
    have HMU := Lib.hid hm
    have y0 := hm.sl _ _ _ _ HCW.out.2.2.2.2.2.1
    by_cases hlt : k < n
    · obtain ⟨G, rfl, hsp⟩ := HSPW.out.get hlt
      obtain ⟨sd, ⟨va1, vn1, vc1, hv1, hv2, hv3⟩, ⟨ka, kn, kc, hk1, hk2, hk3⟩⟩ := hsp
      obtain ⟨q, s3, f3⟩ := sd.mut hm
      have HSD1 := Lib.hid (And.intro sd.1 sd.2.1)
      have HV1 := Lib.hid (And.intro hv1 hv3)
      have HK1 := Lib.hid (And.intro hk1 hk3)
      clear hm sd hv1 hv3 hk1 hk3
      go_upto_region 13 with fail
      have hm1 := Lib.hid (HMU.out.set HSD1.out.1 HSD1.out.2 s3 (wrap64 (q + 1)))
      obtain ⟨x1, hx1⟩ : ∃ z, z = wr.setCell ⟨G, k * 4 + 3, none⟩ (.int .i64 (wrap64 (q + 1))) := ⟨_, rfl⟩
      rw [← hx1] at hm1
      rw [← hx1]
      clear y0 s3 f3 hx1 HMU
      go_wp2
      go_loopw [13] (fun i wr => MutR wq.heap.size w5.heap.size W vn1 i wr) (fun i _ => vn1 - (intOf i).toNat)
      case atStart => exact ⟨0, Nat.zero_le _, rfl, hm1.out⟩
      case round =>
        obtain ⟨j, hj, rfl, hm⟩ := hrel
        have HMU := Lib.hid hm
        have y0 := hm.sl _ _ _ _ HCW.out.2.2.2.2.2.1
        have p2 := hm.sl _ _ _ _ HV1.out.1
        by_cases hlt2 : j < vn1
        · obtain ⟨V, q2, rfl, hB1, hB2, s4, f4⟩ := HV1.out.2.at hm hlt2
          clear hm
          go_wp2
          go_roundw
          case rel => exact ⟨j + 1, by omega, by go_num, HMU.out.set hB1 hB2 s4 _⟩
          case measure => simp [intOf]; omega
        · clear y0 p2 hm
          have y0 := HMU.out.sl _ _ _ _ HCW.out.2.2.2.2.2.1
          have p2 := HMU.out.sl _ _ _ _ HV1.out.1
          go_upto_region 17 with fail
          clear y0 p2
          go_wp2
          go_loopw [14] (fun i wr => MutR wq.heap.size w5.heap.size W kn i wr) (fun i _ => kn - (intOf i).toNat)
          case atStart => exact ⟨0, Nat.zero_le _, rfl, HMU.out⟩
          case round =>
            clear HMU
            obtain ⟨r, hr, rfl, hm⟩ := hrel
            have HMU := Lib.hid hm
            have y0 := hm.sl _ _ _ _ HCW.out.2.2.2.2.2.1
            have p1 := hm.sl _ _ _ _ HK1.out.1
            by_cases hlt3 : r < kn
            · obtain ⟨K, rfl, ia, im, ic, hi1, hi2, hi3⟩ : ∃ K, ka = some ⟨K, 0, none⟩ ∧ ∃ ia im ic, W.cell? ⟨K, r, none⟩ = some (.slice ia im ic) ∧ im ≤ 1000 ∧ SpotI W wq.heap.size w5.heap.size ia im := by
                obtain h | ⟨V, e, h⟩ := HK1.out.2
                · omega
                · exact ⟨V, e, h r hlt3⟩
              have HI1 := Lib.hid (And.intro hi1 hi3)
              clear hm hi1 hi3
              go_upto_region 20 with fail
              clear y0 p1
              go_wp2
              go_loopw [15] (fun i wr => MutR wq.heap.size w5.heap.size W im i wr) (fun i _ => im - (intOf i).toNat)
              case atStart => exact ⟨0, Nat.zero_le _, rfl, HMU.out⟩
              case round =>
                clear HMU
                obtain ⟨o, ho, rfl, hm⟩ := hrel
                have HMU := Lib.hid hm
                have y0 := hm.sl _ _ _ _ HCW.out.2.2.2.2.2.1
                have p1 := hm.sl _ _ _ _ HK1.out.1
                have i1 := hm.sl _ _ _ _ HI1.out.1
                by_cases hlt4 : o < im
                · obtain ⟨V, q2, rfl, hB1, hB2, s4, f4⟩ := HI1.out.2.at hm hlt4
                  clear hm
                  go_wp2
                  go_roundw
                  case rel => exact ⟨o + 1, by omega, by go_num, HMU.out.set hB1 hB2 s4 _⟩
                  case measure => simp [intOf]; omega
                · clear hm
                  go_wp2
                  go_roundw
                  case rel => exact ⟨r + 1, by omega, by go_num, HMU.out⟩
                  case measure => simp [intOf]; omega
            · clear hm
              go_wp2
              go_roundw
              case rel => exact ⟨k + 1, by omega, by go_num, HMU.out⟩
              case measure => simp [intOf]; omega
    · clear hm
      go_upto_region 24 with fail
      clear y0
      go_wp2
      go_loopw [16] (fun i wr => MutR wq.heap.size w5.heap.size W fn i wr) (fun i _ => fn - (intOf i).toNat)
      case atStart => exact ⟨0, Nat.zero_le _, rfl, HMU.out⟩
      case round =>
        clear HMU
        obtain ⟨e, he, rfl, hm⟩ := hrel
        have HMU := Lib.hid hm
        have y1 := hm.sl _ _ _ _ HCW.out.2.2.2.2.2.2.1
        by_cases hlt5 : e < fn
        · obtain ⟨V, q2, rfl, hB1, hB2, s4, f4⟩ := HSEW.out.at hm hlt5
          clear hm
          go_wp2
          go_roundw
          case rel => exact ⟨e + 1, by omega, by go_num, HMU.out.set hB1 hB2 s4 _⟩
          case measure => simp [intOf]; omega
        · clear hm
          go_upto_region 28 with fail
          clear y1
          have p4 := HMU.out.sl _ _ _ _ HCW.out.2.2.1
          have HLW := Lib.hid (show w.heap.size < wq.heap.size from heap_lt HR0.out)
          have HIW := Lib.hid (show Below w.heap.size w wr from (HI9.out.trans (HBW.out.mono HI9.out.size)).trans (HMU.out.but.below (HI9.out.trans (HBW.out.mono HI9.out.size)).size fun j h => by have := HLW.out; omega))
          have HVW := Lib.hid (HVA.out wr HIW.out)
          have HWE := Lib.hid (show w5.heap.size ≤ wr.heap.size from Nat.le_trans (Nat.le_trans HB9.out.size HBW.out.size) HMU.out.but.size)
          have HNL := Lib.hid hvnil
          have HL := Lib.hid hlx
          have HN := Lib.hid hvn
          clear hvnil hlx
          go_cut [17] from 174 to 176 (fun s17 wz => ∃ oa oc, s17 = .slice oa vn oc ∧ Hid (CV.Own 2 wr.heap.size wz (.slice oa vn oc) lx ∧ Below wr.heap.size wr wz))
          case first =>
            rcases va with _ | ad
            · have h0 : vn = 0 := by
                obtain ⟨_, _, h3 | ⟨_, _, e, _⟩⟩ := HVW.out
                · exact h3
                · cases e
              subst h0
              obtain rfl := HNL.out rfl
              go_wp2
              go_meet
              case rel => exact ⟨none, 0, rfl, Lib.hid ⟨by rw [List.length_eq_zero_iff.1 HL.out]; exact Cod.Own.nil _ _, Below.refl _ _⟩⟩
            · go_wp2_with (at_builtin; refine rowV.list rfl _ _ rfl wr.heap.size _ [] rfl (Cod.Own.nil _ _) ad vn vc lx rfl HL.out.symm HVW.out.news (by have := HN.out; simp; omega) (by have := HN.out; simp; omega) (Nat.le_refl _) ?_; intro v' w' ho' hg' hn'; obtain ⟨oa, on, oc, rfl⟩ := ho'.shape; have hon : vn = on := HL.out.symm.trans (ownV_len ho'); subst hon; have H2 := Lib.hid (And.intro ho' hg'); clear ho' hg' hn')
              go_meet
              case rel => exact ⟨oa, oc, rfl, Lib.hid ⟨H2.out.1, (But.grown H2.out.2).below (Nat.le_refl _) fun k e => (by cases e)⟩⟩
          case rest =>
            obtain ⟨oa, oc, rfl, HOWN⟩ := hcut
            have HM6 := Lib.hid (HMU.out.below HOWN.out.2)
            clear p4 HMU
            go_wp2
            go_loopw [18] (fun i ws => ∃ k : Nat, k ≤ vn ∧ i = .int .i64 k ∧ Mut wq.heap.size w5.heap.size W ws ∧ Mut wq.heap.size w5.heap.size wc ws) (fun i _ => vn - (intOf i).toNat)
            case atStart => exact ⟨0, Nat.zero_le _, rfl, HM6.out, Mut.refl _ _ _⟩
            case round =>
              obtain ⟨v, hv, rfl, hm, hm'⟩ := hrel
              have HMA := Lib.hid hm
              have HMB := Lib.hid hm'
              have z0 := hm.sl _ _ _ _ HCW.out.2.2.2.2.2.2.2.1
              by_cases hlt6 : v < vn
              · obtain ⟨V, q2, rfl, hB1, hB2, s4, f4⟩ := HSVW.out.at hm hlt6
                clear hm hm'
                go_wp2
                go_roundw
                case rel => exact ⟨v + 1, by omega, by go_num, HMA.out.set hB1 hB2 s4 _, HMB.out.set hB1 hB2 s4 _⟩
                case measure => simp [intOf]; omega
              · clear hm hm'
                go_upto_region 33 with fail
                clear z0
                have n0 := HMA.out.sl _ _ _ _ ((cell_of_row _ _ _ _ _ _ H11.out.1).trans rfl : W.cell? ⟨g11, 0, none⟩ = some (.slice a2 n c2))
                have n1 := HMA.out.sl _ _ _ _ ((cell_of_row _ _ _ _ _ _ H11.out.1).trans rfl : W.cell? ⟨g11, 1, none⟩ = some (.slice fa2 fn fc2))
                have p0 := HMA.out.sl _ _ _ _ HCW.out.1
                have p1 := HMA.out.sl _ _ _ _ HCW.out.2.1
                have p4 := HMA.out.sl _ _ _ _ HCW.out.2.2.1
                have hwW : Below w.heap.size w W := HI9.out.trans (HBW.out.mono HI9.out.size)
                have HIF := Lib.hid (hwW.trans (HMA.out.but.below hwW.size fun j h => by have := HLW.out; omega))
                have hE8 : w5.heap.size ≤ w8.heap.size := HB8.out.size
                have HPF := Lib.hid (((Nx.below HBW.out).cops HK9.out.1).but HMA.out.but fun b h => by omega)
                have HEF := Lib.hid ((HK9.out.2.below HBW.out).but HMA.out.but fun b h h2 => by have := ((HK9.out.2.below HBW.out).lt b h).1; omega)
                have HOF := Lib.hid (HOWN.out.1.but HMB.out.but fun b h h2 => by have := (HOWN.out.1.lt b h).1; have := HWE.out; omega)
                clear hwW hE8
                go_wp2_with (first
                  | (go_at_call 8; refine (HSC.out _ _ _ _ _ _ HIF.out HPF.out HEF.out).mono ?_; rintro e w11 ⟨rfl, hb⟩; have HB11 := Lib.hid hb; clear hb; refine Hid.out ?_))
                have p4 := keepc HB11.out p4
                have HIG := Lib.hid (HIF.out.trans (HB11.out.mono HIF.out.size))
                have HOG := Lib.hid (HOF.out.below HB11.out)
                clear n0 n1 p0 p1
                refine Lib.hid ?_
                go_wp2_with (first
                  | (go_at_call 16; refine (HSI.out _ _ _ _ HIG.out HOG.out).mono ?_; rintro e w12 ⟨rfl, hb⟩; have HB12 := Lib.hid (HIG.out.trans (hb.mono HIG.out.size)); clear hb)
                  | (go_at_call 5; refine (HK.out _ HB12.out).mono ?_; rintro e w13 ⟨rfl, hb⟩; have HB13 := Lib.hid (HB12.out.trans (hb.mono HB12.out.size)); clear hb))
                go_ret
                exact ⟨rfl, HB13.out⟩
end Go.Proofs.YtclbbpkphfllbaaDoor
