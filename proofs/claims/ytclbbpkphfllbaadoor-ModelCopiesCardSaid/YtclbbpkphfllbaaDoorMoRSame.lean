/-
  The walk of the document's Same of models.
-/
import Derived.Test.YtclbbpkphfllbaaDoorMoCop2
import Derived.Deep.RegionHeld3
namespace Go.Proofs.YtclbbpkphfllbaaDoor
open Go Go.RowKit Go.Sort Go.Proofs CodM VmM
theorem rs_next {wr W W' : World} {a0 a1 a2 a3 a4 a5 a6 a7 a8 a9 : Addr} {v0 v1 v2 v3 v4 v5 v6 v7 v8 v9 : Value} (h : W.cell? a0 = some v0 ∧ W.cell? a1 = some v1 ∧ W.cell? a2 = some v2 ∧ W.cell? a3 = some v3 ∧ W.cell? a4 = some v4 ∧ W.cell? a5 = some v5 ∧ W.cell? a6 = some v6 ∧ W.cell? a7 = some v7 ∧ W.cell? a8 = some v8 ∧ W.cell? a9 = some v9 ∧ Hid (Below wr.heap.size wr W)) (hb : Below W.heap.size W W') :
    W'.cell? a0 = some v0 ∧ W'.cell? a1 = some v1 ∧ W'.cell? a2 = some v2 ∧ W'.cell? a3 = some v3 ∧ W'.cell? a4 = some v4 ∧ W'.cell? a5 = some v5 ∧ W'.cell? a6 = some v6 ∧ W'.cell? a7 = some v7 ∧ W'.cell? a8 = some v8 ∧ W'.cell? a9 = some v9 ∧ Hid (Below wr.heap.size wr W') := by
  obtain ⟨h0, h1, h2, h3, h4, h5, h6, h7, h8, h9, h10⟩ := h
  exact ⟨keepc hb h0, keepc hb h1, keepc hb h2, keepc hb h3, keepc hb h4, keepc hb h5, keepc hb h6, keepc hb h7, keepc hb h8, keepc hb h9, Lib.hid (h10.out.trans (hb.mono h10.out.size))⟩
theorem below_set4 {B : Nat} {w w' : World} (h : Below B w w') {g : Nat} (hg : B ≤ g) (a b c d : Value) : Below B w ((((w'.setCell ⟨g, 0, none⟩ a).setCell ⟨g, 1, none⟩ b).setCell ⟨g, 2, none⟩ c).setCell ⟨g, 3, none⟩ d) :=
  (((h.setCell hg _).setCell hg _).setCell hg _).setCell hg _
/-- the two processes laid in their boxes -/
def Two (wr : World) (u v : Array Value) (s6 s7 : Value) (wz : World) : Prop :=
  ∃ B6 B7, s6 = .pointer (some ⟨B6, 0, none⟩) ∧ s7 = .pointer (some ⟨B7, 0, none⟩) ∧ wz.heap[B6]? = some (.cells u 47 (0, 0)) ∧ wz.heap[B7]? = some (.cells v 47 (0, 0)) ∧ Below wr.heap.size wr wz
theorem bel3 {w wr wx : World} (h1 : Below w.heap.size w wr) (h2 : Below wr.heap.size wr wx) : Below w.heap.size w wx := h1.trans (h2.mono h1.size)
theorem two_a (wr : World) (u v : Array Value) : Two wr u v (.pointer (some ⟨wr.heap.size, 0, none⟩)) (.pointer (some ⟨wr.heap.size + 1, 0, none⟩)) ((wr.alloc (.cells u 47)).alloc (.cells v 47)).drew := by
  refine ⟨_, _, rfl, rfl, (heap_alloc_old _ _ (by simp)).trans (heap_alloc_new _ _), ?_, (((Below.refl _ _).alloc (Nat.le_refl _) _).alloc (by simp) _).drew⟩
  have z : (wr.alloc (.cells u 47)).heap.size = wr.heap.size + 1 := by simp
  show ((wr.alloc (.cells u 47)).alloc (.cells v 47)).heap[wr.heap.size + 1]? = _
  rw [← z, heap_alloc_new]
theorem two_b (wr : World) (u v : Array Value) : Two wr u v (.pointer (some ⟨wr.heap.size + 1, 0, none⟩)) (.pointer (some ⟨wr.heap.size, 0, none⟩)) ((wr.alloc (.cells v 47)).alloc (.cells u 47)).drew := by
  refine ⟨_, _, rfl, rfl, ?_, (heap_alloc_old _ _ (by simp)).trans (heap_alloc_new _ _), (((Below.refl _ _).alloc (Nat.le_refl _) _).alloc (by simp) _).drew⟩
  have z : (wr.alloc (.cells v 47)).heap.size = wr.heap.size + 1 := by simp
  show ((wr.alloc (.cells v 47)).alloc (.cells u 47)).heap[wr.heap.size + 1]? = _
  rw [← z, heap_alloc_new]
set_option maxHeartbeats 4000000 in
set_option maxRecDepth 100000 in
theorem rsameM_in (w : World) (a b fa fb : Option Addr) (n c m d fn fc fm fd : Nat) (l r : List Pm) (hl : PmsAt w a n l) (hr : PmsAt w b m r) (hn : n ≤ 1000) (hnm : n = m) (hxl : ∀ x ∈ l, x.vars.length ≤ 1000) (hxr : ∀ x ∈ r, x.vars.length ≤ 1000)
    (HE : Hid (∀ W, Below w.heap.size w W → Calls Tryd.prog 23 #[.slice fa fn fc, .slice fb fm fd] W (TellsE true W))) :
    Calls Tryd.prog 8 #[.agg #[.slice a n c, .slice fa fn fc], .agg #[.slice b m d, .slice fb fm fd]] w (TellsE (decide (l = r)) w) := by
  subst hnm
  obtain ⟨wb, hwb⟩ : ∃ wb, wb = (w.alloc (.cells #[.slice a n c, .slice fa fn fc] 27)).alloc (.cells #[.slice b n d, .slice fb fm fd] 27) := ⟨_, rfl⟩
  have hb0 : Below w.heap.size w wb := by rw [hwb]; exact ((Below.refl _ _).alloc (Nat.le_refl _) _).alloc (by simp) _
  have x0 : wb.heap[w.heap.size]? = some (.cells #[.slice a n c, .slice fa fn fc] 27 (0, 0)) := by rw [hwb, heap_alloc_old _ _ (by simp), heap_alloc_new]
  have x1 : wb.heap[w.heap.size + 1]? = some (.cells #[.slice b n d, .slice fb fm fd] 27 (0, 0)) := by
    rw [hwb]
    have z : (w.alloc (.cells #[.slice a n c, .slice fa fn fc] 27)).heap.size = w.heap.size + 1 := by simp
    rw [← z, heap_alloc_new]
  have q0 : wb.cell? ⟨w.heap.size, 0, none⟩ = some (.slice a n c) := (cell_of_row _ _ _ _ _ _ x0).trans rfl
  have q1 : wb.cell? ⟨w.heap.size, 1, none⟩ = some (.slice fa fn fc) := (cell_of_row _ _ _ _ _ _ x0).trans rfl
  have r0 : wb.cell? ⟨w.heap.size + 1, 0, none⟩ = some (.slice b n d) := (cell_of_row _ _ _ _ _ _ x1).trans rfl
  have r1 : wb.cell? ⟨w.heap.size + 1, 1, none⟩ = some (.slice fb fm fd) := (cell_of_row _ _ _ _ _ _ x1).trans rfl
  have HB0 := Lib.hid hb0
  have HW := Lib.hid hwb
  have HL := Lib.hid hl
  have HR := Lib.hid hr
  have HXX := Lib.hid (And.intro hxl hxr)
  have HNN := Lib.hid (And.intro hl.1 hr.1)
  have HQ := Lib.hid (And.intro q0 r0)
  clear hb0 hwb x0 x1 hl hr hxl hxr
  go_enter Tryd.func8, Tryd.ntmps8
  go_upto_region 1 with fail
  rw [← HW.out]
  go_wp2_with (first
    | (go_at_call 23; refine (HE.out _ HB0.out).mono ?_; rintro e w7 ⟨rfl, hb7⟩; have q0 := keepc hb7 q0; have r0 := keepc hb7 r0; have HB7 := Lib.hid (hb7.mono (Nat.le_refl _)); clear hb7))
  have HB8 := Lib.hid (HB0.out.trans (HB7.out.mono HB0.out.size))
  have HQ := Lib.hid (And.intro q0 r0)
  clear HB7 q1 r1
  go_loopw [5] (fun i wr => AlikeRel w7 n l r i wr) (fun i _ => n - (intOf i).toNat)
  case atStart => exact ⟨0, Nat.zero_le _, rfl, rfl, Below.refl _ _⟩
  case round =>
    obtain ⟨k, hk, rfl, htk, hbel⟩ := hrel
    have HTK := Lib.hid htk
    have HBEL := Lib.hid hbel
    have HPB := Lib.hid (HB8.out.trans (hbel.mono HB8.out.size))
    have q0 := keepc hbel HQ.out.1
    have r0 := keepc hbel HQ.out.2
    clear htk hbel
    by_cases hlt : k < n
    · obtain ⟨B1, o1, rfl, hB1, x, hx, a1, n1, c1, va1, vc1, p0, p1, p2, p3, hp⟩ := (HL.out.below HPB.out).cell hlt
      obtain ⟨B2, o2, rfl, hB2, y, hy, a2, n2, c2, va2, vc2, s0, s1, s2, s3, hq⟩ := (HR.out.below HPB.out).cell hlt
      have HX := Lib.hid hx
      have HY := Lib.hid hy
      have HP := Lib.hid hp
      have HQQ := Lib.hid hq
      clear hx hy hp hq
      have HST := Lib.hid (show _ ∧ _ ∧ _ ∧ _ ∧ _ ∧ _ ∧ _ ∧ _ ∧ _ ∧ _ ∧ Hid (Below wr.heap.size wr wr) from ⟨q0, r0, p0, p1, p2, p3, s0, s1, s2, s3, Lib.hid (Below.refl _ _)⟩)
      go_upto_region 6 with fail
      go_cut [6, 7] from 30 to 39 (fun s6 s7 wz => Two wr #[.int .i64 x.prog.vars, .slice a1 n1 c1, .slice va1 x.vars.length vc1, .int .i64 x.seed] #[.int .i64 y.prog.vars, .slice a2 n2 c2, .slice va2 y.vars.length vc2, .int .i64 y.seed] s6 s7 wz)
      case first =>
        go_region_held3 (fun V => V.cell? ⟨w.heap.size, 0, none⟩ = some (.slice (some ⟨B1, o1, none⟩) n c) ∧ V.cell? ⟨w.heap.size + 1, 0, none⟩ = some (.slice (some ⟨B2, o2, none⟩) n d) ∧ V.cell? ⟨B1, o1 + k * 4, none⟩ = some (.int .i64 x.prog.vars) ∧ V.cell? ⟨B1, o1 + k * 4 + 1, none⟩ = some (.slice a1 n1 c1) ∧ V.cell? ⟨B1, o1 + k * 4 + 2, none⟩ = some (.slice va1 x.vars.length vc1) ∧ V.cell? ⟨B1, o1 + k * 4 + 3, none⟩ = some (.int .i64 x.seed) ∧ V.cell? ⟨B2, o2 + k * 4, none⟩ = some (.int .i64 y.prog.vars) ∧ V.cell? ⟨B2, o2 + k * 4 + 1, none⟩ = some (.slice a2 n2 c2) ∧ V.cell? ⟨B2, o2 + k * 4 + 2, none⟩ = some (.slice va2 y.vars.length vc2) ∧ V.cell? ⟨B2, o2 + k * 4 + 3, none⟩ = some (.int .i64 y.seed) ∧ Hid (Below wr.heap.size wr V)) (first | with_reducible exact rs_next HST.out ((Below.refl _ _).drew) | with_reducible exact rs_next HST.out (((Below.refl _ _).alloc (by simp) _).drew) | with_reducible exact rs_next HST.out (((Below.refl _ _).drew).alloc (by simp) _) | with_reducible exact rs_next HST.out ((((Below.refl _ _).alloc (by simp) _).alloc (by simp) _).drew) | with_reducible exact rs_next HST.out ((((Below.refl _ _).drew).alloc (by simp) _).alloc (by simp) _) | with_reducible exact rs_next HST.out ((below_set4 ((((Below.refl _ _).alloc (by simp) _).alloc (by simp) _).drew) (by simp) _ _ _ _)) | with_reducible exact rs_next HST.out ((below_set4 ((((Below.refl _ _).drew).alloc (by simp) _).alloc (by simp) _) (by simp) _ _ _ _)) | exact rs_next HST.out ((Below.refl _ _).drew) | exact rs_next HST.out (((Below.refl _ _).alloc (by simp) _).drew) | exact rs_next HST.out (((Below.refl _ _).drew).alloc (by simp) _) | exact rs_next HST.out ((((Below.refl _ _).alloc (by simp) _).alloc (by simp) _).drew) | exact rs_next HST.out ((((Below.refl _ _).drew).alloc (by simp) _).alloc (by simp) _) | exact rs_next HST.out ((below_set4 ((((Below.refl _ _).alloc (by simp) _).alloc (by simp) _).drew) (by simp) _ _ _ _)) | exact rs_next HST.out ((below_set4 ((((Below.refl _ _).drew).alloc (by simp) _).alloc (by simp) _) (by simp) _ _ _ _)))
          (first | fail)
        all_goals
          go_wp2_with fail
          go_meet
          case rel => first | exact two_a _ _ _ | exact two_b _ _ _
      case rest =>
        obtain ⟨wx, rfl⟩ : ∃ wx, wx = wc := ⟨_, rfl⟩
        obtain ⟨B6, B7, rfl, rfl, x6, x7, hbx⟩ := hcut
        have k0 : wx.cell? ⟨B6, 0, none⟩ = some (.int .i64 x.prog.vars) := (cell_of_row _ _ _ _ _ _ x6).trans rfl
        have k1 : wx.cell? ⟨B6, 1, none⟩ = some (.slice a1 n1 c1) := (cell_of_row _ _ _ _ _ _ x6).trans rfl
        have k2 : wx.cell? ⟨B6, 2, none⟩ = some (.slice va1 x.vars.length vc1) := (cell_of_row _ _ _ _ _ _ x6).trans rfl
        have k3 : wx.cell? ⟨B6, 3, none⟩ = some (.int .i64 x.seed) := (cell_of_row _ _ _ _ _ _ x6).trans rfl
        have j0 : wx.cell? ⟨B7, 0, none⟩ = some (.int .i64 y.prog.vars) := (cell_of_row _ _ _ _ _ _ x7).trans rfl
        have j1 : wx.cell? ⟨B7, 1, none⟩ = some (.slice a2 n2 c2) := (cell_of_row _ _ _ _ _ _ x7).trans rfl
        have j2 : wx.cell? ⟨B7, 2, none⟩ = some (.slice va2 y.vars.length vc2) := (cell_of_row _ _ _ _ _ _ x7).trans rfl
        have j3 : wx.cell? ⟨B7, 3, none⟩ = some (.int .i64 y.seed) := (cell_of_row _ _ _ _ _ _ x7).trans rfl
        obtain ⟨t2, ht2⟩ : ∃ t, t = decide (x.vars = y.vars) := ⟨_, rfl⟩
        obtain ⟨t3, ht3⟩ : ∃ t, t = sameP x.prog y.prog := ⟨_, rfl⟩
        obtain ⟨t4, ht4⟩ : ∃ t, t = (x.seed == y.seed) := ⟨_, rfl⟩
        have hx1 := HXX.out.1 x (List.mem_of_getElem? HX.out)
        have hy1 := HXX.out.2 y (List.mem_of_getElem? HY.out)
        have HSI : Hid (∀ W, Below wx.heap.size wx W → Calls Tryd.prog 16 #[.slice va1 x.vars.length vc1, .slice va2 y.vars.length vc2] W (TellsE t2 W)) := Lib.hid fun W hb => ht2 ▸ sameInts_any W va1 va2 _ _ vc1 vc2 x.vars y.vars (((HP.out.vars hx1).below hbx).below hb) (((HQQ.out.vars hy1).below hbx).below hb) (Nat.le_trans hx1 (by decide)) (Nat.le_trans hy1 (by decide))
        have HSP : Hid (∀ W, Below wx.heap.size wx W → Calls Tryd.prog 24 #[.agg #[.int .i64 x.prog.vars, .slice a1 n1 c1], .agg #[.int .i64 y.prog.vars, .slice a2 n2 c2]] W (TellsBB t3 W)) := Lib.hid fun W hb => ht3 ▸ rsame_any W a1 a2 n1 n2 c1 c2 x.prog y.prog (((HP.out.prog).below hbx (Nat.le_refl _)).below hb (Nat.le_refl _)) (((HQQ.out.prog).below hbx (Nat.le_refl _)).below hb (Nat.le_refl _))
        have HT := Lib.hid (show (t3 && t2 && t4) = decide (x = y) from by rw [ht2, ht3, ht4, sameP_dec, same_pm])
        have e4 : (x.seed == y.seed) = t4 := ht4.symm
        have n4 : (x.seed != y.seed) = !t4 := by rw [ht4]; rfl
        have HBX := Lib.hid hbx
        clear ht2 ht3 ht4 x6 x7 hbx hx1 hy1 q0 r0 p0 p1 p2 p3 s0 s1 s2 s3
        cases t4 <;> cases t2 <;> cases t3
        all_goals
          simp only [Bool.not_true, Bool.not_false] at n4
          go_wp2_with (first
            | (go_at_call 16; refine (HSI.out _ (Below.refl _ _)).mono ?_; rintro e w8 ⟨rfl, hb8⟩; have k0 := keepc hb8 k0; have k1 := keepc hb8 k1; have j0 := keepc hb8 j0; have j1 := keepc hb8 j1; have HB9 := Lib.hid hb8; clear hb8)
            | (go_at_call 24; refine (HSP.out _ HB9.out).mono ?_; rintro e w9 ⟨rfl, hb9⟩; have HB10 := Lib.hid (HB9.out.trans (hb9.mono HB9.out.size)); clear hb9))
          first
            | (go_ret
               have hne : decide (l = r) = false := decide_eq_false (ne_of_at l r k x y HX.out HY.out (of_decide_eq_false (show decide (x = y) = false from HT.out.symm)))
               refine ⟨by rw [hne]; rfl, ?_⟩
               first
                 | exact bel3 (bel3 HPB.out HBX.out) HB10.out
                 | exact bel3 (bel3 HPB.out HBX.out) HB9.out
                 | exact bel3 HPB.out HBX.out)
            | skip
        have hxy : x = y := of_decide_eq_true (show decide (x = y) = true from HT.out.symm)
        have HXY := Lib.hid hxy
        clear hxy
        go_roundw
        case rel => exact ⟨k + 1, by omega, by go_num, take_snoc_eq l r k x HX.out (by rw [HXY.out]; exact HY.out) HTK.out, bel3 (bel3 HBEL.out HBX.out) HB10.out⟩
        case measure => simp [intOf]; omega
    · have hkn : k = n := by omega
      have hd : decide (k < n) = false := decide_eq_false hlt
      have HF : Hid (l = r) := Lib.hid (take_all_eq l r n HNN.out.1 HNN.out.2 (hkn ▸ HTK.out))
      clear hkn
      go_wp2
      go_ret
      exact ⟨by rw [decide_eq_true HF.out]; rfl, HPB.out⟩
set_option maxHeartbeats 4000000 in
theorem rsameM_no (w : World) (a b fa fb : Option Addr) (n c m d fn fc fm fd : Nat) (hno : n ≠ m ∨ (n = m ∧ Hid (∀ W, Below w.heap.size w W → Calls Tryd.prog 23 #[.slice fa fn fc, .slice fb fm fd] W (TellsE false W)))) :
    Calls Tryd.prog 8 #[.agg #[.slice a n c, .slice fa fn fc], .agg #[.slice b m d, .slice fb fm fd]] w (TellsE false w) := by
  obtain ⟨wb, hwb⟩ : ∃ wb, wb = (w.alloc (.cells #[.slice a n c, .slice fa fn fc] 27)).alloc (.cells #[.slice b m d, .slice fb fm fd] 27) := ⟨_, rfl⟩
  have hb0 : Below w.heap.size w wb := by rw [hwb]; exact ((Below.refl _ _).alloc (Nat.le_refl _) _).alloc (by simp) _
  have x0 : wb.heap[w.heap.size]? = some (.cells #[.slice a n c, .slice fa fn fc] 27 (0, 0)) := by rw [hwb, heap_alloc_old _ _ (by simp), heap_alloc_new]
  have x1 : wb.heap[w.heap.size + 1]? = some (.cells #[.slice b m d, .slice fb fm fd] 27 (0, 0)) := by
    rw [hwb]
    have z : (w.alloc (.cells #[.slice a n c, .slice fa fn fc] 27)).heap.size = w.heap.size + 1 := by simp
    rw [← z, heap_alloc_new]
  have q0 : wb.cell? ⟨w.heap.size, 0, none⟩ = some (.slice a n c) := (cell_of_row _ _ _ _ _ _ x0).trans rfl
  have q1 : wb.cell? ⟨w.heap.size, 1, none⟩ = some (.slice fa fn fc) := (cell_of_row _ _ _ _ _ _ x0).trans rfl
  have r0 : wb.cell? ⟨w.heap.size + 1, 0, none⟩ = some (.slice b m d) := (cell_of_row _ _ _ _ _ _ x1).trans rfl
  have r1 : wb.cell? ⟨w.heap.size + 1, 1, none⟩ = some (.slice fb fm fd) := (cell_of_row _ _ _ _ _ _ x1).trans rfl
  have HB0 := Lib.hid hb0
  have HW := Lib.hid hwb
  clear hb0 hwb x0 x1
  rcases hno with hnm | ⟨rfl, HE⟩
  · have hd2 : (n == m) = false := by simpa using hnm
    have hd3 : (n != m) = true := by simpa using hnm
    clear hnm
    go_enter Tryd.func8, Tryd.ntmps8
    go_upto_region 1 with fail
    rw [← HW.out]
    go_wp2
    go_ret
    exact ⟨rfl, HB0.out⟩
  · go_enter Tryd.func8, Tryd.ntmps8
    go_upto_region 1 with fail
    rw [← HW.out]
    go_wp2_with (first
      | (go_at_call 23; refine (HE.out _ HB0.out).mono ?_; rintro e w7 ⟨rfl, hb7⟩; have HB7 := Lib.hid (hb7.mono (Nat.le_refl _)); clear hb7))
    go_ret
    exact ⟨rfl, bel3 HB0.out HB7.out⟩
theorem rsameM_any (w : World) (x y : Mo) (a b fa fb : Option Addr) (n c m d fn fc fm fd : Nat) (hx : MoAt w x a n fa fn) (hy : MoAt w y b m fb fm) :
    Calls Tryd.prog 8 #[.agg #[.slice a n c, .slice fa fn fc], .agg #[.slice b m d, .slice fb fm fd]] w (TellsE (decide (x = y)) w) := by
  rw [← same_mo]
  have hE : ∀ W, Below w.heap.size w W → Calls Tryd.prog 23 #[.slice fa fn fc, .slice fb fm fd] W (TellsE (decide (x.first = y.first)) W) := fun W hb => rsameE_any W fa fb fn fm fc fd x.first y.first (hx.first.below hb) (hy.first.below hb) hx.first.2.1 hy.first.2.1
  by_cases hnm : n = m
  · by_cases hf : x.first = y.first
    · rw [decide_eq_true hf] at hE ⊢
      rw [Bool.and_true]
      exact rsameM_in w a b fa fb n c m d fn fc fm fd x.procs y.procs hx.procs hy.procs hx.many hnm hx.small hy.small (Lib.hid hE)
    · rw [decide_eq_false hf] at hE ⊢
      rw [Bool.and_false]
      exact rsameM_no w a b fa fb n c m d fn fc fm fd (.inr ⟨hnm, Lib.hid hE⟩)
  · have hp : x.procs ≠ y.procs := fun e => hnm (by rw [← hx.procs.1, ← hy.procs.1, e])
    rw [decide_eq_false hp, Bool.false_and]
    exact rsameM_no w a b fa fb n c m d fn fc fm fd (.inl hnm)
end Go.Proofs.YtclbbpkphfllbaaDoor
