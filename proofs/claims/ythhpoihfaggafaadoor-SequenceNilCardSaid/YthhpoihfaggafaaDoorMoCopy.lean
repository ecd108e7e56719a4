/-
  The walk of model.Copy.
-/
import Derived.Test.YthhpoihfaggafaaDoorMoRaw
namespace Go.Proofs.YthhpoihfaggafaaDoor
open Go Go.RowKit Go.Sort Go.Proofs CodM VmM

/-- a copied process: four cells, rows of its own -/
def CopR (B : Nat) (w : World) (x : Pm) (c0 c1 c2 c3 : Option Value) : Prop :=
  ∃ a n c va vc, c0 = some (.int .i64 x.prog.vars) ∧ c1 = some (.slice a n c) ∧ c2 = some (.slice va x.vars.length vc) ∧ c3 = some (.int .i64 x.seed) ∧ SlOk a n c ∧ Cop B w a n x.prog.kinds ∧ CV.Own 2 B w (.slice va x.vars.length vc) x.vars
theorem ownV_keep {B G : Nat} {w w' : World} {v : Value} {l : List Int} {cur : Array Value} {t : TypeId} (ht : t ≠ 2) (h : CV.Own 2 B w v l) (hb : But (fun k => k = G) w w') (hG : w.heap[G]? = some (.cells cur t (0, 0))) : CV.Own 2 B w' v l := by
  refine h.but hb fun b e => ?_
  rintro rfl
  obtain ⟨_, ⟨rfl, _⟩ | ⟨g, cap, cur', rfl, _, hh, _⟩⟩ := h
  · cases e
  · cases e
    rw [hG] at hh
    cases hh
    exact ht rfl
theorem CopR.keep {B G : Nat} {w w' : World} {x : Pm} {c0 c1 c2 c3 : Option Value} {cur : Array Value} {t : TypeId} (ht : t ≠ 2 ∧ t ≠ 66 ∧ t ≠ 67) (h : CopR B w x c0 c1 c2 c3) (hk : Keep G w w') (hb : But (fun k => k = G) w w') (hG : w.heap[G]? = some (.cells cur t (0, 0))) : CopR B w' x c0 c1 c2 c3 := by
  obtain ⟨a, n, c, va, vc, h0, h1, h2, h3, h4, h5, h6⟩ := h
  exact ⟨a, n, c, va, vc, h0, h1, h2, h3, h4, h5.keep hk (fun cur' e => by rw [hG] at e; cases e; exact ht.2.1 rfl) (fun cur' e => by rw [hG] at e; cases e; exact ht.2.2 rfl), ownV_keep ht.1 h6 hb hG⟩
theorem Cop.mono {B B' : Nat} {w : World} {a : Option Addr} {n : Nat} {ks : List (List Ins)} (h : Cop B w a n ks) (hB : B' ≤ B) : Cop B' w a n ks := by
  refine ⟨h.1, ?_⟩
  rcases h.2 with h2 | ⟨G, cur, rfl, hG, hh, hc⟩
  · exact .inl h2
  · refine .inr ⟨G, cur, rfl, by omega, hh, fun i hi => ?_⟩
    obtain ⟨a', n', c', e1, e2, e3⟩ := hc i hi
    exact ⟨a', n', c', e1, e2, e3.mono hB⟩
theorem own_cells {B n : Nat} {w : World} {v : Value} {rs : List Rp} (h : CP.Own 72 B w v rs) (hn : rs.length = n) :
    (v = .slice none 0 0 ∧ n = 0) ∨ ∃ G c3 cur, v = .slice (some ⟨G, 0, none⟩) n c3 ∧ B ≤ G ∧ w.heap[G]? = some (.cells cur 72 (0, 0)) ∧ n * 4 ≤ cur.size ∧ (∀ (i : Nat) (r : Rp), 0 ≤ i → rs[i]? = some r → ∀ j, j < 4 → cur[i * 4 + j]? = (CP.enc r)[j]?) := by
  subst hn
  obtain ⟨_, ⟨h1, h2⟩ | ⟨g, cap, cur, h1, h2, h3, h4, _, h6, h7⟩⟩ := h
  · exact .inl ⟨h1, h2⟩
  · have h6' : cur.size = cap * 4 := h6
    have h7' : cur.toList.take (rs.length * 4) = CP.cells rs := h7
    refine .inr ⟨g, cap, cur, h1, h2, h3, by omega, fun i r _ hr j hj => ?_⟩
    obtain ⟨hi, rfl⟩ := List.getElem?_eq_some_iff.1 hr
    rw [← CP.cells_get rs i j hi hj, ← h7', List.getElem?_take_of_lt (show i * CP.k + j < rs.length * 4 from by have : CP.k = 4 := rfl; rw [this]; omega)]
    exact Array.getElem?_toList.symm
/-- so many processes are copied -/
def CRel (B : Nat) (w2 : World) (G n : Nat) (rs : List Rp) (l : List Pm) (i : Value) (wr : World) : Prop :=
  ∃ (k : Nat) (cur : Array Value), k ≤ n ∧ i = .int .i64 k ∧ wr.heap[G]? = some (.cells cur 72 (0, 0)) ∧ n * 4 ≤ cur.size ∧ (∀ (i : Nat) (r : Rp), k ≤ i → rs[i]? = some r → ∀ j, j < 4 → cur[i * 4 + j]? = (CP.enc r)[j]?) ∧
    (∀ (i : Nat) (x : Pm), i < k → l[i]? = some x → CopR B wr x cur[i * 4]? cur[i * 4 + 1]? cur[i * 4 + 2]? cur[i * 4 + 3]?) ∧ Below w2.heap.size w2 wr
/-- a copied row of processes -/
def CopPs (B : Nat) (w : World) (a : Option Addr) (n : Nat) (l : List Pm) : Prop :=
  l.length = n ∧ (n = 0 ∨ ∃ G cur, a = some ⟨G, 0, none⟩ ∧ B ≤ G ∧ w.heap[G]? = some (.cells cur 72 (0, 0)) ∧ ∀ (i : Nat) (x : Pm), l[i]? = some x → CopR B w x cur[i * 4]? cur[i * 4 + 1]? cur[i * 4 + 2]? cur[i * 4 + 3]?)
def CopyMo (m : Mo) (w : World) (e : Ending) (w' : World) : Prop :=
  ∃ a c fa fn fc, e = .returned (.agg #[.slice a m.procs.length c, .slice fa fn fc]) ∧ CopPs w.heap.size w' a m.procs.length m.procs ∧ CEv.Own 45 w.heap.size w' (.slice fa fn fc) m.first ∧ Below w.heap.size w w'

set_option maxHeartbeats 4000000 in
set_option maxRecDepth 100000 in
theorem moCopy_in (w : World) (a fa : Option Addr) (n c fn fc : Nat) (rs : List Rp) (l : List Pm) (first : List Ev) (hn : n ≤ 1000) (hl : l.length = n) (hrs : rs.length = n)
    (HCL : Hid (∀ W, Below w.heap.size w W → Calls Tryd.prog 100 #[.slice a n c] W (ClonedP rs W)))
    (HCP : Hid (∀ (W : World) (i : Nat) (r : Rp) (x : Pm), Below w.heap.size w W → rs[i]? = some r → l[i]? = some x → Calls Tryd.prog 101 #[.agg #[.int .i64 r.vars, .slice r.a r.n r.c]] W (CopyTo r.vars r.n x.prog.kinds W)))
    (HCV : Hid (∀ (W : World) (i : Nat) (r : Rp) (x : Pm), Below w.heap.size w W → rs[i]? = some r → l[i]? = some x → Calls Tryd.prog 71 #[.slice r.va r.vn r.vc] W (ClonedV x.vars W)))
    (HCI : Hid (∀ (i : Nat) (r : Rp) (x : Pm), rs[i]? = some r → l[i]? = some x → r.vars = x.prog.vars ∧ r.vn = x.vars.length ∧ r.seed = x.seed))
    (HCE : Hid (∀ W, Below w.heap.size w W → Calls Tryd.prog 40 #[.slice fa fn fc] W (ClonedE first W))) :
    Calls Tryd.prog 78 #[.agg #[.slice a n c, .slice fa fn fc]] w (CopyMo ⟨l, first⟩ w) := by
  obtain ⟨w2, hw2⟩ : ∃ w2, w2 = (w.alloc (.cells #[.slice a n c, .slice fa fn fc] 27)).alloc (.cells #[.slice none 0 0, .slice none 0 0] 27) := ⟨_, rfl⟩
  have hb2 : Below w.heap.size w w2 := by rw [hw2]; exact ((Below.refl _ _).alloc (Nat.le_refl _) _).alloc (by simp) _
  have hs2 : w2.heap.size = w.heap.size + 2 := by rw [hw2]; simp
  have hbox : w2.heap[w.heap.size]? = some (.cells #[.slice a n c, .slice fa fn fc] 27) := by rw [hw2]; exact (heap_alloc_old _ _ (by simp)).trans (heap_alloc_new _ _)
  have hres : w2.heap[w.heap.size + 1]? = some (.cells #[.slice none 0 0, .slice none 0 0] 27) := by
    rw [hw2]
    have := heap_alloc_new (w.alloc (.cells #[.slice a n c, .slice fa fn fc] 27)) (.cells #[.slice none 0 0, .slice none 0 0] 27)
    simpa using this
  have HB2 := Lib.hid hb2
  have HS2 := Lib.hid hs2
  have HBOX := Lib.hid hbox
  have HRES := Lib.hid hres
  have HW2 := Lib.hid hw2
  have HL := Lib.hid hl
  have HRS := Lib.hid hrs
  clear hb2 hs2 hbox hres hw2 hl hrs
  go_enter Tryd.func78, Tryd.ntmps78
  go_wp2_with (first
    | (go_at_call 100; rw [← HW2.out]; refine (HCL.out _ HB2.out).mono ?_; rintro e w3 ⟨v3, rfl, ho3, hb⟩; refine Hid.out ?_))
  rcases own_cells ho3 HRS.out with ⟨rfl, hn0⟩ | ⟨G, c3, cur0, rfl, hG, hh0, hsz0, hc0⟩
  · subst hn0
    have HB3 := Lib.hid hb
    have HWR := Lib.hid (HB2.out.trans (hb.mono HB2.out.size))
    have hbox3 := (hb.block w.heap.size (by have := HS2.out; omega)).trans HBOX.out
    have hres3 := (hb.block (w.heap.size + 1) (by have := HS2.out; omega)).trans HRES.out
    have v0 : w3.cell? ⟨w.heap.size, 0, none⟩ = some (.slice a 0 c) := by rw [cell_of_row _ _ _ _ _ _ hbox3]; rfl
    have v1 : w3.cell? ⟨w.heap.size, 1, none⟩ = some (.slice fa fn fc) := by rw [cell_of_row _ _ _ _ _ _ hbox3]; rfl
    have HV := Lib.hid (And.intro hbox3 hres3)
    have HO3 := Lib.hid ho3
    clear hbox3 hres3 hb ho3
    refine Lib.hid ?_
    go_wp2
    refine wp_loop_rounds 1 ?_
    rw [rounds_succ]
    go_wp2_with (first
      | (go_at_call 40; refine (HCE.out _ HWR.out).mono ?_; rintro e w7 ⟨v, rfl, ho7, hb7⟩; refine Hid.out ?_))
    have hres7 := (hb7.block (w.heap.size + 1) (heap_lt HV.out.2)).trans HV.out.2
    have r0 : w7.cell? ⟨w.heap.size + 1, 0, none⟩ = some (.slice none 0 0) := by rw [cell_of_row _ _ _ _ _ _ hres7]; rfl
    have r1 : w7.cell? ⟨w.heap.size + 1, 1, none⟩ = some (.slice none 0 0) := by rw [cell_of_row _ _ _ _ _ _ hres7]; rfl
    have f0 : w7.frozen? ⟨w.heap.size + 1, 0, none⟩ = false := frozen_of_row _ _ _ _ _ hres7
    have f1 : w7.frozen? ⟨w.heap.size + 1, 1, none⟩ = false := frozen_of_row _ _ _ _ _ hres7
    obtain ⟨va, vn, vc, rfl⟩ := ho7.shape
    have HR7 := Lib.hid hres7
    have HO7 := Lib.hid ho7
    have HB7 := Lib.hid hb7
    clear hres7 ho7 hb7
    refine Lib.hid ?_
    go_wp2
    obtain ⟨k0, k1⟩ := fin_cells HR7.out (.slice none 0 0) (.slice va vn vc)
    refine bodyPost_ret (v := .agg #[.slice none 0 0, .slice va vn vc]) (by simp [results, Tryd.results78, go_sem, k0, k1]) rfl ⟨none, 0, va, vn, vc, by rw [HL.out], ?_⟩
    have hs2 := HS2.out
    have hw2 : w2.heap.size ≤ w3.heap.size := HB3.out.size
    obtain ⟨wf, hwf⟩ : ∃ wf, wf = (w7.setCell ⟨w.heap.size + 1, 0, none⟩ (.slice none 0 0)).setCell ⟨w.heap.size + 1, 1, none⟩ (.slice va vn vc) := ⟨_, rfl⟩
    rw [← hwf]
    have t7 : But (fun k => k = w.heap.size + 1) w7 wf := by rw [hwf]; exact But.setCell (But.setCell (But.refl (fun k => k = w.heap.size + 1) _) (p := ⟨w.heap.size + 1, 0, none⟩) rfl _) (p := ⟨w.heap.size + 1, 1, none⟩) rfl _
    have T17 := (But.of (S := fun k => k = w.heap.size + 1) HB7.out).trans t7
    refine ⟨⟨rfl, .inl HL.out⟩, (HO7.out.mono (by omega)).but t7 (fun b e => ?_), HWR.out.trans (T17.below HWR.out.size (fun j e => by omega))⟩
    have h := HO7.out.lt b e
    intro e2
    omega
  clear ho3
  have HH0 := Lib.hid hh0
  have HC0 := Lib.hid hc0
  have HB3 := Lib.hid hb
  have HG := Lib.hid hG
  have HSZ0 := Lib.hid hsz0
  clear hh0 hc0 hb hG hsz0
  refine Lib.hid ?_
  go_wp2
  go_loopw [11] (fun i wr => CRel w.heap.size w2 G n rs l i wr) (fun i _ => n - (intOf i).toNat)
  case atStart => exact ⟨0, cur0, Nat.zero_le _, rfl, HH0.out, HSZ0.out, HC0.out, fun i x hi => absurd hi (Nat.not_lt_zero _), HB3.out⟩
  case round =>
    obtain ⟨k, cur, hk, rfl, hh, hsz, hcur, hdone, hbel⟩ := hrel
    have HH := Lib.hid hh
    have HCUR := Lib.hid hcur
    have HDONE := Lib.hid hdone
    have HBEL := Lib.hid hbel
    have HSZ := Lib.hid hsz
    by_cases hlt : k < n
    · have hr : ∃ r, rs[k]? = some r := ⟨_, List.getElem?_eq_getElem (by rw [HRS.out]; exact hlt)⟩
      have hx : ∃ x, l[k]? = some x := ⟨_, List.getElem?_eq_getElem (by rw [HL.out]; exact hlt)⟩
      obtain ⟨r, hr⟩ := hr
      obtain ⟨x, hx⟩ := hx
      have HX := Lib.hid (And.intro hr hx)
      have hc4 := hcur k r (Nat.le_refl _) hr
      have p0 : wr.cell? ⟨G, k * 4, none⟩ = some (.int .i64 r.vars) := by rw [cell_of_row _ _ _ _ _ _ hh]; exact hc4 0 (by decide)
      have p1 : wr.cell? ⟨G, k * 4 + 1, none⟩ = some (.slice r.a r.n r.c) := by rw [cell_of_row _ _ _ _ _ _ hh]; exact hc4 1 (by decide)
      have p2 : wr.cell? ⟨G, k * 4 + 2, none⟩ = some (.slice r.va r.vn r.vc) := by rw [cell_of_row _ _ _ _ _ _ hh]; exact hc4 2 (by decide)
      have p3 : wr.cell? ⟨G, k * 4 + 3, none⟩ = some (.int .i64 r.seed) := by rw [cell_of_row _ _ _ _ _ _ hh]; exact hc4 3 (by decide)
      have hGr : G < wr.heap.size := heap_lt hh
      clear hh hcur hdone hbel hr hx hc4 hsz
      go_upto_region 5 with fail
      obtain ⟨wx, hwx⟩ : ∃ wx, wx = wr.alloc (.cells #[.int .i64 r.vars, .slice r.a r.n r.c, .slice r.va r.vn r.vc, .int .i64 r.seed] 72) := ⟨_, rfl⟩
      have hbx : Below wr.heap.size wr wx := by rw [hwx]; exact (Below.refl _ _).alloc (Nat.le_refl _) _
      have x0 : wx.heap[wr.heap.size]? = some (.cells #[.int .i64 r.vars, .slice r.a r.n r.c, .slice r.va r.vn r.vc, .int .i64 r.seed] 72 (0, 0)) := by rw [hwx]; exact heap_alloc_new _ _
      obtain ⟨X, hX⟩ : ∃ X, X = wr.heap.size := ⟨_, rfl⟩
      rw [← hwx, ← hX]
      rw [← hX] at x0
      have HX0 := Lib.hid hX
      have q0 : wx.cell? ⟨X, 0, none⟩ = some (.int .i64 r.vars) := (cell_of_row _ _ _ _ _ _ x0).trans rfl
      have q1 : wx.cell? ⟨X, 1, none⟩ = some (.slice r.a r.n r.c) := (cell_of_row _ _ _ _ _ _ x0).trans rfl
      have q2 : wx.cell? ⟨X, 2, none⟩ = some (.slice r.va r.vn r.vc) := (cell_of_row _ _ _ _ _ _ x0).trans rfl
      have HHX := Lib.hid ((hbx.block G hGr).trans HH.out)
      have hXx : X < wx.heap.size := heap_lt x0
      have hGX : G ≠ X := by omega
      have HBX := Lib.hid hbx
      have HWX := Lib.hid (HB2.out.trans (HBEL.out.mono HB2.out.size) |>.trans (hbx.mono ((HB2.out.trans (HBEL.out.mono HB2.out.size)).size)))
      clear hwx hX hbx x0 p0 p1 p2 p3
      go_wp2_with (first
        | (go_at_call 101; refine (HCP.out _ k r x HWX.out HX.out.1 HX.out.2).mono ?_; rintro e w4 ⟨a4, c4, rfl, hsl4, hcop4, hb4⟩; refine Hid.out ?_))
      have hh4 : w4.heap[G]? = some (.cells cur 72 (0, 0)) := (hb4.block G (heap_lt HHX.out)).trans HHX.out
      have g0 : w4.frozen? ⟨G, k * 4, none⟩ = false := frozen_of_row _ _ _ _ _ hh4
      have g1 : w4.frozen? ⟨G, k * 4 + 1, none⟩ = false := frozen_of_row _ _ _ _ _ hh4
      have s0 : ∃ v, w4.cell? ⟨G, k * 4, none⟩ = some v := ⟨_, by rw [cell_of_row _ _ _ _ _ _ hh4]; exact Array.getElem?_eq_getElem (by have := HSZ.out; omega)⟩
      have s1 : ∃ v, w4.cell? ⟨G, k * 4 + 1, none⟩ = some v := ⟨_, by rw [cell_of_row _ _ _ _ _ _ hh4]; exact Array.getElem?_eq_getElem (by have := HSZ.out; omega)⟩
      obtain ⟨s0v, s0⟩ := s0
      obtain ⟨s1v, s1⟩ := s1
      have q2 := keepc hb4 q2
      have HH4 := Lib.hid hh4
      have HC4 := Lib.hid (And.intro hsl4 hcop4)
      have HB4 := Lib.hid hb4
      clear hh4 hsl4 hcop4 hb4
      refine Lib.hid ?_
      go_upto_region 6 with fail
      obtain ⟨w5, hw5⟩ : ∃ w5, w5 = (w4.setCell ⟨G, k * 4, none⟩ (.int .i64 r.vars)).setCell ⟨G, k * 4 + 1, none⟩ (.slice a4 r.n c4) := ⟨_, rfl⟩
      rw [← hw5]
      have hh5 : w5.heap[G]? = some (.cells ((cur.setIfInBounds (k * 4) (.int .i64 r.vars)).setIfInBounds (k * 4 + 1) (.slice a4 r.n c4)) 72 (0, 0)) := by
        rw [hw5]
        exact heap_setCell_same _ G _ _ _ _ (heap_setCell_same w4 G _ cur _ _ HH4.out)
      have hk5 : Keep G w4 w5 := by rw [hw5]; exact (Keep.set G _ _).trans (Keep.set G _ _)
      have ht5 : But (fun k => k = G) w4 w5 := by rw [hw5]; exact But.setCell (But.setCell (But.refl (fun k => k = G) _) (p := ⟨G, k * 4, none⟩) rfl _) (p := ⟨G, k * 4 + 1, none⟩) rfl _
      have q2 : w5.cell? ⟨X, 2, none⟩ = some (.slice r.va r.vn r.vc) := (World.cell?_of_block (a := ⟨X, 2, none⟩) (ht5.block X (Nat.lt_of_lt_of_le hXx HB4.out.size) (fun e => hGX e.symm))).trans q2
      have HB5 := Lib.hid (show Below w.heap.size w w5 from (HWX.out.trans (HB4.out.mono HWX.out.size)).trans (ht5.below (Nat.le_trans HWX.out.size HB4.out.size) (fun j e => by have := HG.out; have := HS2.out; omega)))
      have HH5 := Lib.hid hh5
      have HT5 := Lib.hid (And.intro hk5 ht5)
      clear hw5 hh5 hk5 ht5 g0 g1 s0 s1 q0 q1
      go_wp2_with (first
        | (go_at_call 71; refine (HCV.out _ k r x HB5.out HX.out.1 HX.out.2).mono ?_; rintro e w6 ⟨v, rfl, ho6, hb6⟩; refine Hid.out ?_))
      have hh6 := (hb6.block G (heap_lt HH5.out)).trans HH5.out
      have g2 : w6.frozen? ⟨G, k * 4 + 2, none⟩ = false := frozen_of_row _ _ _ _ _ hh6
      have s2 : ∃ v, w6.cell? ⟨G, k * 4 + 2, none⟩ = some v := ⟨_, by rw [cell_of_row _ _ _ _ _ _ hh6]; exact Array.getElem?_eq_getElem (by have := HSZ.out; simp; omega)⟩
      obtain ⟨s2v, s2⟩ := s2
      obtain ⟨va, vn, vc, rfl⟩ := ho6.shape
      have HH6 := Lib.hid hh6
      have HO6 := Lib.hid ho6
      have HB6 := Lib.hid hb6
      clear hh6 ho6 hb6
      refine Lib.hid ?_
      go_wp2
      go_roundw
      case rel =>
        have hr := HX.out.1
        have hx := HX.out.2
        have hvn : vn = x.vars.length := by
          obtain ⟨_, ⟨e, h0⟩ | ⟨g, cap, cur', e, _⟩⟩ := HO6.out
          · cases e; exact h0.symm
          · cases e; rfl
        subst hvn
        obtain ⟨i0, i1, i2⟩ := HCI.out k r x hr hx
        have hsz := HSZ.out
        have hc3 := HCUR.out k r (Nat.le_refl _) hr 3 (by decide)
        have t7 : But (fun k => k = G) w6 (w6.setCell ⟨G, k * 4 + 2, none⟩ (.slice va x.vars.length vc)) := But.setCell (But.refl (fun k => k = G) _) (p := ⟨G, k * 4 + 2, none⟩) rfl _
        have k7 : Keep G w6 (w6.setCell ⟨G, k * 4 + 2, none⟩ (.slice va x.vars.length vc)) := Keep.set G _ _
        have K47 := (HT5.out.1.trans (Keep.below G HB6.out)).trans k7
        have T47 := (HT5.out.2.trans (But.of HB6.out)).trans t7
        have b14 : Below wr.heap.size wr w4 := HBX.out.trans (HB4.out.mono HBX.out.size)
        have K17 := (Keep.below G b14).trans K47
        have T17 := (But.of (S := fun k => k = G) b14).trans T47
        refine ⟨k + 1, ((cur.setIfInBounds (k * 4) (.int .i64 r.vars)).setIfInBounds (k * 4 + 1) (.slice a4 r.n c4)).setIfInBounds (k * 4 + 2) (.slice va x.vars.length vc), by omega, by go_num, heap_setCell_same w6 G _ _ _ _ HH6.out, by simpa using hsz, fun i r' h1 h2 j hj => ?_, fun i x' hi hx' => ?_, HBEL.out.trans (T17.below HBEL.out.size (fun j e => by have := HG.out; omega))⟩
        · rw [Array.getElem?_setIfInBounds_ne (by omega), Array.getElem?_setIfInBounds_ne (by omega), Array.getElem?_setIfInBounds_ne (by omega)]
          exact HCUR.out i r' (by omega) h2 j hj
        · by_cases hik : i = k
          · subst hik
            rw [hx] at hx'
            cases hx'
            refine ⟨a4, r.n, c4, va, vc, ?_, ?_, ?_, ?_, HC4.out.1, (HC4.out.2.mono HWX.out.size).keep K47 (fun cur' e => by rw [HH4.out] at e; cases e) (fun cur' e => by rw [HH4.out] at e; cases e), ownV_keep (by decide) (HO6.out.mono HB5.out.size) t7 HH6.out⟩
            · rw [Array.getElem?_setIfInBounds_ne (by omega), Array.getElem?_setIfInBounds_ne (by omega), Array.getElem?_setIfInBounds_self_of_lt (by omega), i0]
            · rw [Array.getElem?_setIfInBounds_ne (by omega), Array.getElem?_setIfInBounds_self_of_lt (by simp; omega)]
            · rw [Array.getElem?_setIfInBounds_self_of_lt (by simp; omega)]
            · rw [Array.getElem?_setIfInBounds_ne (by omega), Array.getElem?_setIfInBounds_ne (by omega), Array.getElem?_setIfInBounds_ne (by omega), hc3, ← i2]
              rfl
          · have h := (HDONE.out i x' (by omega) hx').keep (by decide) K17 T17 HH.out
            rw [Array.getElem?_setIfInBounds_ne (by omega), Array.getElem?_setIfInBounds_ne (by omega), Array.getElem?_setIfInBounds_ne (by omega), Array.getElem?_setIfInBounds_ne (by omega), Array.getElem?_setIfInBounds_ne (by omega), Array.getElem?_setIfInBounds_ne (by omega), Array.getElem?_setIfInBounds_ne (by omega), Array.getElem?_setIfInBounds_ne (by omega), Array.getElem?_setIfInBounds_ne (by omega), Array.getElem?_setIfInBounds_ne (by omega), Array.getElem?_setIfInBounds_ne (by omega), Array.getElem?_setIfInBounds_ne (by omega)]
            exact h
      case measure => simp [intOf]; omega
    · have hbox3 := (hbel.block w.heap.size (by have := HS2.out; omega)).trans HBOX.out
      have hres3 := (hbel.block (w.heap.size + 1) (by have := HS2.out; omega)).trans HRES.out
      have v0 : wr.cell? ⟨w.heap.size, 0, none⟩ = some (.slice a n c) := by rw [cell_of_row _ _ _ _ _ _ hbox3]; rfl
      have v1 : wr.cell? ⟨w.heap.size, 1, none⟩ = some (.slice fa fn fc) := by rw [cell_of_row _ _ _ _ _ _ hbox3]; rfl
      have HV := Lib.hid (And.intro hbox3 hres3)
      have HWR := Lib.hid (HB2.out.trans (hbel.mono HB2.out.size))
      clear hh hcur hdone hbel hsz hbox3 hres3
      go_wp2_with (first
        | (go_at_call 40; refine (HCE.out _ HWR.out).mono ?_; rintro e w7 ⟨v, rfl, ho7, hb7⟩; refine Hid.out ?_))
      have hres7 := (hb7.block (w.heap.size + 1) (heap_lt HV.out.2)).trans HV.out.2
      have r0 : w7.cell? ⟨w.heap.size + 1, 0, none⟩ = some (.slice none 0 0) := by rw [cell_of_row _ _ _ _ _ _ hres7]; rfl
      have r1 : w7.cell? ⟨w.heap.size + 1, 1, none⟩ = some (.slice none 0 0) := by rw [cell_of_row _ _ _ _ _ _ hres7]; rfl
      have f0 : w7.frozen? ⟨w.heap.size + 1, 0, none⟩ = false := frozen_of_row _ _ _ _ _ hres7
      have f1 : w7.frozen? ⟨w.heap.size + 1, 1, none⟩ = false := frozen_of_row _ _ _ _ _ hres7
      obtain ⟨va, vn, vc, rfl⟩ := ho7.shape
      have HR7 := Lib.hid hres7
      have HO7 := Lib.hid ho7
      have HB7 := Lib.hid hb7
      clear hres7 ho7 hb7
      refine Lib.hid ?_
      go_wp2
      obtain ⟨k0, k1⟩ := fin_cells HR7.out (.slice (some ⟨G, 0, none⟩) n c3) (.slice va vn vc)
      refine bodyPost_ret (v := .agg #[.slice (some ⟨G, 0, none⟩) n c3, .slice va vn vc]) (by simp [results, Tryd.results78, go_sem, k0, k1]) rfl ⟨_, c3, va, vn, vc, by rw [HL.out], ?_⟩
      have kn : k = n := by omega
      have hGr : G < wr.heap.size := heap_lt HH.out
      have hG2 := HG.out
      have hs2 := HS2.out
      have hw2 : w2.heap.size ≤ wr.heap.size := HBEL.out.size
      have hRG : w.heap.size + 1 ≠ G := by omega
      obtain ⟨wf, hwf⟩ : ∃ wf, wf = (w7.setCell ⟨w.heap.size + 1, 0, none⟩ (.slice (some ⟨G, 0, none⟩) n c3)).setCell ⟨w.heap.size + 1, 1, none⟩ (.slice va vn vc) := ⟨_, rfl⟩
      rw [← hwf]
      have t7 : But (fun k => k = w.heap.size + 1) w7 wf := by rw [hwf]; exact But.setCell (But.setCell (But.refl (fun k => k = w.heap.size + 1) _) (p := ⟨w.heap.size + 1, 0, none⟩) rfl _) (p := ⟨w.heap.size + 1, 1, none⟩) rfl _
      have k7 : Keep (w.heap.size + 1) w7 wf := by rw [hwf]; exact (Keep.set _ _ _).trans (Keep.set _ _ _)
      have T17 := (But.of (S := fun k => k = w.heap.size + 1) HB7.out).trans t7
      have K17 := (Keep.below (w.heap.size + 1) HB7.out).trans k7
      refine ⟨⟨rfl, .inr ⟨G, cur, rfl, by omega, (T17.block G hGr (fun e => hRG e.symm)).trans HH.out, fun i x hx => ?_⟩⟩, (HO7.out.mono (by omega)).but t7 (fun b e => ?_), HWR.out.trans (T17.below HWR.out.size (fun j e => by omega))⟩
      · have hi : i < k := by
          have := (List.getElem?_eq_some_iff.1 hx).1
          have hl := HL.out
          simp only [] at this
          omega
        exact (HDONE.out i x hi hx).keep (by decide) K17 T17 HV.out.2
      · have h := HO7.out.lt b e
        intro e2
        omega
theorem moCopy_any (w : World) (m : Mo) (a fa : Option Addr) (n c fn fc : Nat) (h : MoAt w m a n fa fn) (hf : fn ≤ 1000) (hk : ∀ x ∈ m.procs, x.prog.kinds.length ≤ 12 ∧ ∀ l ∈ x.prog.kinds, l.length ≤ 200) (hnil : a = none → c = 0) (hfnil : fa = none → fc = 0) :
    Calls Tryd.prog 78 #[.agg #[.slice a n c, .slice fa fn fc]] w (CopyMo m w) := by
  obtain ⟨rs, hrs, hat, his⟩ := h.procs.raw (Nat.le_trans h.many (by decide))
  have hfl := h.first.1
  have hx : ∀ (W : World) (i : Nat) (r : Rp) (x : Pm), Below w.heap.size w W → rs[i]? = some r → m.procs[i]? = some x → RpIs W r x := fun W i r x hb hr hx => by
    obtain ⟨r', hr', h'⟩ := his i x hx
    rw [hr] at hr'
    cases hr'
    exact h'.below hb
  refine moCopy_in w a fa n c fn fc rs m.procs m.first h.many h.procs.1 hrs (Lib.hid fun W hb => ?_) (Lib.hid fun W i r x hb hr hxx => ?_) (Lib.hid fun W i r x hb hr hxx => ?_) (Lib.hid fun i r x hr hxx => ?_) (Lib.hid fun W hb => ?_)
  · have := cloneP_any W a c rs (hrs.symm ▸ hat.below hb) (by rw [hrs]; exact h.many) hnil
    rwa [hrs] at this
  · have hi := hx W i r x hb hr hxx
    have hm := hk x (List.mem_of_getElem? hxx)
    exact copy_any W r.a r.n r.c r.vars x.prog.kinds hi.2.2.2.prog.2 (by rw [← hi.2.2.2.prog.2.1]; exact hm.1) hm.2 hi.2.2.2.sl
  · have hi := hx W i r x hb hr hxx
    have hs := h.small x (List.mem_of_getElem? hxx)
    have := cloneV_any W r.va r.vc x.vars (hi.2.2.2.vars hs) hs hi.2.2.2.nil
    rwa [← hi.2.1] at this
  · have hi := hx w i r x (Below.refl _ _) hr hxx
    exact ⟨hi.1, hi.2.1, hi.2.2.1⟩
  · have := cloneE_any W fa fc m.first (hfl.symm ▸ h.first.below hb) (by rw [hfl]; exact hf) hfnil
    rwa [hfl] at this
end Go.Proofs.YthhpoihfaggafaaDoor
