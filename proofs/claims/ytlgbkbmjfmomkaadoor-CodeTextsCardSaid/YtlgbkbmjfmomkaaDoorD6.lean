/-
  The walk of the law CodeCopies.
-/
import Derived.Test.YtlgbkbmjfmomkaaDoorD5
namespace Go.Proofs.YtlgbkbmjfmomkaaDoor
open Go.RowKit CodM

set_option maxHeartbeats 4000000 in
set_option maxRecDepth 100000 in
theorem copies_law (w : World) (a b : Option Addr) (n m c d : Nat) (x y i j : Int) (ks ls : List (List Ins)) (hG : Glo w) (hp : ProgAt w a n ⟨x, ks⟩) (hq : ProgAt w b m ⟨y, ls⟩) (ha : SlOk a n c)
    (hm1 : muchB ⟨x, ks⟩ = false) (hm2 : muchB ⟨y, ls⟩ = false) :
    Calls Tryd.prog 6 #[.agg #[.int .i64 x, .slice a n c], .agg #[.int .i64 y, .slice b m d], .int .i64 i, .int .i64 j] w (TellsBB true w) := by
  obtain ⟨wb, hwb⟩ : ∃ wb, wb = (w.alloc (.cells #[.int .i64 x, .slice a n c] 24)).alloc (.cells #[.int .i64 y, .slice b m d] 24) := ⟨_, rfl⟩
  have hb0 : Below w.heap.size w wb := by rw [hwb]; exact ((Below.refl _ _).alloc (Nat.le_refl _) _).alloc (by simp) _
  have hbx : Boxes wb w.heap.size x y a b n m c d := by rw [hwb]; exact Boxes.mk' w x y a b n m c d
  have hpb := hp.below hb0 (Nat.le_refl _)
  have hqb := hq.below hb0 (Nat.le_refl _)
  have HWB := Lib.hid hwb
  have HB0 := Lib.hid hb0
  have HBX := Lib.hid hbx
  have HP := Lib.hid hpb
  have HQ := Lib.hid hqb
  have HG := Lib.hid hG
  have HM1 := Lib.hid hm1
  have HM2 := Lib.hid hm2
  have HST := Lib.hid (st_of hbx (Below.refl _ _))
  clear hwb hb0 hbx hpb hqb hG hm1 hm2 hp hq
  go_enter Tryd.func6, Tryd.ntmps6
  go_wp2_with (first
    | (go_at_call_of 9 (Value.agg #[.int .i64 x, .slice a n c]); rw [← HWB.out]; refine (st_much HBX.out HP.out _ HST.out.2.2.2.2).mono ?_; rintro e w1 ⟨rfl, hst⟩; rw [HM1.out]; have HST1 := Lib.hid hst; refine Hid.out ?_))
  obtain ⟨p0, p1, p2, p3, -⟩ := HST1.out
  clear hst
  refine Lib.hid ?_
  go_wp2_with (first
    | (go_at_call 9; refine (st_much' HBX.out HQ.out _ HST1.out.2.2.2.2).mono ?_; rintro e w2 ⟨rfl, hst⟩; rw [HM2.out]; have HST2 := Lib.hid hst; refine Hid.out ?_))
  clear p0 p1 p2 p3
  refine Lib.hid ?_
  obtain ⟨t, hsm⟩ : ∃ t, sameP ⟨x, ks⟩ ⟨y, ls⟩ = t := ⟨_, rfl⟩
  have HSM := Lib.hid hsm
  clear hsm
  go_wp2_with fail
  go_region_held3 (fun w' => St wb w.heap.size x y a b n m c d w') (first | assumption | exact st_drew hst)
    (first
      | (go_at_call 22; ((with_reducible refine (st_same HBX.out HP.out HQ.out _ ?_).mono ?_)); (go_split_ands; assumption); rintro e w' ⟨rfl, hst'⟩; rw [HSM.out])
      | (go_at_call 22; ((with_reducible refine (st_same' HBX.out HP.out HQ.out _ ?_).mono ?_)); (go_split_ands; assumption); rintro e w' ⟨rfl, hst'⟩; rw [HSM.out])
      | (go_at_call 19; ((with_reducible refine (st_rsame HBX.out HP.out HQ.out _ ?_).mono ?_)); (go_split_ands; assumption); rintro e w' ⟨rfl, hst'⟩; rw [HSM.out]))
  obtain ⟨p0, p1, p2, p3, hb3⟩ := hst'
  have HB3 := hb3
  have hmp := much_parts HM1.out
  have hn12 : n ≤ 12 := by rw [← HP.out.2.1]; exact hmp.1
  have HM200 := Lib.hid hmp.2
  clear hmp hb3 p2 p3
  go_wp2_with (first
    | (go_at_call 23; refine (copy_any _ _ _ _ _ ks (HP.out.2.below HB3.out (Nat.le_refl _)) hn12 HM200.out ha).mono ?_; rintro e w4 ⟨a4, c4, rfl, hsl4, hcop4, hb4⟩; refine Hid.out ?_))
  have hsw : w.heap.size + 1 < wb.heap.size := heap_lt HBX.out.2
  have hs3 : wb.heap.size ≤ w'.heap.size := HB3.out.size
  have hs4 : w'.heap.size ≤ w4.heap.size := hb4.size
  have abox : w4.heap[w.heap.size]? = some (.cells #[.int .i64 x, .slice a n c] 24) := (hb4.block _ (by omega)).trans ((HBX.out.next HB3.out).1)
  obtain ⟨wc, hwc⟩ : ∃ wc, wc = w4.alloc (.cells #[.int .i64 x, .slice a4 n c4] 24) := ⟨_, rfl⟩
  have cbox : wc.heap[w4.heap.size]? = some (.cells #[.int .i64 x, .slice a4 n c4] 24) := by rw [hwc]; exact heap_alloc_new _ _
  have hsc : wc.heap.size = w4.heap.size + 1 := by rw [hwc]; simp
  have aboxc : wc.heap[w.heap.size]? = some (.cells #[.int .i64 x, .slice a n c] 24) := by rw [hwc]; exact (heap_alloc_old _ _ (by omega)).trans abox
  have hbc : Below w4.heap.size w4 wc := by rw [hwc]; exact (Below.refl _ _).alloc (Nat.le_refl _) _
  have hcopc : Cop w'.heap.size wc a4 n ks := hcop4.keep (X := w4.heap.size) (Keep.below _ hbc) (fun _ h => by have := heap_lt h; omega) (fun _ h => by have := heap_lt h; omega)
  have hpa : ProgAt wc a n ⟨x, ks⟩ := ((HP.out.below HB3.out (Nat.le_refl _)).below hb4 (Nat.le_refl _)).below hbc (Nat.le_refl _)
  have hpc : ProgAt wc a4 n ⟨x, ks⟩ := ⟨hpa.1, hcopc.kinds (by omega)⟩
  have HWC := Lib.hid hwc
  have HCB := Lib.hid cbox
  have HAB := Lib.hid aboxc
  have HSC := Lib.hid hsc
  have HPA := Lib.hid hpa
  have HPC := Lib.hid hpc
  have HCOP := Lib.hid hcopc
  have HBBC := Lib.hid (show Below wb.heap.size wb wc from (HB3.out.trans (hb4.mono hs3)).trans (hbc.mono (by omega)))
  have HBW := Lib.hid (show Below w.heap.size w wc from (HB0.out.trans (HB3.out.mono (by omega))).trans ((hb4.mono (by omega)).trans (hbc.mono (by omega))))
  have q0 : w4.cell? ⟨w.heap.size, 0, none⟩ = some (.int .i64 x) := by rw [cell_of_row _ _ _ _ _ _ abox]; rfl
  have q1 : w4.cell? ⟨w.heap.size, 1, none⟩ = some (.slice a n c) := by rw [cell_of_row _ _ _ _ _ _ abox]; rfl
  have hsw4 : w.heap.size < w4.heap.size := by omega
  clear hwc cbox aboxc hsc hpa hpc hcopc abox hsl4 hcop4 hbc p0 p1
  have HB4 := Lib.hid hb4
  clear hb4
  refine Lib.hid ?_
  go_wp2_with (first
    | (go_at_call 22; rw [← HWC.out]; refine (same_any _ _ _ _ _ _ _ ⟨x, ks⟩ ⟨x, ks⟩ HPC.out HPA.out).mono ?_; rintro e w5 ⟨rfl, hb5⟩; rw [sameP_self]; refine Hid.out ?_))
  have aw5 := (hb5.block w.heap.size (by have := HSC.out; omega)).trans HAB.out
  have cw5 := (hb5.block w4.heap.size (by have := HSC.out; omega)).trans HCB.out
  have q2 : w5.cell? ⟨w.heap.size, 0, none⟩ = some (.int .i64 x) := by rw [cell_of_row _ _ _ _ _ _ aw5]; rfl
  have q3 : w5.cell? ⟨w.heap.size, 1, none⟩ = some (.slice a n c) := by rw [cell_of_row _ _ _ _ _ _ aw5]; rfl
  have q4 : w5.cell? ⟨w4.heap.size, 0, none⟩ = some (.int .i64 x) := by rw [cell_of_row _ _ _ _ _ _ cw5]; rfl
  have q5 : w5.cell? ⟨w4.heap.size, 1, none⟩ = some (.slice a4 n c4) := by rw [cell_of_row _ _ _ _ _ _ cw5]; rfl
  have HB5 := Lib.hid hb5
  clear hb5 aw5 cw5 q0 q1
  refine Lib.hid ?_
  go_wp2_with (first
    | (go_at_call 19; refine (rsame_any _ _ _ _ _ _ _ ⟨x, ks⟩ ⟨x, ks⟩ (HPC.out.below HB5.out (Nat.le_refl _)) (HPA.out.below HB5.out (Nat.le_refl _))).mono ?_; rintro e w6 ⟨rfl, hb6⟩; rw [sameP_self]; refine Hid.out ?_))
  have HB6 := Lib.hid (HB5.out.trans (hb6.mono HB5.out.size))
  clear hb6 q2 q3 q4 q5 HB5
  have aw6 := (HB6.out.block w.heap.size (by have := HSC.out; omega)).trans HAB.out
  have cw6 := (HB6.out.block w4.heap.size (by have := HSC.out; omega)).trans HCB.out
  have q1 : w6.cell? ⟨w.heap.size, 1, none⟩ = some (.slice a n c) := by rw [cell_of_row _ _ _ _ _ _ aw6]; rfl
  have q2 : w6.cell? ⟨w4.heap.size, 1, none⟩ = some (.slice a4 n c4) := by rw [cell_of_row _ _ _ _ _ _ cw6]; rfl
  have HA6 := Lib.hid aw6
  have HC6 := Lib.hid cw6
  clear aw6 cw6
  have HB6W := Lib.hid (HBW.out.trans (HB6.out.mono (by have := HBW.out.size; omega)))
  have HG6 := Lib.hid (HG.out.next HB6W.out (Nat.le_refl _))
  refine Lib.hid ?_
  by_cases hi0 : i < 0
  · go_wp2_with (first
      | (go_at_call 10; refine (known_any _ HG6.out).mono ?_; rintro e w7 ⟨rfl, hb7⟩; have HB7 := Lib.hid hb7; clear hb7))
    go_ret
    exact ⟨rfl, HB6W.out.trans (HB7.out.mono HB6W.out.size)⟩
  obtain ⟨k, rfl⟩ : ∃ k : Nat, i = (k : Int) := ⟨i.toNat, by omega⟩
  by_cases hkn : n ≤ k
  · go_wp2_with (first
      | (go_at_call 10; refine (known_any _ HG6.out).mono ?_; rintro e w7 ⟨rfl, hb7⟩; have HB7 := Lib.hid hb7; clear hb7))
    go_ret
    exact ⟨rfl, HB6W.out.trans (HB7.out.mono HB6W.out.size)⟩
  have hkn' : k < n := by omega
  have hcop6 : Cop w'.heap.size w6 a4 n ks := HCOP.out.keep (X := wc.heap.size) (Keep.below _ HB6.out) (fun _ h => by have := heap_lt h; omega) (fun _ h => by have := heap_lt h; omega)
  have HCOP6 := Lib.hid hcop6
  rcases hcop6.2 with h | ⟨G, cur, rfl, hG, hh6, hcur⟩
  · omega
  obtain ⟨a', n', c', e1, e2, e3⟩ := hcur k hkn'
  have hn' := e3.1.1
  have d1 : w6.cell? ⟨G, k, none⟩ = some (.slice a' n' c') := by rw [cell_of_row _ _ _ _ _ _ hh6]; exact e1
  have HH6 := Lib.hid hh6
  have HE1 := Lib.hid e1
  have HE3 := Lib.hid e3
  have HN' := Lib.hid hn'
  have hm' := e3.1.2.2.1
  clear hcop6 hh6 hcur e1 e2 e3 hn'
  by_cases hj0 : j < 0
  · go_wp2_with (first
      | (go_at_call 10; refine (known_any _ HG6.out).mono ?_; rintro e w7 ⟨rfl, hb7⟩; have HB7 := Lib.hid hb7; clear hb7))
    go_ret
    exact ⟨rfl, HB6W.out.trans (HB7.out.mono HB6W.out.size)⟩
  obtain ⟨q, rfl⟩ : ∃ q : Nat, j = (q : Int) := ⟨j.toNat, by omega⟩
  by_cases hqn : n' ≤ q
  · go_wp2_with (first
      | (go_at_call 10; refine (known_any _ HG6.out).mono ?_; rintro e w7 ⟨rfl, hb7⟩; have HB7 := Lib.hid hb7; clear hb7))
    go_ret
    exact ⟨rfl, HB6W.out.trans (HB7.out.mono HB6W.out.size)⟩
  have hqn' : q < n' := by omega
  have HBB6 := Lib.hid (HBBC.out.trans (HB6.out.mono (by have := HBBC.out.size; omega)))
  obtain ⟨B1, off1, a1, n1, c1, rfl, hB1, f1, f2, f3⟩ := HP.out.2.cell k hkn'
  have hn1 : n1 = n' := f3.1.symm.trans HN'.out
  subst hn1
  obtain ⟨B2, off2, rfl, hB2, f4, f5⟩ := f3.cell q hqn'
  obtain ⟨bo, bu⟩ := f3.bounds q hqn'
  rcases HE3.out.2 with h | ⟨Gk, curk, rfl, hGk, hhk⟩
  · omega
  obtain ⟨G', off', e, hG', g1, g2⟩ := HE3.out.1.cell q hqn'
  cases e
  obtain ⟨⟨o, u⟩, hx⟩ : ∃ x : Ins, x = (ks.getD k []).getD q (0, 0) := ⟨_, rfl⟩
  simp only at f4 f5 g1 g2 bo bu
  rw [← hx] at f4 f5 g1 g2 bo bu
  simp only [Nat.zero_add] at f4 f5 g1 g2 bo bu
  have t1 := cell_next f1 HBB6.out
  have t2 := cell_next f4 HBB6.out
  have t3 := cell_next f5 HBB6.out
  have hfz : w6.frozen? ⟨Gk, q * 2 + 1, none⟩ = false := frozen_of_row _ _ _ _ _ hhk
  have hb16 : B1 < w6.heap.size := by have := HBB6.out.size; omega
  have hb26 : B2 < w6.heap.size := by have := HBB6.out.size; omega
  have hg6 : G < w6.heap.size := heap_lt HH6.out
  have hw46 : w4.heap.size < w6.heap.size := heap_lt HC6.out
  have HX := Lib.hid hx
  have HHK := Lib.hid hhk
  clear hx f1 f2 f3 f4 f5 hhk
  go_wp2
  obtain ⟨hzu, hz⟩ := wrap_ne u bu
  have hG7 : wb.heap.size ≤ Gk := by omega
  obtain ⟨ks', hk', hne'⟩ := cop_set HCOP6.out (by omega) Gk q k (wrap64 (u + 1)) hz curk HHK.out ⟨G, cur, n1, c', rfl, HH6.out, hkn', HE1.out, hqn'⟩
  have hnc : w4.heap.size ≠ Gk := fun e => by have h1 := HC6.out; rw [e, HHK.out] at h1; cases h1
  have hbs : Below wb.heap.size wb (w6.setCell ⟨Gk, q * 2 + 1, none⟩ (.int .i64 (wrap64 (u + 1)))) := HBB6.out.setCell hG7 _
  obtain ⟨w7, hw7⟩ : ∃ w7, w7 = (w6.setCell ⟨Gk, q * 2 + 1, none⟩ (.int .i64 (wrap64 (u + 1)))).alloc (.cells #[.int .i64 o, .int .i64 u] 49) := ⟨_, rfl⟩
  have hss : (w6.setCell ⟨Gk, q * 2 + 1, none⟩ (.int .i64 (wrap64 (u + 1)))).heap.size = w6.heap.size := by simp [World.setCell]
  have hb7 : Below w6.heap.size (w6.setCell ⟨Gk, q * 2 + 1, none⟩ (.int .i64 (wrap64 (u + 1)))) w7 := by rw [hw7]; exact (Below.refl _ _).alloc (by rw [hss]; exact Nat.le_refl _) _
  have hnew : w7.heap[w6.heap.size]? = some (.cells #[.int .i64 o, .int .i64 u] 49) := by
    rw [hw7]
    have := heap_alloc_new (w6.setCell ⟨Gk, q * 2 + 1, none⟩ (.int .i64 (wrap64 (u + 1)))) (.cells #[.int .i64 o, .int .i64 u] 49)
    rw [hss] at this
    exact this
  have hpa7 : ProgAt w7 (some ⟨B1, off1, none⟩) n ⟨x, ks⟩ := (HP.out.below hbs (Nat.le_refl _)).below hb7 (by rw [hss]; exact Nat.le_refl _)
  have hpc7 : ProgAt w7 (some ⟨G, 0, none⟩) n ⟨x, ks'⟩ := ⟨HP.out.1, hk'.below hb7 (by rw [hss]; exact Nat.le_refl _)⟩
  have hsame7 : sameP ⟨x, ks'⟩ ⟨x, ks⟩ = false := by
    unfold sameP
    rw [decide_eq_true rfl, decide_eq_false]
    · rfl
    · intro e
      simp only at e
      rw [e, ← HX.out] at hne'
      exact hzu hne'.symm
  have hst7 : St7 w7 w.heap.size w4.heap.size w6.heap.size B1 (off1 + k) B2 (off2 + q * 2) x o u (.slice (some ⟨B1, off1, none⟩) n c) (.slice (some ⟨G, 0, none⟩) n c4) (.slice (some ⟨B2, off2, none⟩) n1 c1) w7 := by
    have hcell : ∀ {p : Addr} {v : Value}, w6.cell? p = some v → p.block ≠ Gk → w7.cell? p = some v := fun {p v} h1 h2 =>
      (hb7.cell (World.block_lt_of_cell? w6 _ h1)).trans (cell_set_ne h1 h2)
    refine ⟨hcell (by rw [cell_of_row _ _ _ _ _ _ HA6.out]; rfl) (by show w.heap.size ≠ Gk; omega), hcell q1 (by show w.heap.size ≠ Gk; omega), hcell (by rw [cell_of_row _ _ _ _ _ _ HC6.out]; rfl) hnc, hcell q2 hnc, hcell t1 (by show B1 ≠ Gk; omega), hcell t2 (by show B2 ≠ Gk; omega), hcell t3 (by show B2 ≠ Gk; omega), ?_, ?_, Below.refl _ _⟩
    · rw [cell_of_row _ _ _ _ _ _ hnew]; rfl
    · rw [cell_of_row _ _ _ _ _ _ hnew]; rfl
  have hbw7 : Below w.heap.size w w7 := (HB0.out.trans (hbs.mono (by omega))).trans (hb7.mono (by omega))
  have HSM7 : Hid (∀ W, Hid (Below w7.heap.size w7 W) → Calls Tryd.prog 22 #[.agg #[.int .i64 x, .slice (some ⟨G, 0, none⟩) n c4], .agg #[.int .i64 x, .slice (some ⟨B1, off1, none⟩) n c]] W (Tells7 false (fun W => St7 w7 w.heap.size w4.heap.size w6.heap.size B1 (off1 + k) B2 (off2 + q * 2) x o u (.slice (some ⟨B1, off1, none⟩) n c) (.slice (some ⟨G, 0, none⟩) n c4) (.slice (some ⟨B2, off2, none⟩) n1 c1) W))) := fun W hb =>
    (same_any W _ _ n n c4 c ⟨x, ks'⟩ ⟨x, ks⟩ (hpc7.below hb.out (Nat.le_refl _)) (hpa7.below hb.out (Nat.le_refl _))).mono fun _ _ ⟨he, h⟩ => ⟨by rw [he, hsame7], st7_next hst7 (hb.out.trans (h.mono hb.out.size))⟩
  have HKN7 : Hid (∀ W, Hid (Below w7.heap.size w7 W) → Calls Tryd.prog 10 #[] W (Tells7 true (fun W => St7 w7 w.heap.size w4.heap.size w6.heap.size B1 (off1 + k) B2 (off2 + q * 2) x o u (.slice (some ⟨B1, off1, none⟩) n c) (.slice (some ⟨G, 0, none⟩) n c4) (.slice (some ⟨B2, off2, none⟩) n1 c1) W))) := fun W hb =>
    (known_any W (HG.out.next (hbw7.trans (hb.out.mono hbw7.size)) (Nat.le_refl _))).mono fun _ _ ⟨he, h⟩ => ⟨he, st7_next hst7 (hb.out.trans (h.mono hb.out.size))⟩
  have HBW7 := Lib.hid hbw7
  have heq : ∀ w, (binOp .eql 49 (.agg #[.int .i64 o, .int .i64 u]) (.agg #[.int .i64 o, .int .i64 u])).run Tryd.prog w = .ok (.bool true) w := fun w => by rw [insEq]; simp
  have hgd := fun (op : BinOp) (x y : Operand) (xs ys : Array Value) (w : World) => run_eqGuard_agg (P := Tryd.prog) w op 49 x y xs ys insGuard
  rw [← hw7]
  clear hw7 hss hb7 hnew hpa7 hpc7 hsame7 hbw7 hbs hk' hne' q1 q2 d1 t1 t2 t3 g1 g2 hfz
  go_region_held3 (fun W => St7 w7 w.heap.size w4.heap.size w6.heap.size B1 (off1 + k) B2 (off2 + q * 2) x o u (.slice (some ⟨B1, off1, none⟩) n c) (.slice (some ⟨G, 0, none⟩) n c4) (.slice (some ⟨B2, off2, none⟩) n1 c1) W) (first | assumption | exact st7_drew hst7)
    (first
      | (go_at_call 22; ((with_reducible refine (HSM7.out _ ?_).mono ?_)); (go_split_ands; assumption); rintro e w' ⟨rfl, hst'⟩)
      | (go_at_call 10; ((with_reducible refine (HKN7.out _ ?_).mono ?_)); (go_split_ands; assumption); rintro e w' ⟨rfl, hst'⟩))
  have HFIN := Lib.hid hst'.2.2.2.2.2.2.2.2.2.out
  clear hst' hst7
  go_wp2
  go_ret
  exact ⟨rfl, HBW7.out.trans (HFIN.out.mono HBW7.out.size)⟩

set_option maxHeartbeats 2000000 in
set_option maxRecDepth 100000 in
theorem copies_much (w : World) (a b : Option Addr) (n m c d : Nat) (x y i j : Int) (ks ls : List (List Ins)) (hG : Glo w) (hp : ProgAt w a n ⟨x, ks⟩) (hq : ProgAt w b m ⟨y, ls⟩)
    (hm : muchB ⟨x, ks⟩ = true ∨ (muchB ⟨x, ks⟩ = false ∧ muchB ⟨y, ls⟩ = true)) :
    Calls Tryd.prog 6 #[.agg #[.int .i64 x, .slice a n c], .agg #[.int .i64 y, .slice b m d], .int .i64 i, .int .i64 j] w (TellsBB true w) := by
  obtain ⟨wb, hwb⟩ : ∃ wb, wb = (w.alloc (.cells #[.int .i64 x, .slice a n c] 24)).alloc (.cells #[.int .i64 y, .slice b m d] 24) := ⟨_, rfl⟩
  have hb0 : Below w.heap.size w wb := by rw [hwb]; exact ((Below.refl _ _).alloc (Nat.le_refl _) _).alloc (by simp) _
  have hbx : Boxes wb w.heap.size x y a b n m c d := by rw [hwb]; exact Boxes.mk' w x y a b n m c d
  have hpb := hp.below hb0 (Nat.le_refl _)
  have hqb := hq.below hb0 (Nat.le_refl _)
  have HWB := Lib.hid hwb
  have HB0 := Lib.hid hb0
  have HBX := Lib.hid hbx
  have HP := Lib.hid hpb
  have HQ := Lib.hid hqb
  have HG := Lib.hid hG
  have HST := Lib.hid (st_of hbx (Below.refl _ _))
  clear hwb hb0 hbx hpb hqb hG hp hq
  rcases hm with hm | ⟨hm1, hm2⟩
  · have HM := Lib.hid hm
    clear hm
    go_enter Tryd.func6, Tryd.ntmps6
    go_wp2_with (first
      | (go_at_call 9; rw [← HWB.out]; refine (st_much HBX.out HP.out _ HST.out.2.2.2.2).mono ?_; rintro e w1 ⟨rfl, hst⟩; rw [HM.out]; have HB1 := Lib.hid (HB0.out.trans (hst.2.2.2.2.out.mono HB0.out.size)); clear hst)
      | (go_at_call 10; refine (known_any _ (HG.out.next HB1.out (Nat.le_refl _))).mono ?_; rintro e w2 ⟨rfl, hb2⟩; have HB2 := Lib.hid hb2; clear hb2))
    go_ret
    exact ⟨rfl, HB1.out.trans (HB2.out.mono HB1.out.size)⟩
  · have HM1 := Lib.hid hm1
    have HM2 := Lib.hid hm2
    clear hm1 hm2
    go_enter Tryd.func6, Tryd.ntmps6
    go_wp2_with (first
      | (go_at_call_of 9 (Value.agg #[.int .i64 x, .slice a n c]); rw [← HWB.out]; refine (st_much HBX.out HP.out _ HST.out.2.2.2.2).mono ?_; rintro e w1 ⟨rfl, hst⟩; rw [HM1.out]; have HST1 := Lib.hid hst; refine Hid.out ?_))
    obtain ⟨p0, p1, p2, p3, -⟩ := HST1.out
    clear hst
    refine Lib.hid ?_
    go_wp2_with (first
      | (go_at_call 9; refine (st_much' HBX.out HQ.out _ HST1.out.2.2.2.2).mono ?_; rintro e w2 ⟨rfl, hst⟩; rw [HM2.out]; have HB1 := Lib.hid (HB0.out.trans (hst.2.2.2.2.out.mono HB0.out.size)); clear hst)
      | (go_at_call 10; refine (known_any _ (HG.out.next HB1.out (Nat.le_refl _))).mono ?_; rintro e w3 ⟨rfl, hb2⟩; have HB2 := Lib.hid hb2; clear hb2))
    go_ret
    exact ⟨rfl, HB1.out.trans (HB2.out.mono HB1.out.size)⟩
theorem copies_any (w : World) (a b : Option Addr) (n m c d : Nat) (x y i j : Int) (ks ls : List (List Ins)) (hG : Glo w) (hp : ProgAt w a n ⟨x, ks⟩) (hq : ProgAt w b m ⟨y, ls⟩) (ha : SlOk a n c) :
    Calls Tryd.prog 6 #[.agg #[.int .i64 x, .slice a n c], .agg #[.int .i64 y, .slice b m d], .int .i64 i, .int .i64 j] w (TellsBB true w) := by
  rcases h1 : muchB ⟨x, ks⟩ with _ | _
  · rcases h2 : muchB ⟨y, ls⟩ with _ | _
    · exact copies_law w a b n m c d x y i j ks ls hG hp hq ha h1 h2
    · exact copies_much w a b n m c d x y i j ks ls hG hp hq (.inr ⟨h1, h2⟩)
  · exact copies_much w a b n m c d x y i j ks ls hG hp hq (.inl h1)
end Go.Proofs.YtlgbkbmjfmomkaaDoor
