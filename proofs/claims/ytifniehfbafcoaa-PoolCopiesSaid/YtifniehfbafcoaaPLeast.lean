/-
  The walk of the pool's Least.
-/
import Derived.Test.YtifniehfbafcoaaPOlder
namespace Go.Proofs.Ytifniehfbafcoaa
open Go Go.Shelf Go.RowKit Go.Lib Go.Sort Go.Proofs

attribute [local go_sem] Oper.semAt_some

theorem oless_k {x y : Ky} {t : Bool} (ht : t = kLt x y) (w : World) : Calls Try.prog 34 #[KyV x, KyV y] w (GrewB t w) := by
  rw [ht]
  exact oless_any x.1 x.2.1 x.2.2 y.1 y.2.1 y.2.2 w
/-- a box of a key, stored anew -/
theorem ky_set {w : World} {B : Nat} {k : Ky} (h : w.heap[B]? = some (KyO k)) (k' : Ky) :
    (((w.setCell ⟨B, 0, none⟩ (.int .i64 k'.1)).setCell ⟨B, 1, none⟩ (.int .i64 k'.2.1)).setCell ⟨B, 2, none⟩ (.int .i64 k'.2.2)).heap[B]? = some (KyO k') := by
  have h1 := heap_setCell_same w B 0 _ _ (.int .i64 k'.1) h
  have h2 := heap_setCell_same _ B 1 _ _ (.int .i64 k'.2.1) h1
  have h3 := heap_setCell_same _ B 2 _ _ (.int .i64 k'.2.2) h2
  rw [h3]
  rfl
theorem ky_cells {w : World} {B : Nat} {k : Ky} (h : w.heap[B]? = some (KyO k)) : (w.cell? ⟨B, 0, none⟩ = some (.int .i64 k.1) ∧ w.cell? ⟨B, 1, none⟩ = some (.int .i64 k.2.1) ∧ w.cell? ⟨B, 2, none⟩ = some (.int .i64 k.2.2)) ∧ w.frozen? ⟨B, 0, none⟩ = false ∧ w.frozen? ⟨B, 1, none⟩ = false ∧ w.frozen? ⟨B, 2, none⟩ = false :=
  ⟨⟨by rw [cell_of_row _ _ _ _ _ _ h]; rfl, by rw [cell_of_row _ _ _ _ _ _ h]; rfl, by rw [cell_of_row _ _ _ _ _ _ h]; rfl⟩, frozen_of_row _ _ _ _ _ h, frozen_of_row _ _ _ _ _ h, frozen_of_row _ _ _ _ _ h⟩
/-- the state behind a message that is the least one so far -/
theorem least_next {z P1 P2 : Nat} {w1 W : World} {F : Nat → Prop} {B : Nat} {k x : Ky} {b b' : Bool} {G : World} (hP1 : P1 = z + 1) (hP2 : P2 = z + 2) (hB1 : Below z w1 W) (h1 : W.heap[P1]? = some (KyO k)) (h2 : Boxed W P2 4 (.bool b)) (h3 : W.heap[z]? = some (KyO (0, 0, 0))) (g : Gw W G) (hF : ∀ b, F b → b < z) :
    ∀ W', W' = (((G.setCell ⟨P1, 0, none⟩ (.int .i64 x.1)).setCell ⟨P1, 1, none⟩ (.int .i64 x.2.1)).setCell ⟨P1, 2, none⟩ (.int .i64 x.2.2)).setCell ⟨P2, 0, none⟩ (.bool b') →
    KeepsFrom B W W' ∧ KpF F W W' ∧ (W'.heap[P1]? = some (KyO x) ∧ Boxed W' P2 4 (.bool b') ∧ W'.heap[z]? = some (KyO (0, 0, 0))) ∧ Below z w1 W' := by
  intro W' hW
  have hl1 := (Array.getElem?_eq_some_iff.1 h1).1
  have hl2 := h2.lt
  have hl3 := (Array.getElem?_eq_some_iff.1 h3).1
  have g1 : G.heap[P1]? = some (KyO k) := (g.block hl1).trans h1
  have g2 : Boxed G P2 4 (.bool b) := (g.block hl2).trans h2
  have g3 : G.heap[z]? = some (KyO (0, 0, 0)) := (g.block hl3).trans h3
  have n12 : P2 ≠ P1 := by omega
  have k1 := ky_set g1 x
  obtain ⟨G3, hG3⟩ : ∃ G3, G3 = ((G.setCell ⟨P1, 0, none⟩ (.int .i64 x.1)).setCell ⟨P1, 1, none⟩ (.int .i64 x.2.1)).setCell ⟨P1, 2, none⟩ (.int .i64 x.2.2) := ⟨_, rfl⟩
  rw [← hG3] at k1 hW
  have hb3 : But (fun b => b = P1) G G3 := by
    rw [hG3]
    exact (((But.refl (fun b => b = P1) G).setCell (p := ⟨P1, 0, none⟩) rfl _).setCell (p := ⟨P1, 1, none⟩) rfl _).setCell (p := ⟨P1, 2, none⟩) rfl _
  have hb4 : But (fun b => b = P2) G3 W' := by
    rw [hW]
    exact (But.refl (fun b => b = P2) G3).setCell (p := ⟨P2, 0, none⟩) rfl _
  have hb : But (fun b => b = P1 ∨ b = P2) W W' := ((But.of g.below).trans (hb3.mono fun _ _ e => .inl e)).trans (hb4.mono fun _ _ e => .inr e)
  have g23 : Boxed G3 P2 4 (.bool b) := (hb3.block _ g2.lt n12).trans g2
  have hB : Below z W W' := hb.below (Nat.le_of_lt hl3) fun q e => by rcases e with e | e <;> omega
  clear hG3
  refine ⟨⟨hb.size, fun q o _ hq hoc => ?_⟩, ⟨hb.size, fun q e _ => hB.block q (hF q e)⟩, ⟨?_, ?_, ?_⟩, hB1.trans hB⟩
  · refine (hb.block q (Array.getElem?_eq_some_iff.1 hq).1 fun e => ?_).trans hq
    rcases e with e | e
    · rw [e, h1] at hq
      cases hq
      cases hoc
    · rw [e, show W.heap[P2]? = _ from h2] at hq
      cases hq
      cases hoc
  · exact (hb4.block P1 (Array.getElem?_eq_some_iff.1 k1).1 (fun e => n12 e.symm)).trans k1
  · rw [hW]
    exact g23.set _
  · refine (hb4.block z ?_ (by omega)).trans ((hb3.block z (Array.getElem?_eq_some_iff.1 g3).1 (by omega)).trans g3)
    exact Nat.lt_of_lt_of_le (Array.getElem?_eq_some_iff.1 g3).1 hb3.size
set_option maxRecDepth 100000 in
set_option maxHeartbeats 8000000 in
theorem pl_least {w : World} {G : Nat} {F : Nat → Prop} {x : List Ms × Nat} (h : Pl w G F x) : Calls Try.prog 23 #[.pointer (some ⟨G, 0, none⟩)] w (LeastTo (lst x.1) w) := by
  have mixed : Try.prog.follows .mixedOrders = true := by kernel_rfl
  obtain ⟨v, vs, bs, hx, hfl, hn1, hn2, hn3⟩ := h
  obtain ⟨w1, hw1⟩ : ∃ w1, w1 = (((w.alloc (KyO (0, 0, 0))).alloc (KyO (0, 0, 0))).alloc (.cells #[.bool false] 4)).alloc (.cells #[.pointer (some ⟨G, 0, none⟩)] 24) := ⟨_, rfl⟩
  have hb1 : Below w.heap.size w w1 := by rw [hw1]; exact ((((Below.refl _ _).alloc (Nat.le_refl _) _).alloc (by simp) _).alloc (by simp; omega) _).alloc (by simp; omega) _
  have hsz : w1.heap.size = w.heap.size + 4 := by rw [hw1]; simp
  have hbr : w1.heap[w.heap.size]? = some (KyO (0, 0, 0)) := by
    rw [hw1, heap_alloc_old _ _ (by simp; omega), heap_alloc_old _ _ (by simp; omega), heap_alloc_old _ _ (by simp)]
    exact heap_alloc_new _ _
  have hbk : w1.heap[w.heap.size + 1]? = some (KyO (0, 0, 0)) := by
    rw [hw1, heap_alloc_old _ _ (by simp), heap_alloc_old _ _ (by simp)]
    have := heap_alloc_new (w.alloc (KyO (0, 0, 0))) (KyO (0, 0, 0))
    rw [World.size_alloc] at this
    exact this
  have hbf : Boxed w1 (w.heap.size + 2) 4 (.bool false) := by
    rw [hw1]
    have := Boxed.new ((w.alloc (KyO (0, 0, 0))).alloc (KyO (0, 0, 0))) 4 (.bool false)
    simp only [World.size_alloc] at this
    exact this.alloc _
  have hS : w1.heap[w.heap.size + 3]? = some (.cells #[.pointer (some ⟨G, 0, none⟩)] 24 (0, 0)) := by
    rw [hw1]
    have := heap_alloc_new (((w.alloc (KyO (0, 0, 0))).alloc (KyO (0, 0, 0))).alloc (.cells #[.bool false] 4)) (.cells #[.pointer (some ⟨G, 0, none⟩)] 24)
    simp only [World.size_alloc] at this
    exact this
  have hF : ∀ b, F b → b < w.heap.size := hx.lt
  have HX : Hid (PlX w1 G F v vs bs x.1.length x.2) := hx.below hb1
  obtain ⟨L, hL⟩ : ∃ L, L = bs.flatten := ⟨_, rfl⟩
  have HL : Hid (L = bs.flatten ∧ L = x.1 ∧ bs.length ≤ 1000000 ∧ L.length ≤ 1000000) := ⟨hL, by rw [hL, hfl], by omega, by rw [hL, hfl]; omega⟩
  rw [← HL.out.2.1]
  have HW1 := Lib.hid hw1
  clear hx hfl hn1 hn2 hn3 hL hw1
  refine (callsIn_wide (n := 6)).1 ?_
  refine callsIn_of_wp_marks Try.func23 rfl trivial ?_ rfl
  simp only [Try.ntmps23, List.size_toArray, List.length_cons, List.length_nil, Nat.reduceAdd, Nat.reduceSub, Array.replicate_succ, Array.replicate_zero, List.push_toArray, List.append_toArray, List.nil_append, List.cons_append]
  gi_wp2_with (refine ⟨trivial, ?_⟩; gi_at_call 33; refine (callsIn_wide.2 (each_any _ G)).mono ?_; rintro e w2 ⟨rfl, rfl⟩; rw [← HW1.out])
  all_goals
    refine wpIn_rangeFunc_ownH rfl (by decide) (gf := 40) (lb := #[.pointer (some ⟨w.heap.size + 3, 0, none⟩)]) (by simp [Act.eval]) trivial (enters_of Try.func40 (by kernel_rfl) rfl)
      (each_stops Fence.wide 5 trivial rfl (by decide) (w.heap.size + 3) G F v vs bs _ _ w1 hS HX.out HL.out.2.2.1) KpF.trans (kpF_b fun b e => by have := hF b e; omega) (Below.refl _ _) (fun _ => rfl)
      (fun pre W => (W.heap[w.heap.size + 1]? = some (KyO (lst pre).1) ∧ Boxed W (w.heap.size + 2) 4 (.bool (lst pre).2) ∧ W.heap[w.heap.size]? = some (KyO (0, 0, 0))) ∧ Below w.heap.size w1 W)
      (fun cd pre W => False)
      (OwnFrom.and (OwnFrom.and (Own.from (cells_own _ _ (fun _ => rfl)) _) (OwnFrom.and (Own.from (boxed_own _ _ _) _) (Own.from (cells_own _ (fun _ => KyO (0, 0, 0)) (fun _ => rfl)) _))) (ownFrom_below (by omega) (by omega)))
      (fun cd => ownFrom_pure _ _)
      ⟨⟨hbk, hbf, hbr⟩, Below.refl _ _⟩
      (fun x a' W => ∃ Bx, w1.heap.size ≤ Bx ∧ W.heap[Bx]? = some (MsO x) ∧ a' = { tmps := #[.pointer (some ⟨G, 0, none⟩), undef, .pointer (some ⟨w.heap.size, 0, none⟩), .bool false, .pointer (some ⟨w.heap.size + 1, 0, none⟩), .pointer (some ⟨w.heap.size + 2, 0, none⟩), .pointer (some ⟨Bx, 0, none⟩), .pointer (some ⟨G, 0, none⟩), .func (.func 40) #[] #[.pointer (some ⟨w.heap.size + 3, 0, none⟩)], MsV x, undef, undef, undef, undef, undef, undef, undef, undef, undef, undef, undef, undef, undef, undef], defers := [] })
      (fun x a' _ X Y row hs hg hr => by
        obtain ⟨Bx, h1, h2, h3⟩ := hs
        exact ⟨Bx, h1, (hg.block Bx (Array.getElem?_eq_some_iff.1 h2).1 (fun e => by obtain ⟨_, o, ho, hoc⟩ := hr Bx e.symm; rw [h2] at ho; cases ho; cases hoc)).trans h2, h3⟩)
      ?assign ?body ?done ?stop
  case assign =>
    rintro l pre x W K ⟨⟨hv, hf, hm1⟩, hB1⟩ hK
    gi_wp2
    exact hK _ _ ((KeepsOthers.alloc _ _).from _) ((KpF.refl _ _).alloc _) ⟨⟨(heap_alloc_old _ _ (Array.getElem?_eq_some_iff.1 hv).1).trans hv, hf.alloc _, (heap_alloc_old _ _ (Array.getElem?_eq_some_iff.1 hm1).1).trans hm1⟩, hB1.alloc (by have := hB1.size; omega) _⟩ ⟨W.heap.size, hB1.size, heap_alloc_new _ _, rfl⟩
  case body =>
    rintro l pre x a' W hl ⟨r, hr⟩ ⟨⟨hv, hf, hm1⟩, hB1⟩ ⟨Bx, hBx, bX, rfl⟩ hlt
    have hsW := hB1.size
    obtain ⟨⟨x0, x1, x2, -⟩, -⟩ := box_lit bX
    rcases hs : lst pre with ⟨k, b⟩
    have HST : Hid (lst (pre ++ [x]) = stp (k, b) x) := by show _ = _; rw [lst_snoc, hs]
    rw [hs] at hv hf
    obtain ⟨⟨k0, k1, k2⟩, e0, e1, e2⟩ := ky_cells hv
    have hfc := hf.cell
    have hff := hf.frozen
    have HV := Lib.hid (And.intro hv (And.intro hf (And.intro hm1 hB1)))
    clear hs hv hf hm1
    cases b with
    | false =>
      have HE : Hid (lst (pre ++ [x]) = (x.1.1, true)) := HST.out.trans rfl
      gi_wp2_with (refine ⟨trivial, ?_⟩)
      have := least_next (B := w.heap.size + 4) (F := F) (x := x.1.1) (b' := true) rfl rfl HV.out.2.2.2 HV.out.1 HV.out.2.1 HV.out.2.2.1 (Gw.refl W) hF _ rfl
      refine ⟨this.1, this.2.1, ⟨?_, ?_, this.2.2.1.2.2⟩, this.2.2.2⟩
      · rw [HE.out]
        exact this.2.2.1.1
      · rw [HE.out]
        exact this.2.2.1.2.1
    | true =>
      cases ht : kLt x.1.1 k with
      | true =>
        have HT : Hid (true = kLt x.1.1 k) := ht.symm
        have HE : Hid (lst (pre ++ [x]) = (x.1.1, true)) := by show _ = _; rw [HST.out]; simp [stp, ht]
        clear ht
        gi_wp2_with (refine ⟨trivial, ?_⟩; gi_at_call 34; refine CallsIn.inRound l (callsIn_wide.2 ((oless_k HT.out W).mono ?_)); rintro e w2 ⟨rfl, os, hos⟩; subst hos; refine Hid.out ?_)
        have g : Gw W (grow W os) := (Gw.refl W).grow os
        have HG := Lib.hid g
        obtain ⟨⟨y0, y1, y2⟩, e0', e1', e2'⟩ := ky_cells ((g.block (Array.getElem?_eq_some_iff.1 HV.out.1).1).trans HV.out.1)
        have hf2 : Boxed (grow W os) (w.heap.size + 2) 4 (.bool true) := (g.block HV.out.2.1.lt).trans HV.out.2.1
        have hfc2 := hf2.cell
        have hff2 := hf2.frozen
        have z0 := g.cell x0
        have z1 := g.cell x1
        have z2 := g.cell x2
        clear hf2 g
        generalize grow W os = W2 at *
        refine Lib.hid ?_
        gi_wp2
        have := least_next (B := w1.heap.size) (F := F) (x := x.1.1) (b' := true) rfl rfl HV.out.2.2.2 HV.out.1 HV.out.2.1 HV.out.2.2.1 HG.out hF _ rfl
        refine ⟨this.1, this.2.1, ⟨?_, ?_, this.2.2.1.2.2⟩, this.2.2.2⟩
        · rw [HE.out]
          exact this.2.2.1.1
        · rw [HE.out]
          exact this.2.2.1.2.1
      | false =>
        have HT : Hid (false = kLt x.1.1 k) := ht.symm
        have HE : Hid (lst (pre ++ [x]) = (k, true)) := by show _ = _; rw [HST.out]; simp [stp, ht]
        clear ht
        gi_wp2_with (refine ⟨trivial, ?_⟩; gi_at_call 34; refine CallsIn.inRound l (callsIn_wide.2 ((oless_k HT.out W).mono ?_)); rintro e w2 ⟨rfl, os, hos⟩; subst hos)
        have g : Gw W (grow W os) := (Gw.refl W).grow os
        have hb2 := g.below
        refine ⟨(keeps_gw g).from _, ⟨hb2.size, fun b e hb => hb2.block b hb⟩, ?_, HV.out.2.2.2.trans (hb2.mono (by omega))⟩
        rw [HE.out]
        exact ⟨(g.block (Array.getElem?_eq_some_iff.1 HV.out.1).1).trans HV.out.1, (g.block HV.out.2.1.lt).trans HV.out.2.1, (g.block (Array.getElem?_eq_some_iff.1 HV.out.2.2.1).1).trans HV.out.2.2.1⟩
  case done =>
    rintro D xs W hD rfl ⟨⟨hv, hf, hm1⟩, hB1⟩ hK
    have hLL := HL.out.1
    rw [← hLL] at hv hf
    obtain ⟨⟨k0, k1, k2⟩, -, -, -⟩ := ky_cells hv
    obtain ⟨⟨r0, r1, r2⟩, g0, g1, g2⟩ := ky_cells hm1
    have hfc := hf.cell
    have HV := Lib.hid (And.intro hm1 (And.intro hB1 hK))
    clear hv hf hm1
    gi_wp2_with fail
    refine wpIn_mono (Q := NoPanic _) ?_ NoPanic.imp
    gi_region
    all_goals
      refine NoPanic.normal ?_
      gi_wp2
      have hDn : D ≠ w.heap.size := by omega
      have hK' : ((((W.setCell ⟨w.heap.size, 0, none⟩ (.int .i64 (lst bs.flatten).1.1)).setCell ⟨w.heap.size, 1, none⟩ (.int .i64 (lst bs.flatten).1.2.1)).setCell ⟨w.heap.size, 2, none⟩ (.int .i64 (lst bs.flatten).1.2.2)).drew).heap[D]? = some (.deferred (some [])) := by
        show (((W.setCell _ _).setCell _ _).setCell _ _).heap[D]? = _
        rw [heap_setCell_other _ _ _ _ hDn, heap_setCell_other _ _ _ _ hDn, heap_setCell_other _ _ _ _ hDn]
        exact hK
      refine ⟨by simp, .inl ⟨_, _, rfl, run_takeDeferred hK', ?_⟩⟩
      obtain ⟨W4, hW4⟩ : ∃ W4, W4 = (((W.setCell ⟨w.heap.size, 0, none⟩ (.int .i64 (lst bs.flatten).1.1)).setCell ⟨w.heap.size, 1, none⟩ (.int .i64 (lst bs.flatten).1.2.1)).setCell ⟨w.heap.size, 2, none⟩ (.int .i64 (lst bs.flatten).1.2.2)).drew := ⟨_, rfl⟩
      have h4 : W4.heap[w.heap.size]? = some (KyO (lst bs.flatten).1) := by rw [hW4]; exact ky_set HV.out.1 _
      have hb4 : Below w.heap.size W W4 := by
        rw [hW4]
        exact ((((Below.refl w.heap.size W).setCell (p := ⟨w.heap.size, 0, none⟩) (Nat.le_refl _) _).setCell (p := ⟨w.heap.size, 1, none⟩) (Nat.le_refl _) _).setCell (p := ⟨w.heap.size, 2, none⟩) (Nat.le_refl _) _).drew
      rw [← hW4] at hK' ⊢
      clear hW4
      have h5 : (W4.putObj D (.deferred none)).heap[w.heap.size]? = some (KyO (lst bs.flatten).1) := (World.putObj_heap_other (fun e => hDn e.symm)).trans h4
      obtain ⟨⟨c0, c1, c2⟩, -⟩ := ky_cells h5
      refine ⟨.tuple #[KyV (lst bs.flatten).1, .bool (lst bs.flatten).2], by simp [results, Try.results23, go_sem, c0, c1, c2], by rw [hLL], ((hb1.trans hB1).trans hb4).trans (belowK_b (w := w) (Nat.le_refl _) W4 D _ _ (by omega) hK' rfl rfl)⟩
  case stop =>
    rintro D cd pre W hD hpre h hK
    exact h.elim
end Go.Proofs.Ytifniehfbafcoaa
