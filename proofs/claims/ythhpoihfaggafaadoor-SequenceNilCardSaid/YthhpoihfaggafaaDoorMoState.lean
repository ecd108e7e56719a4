/-
  The walks of SameState (both), CopyState.
-/
import Derived.Test.YthhpoihfaggafaaDoorMoClone
import Derived.Deep.CutRange
import Derived.Deep.RegionHeld3
namespace Go.Proofs.YthhpoihfaggafaaDoor
open Go Go.RowKit Go.Sort Go.Proofs CodM VmM

abbrev stA (va : Option Addr) (vn vc : Nat) (sent drawn : Int) : Value := .agg #[.slice va vn vc, .int .i64 sent, .int .i64 drawn]

set_option maxHeartbeats 2000000 in
theorem sameState_any_in (w : World) (va vb : Option Addr) (n vc m vd : Nat) (s d s' d' : Int) (t : Bool) (hE : Hid (∀ W, Below w.heap.size w W → Calls Tryd.prog 75 #[.slice va n vc, .slice vb m vd] W (TellsE t W))) (a b : Bool) (ha : (s == s') = a) (hb : (d == d') = b) :
    Calls Tryd.prog 43 #[stA va n vc s d, stA vb m vd s' d'] w (TellsE (t && a && b) w) := by
  cases t <;> cases a <;> cases b
  all_goals
    go_enter Tryd.func43, Tryd.ntmps43
    go_upto_region 1 with fail
    obtain ⟨wb, hwb⟩ : ∃ wb, wb = (w.alloc (.cells #[.slice va n vc, .int .i64 s, .int .i64 d] 51)).alloc (.cells #[.slice vb m vd, .int .i64 s', .int .i64 d'] 51) := ⟨_, rfl⟩
    have HB0 := Lib.hid (show Below w.heap.size w wb from by rw [hwb]; exact ((Below.refl _ _).alloc (Nat.le_refl _) _).alloc (by simp) _)
    have x0 : wb.heap[w.heap.size]? = some (.cells #[.slice va n vc, .int .i64 s, .int .i64 d] 51 (0, 0)) := by rw [hwb, heap_alloc_old _ _ (by simp), heap_alloc_new]
    have x1 : wb.heap[w.heap.size + 1]? = some (.cells #[.slice vb m vd, .int .i64 s', .int .i64 d'] 51 (0, 0)) := by
      rw [hwb]
      have z : (w.alloc (.cells #[.slice va n vc, .int .i64 s, .int .i64 d] 51)).heap.size = w.heap.size + 1 := by simp
      rw [← z, heap_alloc_new]
    rw [← hwb]
    clear hwb
    have q0 : wb.cell? ⟨w.heap.size, 0, none⟩ = some (.slice va n vc) := (cell_of_row _ _ _ _ _ _ x0).trans rfl
    have q1 : wb.cell? ⟨w.heap.size, 1, none⟩ = some (.int .i64 s) := (cell_of_row _ _ _ _ _ _ x0).trans rfl
    have q2 : wb.cell? ⟨w.heap.size, 2, none⟩ = some (.int .i64 d) := (cell_of_row _ _ _ _ _ _ x0).trans rfl
    have r0 : wb.cell? ⟨w.heap.size + 1, 0, none⟩ = some (.slice vb m vd) := (cell_of_row _ _ _ _ _ _ x1).trans rfl
    have r1 : wb.cell? ⟨w.heap.size + 1, 1, none⟩ = some (.int .i64 s') := (cell_of_row _ _ _ _ _ _ x1).trans rfl
    have r2 : wb.cell? ⟨w.heap.size + 1, 2, none⟩ = some (.int .i64 d') := (cell_of_row _ _ _ _ _ _ x1).trans rfl
    clear x0 x1
    go_wp2_with (go_at_call 75; refine (hE.out _ HB0.out).mono ?_; rintro e w7 ⟨rfl, hb7⟩; have q1 := keepc hb7 q1; have q2 := keepc hb7 q2; have r1 := keepc hb7 r1; have r2 := keepc hb7 r2; have HB7 := Lib.hid (HB0.out.trans (hb7.mono HB0.out.size)); clear hb7)
    go_ret
    first | exact ⟨rfl, HB7.out⟩ | exact ⟨rfl, HB0.out⟩
theorem sameState_any (w : World) (va vb : Option Addr) (n vc m vd : Nat) (s d s' d' : Int) (l r : List Int) (hl : CV.At w va n l) (hr : CV.At w vb m r) (hn : n ≤ 1000) (hm : m ≤ 1000) :
    Calls Tryd.prog 43 #[stA va n vc s d, stA vb m vd s' d'] w (TellsE (decide (l = r) && (s == s') && (d == d')) w) :=
  sameState_any_in w va vb n vc m vd s d s' d' _ (Lib.hid fun W hb => equalV_any W va vb n m vc vd l r (hl.below hb) (hr.below hb) (by omega) (by omega)) _ _ rfl rfl

theorem CV.own_at {B : Nat} {w : World} {v : Value} {l : List Int} (h : CV.Own 2 B w v l) (hl : l.length ≤ 1000) : ∃ a c, v = .slice a l.length c ∧ CV.At w a l.length l := by
  obtain ⟨a, c, h1, _, h2, _⟩ := h.at_ (by omega)
  exact ⟨a, c, h1, h2⟩
/-- a box of another type is written -/
theorem CV.own_box {B g : Nat} {w w' : World} {v : Value} {l : List Int} (h : CV.Own 2 B w v l) {cs : Array Value} (hg : w.heap[g]? = some (.cells cs 51 (0, 0))) (hb : But (fun k => k = g) w w') : CV.Own 2 B w' v l :=
  h.but hb (fun b e => by obtain ⟨cur, hc⟩ := h.typ e; exact ne_types hc hg (by decide))
theorem put3 {w : World} {M : Nat} {T : TypeId} {x0 x1 x2 : Value} (h : w.heap[M]? = some (.cells #[x0, x1, x2] T (0, 0))) (v0 v1 v2 : Value) :
    (((w.setCell ⟨M, 0, none⟩ v0).setCell ⟨M, 1, none⟩ v1).setCell ⟨M, 2, none⟩ v2).heap[M]? = some (.cells #[v0, v1, v2] T (0, 0)) := by
  have h1 := heap_setCell_same w M 0 _ T v0 h
  have h2 := heap_setCell_same _ M 1 _ T v1 h1
  have h3 := heap_setCell_same _ M 2 _ T v2 h2
  exact h3
theorem but3 (w : World) (M : Nat) (v0 v1 v2 : Value) : But (fun k => k = M) w (((w.setCell ⟨M, 0, none⟩ v0).setCell ⟨M, 1, none⟩ v1).setCell ⟨M, 2, none⟩ v2) :=
  (((But.refl (fun k => k = M) w).setCell (p := ⟨M, 0, none⟩) rfl v0).setCell (p := ⟨M, 1, none⟩) rfl v1).setCell (p := ⟨M, 2, none⟩) rfl v2

def CopiedS (l : List Int) (s d : Int) (w : World) (e : Ending) (w' : World) : Prop := ∃ a c, e = .returned (stA a l.length c s d) ∧ CV.Own 2 w.heap.size w' (.slice a l.length c) l ∧ Below w.heap.size w w'
set_option maxHeartbeats 2000000 in
theorem copyState_any (w : World) (va : Option Addr) (vc : Nat) (s d : Int) (l : List Int) (h : CV.At w va l.length l) (hl : l.length ≤ 1000) (hnil : va = none → vc = 0) :
    Calls Tryd.prog 35 #[stA va l.length vc s d] w (CopiedS l s d w) := by
  have HC : Hid (∀ W, Below w.heap.size w W → Calls Tryd.prog 71 #[.slice va l.length vc] W (ClonedV l W)) := Lib.hid fun W hb => cloneV_any W va vc l (h.below hb) hl hnil
  have HL : Hid (l.length ≤ 1000) := Lib.hid hl
  clear h hl hnil
  obtain ⟨wb, hwb⟩ : ∃ wb, wb = (w.alloc (.cells #[.slice va l.length vc, .int .i64 s, .int .i64 d] 51)).alloc (.cells #[.slice none 0 0, .int .i64 0, .int .i64 0] 51) := ⟨_, rfl⟩
  have HB0 := Lib.hid (show Below w.heap.size w wb from by rw [hwb]; exact ((Below.refl _ _).alloc (Nat.le_refl _) _).alloc (by simp) _)
  have x0 : wb.heap[w.heap.size]? = some (.cells #[.slice va l.length vc, .int .i64 s, .int .i64 d] 51 (0, 0)) := by rw [hwb, heap_alloc_old _ _ (by simp), heap_alloc_new]
  have x1 : wb.heap[w.heap.size + 1]? = some (.cells #[.slice none 0 0, .int .i64 0, .int .i64 0] 51 (0, 0)) := by
    rw [hwb]
    have z : (w.alloc (.cells #[.slice va l.length vc, .int .i64 s, .int .i64 d] 51)).heap.size = w.heap.size + 1 := by simp
    rw [← z, heap_alloc_new]
  have q0 : wb.cell? ⟨w.heap.size, 0, none⟩ = some (.slice va l.length vc) := (cell_of_row _ _ _ _ _ _ x0).trans rfl
  obtain ⟨b, hbz⟩ : ∃ b, b = w.heap.size := ⟨_, rfl⟩
  rw [← hbz] at x0 x1 q0
  have HX := Lib.hid (And.intro x0 x1)
  have HW := Lib.hid hwb
  have HZ := Lib.hid hbz
  clear x0 x1 hwb hbz
  go_enter Tryd.func35, Tryd.ntmps35
  go_upto_region 1 with fail
  rw [← HW.out, ← HZ.out]
  go_wp2_with (go_at_call 71; refine (HC.out _ HB0.out).mono ?_; rintro e w7 ⟨v, rfl, hv, hb7⟩; obtain ⟨a, c, rfl, hat⟩ := CV.own_at hv HL.out; have r0 : w7.heap[b]? = some (.cells #[.slice va l.length vc, .int .i64 s, .int .i64 d] 51 (0, 0)) := (hb7.block _ (heap_lt HX.out.1)).trans HX.out.1; have r1 : w7.heap[b + 1]? = some (.cells #[.slice none 0 0, .int .i64 0, .int .i64 0] 51 (0, 0)) := (hb7.block _ (heap_lt HX.out.2)).trans HX.out.2; have p0 : w7.cell? ⟨b, 0, none⟩ = some (.slice va l.length vc) := (cell_of_row _ _ _ _ _ _ r0).trans rfl; have p1 : w7.cell? ⟨b, 1, none⟩ = some (.int .i64 s) := (cell_of_row _ _ _ _ _ _ r0).trans rfl; have p2 : w7.cell? ⟨b, 2, none⟩ = some (.int .i64 d) := (cell_of_row _ _ _ _ _ _ r0).trans rfl; have z0 : w7.frozen? ⟨b, 0, none⟩ = false := frozen_of_row _ _ _ _ _ r0; have u0 : w7.cell? ⟨b + 1, 0, none⟩ = some (.slice none 0 0) := (cell_of_row _ _ _ _ _ _ r1).trans rfl; have u1 : w7.cell? ⟨b + 1, 1, none⟩ = some (.int .i64 0) := (cell_of_row _ _ _ _ _ _ r1).trans rfl; have u2 : w7.cell? ⟨b + 1, 2, none⟩ = some (.int .i64 0) := (cell_of_row _ _ _ _ _ _ r1).trans rfl; have f0 : w7.frozen? ⟨b + 1, 0, none⟩ = false := frozen_of_row _ _ _ _ _ r1; have f1 : w7.frozen? ⟨b + 1, 1, none⟩ = false := frozen_of_row _ _ _ _ _ r1; have f2 : w7.frozen? ⟨b + 1, 2, none⟩ = false := frozen_of_row _ _ _ _ _ r1; have H7 := Lib.hid (And.intro hv (And.intro hb7 (And.intro r0 r1))); clear hv hb7 r0 r1 hat)
  obtain ⟨w8, hw8⟩ : ∃ w8, w8 = w7.setCell ⟨b, 0, none⟩ (.slice a l.length c) := ⟨_, rfl⟩
  rw [← hw8]
  obtain ⟨W, hW⟩ : ∃ W, W = ((w8.setCell ⟨b + 1, 0, none⟩ (.slice a l.length c)).setCell ⟨b + 1, 1, none⟩ (.int .i64 s)).setCell ⟨b + 1, 2, none⟩ (.int .i64 d) := ⟨_, rfl⟩
  rw [← hW]
  have hb8 : But (fun k => k = b) w7 w8 := by rw [hw8]; exact (But.refl (fun k => k = b) w7).setCell (p := ⟨b, 0, none⟩) rfl _
  have r18 : w8.heap[b + 1]? = some (.cells #[.slice none 0 0, .int .i64 0, .int .i64 0] 51 (0, 0)) := (hb8.block _ (heap_lt H7.out.2.2.2) (by omega)).trans H7.out.2.2.2
  have hbW : But (fun k => k = b + 1) w8 W := by rw [hW]; exact but3 _ _ _ _ _
  have rW : W.heap[b + 1]? = some (.cells #[.slice a l.length c, .int .i64 s, .int .i64 d] 51 (0, 0)) := by rw [hW]; exact put3 r18 _ _ _
  have hown : CV.Own 2 w.heap.size W (.slice a l.length c) l := CV.own_box (CV.own_box (H7.out.1.mono HB0.out.size) H7.out.2.2.1 hb8) r18 hbW
  have hbel : Below w.heap.size w W := ((HB0.out.trans (H7.out.2.1.mono HB0.out.size)).trans (hb8.below (HB0.out.trans (H7.out.2.1.mono HB0.out.size)).size (fun k hk => by have := HZ.out; omega))).trans (hbW.below ((HB0.out.trans (H7.out.2.1.mono HB0.out.size)).trans (hb8.below (HB0.out.trans (H7.out.2.1.mono HB0.out.size)).size (fun k hk => by have := HZ.out; omega))).size (fun k hk => by have := HZ.out; omega))
  have g0 : W.cell? ⟨b + 1, 0, none⟩ = some (.slice a l.length c) := (cell_of_row _ _ _ _ _ _ rW).trans rfl
  have g1 : W.cell? ⟨b + 1, 1, none⟩ = some (.int .i64 s) := (cell_of_row _ _ _ _ _ _ rW).trans rfl
  have g2 : W.cell? ⟨b + 1, 2, none⟩ = some (.int .i64 d) := (cell_of_row _ _ _ _ _ _ rW).trans rfl
  clear hW hw8 hb8 hbW
  exact bodyPost_ret (v := stA a l.length c s d) (by simp [results, Tryd.results35, go_sem, g0, g1, g2]) rfl ⟨a, c, rfl, hown, hbel⟩
end Go.Proofs.YthhpoihfaggafaaDoor
