/-
  The walk of the document's Same, over two steps of equal contents; the document's Is.
-/
import Derived.Test.YtppidbnbfipgnaaDoorVSame
import Derived.Test.YtppidbnbfipgnaaDoorVMRun
namespace Go.Proofs.YtppidbnbfipgnaaDoor
open Go Go.RowKit Go.Sort Go.Proofs CodM VmM

theorem CV.own_at {B : Nat} {w : World} {v : Value} {l : List Int} (h : CV.Own 2 B w v l) (hl : l.length ≤ 1000) : ∃ a c, v = .slice a l.length c ∧ CV.At w a l.length l := by
  obtain ⟨a, c, h1, _, h2, _⟩ := h.at_ (by omega)
  exact ⟨a, c, h1, h2⟩
theorem CEv.own_at {B : Nat} {w : World} {v : Value} {l : List Ev} (h : CEv.Own 31 B w v l) (hl : l.length ≤ 4) : ∃ a c, v = .slice a l.length c ∧ CEv.At w a l.length l := by
  obtain ⟨a, c, h1, _, h2, _⟩ := h.at_ (by omega)
  exact ⟨a, c, h1, h2⟩
theorem CRc.own_at {B : Nat} {w : World} {v : Value} {l : List Rc} (h : CRc.Own 55 B w v l) (hl : l.length ≤ 4) : ∃ a c, v = .slice a l.length c ∧ CRc.At w a l.length l := by
  obtain ⟨a, c, h1, _, h2, _⟩ := h.at_ (by omega)
  exact ⟨a, c, h1, h2⟩
theorem keepc {W W' : World} {p : Addr} {v : Value} (hb : Below W.heap.size W W') (h : W.cell? p = some v) : W'.cell? p = some v := (hb.cell (World.block_lt_of_cell? W _ h)).trans h
abbrev SameTo (W : World) (e : Ending) (w' : World) : Prop := e = .returned (.bool true) ∧ Below W.heap.size W w'
set_option maxHeartbeats 1000000 in
set_option maxRecDepth 100000 in
theorem stepSame_in (w : World) (va va' sa sa' ta ta' : Option Addr) (nv ns nt vc vc' sc sc' tc tc' : Nat) (sent drawn : Int)
    (HS : Hid (∀ W, Below w.heap.size w W → Calls Tryd.prog 16 #[stV va nv vc sent drawn, stV va' nv vc' sent drawn] W (SameTo W)))
    (HE : Hid (∀ W, Below w.heap.size w W → Calls Tryd.prog 31 #[.slice sa ns sc, .slice sa' ns sc'] W (SameTo W)))
    (HR : Hid (∀ W, Below w.heap.size w W → Calls Tryd.prog 32 #[.slice ta nt tc, .slice ta' nt tc'] W (SameTo W))) :
    Calls Tryd.prog 15 #[.agg #[.slice va nv vc, .int .i64 sent, .int .i64 drawn, .slice sa ns sc, .slice ta nt tc], .agg #[.slice va' nv vc', .int .i64 sent, .int .i64 drawn, .slice sa' ns sc', .slice ta' nt tc']] w (SameTo w) := by
  go_enter Tryd.func15, Tryd.ntmps15
  go_upto_region 1 with fail
  obtain ⟨wb, hwb⟩ : ∃ wb, wb = (w.alloc (.cells #[.slice va nv vc, .int .i64 sent, .int .i64 drawn, .slice sa ns sc, .slice ta nt tc] 46)).alloc (.cells #[.slice va' nv vc', .int .i64 sent, .int .i64 drawn, .slice sa' ns sc', .slice ta' nt tc'] 46) := ⟨_, rfl⟩
  have HB0 := Lib.hid (show Below w.heap.size w wb from by rw [hwb]; exact ((Below.refl _ _).alloc (Nat.le_refl _) _).alloc (by simp) _)
  have x0 : wb.heap[w.heap.size]? = some (.cells #[.slice va nv vc, .int .i64 sent, .int .i64 drawn, .slice sa ns sc, .slice ta nt tc] 46 (0, 0)) := by
    rw [hwb, heap_alloc_old _ _ (by simp), heap_alloc_new]
  have x1 : wb.heap[w.heap.size + 1]? = some (.cells #[.slice va' nv vc', .int .i64 sent, .int .i64 drawn, .slice sa' ns sc', .slice ta' nt tc'] 46 (0, 0)) := by
    rw [hwb]
    have z : (w.alloc (.cells #[.slice va nv vc, .int .i64 sent, .int .i64 drawn, .slice sa ns sc, .slice ta nt tc] 46)).heap.size = w.heap.size + 1 := by simp
    rw [← z, heap_alloc_new]
  rw [← hwb]
  clear hwb
  have q0 : wb.cell? ⟨w.heap.size, 0, none⟩ = some (.slice va nv vc) := by rw [cell_of_row _ _ _ _ _ _ x0]; rfl
  have q1 : wb.cell? ⟨w.heap.size, 1, none⟩ = some (.int .i64 sent) := by rw [cell_of_row _ _ _ _ _ _ x0]; rfl
  have q2 : wb.cell? ⟨w.heap.size, 2, none⟩ = some (.int .i64 drawn) := by rw [cell_of_row _ _ _ _ _ _ x0]; rfl
  have q3 : wb.cell? ⟨w.heap.size, 3, none⟩ = some (.slice sa ns sc) := by rw [cell_of_row _ _ _ _ _ _ x0]; rfl
  have q4 : wb.cell? ⟨w.heap.size, 4, none⟩ = some (.slice ta nt tc) := by rw [cell_of_row _ _ _ _ _ _ x0]; rfl
  have r0 : wb.cell? ⟨w.heap.size + 1, 0, none⟩ = some (.slice va' nv vc') := by rw [cell_of_row _ _ _ _ _ _ x1]; rfl
  have r1 : wb.cell? ⟨w.heap.size + 1, 1, none⟩ = some (.int .i64 sent) := by rw [cell_of_row _ _ _ _ _ _ x1]; rfl
  have r2 : wb.cell? ⟨w.heap.size + 1, 2, none⟩ = some (.int .i64 drawn) := by rw [cell_of_row _ _ _ _ _ _ x1]; rfl
  have r3 : wb.cell? ⟨w.heap.size + 1, 3, none⟩ = some (.slice sa' ns sc') := by rw [cell_of_row _ _ _ _ _ _ x1]; rfl
  have r4 : wb.cell? ⟨w.heap.size + 1, 4, none⟩ = some (.slice ta' nt tc') := by rw [cell_of_row _ _ _ _ _ _ x1]; rfl
  clear x0 x1
  go_wp2_with (first
    | (go_at_call 16; refine (HS.out _ HB0.out).mono ?_; rintro e7 w7 ⟨rfl, hb7⟩; have q3 := keepc hb7 q3; have q4 := keepc hb7 q4; have r3 := keepc hb7 r3; have r4 := keepc hb7 r4; have HB7 := Lib.hid (HB0.out.trans (hb7.mono HB0.out.size)); clear hb7)
    | (go_at_call 31; refine (HE.out _ HB7.out).mono ?_; rintro e8 w8 ⟨rfl, hb8⟩; have q4 := keepc hb8 q4; have r4 := keepc hb8 r4; have HB8 := Lib.hid (HB7.out.trans (hb8.mono HB7.out.size)); clear hb8)
    | (go_at_call 32; refine (HR.out _ HB8.out).mono ?_; rintro e9 w9 ⟨rfl, hb9⟩; have HB9 := Lib.hid (HB8.out.trans (hb9.mono HB8.out.size)); clear hb9))
  go_ret
  exact ⟨rfl, HB9.out⟩
set_option maxHeartbeats 1000000 in
theorem stepSame_any (w : World) (R : Stp) (hl : R.st.vars.length ≤ 1000) (B B' : Nat) (vv sv tv vv' sv' tv' : Value) (h : StepAt B w R vv sv tv) (h' : StepAt B' w R vv' sv' tv') :
    Calls Tryd.prog 15 #[.agg (stepV R vv sv tv), .agg (stepV R vv' sv' tv')] w (SameTo w) := by
  obtain ⟨va, vc, rfl, av⟩ := CV.own_at h.vars hl
  obtain ⟨sa, sc, rfl, ae⟩ := CEv.own_at h.sends h.hs
  obtain ⟨ta, tc, rfl, at_⟩ := CRc.own_at h.tells h.ht
  obtain ⟨va', vc', rfl, av'⟩ := CV.own_at h'.vars hl
  obtain ⟨sa', sc', rfl, ae'⟩ := CEv.own_at h'.sends h'.hs
  obtain ⟨ta', tc', rfl, at'⟩ := CRc.own_at h'.tells h'.ht
  exact stepSame_in w va va' sa sa' ta ta' _ _ _ vc vc' sc sc' tc tc' R.st.sent R.st.drawn
    (Lib.hid fun W hb => sameS_any W va va' vc vc' R.st.vars _ (av.below hb) (av'.below hb) hl _ _)
    (Lib.hid fun W hb => sameE_any W sa sa' _ sc sc' R.sends (ae.below hb) (ae'.below hb) (by have := h.hs; omega))
    (Lib.hid fun W hb => sameR_any W ta ta' _ tc tc' R.tells (at_.below hb) (at'.below hb) (by have := h.ht; omega))
end Go.Proofs.YtppidbnbfipgnaaDoor
