/-
  The walk of the document's Put.
-/
import Derived.Test.YtifniehfbafcoaaDRef
import Derived.Test.YtifniehfbafcoaaGOwn
import Derived.Deep.RegionLaw
import Derived.OwnWalk
import Derived.TacticsIn
namespace Go.Proofs.Ytifniehfbafcoaa
open Go Go.RowKit Go.Lib Go.Sort Go.Proofs

theorem rput_full {w : World} {R : Nat} {S : Nat → Prop} {x : List Ms × Nat} (h : Rf w R S x) (y : Ms) (hf : 131072 ≤ x.1.length) : Calls Try.prog 19 #[.pointer (some ⟨R, 0, none⟩), MsV y] w (Tells (.tuple #[.int .i64 0, .int .i64 5]) w) := by
  have h' : Rf (w.alloc (MsO y)) R S x := h.below ((Below.refl _ _).alloc (Nat.le_refl _) _)
  obtain ⟨a, n, c, hR, hn0, -⟩ := h'.open
  have r0 : (w.alloc (MsO y)).cell? ⟨R, 0, none⟩ = some (.slice a n c) := by rw [cell_of_row _ _ _ _ _ _ hR]; rfl
  have hd : decide ((n : Int) ≥ 131072) = true := by simp; omega
  clear h h' hR hn0 hf
  go_enter Try.func19, Try.ntmps19
  go_wp2
  exact bodyPost_ret (v := .tuple #[.int .i64 0, .int .i64 5]) (by simp [results, Try.results19, go_sem]) rfl ⟨rfl, (Below.refl _ _).alloc (Nat.le_refl _) _⟩
set_option maxHeartbeats 8000000 in
set_option maxRecDepth 100000 in
theorem rput {w : World} {R : Nat} {S : Nat → Prop} {x : List Ms × Nat} (h : Rf w R S x) (y : Ms) (hn : x.2 < 1000000) (hf : x.1.length < 131072) : Calls Try.prog 19 #[.pointer (some ⟨R, 0, none⟩), MsV y] w (rfT.To (.tuple #[.int .i64 x.2, .int .i64 0]) R S (x.1 ++ [y], x.2 + 1) w) := by
  have mixed : Try.prog.follows .mixedOrders = true := by kernel_rfl
  obtain ⟨L, N⟩ := x
  obtain ⟨M, hM⟩ : ∃ M, M = N + 1 := ⟨_, rfl⟩
  have hN6 : N < 1000000 := hn
  have H0 := Lib.hid h
  have HL : Hid (L.length < 131072) := hf
  have HM := Lib.hid hM
  have hw1 : IntKind.i64.wrap ((N : Int) + 1) = (M : Int) := by rw [IntKind.wrap_i64]; omega
  have hw2 : IntKind.i64.wrap ((M : Int) - 1) = (N : Int) := by rw [IntKind.wrap_i64]; omega
  have hal : Below w.heap.size w (w.alloc (MsO y)) := (Below.refl _ _).alloc (Nat.le_refl _) _
  obtain ⟨v, hR, hO, hSR, hSl, hSB, -, -⟩ := h.below hal
  obtain ⟨a, n, c, rfl⟩ := hO.shape
  have hnL : n = L.length := hO.size.1
  have hni : decide ((n : Int) ≥ 131072) = false := by have := HL.out; simp; omega
  have HX0 : Hid ((w.alloc (MsO y)).heap[w.heap.size]? = some (MsO y)) := heap_alloc_new _ _
  have HW : Hid (Below w.heap.size w (w.alloc (MsO y))) := hal
  have r0 : (w.alloc (MsO y)).cell? ⟨R, 0, none⟩ = some (.slice a n c) := by rw [cell_of_row _ _ _ _ _ _ hR]; rfl
  have HR := Lib.hid hR
  have HO := Lib.hid hO
  clear h hn hf hal hR hO hSR hSl hSB hnL hM
  go_enter Try.func19, Try.ntmps19
  go_wp2_with fail
  obtain ⟨w1, hw1'⟩ : ∃ w1, w1 = w.alloc (MsO y) := ⟨_, rfl⟩
  rw [← hw1'] at HX0 HW HR HO r0 ⊢
  have hst : ∀ W, Below w1.heap.size w1 W → W.cell? ⟨R, 0, none⟩ = some (.slice a n c) ∧ W.heap[w.heap.size]? = some (MsO y) ∧ MsC.Own 36 0 W (.slice a n c) L ∧ W.heap[R]? = some (.cells #[.slice a n c, .int .i64 (N : Nat)] 29 (0, 0)) := fun W hb => by
    have hR2 := (hb.block _ (Array.getElem?_eq_some_iff.1 HR.out).1).trans HR.out
    exact ⟨by rw [cell_of_row _ _ _ _ _ _ hR2]; rfl, (hb.block _ (Array.getElem?_eq_some_iff.1 HX0.out).1).trans HX0.out, HO.out.below hb, hR2⟩
  have HST := Lib.hid hst
  have hbd : Below w1.heap.size w1 w1.drew := (Below.refl _ _).drew
  have HBD : Hid (Below w1.heap.size w1 w1.drew) := hbd
  have HBA : Hid (Below w1.heap.size w1 (w1.drew.alloc (MsO y))) := hbd.alloc (Nat.le_refl _) _
  have a0 : (w1.drew.alloc (MsO y)).cell? ⟨R, 0, none⟩ = some (.slice a n c) := (hst _ HBA.out).1
  have a1 : (w1.alloc (MsO y)).cell? ⟨R, 0, none⟩ = some (.slice a n c) := (hst _ HBA.out).1
  obtain ⟨⟨x0, x1, x2, x3, x4, x5, x6, x7, x8, x9⟩, -⟩ := box_lit HX0.out
  have HSZ : Hid (L.length + 1 ≤ 1000000) := by have := HL.out; show _ ≤ _; omega
  clear hst hbd hw1' hni
  go_region_law (first
    | (refine rowM.step rfl _ _ rfl w1.heap.size v6 _ rfl (HO6.out.but ((But.refl (fun _ => False) w6).alloc _) (fun _ _ e => e)) ⟨w6.heap.size, 0, none⟩ 1 1 [y] rfl rfl (Cod.news_one (C := MsC) _ y _ _ (heap_alloc_new _ _)) (by have := HSZ.out; simp only [List.length_append, List.length_nil]; omega) (by have := HSZ.out; simp only [List.length_append, List.length_nil]; omega) (HB6.out.alloc HB6.out.size _).size ?_; intro v5 w5 hown5 hgrow5 hnew5; obtain ⟨a5, n5, k5, rfl⟩ := hown5.shape; have HO5 := Lib.hid hown5; have HB5 : Hid (Below w1.heap.size w1 w5) := (HB6.out.alloc HB6.out.size _).trans ((But.grown hgrow5).below (HB6.out.alloc HB6.out.size _).size fun k e => (HO6.out.lt k e.symm).1); have c5 := (HST.out _ HB5.out).1; have f5 : w5.frozen? ⟨R, 0, none⟩ = false := frozen_of_row _ _ _ _ _ (HST.out _ HB5.out).2.2.2; clear hown5 hgrow5 hnew5)
    | (refine rowM.step rfl _ _ rfl w1.heap.size v8 _ rfl HO8.out ⟨w1.heap.size, 0, none⟩ 1 1 [y] rfl rfl (Cod.news_one (C := MsC) _ y _ _ HE8.out) (by have := HSZ.out; simp only [List.length_append, List.length_nil]; omega) (by have := HSZ.out; simp only [List.length_append, List.length_nil]; omega) HB8.out.size ?_; intro v5 w5 hown5 hgrow5 hnew5; obtain ⟨a5, n5, k5, rfl⟩ := hown5.shape; have HO5 := Lib.hid hown5; have HB5 : Hid (Below w1.heap.size w1 w5) := HB8.out.trans ((But.grown hgrow5).below HB8.out.size fun k e => (HO8.out.lt k e.symm).1); have c5 := (HST.out _ HB5.out).1; have f5 : w5.frozen? ⟨R, 0, none⟩ = false := frozen_of_row _ _ _ _ _ (HST.out _ HB5.out).2.2.2; clear hown5 hgrow5 hnew5)
    | (refine rowM.step_own rfl _ _ rfl w1.heap.size 0 (.slice none 0 0) (.slice a n c) [] L rfl (World.ownsRow_nil _ _ _ _) rfl (HST.out _ HBD.out).2.2.1 (by have := HSZ.out; simp only [List.length_nil]; omega) (by have := HSZ.out; simp only [List.length_nil]; omega) HBD.out.size ?_; intro v6 w6 hown6 hgrow6 hnew6; have HO6 := Lib.hid hown6; have HB6 : Hid (Below w1.heap.size w1 w6) := HBD.out.trans ((But.grown hgrow6).below HBD.out.size fun _ e => by cases e); have c6 := (HST.out _ HB6.out).1; have c6a := (HST.out _ (HB6.out.alloc HB6.out.size (MsO y))).1; obtain ⟨⟨z0, z1, z2, z3, z4, z5, z6, z7, z8, z9⟩, -⟩ := box_lit (HST.out _ HB6.out).2.1; clear hown6 hgrow6 hnew6)
    | (refine rowM.step_own rfl _ _ rfl w1.heap.size 0 (.slice none 0 0) (.slice a n c) [] L rfl (World.ownsRow_nil _ _ _ _) rfl (HST.out _ HBA.out).2.2.1 (by have := HSZ.out; simp only [List.length_nil]; omega) (by have := HSZ.out; simp only [List.length_nil]; omega) HBA.out.size ?_; intro v8 w8 hown8 hgrow8 hnew8; have HO8 := Lib.hid hown8; have HB8 : Hid (Below w1.heap.size w1 w8) := HBA.out.trans ((But.grown hgrow8).below HBA.out.size fun _ e => by cases e); have c8 := (HST.out _ HB8.out).1; have HE8 : Hid (w8.heap[w1.heap.size]? = some (MsO y)) := ((But.grown hgrow8).block _ (by simp) (fun e => by cases e)).trans (heap_alloc_new w1.drew _); clear hown8 hgrow8 hnew8))
  all_goals
    obtain ⟨w7, hw7⟩ : ∃ w7, w7 = w5.setCell ⟨R, 0, none⟩ (.slice a5 n5 k5) := ⟨_, rfl⟩
    have hw : Below w.heap.size w w5 := HW.out.trans (HB5.out.mono HW.out.size)
    have ho := HO5.out.mono HW.out.size
    rw [show ([] ++ L) ++ [y] = L ++ [y] from rfl] at ho
    have h7 := rf_end (D := fun _ => False) H0.out hw (by have := HSZ.out; rw [List.length_append, List.length_singleton]; exact this) ho (But.refl _ _) (fun _ e => e.elim)
    rw [← hw7] at h7 ⊢
    have H7 := Lib.hid h7
    obtain ⟨v7, hv7, -⟩ := h7.1
    have d1 : w7.cell? ⟨R, 1, none⟩ = some (.int .i64 (N : Nat)) := by rw [cell_of_row _ _ _ _ _ _ hv7]; rfl
    have f1 : w7.frozen? ⟨R, 1, none⟩ = false := frozen_of_row _ _ _ _ _ hv7
    clear hw7 hw ho h7 hv7 c5 f5 a0 a1 r0 x0 x1 x2 x3 x4 x5 x6 x7 x8 x9
    go_wp2
    refine bodyPost_ret (v := .tuple #[.int .i64 N, .int .i64 0]) (by simp [results, Try.results19, go_sem]) rfl ?_
    have h8 := Rf.setN H7.out.1 M (.int .i64 (M : Nat)) rfl (by have := HM.out; omega)
    rw [← HM.out]
    refine ⟨rfl, h8.1.wide (fun b e => e.imp id fun e => ⟨e.1, by simpa [World.setCell] using e.2⟩) (fun b e => rfT.lt h8.1 b (e.imp id fun e => ⟨e.1, by simpa [World.setCell] using e.2⟩)), H7.out.2.next h8.2 fun j hj e => e.elim id fun e => absurd hj (Nat.not_lt.2 e.1)⟩
end Go.Proofs.Ytifniehfbafcoaa
