/-
  The walk of the document's Take.
-/
import Derived.Test.YtifniehfbafcoaaDRef
import Derived.Deep.RegionLaw
import Derived.OwnWalk
import Derived.TacticsIn
namespace Go.Proofs.Ytifniehfbafcoaa
open Go Go.RowKit Go.Lib Go.Sort Go.Proofs

set_option maxHeartbeats 2000000 in
theorem rtake_none {w : World} {R : Nat} {S : Nat → Prop} {x : List Ms × Nat} (h : Rf w R S x) (i : Int) (hi : i < 0 ∨ (x.1.length : Int) ≤ i) : Calls Try.prog 20 #[.pointer (some ⟨R, 0, none⟩), .int .i64 i] w (MsTo msZ 6 w) := by
  have HH : Hid (Rf (w.alloc MsZO) R S x) := h.below ((Below.refl _ _).alloc (Nat.le_refl _) _)
  have HI := Lib.hid hi
  have hbz : (w.alloc MsZO).heap[w.heap.size]? = some MsZO := heap_alloc_new _ _
  have HBZ := Lib.hid hbz
  have hsz : (w.alloc MsZO).heap.size = w.heap.size + 1 := by simp
  have HSZ := Lib.hid hsz
  clear h hi hbz hsz
  go_enter Try.func20, Try.ntmps20
  go_wp2_with (go_at_call 22; refine (rat_none HH.out i HI.out).mono ?_; rintro e w1 ⟨rfl, hb1⟩; have HB1 := Lib.hid hb1; obtain ⟨⟨x0, x1, x2, x3, x4, x5, x6, x7, x8, x9⟩, f0, f1, f2, f3, f4, f5, f6, f7, f8, f9⟩ := box_alloc (x := msZ) ((hb1.block _ (by have := HSZ.out; omega)).trans HBZ.out); clear hb1)
  refine bodyPost_ret (v := .tuple #[MsV msZ, .int .i64 6]) (by simp [results, Try.results20, go_sem, msZ, x0, x1, x2, x3, x4, x5, x6, x7, x8, x9]) rfl ⟨rfl, ?_⟩
  have hb := ((Below.refl w.heap.size w).alloc (Nat.le_refl _) MsZO).trans (HB1.out.mono (by have := HSZ.out; omega))
  exact below_set10 (hb.alloc hb.size _) (Nat.le_refl _) _ _ _ _ _ _ _ _ _ _
set_option maxHeartbeats 4000000 in
set_option maxRecDepth 100000 in
theorem rtake {w : World} {R : Nat} {S : Nat → Prop} {x : List Ms × Nat} (h : Rf w R S x) (i : Nat) (y : Ms) (hy : x.1[i]? = some y) : Calls Try.prog 20 #[.pointer (some ⟨R, 0, none⟩), .int .i64 i] w (rfT.To (.tuple #[MsV y, .int .i64 0]) R S (x.1.eraseIdx i, x.2) w) := by
  have mixed : Try.prog.follows .mixedOrders = true := by kernel_rfl
  obtain ⟨L, N⟩ := x
  have HH : Hid (Rf (w.alloc MsZO) R S (L, N)) := h.below ((Below.refl _ _).alloc (Nat.le_refl _) _)
  have H0 := Lib.hid h
  have HY : Hid (L[i]? = some y) := hy
  have hbz : (w.alloc MsZO).heap[w.heap.size]? = some MsZO := heap_alloc_new _ _
  have HBZ := Lib.hid hbz
  have hsz : (w.alloc MsZO).heap.size = w.heap.size + 1 := by simp
  have HSZ := Lib.hid hsz
  clear h hy hbz hsz
  go_enter Try.func20, Try.ntmps20
  go_wp2_with (go_at_call 22; refine (rat HH.out i y HY.out).mono ?_; rintro e w0 ⟨rfl, hb0⟩; have HB0 := Lib.hid hb0; clear hb0)
  obtain ⟨w1, hw1⟩ : ∃ w1, w1 = w0.alloc (MsO y) := ⟨_, rfl⟩
  have hsz0 : w.heap.size + 1 ≤ w0.heap.size := by have := HB0.out.size; have := HSZ.out; omega
  have hb1 : Below w.heap.size w w1 := ((Below.refl _ _).alloc (Nat.le_refl _) MsZO).trans ((hw1 ▸ HB0.out.alloc HB0.out.size _).mono (by have := HSZ.out; omega))
  have HB1 := Lib.hid hb1
  obtain ⟨a, n, c, hR, hn0, hnc, hA, hsome⟩ := (H0.out.below hb1).open
  have HN6 : Hid (L.length ≤ 1000000) := by
    obtain ⟨_, _, _, _, _, _, h, _⟩ := H0.out
    exact h
  have hin : i < n := by rw [hn0]; exact (List.getElem?_eq_some_iff.1 HY.out).1
  obtain ⟨B, rfl, hSB, hBR⟩ : ∃ B, a = some ⟨B, 0, none⟩ ∧ S B ∧ B ≠ R := by
    rcases hsome with ⟨_, e, _⟩ | h
    · have e : L = [] := e
      rw [e] at hn0
      simp at hn0
      omega
    · exact h
  have HR1 : Hid (w1.heap[R]? = some (.cells #[.slice (some ⟨B, 0, none⟩) n c, .int .i64 (N : Nat)] 29 (0, 0))) := hR
  have HA1 : Hid (MsC.At w1 (some ⟨B, 0, none⟩) n L) := hA
  have HBX : Hid (w1.heap[w.heap.size]? = some (MsO msZ) ∧ w1.heap[w0.heap.size]? = some (MsO y)) := by
    refine ⟨?_, hw1 ▸ heap_alloc_new _ _⟩
    rw [hw1, heap_alloc_old _ _ (by omega)]
    exact (HB0.out.block _ (by have := HSZ.out; omega)).trans HBZ.out
  have hRl : R < w.heap.size := by
    obtain ⟨u, hR, _⟩ := H0.out
    exact (Array.getElem?_eq_some_iff.1 hR).1
  have hs1 : w1.heap.size = w0.heap.size + 1 := by rw [hw1]; simp
  have HLTS : Hid (w.heap.size ≠ R ∧ w.heap.size < w1.heap.size ∧ w0.heap.size ≠ R ∧ w0.heap.size < w1.heap.size) := by refine ⟨?_, ?_, ?_, ?_⟩ <;> omega
  have HN0 : Hid (n = L.length) := hn0
  have HNC := Lib.hid hnc
  have HN4 : Hid (n ≤ 1000000) := by show _ ≤ _; rw [HN0.out]; exact HN6.out
  have hib : i < 1000000 := by have := HN4.out; omega
  have hiz : (i : Int) < (n : Int) := by omega
  rw [← hw1]
  clear hb1 hRl hs1 HH hR hA hsome hSB hBR hn0 hw1 hsz0 hnc
  obtain ⟨m, hm⟩ : ∃ m, m = i + 1 := ⟨_, rfl⟩
  have hmi : (i : Int) + 1 = (m : Int) := by omega
  have hwi : IntKind.i64.wrap ((i : Int) + 1) = (m : Int) := by rw [IntKind.wrap_i64]; omega
  have him : i ≤ m := by omega
  have hmn : m ≤ n := by omega
  have hmc : m ≤ c := by have := HNC.out; omega
  have HM := Lib.hid hm
  have hmw : IntKind.i64.wrap (m : Int) = (m : Int) := by have := HN4.out; rw [IntKind.wrap_i64]; omega
  clear hm
  by_cases hck : c = m
  · have hnc : n = m := by have := HNC.out; omega
    obtain rfl : m = c := hck.symm
    obtain rfl : m = n := hnc.symm
    have hcl : w1.cell? ⟨R, 0, none⟩ = some (.slice (some ⟨B, 0, none⟩) m m) := by rw [cell_of_row _ _ _ _ _ _ HR1.out]; rfl
    have HRB : Hid (∀ W, Below w1.heap.size w1 W → W.heap[R]? = some (.cells #[.slice (some ⟨B, 0, none⟩) m m, .int .i64 (N : Nat)] 29 (0, 0))) := fun W hb => (hb.block _ (Array.getElem?_eq_some_iff.1 HR1.out).1).trans HR1.out
    have hst : ∀ W, Below w1.heap.size w1 W → W.cell? ⟨R, 0, none⟩ = some (.slice (some ⟨B, 0, none⟩) m m) ∧ MsC.At W (some ⟨B, 0, none⟩) m L := fun W hb => ⟨(by rw [cell_of_row _ _ _ _ _ _ (HRB.out W hb)]; rfl), HA1.out.below hb⟩
    have HST := Lib.hid hst
    have HBD : Hid (Below w1.heap.size w1 w1.drew) := (Below.refl _ _).drew
    have hcd : w1.drew.cell? ⟨R, 0, none⟩ = some (.slice (some ⟨B, 0, none⟩) m m) := (hst _ HBD.out).1
    have hlt0 : L.length = m := HN0.out.symm
    have hic : i ≤ m := him
    have HLT : Hid ((L.take i).length = i) := by show _ = _; rw [List.length_take, hlt0]; omega
    have HSZ1 : Hid (i ≤ 1000000) := by have := HN4.out; show _ ≤ _; omega
    have HS1 : Hid (∀ W, Below w1.heap.size w1 W → ∀ j u, (MsC.cells (L.take i))[j]? = some u → W.cell? ((⟨B, 0, none⟩ : Addr).add j) = some u) := fun W hb => by
      have := (hst W hb).2.part 0 i (Nat.zero_le _) (by omega) B 0 rfl
      simp only [Nat.zero_mul, Nat.add_zero, List.drop_zero] at this
      exact this.news
    clear hst hlt0
    go_wp2_with fail
    go_region_law (first
      | (refine rowM.step rfl _ _ rfl w1.heap.size v6 _ rfl HO6.out _ _ _ [] rfl rfl (by intro j u hj; simp [Cod.cells] at hj) (by have := HSZ1.out; have := HLT.out; simp only [List.length_append, List.length_nil]; omega) (by have := HSZ1.out; have := HLT.out; simp only [List.length_append, List.length_nil]; omega) HB6.out.size ?_; intro v5 w5 hown5 hgrow5 hnew5; obtain ⟨a5, n5, k5, rfl⟩ := hown5.shape; have HO5 := Lib.hid hown5; have HB5 : Hid (Below w1.heap.size w1 w5) := HB6.out.trans ((But.grown hgrow5).below HB6.out.size fun k e => (HO6.out.lt k e.symm).1); have c5 := (HST.out _ HB5.out).1; have f5 : w5.frozen? ⟨R, 0, none⟩ = false := frozen_of_row _ _ _ _ _ (HRB.out _ HB5.out); clear hown5 hgrow5 hnew5)
      | (refine rowM.step rfl _ _ rfl w1.heap.size (.slice none 0 0) [] rfl (World.ownsRow_nil _ _ _ _) ⟨B, 0, none⟩ i m (L.take i) rfl HLT.out.symm (HS1.out _ HBD.out) (by have := HSZ1.out; simp only [List.length_nil]; omega) (by have := HSZ1.out; simp only [List.length_nil]; omega) HBD.out.size ?_; intro v6 w6 hown6 hgrow6 hnew6; have HO6 := Lib.hid hown6; have HB6 : Hid (Below w1.heap.size w1 w6) := HBD.out.trans ((But.grown hgrow6).below HBD.out.size fun _ e => by cases e); have c6 := (HST.out _ HB6.out).1; clear hown6 hgrow6 hnew6))
    all_goals
      obtain ⟨w7, hw7⟩ : ∃ w7, w7 = w5.setCell ⟨R, 0, none⟩ (.slice a5 n5 k5) := ⟨_, rfl⟩
      rw [← hw7]
      have e2 : w7.heap[w.heap.size]? = some (MsO msZ) := by rw [hw7, heap_setCell_other _ _ _ _ HLTS.out.1]; exact (HB5.out.block _ HLTS.out.2.1).trans HBX.out.1
      have e3 : w7.heap[w0.heap.size]? = some (MsO y) := by rw [hw7, heap_setCell_other _ _ _ _ HLTS.out.2.2.1]; exact (HB5.out.block _ HLTS.out.2.2.2).trans HBX.out.2
      obtain ⟨⟨x0, x1, x2, x3, x4, x5, x6, x7, x8, x9⟩, f0, f1, f2, f3, f4, f5, f6, f7, f8, f9⟩ := box_lit e2
      obtain ⟨⟨y0, y1, y2, y3, y4, y5, y6, y7, y8, y9⟩, -⟩ := box_lit e3
      have HW7 := Lib.hid hw7
      clear e2 e3 hw7
      go_wp2
      refine bodyPost_ret (v := .tuple #[MsV y, .int .i64 0]) (by simp [results, Try.results20, go_sem, x0, x1, x2, x3, x4, x5, x6, x7, x8, x9]) rfl ?_
      have hw : Below w.heap.size w w5 := HB1.out.trans (HB5.out.mono HB1.out.size)
      have ho := HO5.out.mono (show w.heap.size ≤ w1.heap.size by have := HLTS.out.2.1; omega)
      have hel : [] ++ L.take i ++ [] = L.eraseIdx i := by
        rw [List.eraseIdx_eq_take_drop_succ, List.drop_of_length_le (by have := HN0.out; have := HM.out; omega)]
        simp
      rw [hel] at ho
      refine ⟨rfl, rf_end H0.out hw (Nat.le_trans (List.length_eraseIdx_le _ _) HN6.out) ho (by rw [← HW7.out]; exact but_set10 _ _ _ _ _ _ _ _ _ _ _ _) fun b e => ⟨by omega, fun e2 => ?_⟩⟩
      have := (HO5.out.lt b e2).1
      have := HLTS.out.2.1
      omega
  · have hck2 : ¬ c = m := hck
    have hcl : w1.cell? ⟨R, 0, none⟩ = some (.slice (some ⟨B, 0, none⟩) n c) := by rw [cell_of_row _ _ _ _ _ _ HR1.out]; rfl
    have HRB : Hid (∀ W, Below w1.heap.size w1 W → W.heap[R]? = some (.cells #[.slice (some ⟨B, 0, none⟩) n c, .int .i64 (N : Nat)] 29 (0, 0))) := fun W hb => (hb.block _ (Array.getElem?_eq_some_iff.1 HR1.out).1).trans HR1.out
    have hst : ∀ W, Below w1.heap.size w1 W → W.cell? ⟨R, 0, none⟩ = some (.slice (some ⟨B, 0, none⟩) n c) ∧ MsC.At W (some ⟨B, 0, none⟩) n L := fun W hb => ⟨(by rw [cell_of_row _ _ _ _ _ _ (HRB.out W hb)]; rfl), HA1.out.below hb⟩
    have HST := Lib.hid hst
    have HBD : Hid (Below w1.heap.size w1 w1.drew) := (Below.refl _ _).drew
    have hcd : w1.drew.cell? ⟨R, 0, none⟩ = some (.slice (some ⟨B, 0, none⟩) n c) := (hst _ HBD.out).1
    have hlt0 : L.length = n := HN0.out.symm
    have hic : i ≤ c := by have := HNC.out; omega
    have HLT : Hid ((L.take i).length = i) := by show _ = _; rw [List.length_take, hlt0]; omega
    have HLD : Hid ((L.drop m).length = n - m) := by show _ = _; rw [List.length_drop, hlt0]
    have HSZ1 : Hid (i + (n - m) ≤ 1000000) := by have := HN4.out; show _ ≤ _; omega
    have HS1 : Hid (∀ W, Below w1.heap.size w1 W → ∀ j u, (MsC.cells (L.take i))[j]? = some u → W.cell? ((⟨B, 0, none⟩ : Addr).add j) = some u) := fun W hb => by
      have := (hst W hb).2.part 0 i (Nat.zero_le _) (by omega) B 0 rfl
      simp only [Nat.zero_mul, Nat.add_zero, List.drop_zero] at this
      exact this.news
    have HS2 : Hid (∀ W, Below w1.heap.size w1 W → ∀ j u, (MsC.cells (L.drop m))[j]? = some u → W.cell? ((⟨B, m * 10, none⟩ : Addr).add j) = some u) := fun W hb => by
      have := (hst W hb).2.part m n (by omega) (Nat.le_refl _) B 0 rfl
      rw [List.take_of_length_le (by omega), Nat.zero_add] at this
      exact this.news
    clear hst hlt0
    go_wp2_with fail
    go_region_law (first
      | (refine rowM.step rfl _ _ rfl w1.heap.size v6 _ rfl HO6.out ⟨B, m * 10, none⟩ (n - m) (c - m) (L.drop m) rfl HLD.out.symm (HS2.out _ HB6.out) (by have := HSZ1.out; have := HLT.out; simp only [List.length_append, List.length_nil]; omega) (by have := HSZ1.out; have := HLT.out; simp only [List.length_append, List.length_nil]; omega) HB6.out.size ?_; intro v5 w5 hown5 hgrow5 hnew5; obtain ⟨a5, n5, k5, rfl⟩ := hown5.shape; have HO5 := Lib.hid hown5; have HB5 : Hid (Below w1.heap.size w1 w5) := HB6.out.trans ((But.grown hgrow5).below HB6.out.size fun k e => (HO6.out.lt k e.symm).1); have c5 := (HST.out _ HB5.out).1; have f5 : w5.frozen? ⟨R, 0, none⟩ = false := frozen_of_row _ _ _ _ _ (HRB.out _ HB5.out); clear hown5 hgrow5 hnew5)
      | (refine rowM.step rfl _ _ rfl w1.heap.size (.slice none 0 0) [] rfl (World.ownsRow_nil _ _ _ _) ⟨B, 0, none⟩ i c (L.take i) rfl HLT.out.symm (HS1.out _ HBD.out) (by have := HSZ1.out; simp only [List.length_nil]; omega) (by have := HSZ1.out; simp only [List.length_nil]; omega) HBD.out.size ?_; intro v6 w6 hown6 hgrow6 hnew6; have HO6 := Lib.hid hown6; have HB6 : Hid (Below w1.heap.size w1 w6) := HBD.out.trans ((But.grown hgrow6).below HBD.out.size fun _ e => by cases e); have c6 := (HST.out _ HB6.out).1; clear hown6 hgrow6 hnew6))
    all_goals
      obtain ⟨w7, hw7⟩ : ∃ w7, w7 = w5.setCell ⟨R, 0, none⟩ (.slice a5 n5 k5) := ⟨_, rfl⟩
      rw [← hw7]
      have e2 : w7.heap[w.heap.size]? = some (MsO msZ) := by rw [hw7, heap_setCell_other _ _ _ _ HLTS.out.1]; exact (HB5.out.block _ HLTS.out.2.1).trans HBX.out.1
      have e3 : w7.heap[w0.heap.size]? = some (MsO y) := by rw [hw7, heap_setCell_other _ _ _ _ HLTS.out.2.2.1]; exact (HB5.out.block _ HLTS.out.2.2.2).trans HBX.out.2
      obtain ⟨⟨x0, x1, x2, x3, x4, x5, x6, x7, x8, x9⟩, f0, f1, f2, f3, f4, f5, f6, f7, f8, f9⟩ := box_lit e2
      obtain ⟨⟨y0, y1, y2, y3, y4, y5, y6, y7, y8, y9⟩, -⟩ := box_lit e3
      have HW7 := Lib.hid hw7
      clear e2 e3 hw7
      go_wp2
      refine bodyPost_ret (v := .tuple #[MsV y, .int .i64 0]) (by simp [results, Try.results20, go_sem, x0, x1, x2, x3, x4, x5, x6, x7, x8, x9]) rfl ?_
      have hw : Below w.heap.size w w5 := HB1.out.trans (HB5.out.mono HB1.out.size)
      have ho := HO5.out.mono (show w.heap.size ≤ w1.heap.size by have := HLTS.out.2.1; omega)
      have hel : [] ++ L.take i ++ L.drop m = L.eraseIdx i := by
        rw [List.eraseIdx_eq_take_drop_succ, HM.out]
        rfl
      rw [hel] at ho
      refine ⟨rfl, rf_end H0.out hw (Nat.le_trans (List.length_eraseIdx_le _ _) HN6.out) ho (by rw [← HW7.out]; exact but_set10 _ _ _ _ _ _ _ _ _ _ _ _) fun b e => ⟨by omega, fun e2 => ?_⟩⟩
      have := (HO5.out.lt b e2).1
      have := HLTS.out.2.1
      omega
end Go.Proofs.Ytifniehfbafcoaa
