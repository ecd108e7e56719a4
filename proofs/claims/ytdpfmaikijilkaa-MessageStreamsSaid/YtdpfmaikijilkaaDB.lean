/-
  The walk of the document's Ask: a model; all other kinds.
-/
import Derived.Test.YtdpfmaikijilkaaDA
namespace Go.Proofs.Ytdpfmaikijilkaa
open Go Go.RowKit Go.Sort Go.Proofs

set_option maxHeartbeats 4000000 in
set_option maxRecDepth 100000 in
theorem ask_2 (w : World) (q : Rq) (mv : Value) (h : Wf q) (hk : q.kind = 2) (a : Option Addr) (cap : Nat) (hmv : mv = .slice a q.model.length cap) (ha : CB.At w a q.model.length q.model) (hnil : a = none → cap = 0) (hlen : q.model.length ≤ 5000) : Calls Try.prog 34 #[.agg (RqC q mv)] w (CloneTo (askQ q) w) := by
  have mixed : Try.prog.follows .mixedOrders = true := by kernel_rfl
  obtain ⟨R, hR⟩ : ∃ R, R = askQ q := ⟨_, rfl⟩
  rw [← hR]
  have hl : R.length ≤ 10000 := by rw [hR]; unfold askQ; rw [hk]; simp [tabM, outs, mID, mModel, beR_len]; omega
  have HLL := Lib.hid hl
  clear hl
  have hall : R = allB [(Value.nilFunc, beR 4 q.id), (Value.nilFunc, q.model)] := by rw [hR]; unfold askQ; rw [hk]; simp [tabM, outs, allB, mID, mModel]
  have HALL := Lib.hid hall
  clear hall
  have HA := Lib.hid (And.intro ha hnil)
  obtain ⟨m, hm⟩ : ∃ m, m = q.model.length := ⟨_, rfl⟩
  have HM := Lib.hid hm
  rw [← hm] at hmv
  have HMV := Lib.hid hmv
  clear ha hnil hlen hm hmv
  have HR := Lib.hid hR
  clear hR
  obtain ⟨k, hkk⟩ : ∃ k, k = q.kind := ⟨_, rfl⟩
  go_enter Try.func34, Try.ntmps34
  go_upto_region 1 with fail
  generalize hw1 : World.alloc _ _ = w1
  have hb1 : Below w.heap.size w w1 := by rw [← hw1]; exact (Below.refl _ _).alloc (Nat.le_refl _) _
  have hx1 : w1.heap[w.heap.size]? = some (.cells (RqC q mv) 32 (0, 0)) := by rw [← hw1]; exact heap_alloc_new _ _
  obtain ⟨d0, d1, d2, d3, d4, d5, d6, d7, d8, d9, d10, d11, d12, d13, d14, d15, d16⟩ := RqC_cells hx1
  have H1 := Lib.hid (And.intro hb1 hx1)
  clear hb1 hx1 hw1
  have HW := Lib.hid h
  clear h
  go_upto_region 3 with (first
    | (go_at_call 40; refine (word_any' q.id HW.out.id _).mono ?_; rintro e w2 ⟨v2, rfl, ho2, hb2⟩; obtain ⟨a2, n2, c2, rfl⟩ := ho2.shape; clear d0 d1 d2 d3 d4 d5 d6 d7 d8 d9 d10 d11 d12 d13 d14 d15 d16; have hx2 := (hb2.block _ (Array.getElem?_eq_some_iff.1 H1.out.2).1).trans H1.out.2; obtain ⟨d0, d1, d2, d3, d4, d5, d6, d7, d8, d9, d10, d11, d12, d13, d14, d15, d16⟩ := RqC_cells hx2; have H2 := Lib.hid (And.intro (H1.out.1.trans (hb2.mono H1.out.1.size)) (And.intro hx2 (ho2.mono H1.out.1.size))); clear hx2 ho2 hb2))
  generalize hw3 : World.alloc _ _ = w3
  have hb3 : Below w2.heap.size w2 w3 := by rw [← hw3]; exact (Below.refl _ _).alloc (Nat.le_refl _) _
  have hx3 : w3.heap[w2.heap.size]? = some (.cells #[.int .i64 q.time, .int .i64 q.org, .int .i64 q.seq, .int .i64 q.pt, .int .i64 q.ek, .int .i64 q.dat] 28 (0, 0)) := by rw [← hw3]; exact heap_alloc_new _ _
  have e0 : w3.cell? ⟨w2.heap.size, 0, none⟩ = some (.int .i64 q.time) := by rw [cell_of_row _ _ _ _ _ _ hx3]; rfl
  have e3 : w3.cell? ⟨w2.heap.size, 3, none⟩ = some (.int .i64 q.pt) := by rw [cell_of_row _ _ _ _ _ _ hx3]; rfl
  have e4 : w3.cell? ⟨w2.heap.size, 4, none⟩ = some (.int .i64 q.ek) := by rw [cell_of_row _ _ _ _ _ _ hx3]; rfl
  have e5 : w3.cell? ⟨w2.heap.size, 5, none⟩ = some (.int .i64 q.dat) := by rw [cell_of_row _ _ _ _ _ _ hx3]; rfl
  replace d0 := cell_below d0 hb3
  replace d2 := cell_below d2 hb3
  replace d3 := cell_below d3 hb3
  replace d10 := cell_below d10 hb3
  replace d11 := cell_below d11 hb3
  replace d12 := cell_below d12 hb3
  replace d13 := cell_below d13 hb3
  replace d14 := cell_below d14 hb3
  replace d15 := cell_below d15 hb3
  replace d16 := cell_below d16 hb3
  have H3 := Lib.hid (And.intro (H2.out.1.trans (hb3.mono H2.out.1.size)) (H2.out.2.2.below hb3))
  clear d1 d4 d5 d6 d7 d8 d9 hb3 hx3 hw3
  rw [← hkk] at d0
  rw [hk] at hkk
  subst hkk
  rw [HMV.out] at d3
  go_wp2_with (first
    | (go_at_call 39; have hbj := (Below.refl w3.heap.size w3).alloc (Nat.le_refl _) (.cells #[.slice a2 n2 c2, .slice a m cap] 24); refine (join_any _ w3.heap.size 2 [(.slice a2 n2 c2, beR 4 q.id), (.slice a m cap, q.model)] 24 rfl (heap_alloc_new _ _) (Pcs.cons (Pcs.one (H3.out.2.below hbj) (len4 _)) (Pcs.cons ⟨a, cap, by rw [HM.out], (HA.out.1.below H3.out.1).below hbj, HA.out.2⟩ (Pcs.nil _))) (by have := HLL.out; rw [HALL.out] at this; exact Nat.le_trans this (by decide)) (by decide)).mono ?_; rintro e wJ ⟨vJ, rfl, hoJ, hbJ⟩))
  go_ret
  have hx := ((Below.refl w3.heap.size w3).alloc (Nat.le_refl _) (.cells #[.slice a2 n2 c2, .slice a m cap] 24)).trans (hbJ.mono (by simp))
  rw [HALL.out]
  exact ⟨vJ, rfl, hoJ.mono (by have := H3.out.1.size; simp; omega), H3.out.1.trans (hx.mono H3.out.1.size)⟩
set_option maxHeartbeats 4000000 in
set_option maxRecDepth 100000 in
theorem ask_0 (w : World) (q : Rq) (mv : Value) (h : Wf q) (hk : q.kind ≠ 1 ∧ q.kind ≠ 2 ∧ q.kind ≠ 3 ∧ q.kind ≠ 4 ∧ q.kind ≠ 5 ∧ q.kind ≠ 6 ∧ q.kind ≠ 10) : Calls Try.prog 34 #[.agg (RqC q mv)] w (CloneTo (askQ q) w) := by
  have mixed : Try.prog.follows .mixedOrders = true := by kernel_rfl
  obtain ⟨R, hR⟩ : ∃ R, R = askQ q := ⟨_, rfl⟩
  rw [← hR]
  have hall : R = beR 4 q.id := by rw [hR]; unfold askQ tabM; obtain ⟨k1, k2, k3, k4, k5, k6, k7⟩ := hk; rw [if_neg k1, if_neg k2, if_neg k3, if_neg k4, if_neg k5, if_neg k6, if_neg k7]; simp [outs, mID]
  have HALL := Lib.hid hall
  clear hall
  have HR := Lib.hid hR
  clear hR
  obtain ⟨k, hkk⟩ : ∃ k, k = q.kind := ⟨_, rfl⟩
  go_enter Try.func34, Try.ntmps34
  go_upto_region 1 with fail
  generalize hw1 : World.alloc _ _ = w1
  have hb1 : Below w.heap.size w w1 := by rw [← hw1]; exact (Below.refl _ _).alloc (Nat.le_refl _) _
  have hx1 : w1.heap[w.heap.size]? = some (.cells (RqC q mv) 32 (0, 0)) := by rw [← hw1]; exact heap_alloc_new _ _
  obtain ⟨d0, d1, d2, d3, d4, d5, d6, d7, d8, d9, d10, d11, d12, d13, d14, d15, d16⟩ := RqC_cells hx1
  have H1 := Lib.hid (And.intro hb1 hx1)
  clear hb1 hx1 hw1
  have HW := Lib.hid h
  clear h
  go_upto_region 3 with (first
    | (go_at_call 40; refine (word_any' q.id HW.out.id _).mono ?_; rintro e w2 ⟨v2, rfl, ho2, hb2⟩; obtain ⟨a2, n2, c2, rfl⟩ := ho2.shape; clear d0 d1 d2 d3 d4 d5 d6 d7 d8 d9 d10 d11 d12 d13 d14 d15 d16; have hx2 := (hb2.block _ (Array.getElem?_eq_some_iff.1 H1.out.2).1).trans H1.out.2; obtain ⟨d0, d1, d2, d3, d4, d5, d6, d7, d8, d9, d10, d11, d12, d13, d14, d15, d16⟩ := RqC_cells hx2; have H2 := Lib.hid (And.intro (H1.out.1.trans (hb2.mono H1.out.1.size)) (And.intro hx2 (ho2.mono H1.out.1.size))); clear hx2 ho2 hb2))
  generalize hw3 : World.alloc _ _ = w3
  have hb3 : Below w2.heap.size w2 w3 := by rw [← hw3]; exact (Below.refl _ _).alloc (Nat.le_refl _) _
  have hx3 : w3.heap[w2.heap.size]? = some (.cells #[.int .i64 q.time, .int .i64 q.org, .int .i64 q.seq, .int .i64 q.pt, .int .i64 q.ek, .int .i64 q.dat] 28 (0, 0)) := by rw [← hw3]; exact heap_alloc_new _ _
  have e0 : w3.cell? ⟨w2.heap.size, 0, none⟩ = some (.int .i64 q.time) := by rw [cell_of_row _ _ _ _ _ _ hx3]; rfl
  have e3 : w3.cell? ⟨w2.heap.size, 3, none⟩ = some (.int .i64 q.pt) := by rw [cell_of_row _ _ _ _ _ _ hx3]; rfl
  have e4 : w3.cell? ⟨w2.heap.size, 4, none⟩ = some (.int .i64 q.ek) := by rw [cell_of_row _ _ _ _ _ _ hx3]; rfl
  have e5 : w3.cell? ⟨w2.heap.size, 5, none⟩ = some (.int .i64 q.dat) := by rw [cell_of_row _ _ _ _ _ _ hx3]; rfl
  replace d0 := cell_below d0 hb3
  replace d2 := cell_below d2 hb3
  replace d3 := cell_below d3 hb3
  replace d10 := cell_below d10 hb3
  replace d11 := cell_below d11 hb3
  replace d12 := cell_below d12 hb3
  replace d13 := cell_below d13 hb3
  replace d14 := cell_below d14 hb3
  replace d15 := cell_below d15 hb3
  replace d16 := cell_below d16 hb3
  have H3 := Lib.hid (And.intro (H2.out.1.trans (hb3.mono H2.out.1.size)) (H2.out.2.2.below hb3))
  clear d1 d4 d5 d6 d7 d8 d9 hb3 hx3 hw3
  rw [← hkk] at d0
  rw [← hkk] at hk
  obtain ⟨k1, k2, k3, k4, k5, k6, k7⟩ := hk
  clear hkk
  go_wp2
  go_ret
  rw [HALL.out]
  exact ⟨_, rfl, H3.out.2, H3.out.1⟩
theorem Ask_any (w : World) (q : Rq) (a : Option Addr) (cap : Nat) (h : Wf q) (ha : CB.At w a q.model.length q.model) (hnil : a = none → cap = 0) (hlen : q.model.length ≤ 5000) : Calls Try.prog 34 #[.agg (RqC q (.slice a q.model.length cap))] w (CloneTo (askQ q) w) := by
  by_cases k1 : q.kind = 1
  · exact ask_1 w q _ h k1
  by_cases k2 : q.kind = 2
  · exact ask_2 w q _ h k2 a cap rfl ha hnil hlen
  by_cases k3 : q.kind = 3
  · exact ask_3 w q _ h k3
  by_cases k4 : q.kind = 4
  · exact ask_4 w q _ h k4
  by_cases k5 : q.kind = 5
  · exact ask_5 w q _ h k5
  by_cases k6 : q.kind = 6
  · exact ask_6 w q _ h k6
  by_cases k7 : q.kind = 10
  · exact ask_10 w q _ h k7
  exact ask_0 w q _ h ⟨k1, k2, k3, k4, k5, k6, k7⟩
theorem askQ_len (q : Rq) (hlen : q.model.length ≤ 5000) : (askQ q).length ≤ 10000 := by
  unfold askQ tabM
  repeat' split
  all_goals simp [outs, mID, mVer, mModel, mEvent, mNum, mBreak, mProc, mRate, beR_len]
  omega
end Go.Proofs.Ytdpfmaikijilkaa
