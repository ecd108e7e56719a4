/-
  The walk of the document's MayResponse: refusals.
-/
import Derived.Test.YtnafeppljnjbeaaDM
import Derived.Test.YtnafeppljnjbeaaMU
import Derived.Test.YtnafeppljnjbeaaE5
namespace Go.Proofs.Ytnafeppljnjbeaa
open Go Go.RowKit Go.Sort Go.Proofs

set_option maxHeartbeats 4000000 in
set_option maxRecDepth 100000 in
theorem mayS_no_k0 (w : World) (q : Rs) (a : Option Addr) (cap : Nat) (ha : CV.At w a q.vars.length q.vars) (h_k0 : ¬ 1 ≤ q.kind) : Calls Try.prog 16 #[.agg (RsC q (.slice a q.vars.length cap))] w (TellsB false w) := by
  obtain ⟨mv, hmv⟩ : ∃ mv, mv = Value.slice a q.vars.length cap := ⟨_, rfl⟩
  obtain ⟨m, hm⟩ : ∃ m, m = q.vars.length := ⟨_, rfl⟩
  have HM := Lib.hid (And.intro hm (And.intro hmv ha))
  rw [← hmv]
  rw [← hm] at hmv
  have HMV := Lib.hid hmv
  clear hmv ha
  have bk00 : decide (q.kind < 1) = true := decide_eq_true (by have h9 := h_k0; omega)
  clear hm
  go_enter Try.func16, Try.ntmps16
  go_upto_region 1 with fail
  generalize hw1 : World.alloc _ _ = w1
  have hb1 : Below w.heap.size w w1 := by rw [← hw1]; exact (Below.refl _ _).alloc (Nat.le_refl _) _
  have hx1 : w1.heap[w.heap.size]? = some (.cells (RsC q mv) 47 (0, 0)) := by rw [← hw1]; exact heap_alloc_new _ _
  obtain ⟨d0, d1, d2, d3, d4, d5, d6, d7, d8, d9, d10, d11, d12, d13, d14, d15, d16, d17⟩ := RsC_cells hx1
  have z1 : w.heap.size < w1.heap.size := (Array.getElem?_eq_some_iff.1 hx1).1
  have H1 := Lib.hid (And.intro hb1 hx1)
  rw [HMV.out] at d4
  clear hb1 hx1 hw1
  clear h_k0
  go_wp2_with (first
    | fail)
  go_ret
  exact ⟨rfl, H1.out.1⟩
set_option maxHeartbeats 4000000 in
set_option maxRecDepth 100000 in
theorem mayS_no_k1 (w : World) (q : Rs) (a : Option Addr) (cap : Nat) (ha : CV.At w a q.vars.length q.vars) (h_k0 : 1 ≤ q.kind) (h_k1 : ¬ q.kind ≤ 5) : Calls Try.prog 16 #[.agg (RsC q (.slice a q.vars.length cap))] w (TellsB false w) := by
  obtain ⟨mv, hmv⟩ : ∃ mv, mv = Value.slice a q.vars.length cap := ⟨_, rfl⟩
  obtain ⟨m, hm⟩ : ∃ m, m = q.vars.length := ⟨_, rfl⟩
  have HM := Lib.hid (And.intro hm (And.intro hmv ha))
  rw [← hmv]
  rw [← hm] at hmv
  have HMV := Lib.hid hmv
  clear hmv ha
  have bk00 : decide (q.kind < 1) = false := decide_eq_false (by have h9 := h_k0; omega)
  have bk10 : decide (5 < q.kind) = true := decide_eq_true (by have h9 := h_k1; omega)
  clear hm
  go_enter Try.func16, Try.ntmps16
  go_upto_region 1 with fail
  generalize hw1 : World.alloc _ _ = w1
  have hb1 : Below w.heap.size w w1 := by rw [← hw1]; exact (Below.refl _ _).alloc (Nat.le_refl _) _
  have hx1 : w1.heap[w.heap.size]? = some (.cells (RsC q mv) 47 (0, 0)) := by rw [← hw1]; exact heap_alloc_new _ _
  obtain ⟨d0, d1, d2, d3, d4, d5, d6, d7, d8, d9, d10, d11, d12, d13, d14, d15, d16, d17⟩ := RsC_cells hx1
  have z1 : w.heap.size < w1.heap.size := (Array.getElem?_eq_some_iff.1 hx1).1
  have H1 := Lib.hid (And.intro hb1 hx1)
  rw [HMV.out] at d4
  clear hb1 hx1 hw1
  clear h_k0 h_k1
  go_wp2_with (first
    | fail)
  go_ret
  exact ⟨rfl, H1.out.1⟩
set_option maxHeartbeats 4000000 in
set_option maxRecDepth 100000 in
theorem mayS_no_e0 (w : World) (q : Rs) (a : Option Addr) (cap : Nat) (ha : CV.At w a q.vars.length q.vars) (h_k0 : 1 ≤ q.kind) (h_k1 : q.kind ≤ 5) (h_e0 : ¬ 0 ≤ q.err) : Calls Try.prog 16 #[.agg (RsC q (.slice a q.vars.length cap))] w (TellsB false w) := by
  obtain ⟨mv, hmv⟩ : ∃ mv, mv = Value.slice a q.vars.length cap := ⟨_, rfl⟩
  obtain ⟨m, hm⟩ : ∃ m, m = q.vars.length := ⟨_, rfl⟩
  have HM := Lib.hid (And.intro hm (And.intro hmv ha))
  rw [← hmv]
  rw [← hm] at hmv
  have HMV := Lib.hid hmv
  clear hmv ha
  have bk00 : decide (q.kind < 1) = false := decide_eq_false (by have h9 := h_k0; omega)
  have bk10 : decide (5 < q.kind) = false := decide_eq_false (by have h9 := h_k1; omega)
  have be00 : decide (q.err < 0) = true := decide_eq_true (by have h9 := h_e0; omega)
  clear hm
  go_enter Try.func16, Try.ntmps16
  go_upto_region 1 with fail
  generalize hw1 : World.alloc _ _ = w1
  have hb1 : Below w.heap.size w w1 := by rw [← hw1]; exact (Below.refl _ _).alloc (Nat.le_refl _) _
  have hx1 : w1.heap[w.heap.size]? = some (.cells (RsC q mv) 47 (0, 0)) := by rw [← hw1]; exact heap_alloc_new _ _
  obtain ⟨d0, d1, d2, d3, d4, d5, d6, d7, d8, d9, d10, d11, d12, d13, d14, d15, d16, d17⟩ := RsC_cells hx1
  have z1 : w.heap.size < w1.heap.size := (Array.getElem?_eq_some_iff.1 hx1).1
  have H1 := Lib.hid (And.intro hb1 hx1)
  rw [HMV.out] at d4
  clear hb1 hx1 hw1
  clear h_k0 h_k1 h_e0
  go_wp2_with (first
    | fail)
  go_ret
  exact ⟨rfl, H1.out.1⟩
set_option maxHeartbeats 4000000 in
set_option maxRecDepth 100000 in
theorem mayS_no_e1 (w : World) (q : Rs) (a : Option Addr) (cap : Nat) (ha : CV.At w a q.vars.length q.vars) (h_k0 : 1 ≤ q.kind) (h_k1 : q.kind ≤ 5) (h_e0 : 0 ≤ q.err) (h_e1 : ¬ q.err ≤ 16) : Calls Try.prog 16 #[.agg (RsC q (.slice a q.vars.length cap))] w (TellsB false w) := by
  obtain ⟨mv, hmv⟩ : ∃ mv, mv = Value.slice a q.vars.length cap := ⟨_, rfl⟩
  obtain ⟨m, hm⟩ : ∃ m, m = q.vars.length := ⟨_, rfl⟩
  have HM := Lib.hid (And.intro hm (And.intro hmv ha))
  rw [← hmv]
  rw [← hm] at hmv
  have HMV := Lib.hid hmv
  clear hmv ha
  have bk00 : decide (q.kind < 1) = false := decide_eq_false (by have h9 := h_k0; omega)
  have bk10 : decide (5 < q.kind) = false := decide_eq_false (by have h9 := h_k1; omega)
  have be00 : decide (q.err < 0) = false := decide_eq_false (by have h9 := h_e0; omega)
  have be10 : decide (16 < q.err) = true := decide_eq_true (by have h9 := h_e1; omega)
  clear hm
  go_enter Try.func16, Try.ntmps16
  go_upto_region 1 with fail
  generalize hw1 : World.alloc _ _ = w1
  have hb1 : Below w.heap.size w w1 := by rw [← hw1]; exact (Below.refl _ _).alloc (Nat.le_refl _) _
  have hx1 : w1.heap[w.heap.size]? = some (.cells (RsC q mv) 47 (0, 0)) := by rw [← hw1]; exact heap_alloc_new _ _
  obtain ⟨d0, d1, d2, d3, d4, d5, d6, d7, d8, d9, d10, d11, d12, d13, d14, d15, d16, d17⟩ := RsC_cells hx1
  have z1 : w.heap.size < w1.heap.size := (Array.getElem?_eq_some_iff.1 hx1).1
  have H1 := Lib.hid (And.intro hb1 hx1)
  rw [HMV.out] at d4
  clear hb1 hx1 hw1
  clear h_k0 h_k1 h_e0 h_e1
  go_wp2_with (first
    | fail)
  go_ret
  exact ⟨rfl, H1.out.1⟩
set_option maxHeartbeats 4000000 in
set_option maxRecDepth 100000 in
theorem mayS_no_vs (w : World) (q : Rs) (a : Option Addr) (cap : Nat) (ha : CV.At w a q.vars.length q.vars) (h_k0 : 1 ≤ q.kind) (h_k1 : q.kind ≤ 5) (h_e0 : 0 ≤ q.err) (h_e1 : q.err ≤ 16) (h_vs : ¬ q.vars.length ≤ 8) : Calls Try.prog 16 #[.agg (RsC q (.slice a q.vars.length cap))] w (TellsB false w) := by
  obtain ⟨mv, hmv⟩ : ∃ mv, mv = Value.slice a q.vars.length cap := ⟨_, rfl⟩
  obtain ⟨m, hm⟩ : ∃ m, m = q.vars.length := ⟨_, rfl⟩
  have HM := Lib.hid (And.intro hm (And.intro hmv ha))
  rw [← hmv]
  rw [← hm] at hmv
  have HMV := Lib.hid hmv
  clear hmv ha
  have bk00 : decide (q.kind < 1) = false := decide_eq_false (by have h9 := h_k0; omega)
  have bk10 : decide (5 < q.kind) = false := decide_eq_false (by have h9 := h_k1; omega)
  have be00 : decide (q.err < 0) = false := decide_eq_false (by have h9 := h_e0; omega)
  have be10 : decide (16 < q.err) = false := decide_eq_false (by have h9 := h_e1; omega)
  have bvs0 : decide ((8 : Int) < (m : Int)) = true := decide_eq_true (by rw [hm]; have h9 := h_vs; omega)
  have bvs1 : decide (8 < m) = true := decide_eq_true (by rw [hm]; have h9 := h_vs; omega)
  clear hm
  go_enter Try.func16, Try.ntmps16
  go_upto_region 1 with fail
  generalize hw1 : World.alloc _ _ = w1
  have hb1 : Below w.heap.size w w1 := by rw [← hw1]; exact (Below.refl _ _).alloc (Nat.le_refl _) _
  have hx1 : w1.heap[w.heap.size]? = some (.cells (RsC q mv) 47 (0, 0)) := by rw [← hw1]; exact heap_alloc_new _ _
  obtain ⟨d0, d1, d2, d3, d4, d5, d6, d7, d8, d9, d10, d11, d12, d13, d14, d15, d16, d17⟩ := RsC_cells hx1
  have z1 : w.heap.size < w1.heap.size := (Array.getElem?_eq_some_iff.1 hx1).1
  have H1 := Lib.hid (And.intro hb1 hx1)
  rw [HMV.out] at d4
  clear hb1 hx1 hw1
  clear h_k0 h_k1 h_e0 h_e1 h_vs
  go_wp2_with (first
    | fail)
  go_ret
  exact ⟨rfl, H1.out.1⟩
set_option maxHeartbeats 4000000 in
set_option maxRecDepth 100000 in
theorem mayS_no_ro (w : World) (q : Rs) (a : Option Addr) (cap : Nat) (ha : CV.At w a q.vars.length q.vars) (h_k0 : 1 ≤ q.kind) (h_k1 : q.kind ≤ 5) (h_e0 : 0 ≤ q.err) (h_e1 : q.err ≤ 16) (h_vs : q.vars.length ≤ 8) (h_ro : in8 q.ro = false) : Calls Try.prog 16 #[.agg (RsC q (.slice a q.vars.length cap))] w (TellsB false w) := by
  have H_ro := Lib.hid h_ro
  clear h_ro
  obtain ⟨mv, hmv⟩ : ∃ mv, mv = Value.slice a q.vars.length cap := ⟨_, rfl⟩
  obtain ⟨m, hm⟩ : ∃ m, m = q.vars.length := ⟨_, rfl⟩
  have HM := Lib.hid (And.intro hm (And.intro hmv ha))
  rw [← hmv]
  rw [← hm] at hmv
  have HMV := Lib.hid hmv
  clear hmv ha
  have bk00 : decide (q.kind < 1) = false := decide_eq_false (by have h9 := h_k0; omega)
  have bk10 : decide (5 < q.kind) = false := decide_eq_false (by have h9 := h_k1; omega)
  have be00 : decide (q.err < 0) = false := decide_eq_false (by have h9 := h_e0; omega)
  have be10 : decide (16 < q.err) = false := decide_eq_false (by have h9 := h_e1; omega)
  have bvs0 : decide ((8 : Int) < (m : Int)) = false := decide_eq_false (by rw [hm]; have h9 := h_vs; omega)
  have bvs1 : decide (8 < m) = false := decide_eq_false (by rw [hm]; have h9 := h_vs; omega)
  clear hm
  go_enter Try.func16, Try.ntmps16
  go_upto_region 1 with fail
  generalize hw1 : World.alloc _ _ = w1
  have hb1 : Below w.heap.size w w1 := by rw [← hw1]; exact (Below.refl _ _).alloc (Nat.le_refl _) _
  have hx1 : w1.heap[w.heap.size]? = some (.cells (RsC q mv) 47 (0, 0)) := by rw [← hw1]; exact heap_alloc_new _ _
  obtain ⟨d0, d1, d2, d3, d4, d5, d6, d7, d8, d9, d10, d11, d12, d13, d14, d15, d16, d17⟩ := RsC_cells hx1
  have z1 : w.heap.size < w1.heap.size := (Array.getElem?_eq_some_iff.1 hx1).1
  have H1 := Lib.hid (And.intro hb1 hx1)
  rw [HMV.out] at d4
  clear hb1 hx1 hw1
  clear h_k0 h_k1 h_e0 h_e1 h_vs
  go_wp2_with (first
    | (go_at_call_of 31 (Value.int IntKind.i64 q.ro); refine (eight_any q.ro w1).mono ?_; rw [H_ro.out]; rintro e w' ⟨rfl, rfl⟩)
    | fail)
  go_ret
  exact ⟨rfl, H1.out.1⟩
set_option maxHeartbeats 4000000 in
set_option maxRecDepth 100000 in
theorem mayS_no_rp (w : World) (q : Rs) (a : Option Addr) (cap : Nat) (ha : CV.At w a q.vars.length q.vars) (h_k0 : 1 ≤ q.kind) (h_k1 : q.kind ≤ 5) (h_e0 : 0 ≤ q.err) (h_e1 : q.err ≤ 16) (h_vs : q.vars.length ≤ 8) (h_ro : in8 q.ro = true) (h_rp : in8 q.rp = false) : Calls Try.prog 16 #[.agg (RsC q (.slice a q.vars.length cap))] w (TellsB false w) := by
  have H_ro := Lib.hid h_ro
  clear h_ro
  have H_rp := Lib.hid h_rp
  clear h_rp
  obtain ⟨mv, hmv⟩ : ∃ mv, mv = Value.slice a q.vars.length cap := ⟨_, rfl⟩
  obtain ⟨m, hm⟩ : ∃ m, m = q.vars.length := ⟨_, rfl⟩
  have HM := Lib.hid (And.intro hm (And.intro hmv ha))
  rw [← hmv]
  rw [← hm] at hmv
  have HMV := Lib.hid hmv
  clear hmv ha
  have bk00 : decide (q.kind < 1) = false := decide_eq_false (by have h9 := h_k0; omega)
  have bk10 : decide (5 < q.kind) = false := decide_eq_false (by have h9 := h_k1; omega)
  have be00 : decide (q.err < 0) = false := decide_eq_false (by have h9 := h_e0; omega)
  have be10 : decide (16 < q.err) = false := decide_eq_false (by have h9 := h_e1; omega)
  have bvs0 : decide ((8 : Int) < (m : Int)) = false := decide_eq_false (by rw [hm]; have h9 := h_vs; omega)
  have bvs1 : decide (8 < m) = false := decide_eq_false (by rw [hm]; have h9 := h_vs; omega)
  clear hm
  go_enter Try.func16, Try.ntmps16
  go_upto_region 1 with fail
  generalize hw1 : World.alloc _ _ = w1
  have hb1 : Below w.heap.size w w1 := by rw [← hw1]; exact (Below.refl _ _).alloc (Nat.le_refl _) _
  have hx1 : w1.heap[w.heap.size]? = some (.cells (RsC q mv) 47 (0, 0)) := by rw [← hw1]; exact heap_alloc_new _ _
  obtain ⟨d0, d1, d2, d3, d4, d5, d6, d7, d8, d9, d10, d11, d12, d13, d14, d15, d16, d17⟩ := RsC_cells hx1
  have z1 : w.heap.size < w1.heap.size := (Array.getElem?_eq_some_iff.1 hx1).1
  have H1 := Lib.hid (And.intro hb1 hx1)
  rw [HMV.out] at d4
  clear hb1 hx1 hw1
  clear h_k0 h_k1 h_e0 h_e1 h_vs
  go_wp2_with (first
    | (go_at_call_of 31 (Value.int IntKind.i64 q.ro); refine (eight_any q.ro w1).mono ?_; rw [H_ro.out]; rintro e w' ⟨rfl, rfl⟩)
    | (go_at_call_of 31 (Value.int IntKind.i64 q.rp); refine (eight_any q.rp w1).mono ?_; rw [H_rp.out]; rintro e w' ⟨rfl, rfl⟩)
    | fail)
  go_ret
  exact ⟨rfl, H1.out.1⟩
set_option maxHeartbeats 4000000 in
set_option maxRecDepth 100000 in
theorem mayS_no_rn (w : World) (q : Rs) (a : Option Addr) (cap : Nat) (ha : CV.At w a q.vars.length q.vars) (h_k0 : 1 ≤ q.kind) (h_k1 : q.kind ≤ 5) (h_e0 : 0 ≤ q.err) (h_e1 : q.err ≤ 16) (h_vs : q.vars.length ≤ 8) (h_ro : in8 q.ro = true) (h_rp : in8 q.rp = true) (h_rn : in8 q.rn = false) : Calls Try.prog 16 #[.agg (RsC q (.slice a q.vars.length cap))] w (TellsB false w) := by
  have H_ro := Lib.hid h_ro
  clear h_ro
  have H_rp := Lib.hid h_rp
  clear h_rp
  have H_rn := Lib.hid h_rn
  clear h_rn
  obtain ⟨mv, hmv⟩ : ∃ mv, mv = Value.slice a q.vars.length cap := ⟨_, rfl⟩
  obtain ⟨m, hm⟩ : ∃ m, m = q.vars.length := ⟨_, rfl⟩
  have HM := Lib.hid (And.intro hm (And.intro hmv ha))
  rw [← hmv]
  rw [← hm] at hmv
  have HMV := Lib.hid hmv
  clear hmv ha
  have bk00 : decide (q.kind < 1) = false := decide_eq_false (by have h9 := h_k0; omega)
  have bk10 : decide (5 < q.kind) = false := decide_eq_false (by have h9 := h_k1; omega)
  have be00 : decide (q.err < 0) = false := decide_eq_false (by have h9 := h_e0; omega)
  have be10 : decide (16 < q.err) = false := decide_eq_false (by have h9 := h_e1; omega)
  have bvs0 : decide ((8 : Int) < (m : Int)) = false := decide_eq_false (by rw [hm]; have h9 := h_vs; omega)
  have bvs1 : decide (8 < m) = false := decide_eq_false (by rw [hm]; have h9 := h_vs; omega)
  clear hm
  go_enter Try.func16, Try.ntmps16
  go_upto_region 1 with fail
  generalize hw1 : World.alloc _ _ = w1
  have hb1 : Below w.heap.size w w1 := by rw [← hw1]; exact (Below.refl _ _).alloc (Nat.le_refl _) _
  have hx1 : w1.heap[w.heap.size]? = some (.cells (RsC q mv) 47 (0, 0)) := by rw [← hw1]; exact heap_alloc_new _ _
  obtain ⟨d0, d1, d2, d3, d4, d5, d6, d7, d8, d9, d10, d11, d12, d13, d14, d15, d16, d17⟩ := RsC_cells hx1
  have z1 : w.heap.size < w1.heap.size := (Array.getElem?_eq_some_iff.1 hx1).1
  have H1 := Lib.hid (And.intro hb1 hx1)
  rw [HMV.out] at d4
  clear hb1 hx1 hw1
  clear h_k0 h_k1 h_e0 h_e1 h_vs
  go_wp2_with (first
    | (go_at_call_of 31 (Value.int IntKind.i64 q.ro); refine (eight_any q.ro w1).mono ?_; rw [H_ro.out]; rintro e w' ⟨rfl, rfl⟩)
    | (go_at_call_of 31 (Value.int IntKind.i64 q.rp); refine (eight_any q.rp w1).mono ?_; rw [H_rp.out]; rintro e w' ⟨rfl, rfl⟩)
    | (go_at_call_of 31 (Value.int IntKind.i64 q.rn); refine (eight_any q.rn w1).mono ?_; rw [H_rn.out]; rintro e w' ⟨rfl, rfl⟩)
    | fail)
  go_ret
  exact ⟨rfl, H1.out.1⟩
set_option maxHeartbeats 4000000 in
set_option maxRecDepth 100000 in
theorem mayS_no_org (w : World) (q : Rs) (a : Option Addr) (cap : Nat) (ha : CV.At w a q.vars.length q.vars) (h_k0 : 1 ≤ q.kind) (h_k1 : q.kind ≤ 5) (h_e0 : 0 ≤ q.err) (h_e1 : q.err ≤ 16) (h_vs : q.vars.length ≤ 8) (h_ro : in8 q.ro = true) (h_rp : in8 q.rp = true) (h_rn : in8 q.rn = true) (h_org : in8 q.org = false) : Calls Try.prog 16 #[.agg (RsC q (.slice a q.vars.length cap))] w (TellsB false w) := by
  have H_ro := Lib.hid h_ro
  clear h_ro
  have H_rp := Lib.hid h_rp
  clear h_rp
  have H_rn := Lib.hid h_rn
  clear h_rn
  have H_org := Lib.hid h_org
  clear h_org
  obtain ⟨mv, hmv⟩ : ∃ mv, mv = Value.slice a q.vars.length cap := ⟨_, rfl⟩
  obtain ⟨m, hm⟩ : ∃ m, m = q.vars.length := ⟨_, rfl⟩
  have HM := Lib.hid (And.intro hm (And.intro hmv ha))
  rw [← hmv]
  rw [← hm] at hmv
  have HMV := Lib.hid hmv
  clear hmv ha
  have bk00 : decide (q.kind < 1) = false := decide_eq_false (by have h9 := h_k0; omega)
  have bk10 : decide (5 < q.kind) = false := decide_eq_false (by have h9 := h_k1; omega)
  have be00 : decide (q.err < 0) = false := decide_eq_false (by have h9 := h_e0; omega)
  have be10 : decide (16 < q.err) = false := decide_eq_false (by have h9 := h_e1; omega)
  have bvs0 : decide ((8 : Int) < (m : Int)) = false := decide_eq_false (by rw [hm]; have h9 := h_vs; omega)
  have bvs1 : decide (8 < m) = false := decide_eq_false (by rw [hm]; have h9 := h_vs; omega)
  clear hm
  go_enter Try.func16, Try.ntmps16
  go_upto_region 1 with fail
  generalize hw1 : World.alloc _ _ = w1
  have hb1 : Below w.heap.size w w1 := by rw [← hw1]; exact (Below.refl _ _).alloc (Nat.le_refl _) _
  have hx1 : w1.heap[w.heap.size]? = some (.cells (RsC q mv) 47 (0, 0)) := by rw [← hw1]; exact heap_alloc_new _ _
  obtain ⟨d0, d1, d2, d3, d4, d5, d6, d7, d8, d9, d10, d11, d12, d13, d14, d15, d16, d17⟩ := RsC_cells hx1
  have z1 : w.heap.size < w1.heap.size := (Array.getElem?_eq_some_iff.1 hx1).1
  have H1 := Lib.hid (And.intro hb1 hx1)
  rw [HMV.out] at d4
  clear hb1 hx1 hw1
  clear h_k0 h_k1 h_e0 h_e1 h_vs
  go_wp2_with (first
    | (go_at_call_of 31 (Value.int IntKind.i64 q.ro); refine (eight_any q.ro w1).mono ?_; rw [H_ro.out]; rintro e w' ⟨rfl, rfl⟩)
    | (go_at_call_of 31 (Value.int IntKind.i64 q.rp); refine (eight_any q.rp w1).mono ?_; rw [H_rp.out]; rintro e w' ⟨rfl, rfl⟩)
    | (go_at_call_of 31 (Value.int IntKind.i64 q.rn); refine (eight_any q.rn w1).mono ?_; rw [H_rn.out]; rintro e w' ⟨rfl, rfl⟩)
    | (go_at_call_of 31 (Value.int IntKind.i64 q.org); refine (eight_any q.org w1).mono ?_; rw [H_org.out]; rintro e w' ⟨rfl, rfl⟩)
    | fail)
  go_ret
  exact ⟨rfl, H1.out.1⟩
set_option maxHeartbeats 4000000 in
set_option maxRecDepth 100000 in
theorem mayS_no_pt (w : World) (q : Rs) (a : Option Addr) (cap : Nat) (ha : CV.At w a q.vars.length q.vars) (h_k0 : 1 ≤ q.kind) (h_k1 : q.kind ≤ 5) (h_e0 : 0 ≤ q.err) (h_e1 : q.err ≤ 16) (h_vs : q.vars.length ≤ 8) (h_ro : in8 q.ro = true) (h_rp : in8 q.rp = true) (h_rn : in8 q.rn = true) (h_org : in8 q.org = true) (h_pt : in8 q.pt = false) : Calls Try.prog 16 #[.agg (RsC q (.slice a q.vars.length cap))] w (TellsB false w) := by
  have H_ro := Lib.hid h_ro
  clear h_ro
  have H_rp := Lib.hid h_rp
  clear h_rp
  have H_rn := Lib.hid h_rn
  clear h_rn
  have H_org := Lib.hid h_org
  clear h_org
  have H_pt := Lib.hid h_pt
  clear h_pt
  obtain ⟨mv, hmv⟩ : ∃ mv, mv = Value.slice a q.vars.length cap := ⟨_, rfl⟩
  obtain ⟨m, hm⟩ : ∃ m, m = q.vars.length := ⟨_, rfl⟩
  have HM := Lib.hid (And.intro hm (And.intro hmv ha))
  rw [← hmv]
  rw [← hm] at hmv
  have HMV := Lib.hid hmv
  clear hmv ha
  have bk00 : decide (q.kind < 1) = false := decide_eq_false (by have h9 := h_k0; omega)
  have bk10 : decide (5 < q.kind) = false := decide_eq_false (by have h9 := h_k1; omega)
  have be00 : decide (q.err < 0) = false := decide_eq_false (by have h9 := h_e0; omega)
  have be10 : decide (16 < q.err) = false := decide_eq_false (by have h9 := h_e1; omega)
  have bvs0 : decide ((8 : Int) < (m : Int)) = false := decide_eq_false (by rw [hm]; have h9 := h_vs; omega)
  have bvs1 : decide (8 < m) = false := decide_eq_false (by rw [hm]; have h9 := h_vs; omega)
  clear hm
  go_enter Try.func16, Try.ntmps16
  go_upto_region 1 with fail
  generalize hw1 : World.alloc _ _ = w1
  have hb1 : Below w.heap.size w w1 := by rw [← hw1]; exact (Below.refl _ _).alloc (Nat.le_refl _) _
  have hx1 : w1.heap[w.heap.size]? = some (.cells (RsC q mv) 47 (0, 0)) := by rw [← hw1]; exact heap_alloc_new _ _
  obtain ⟨d0, d1, d2, d3, d4, d5, d6, d7, d8, d9, d10, d11, d12, d13, d14, d15, d16, d17⟩ := RsC_cells hx1
  have z1 : w.heap.size < w1.heap.size := (Array.getElem?_eq_some_iff.1 hx1).1
  have H1 := Lib.hid (And.intro hb1 hx1)
  rw [HMV.out] at d4
  clear hb1 hx1 hw1
  clear h_k0 h_k1 h_e0 h_e1 h_vs
  go_wp2_with (first
    | (go_at_call_of 31 (Value.int IntKind.i64 q.ro); refine (eight_any q.ro w1).mono ?_; rw [H_ro.out]; rintro e w' ⟨rfl, rfl⟩)
    | (go_at_call_of 31 (Value.int IntKind.i64 q.rp); refine (eight_any q.rp w1).mono ?_; rw [H_rp.out]; rintro e w' ⟨rfl, rfl⟩)
    | (go_at_call_of 31 (Value.int IntKind.i64 q.rn); refine (eight_any q.rn w1).mono ?_; rw [H_rn.out]; rintro e w' ⟨rfl, rfl⟩)
    | (go_at_call_of 31 (Value.int IntKind.i64 q.org); refine (eight_any q.org w1).mono ?_; rw [H_org.out]; rintro e w' ⟨rfl, rfl⟩)
    | (go_at_call_of 31 (Value.int IntKind.i64 q.pt); refine (eight_any q.pt w1).mono ?_; rw [H_pt.out]; rintro e w' ⟨rfl, rfl⟩)
    | fail)
  go_ret
  exact ⟨rfl, H1.out.1⟩
set_option maxHeartbeats 4000000 in
set_option maxRecDepth 100000 in
theorem mayS_no_ek (w : World) (q : Rs) (a : Option Addr) (cap : Nat) (ha : CV.At w a q.vars.length q.vars) (h_k0 : 1 ≤ q.kind) (h_k1 : q.kind ≤ 5) (h_e0 : 0 ≤ q.err) (h_e1 : q.err ≤ 16) (h_vs : q.vars.length ≤ 8) (h_ro : in8 q.ro = true) (h_rp : in8 q.rp = true) (h_rn : in8 q.rn = true) (h_org : in8 q.org = true) (h_pt : in8 q.pt = true) (h_ek : in8 q.ek = false) : Calls Try.prog 16 #[.agg (RsC q (.slice a q.vars.length cap))] w (TellsB false w) := by
  have H_ro := Lib.hid h_ro
  clear h_ro
  have H_rp := Lib.hid h_rp
  clear h_rp
  have H_rn := Lib.hid h_rn
  clear h_rn
  have H_org := Lib.hid h_org
  clear h_org
  have H_pt := Lib.hid h_pt
  clear h_pt
  have H_ek := Lib.hid h_ek
  clear h_ek
  obtain ⟨mv, hmv⟩ : ∃ mv, mv = Value.slice a q.vars.length cap := ⟨_, rfl⟩
  obtain ⟨m, hm⟩ : ∃ m, m = q.vars.length := ⟨_, rfl⟩
  have HM := Lib.hid (And.intro hm (And.intro hmv ha))
  rw [← hmv]
  rw [← hm] at hmv
  have HMV := Lib.hid hmv
  clear hmv ha
  have bk00 : decide (q.kind < 1) = false := decide_eq_false (by have h9 := h_k0; omega)
  have bk10 : decide (5 < q.kind) = false := decide_eq_false (by have h9 := h_k1; omega)
  have be00 : decide (q.err < 0) = false := decide_eq_false (by have h9 := h_e0; omega)
  have be10 : decide (16 < q.err) = false := decide_eq_false (by have h9 := h_e1; omega)
  have bvs0 : decide ((8 : Int) < (m : Int)) = false := decide_eq_false (by rw [hm]; have h9 := h_vs; omega)
  have bvs1 : decide (8 < m) = false := decide_eq_false (by rw [hm]; have h9 := h_vs; omega)
  clear hm
  go_enter Try.func16, Try.ntmps16
  go_upto_region 1 with fail
  generalize hw1 : World.alloc _ _ = w1
  have hb1 : Below w.heap.size w w1 := by rw [← hw1]; exact (Below.refl _ _).alloc (Nat.le_refl _) _
  have hx1 : w1.heap[w.heap.size]? = some (.cells (RsC q mv) 47 (0, 0)) := by rw [← hw1]; exact heap_alloc_new _ _
  obtain ⟨d0, d1, d2, d3, d4, d5, d6, d7, d8, d9, d10, d11, d12, d13, d14, d15, d16, d17⟩ := RsC_cells hx1
  have z1 : w.heap.size < w1.heap.size := (Array.getElem?_eq_some_iff.1 hx1).1
  have H1 := Lib.hid (And.intro hb1 hx1)
  rw [HMV.out] at d4
  clear hb1 hx1 hw1
  clear h_k0 h_k1 h_e0 h_e1 h_vs
  go_wp2_with (first
    | (go_at_call_of 31 (Value.int IntKind.i64 q.ro); refine (eight_any q.ro w1).mono ?_; rw [H_ro.out]; rintro e w' ⟨rfl, rfl⟩)
    | (go_at_call_of 31 (Value.int IntKind.i64 q.rp); refine (eight_any q.rp w1).mono ?_; rw [H_rp.out]; rintro e w' ⟨rfl, rfl⟩)
    | (go_at_call_of 31 (Value.int IntKind.i64 q.rn); refine (eight_any q.rn w1).mono ?_; rw [H_rn.out]; rintro e w' ⟨rfl, rfl⟩)
    | (go_at_call_of 31 (Value.int IntKind.i64 q.org); refine (eight_any q.org w1).mono ?_; rw [H_org.out]; rintro e w' ⟨rfl, rfl⟩)
    | (go_at_call_of 31 (Value.int IntKind.i64 q.pt); refine (eight_any q.pt w1).mono ?_; rw [H_pt.out]; rintro e w' ⟨rfl, rfl⟩)
    | (go_at_call_of 31 (Value.int IntKind.i64 q.ek); refine (eight_any q.ek w1).mono ?_; rw [H_ek.out]; rintro e w' ⟨rfl, rfl⟩)
    | fail)
  go_ret
  exact ⟨rfl, H1.out.1⟩
end Go.Proofs.Ytnafeppljnjbeaa
