/-
  The walk of the document's MayResponse: refusals.
-/
import Derived.Test.YtdpfmaikijilkaaDM
import Derived.Test.YtdpfmaikijilkaaMU
import Derived.Test.YtdpfmaikijilkaaE5
namespace Go.Proofs.Ytdpfmaikijilkaa
open Go Go.RowKit Go.Sort Go.Proofs

set_option maxHeartbeats 4000000 in
set_option maxRecDepth 100000 in
theorem mayS_no_k0 (w : World) (q : Rs) (a : Option Addr) (cap : Nat) (ha : CV.At w a q.vars.length q.vars) (h_k0 : ¬ 1 ≤ q.kind) : Calls Try.prog 16 #[.agg (RsC q (.slice a q.vars.length cap))] w (TellsB false w) := by
  obtain ⟨mv, hmv⟩ : ∃ mv, mv = Value.slice a q.vars.length cap := ⟨_, rfl⟩
  obtain ⟨m, hm⟩ : ∃ m, m = q.vars.length := ⟨_, rfl⟩
  have HM := Lib.hid (And.intro hm (And.intro hmv ha))
  rw [← hmv]
  rw [← hm] at hmv
  have HMV := Lib.hid hmv
  clear hmv ha
  have bk00 : decide (q.kind < 1) = true := decide_eq_true (by have h9 := h_k0; omega)
  clear hm
  go_enter Try.func16, Try.ntmps16
  go_upto_region 1 with fail
  generalize hw1 : World.alloc _ _ = w1
  have hb1 : Below w.heap.size w w1 := by rw [← hw1]; exact (Below.refl _ _).alloc (Nat.le_refl _) _
  have hx1 : w1.heap[w.heap.size]? = some (.cells (RsC q mv) 47 (0, 0)) := by rw [← hw1]; exact heap_alloc_new _ _
  obtain ⟨d0, d1, d2, d3, d4, d5, d6, d7, d8, d9, d10, d11, d12, d13, d14, d15, d16, d17⟩ := RsC_cells hx1
  have z1 : w.heap.size < w1.heap.size := (Array.getElem?_eq_some_iff.1 hx1).1
  have H1 := Lib.hid (And.intro hb1 hx1)
  rw [HMV.out] at d4
  clear hb1 hx1 hw1
  clear h_k0
  go_wp2_with (first
    | fail)
  go_ret
  exact ⟨rfl, H1.out.1⟩
set_option maxHeartbeats 4000000 in
set_option maxRecDepth 100000 in
theorem mayS_no_k1 (w : World) (q : Rs) (a : Option Addr) (cap : Nat) (ha : CV.At w a q.vars.length q.vars) (h_k0 : 1 ≤ q.kind) (h_k1 : ¬ q.kind ≤ 5) : Calls Try.prog 16 #[.agg (RsC q (.slice a q.vars.length cap))] w (TellsB false w) := by
  obtain ⟨mv, hmv⟩ : ∃ mv, mv = Value.slice a q.vars.length cap := ⟨_, rfl⟩
  obtain ⟨m, hm⟩ : ∃ m, m = q.vars.length := ⟨_, rfl⟩
  have HM := Lib.hid (And.intro hm (And.intro hmv ha))
  rw [← hmv]
  rw [← hm] at hmv
  have HMV := Lib.hid hmv
  clear hmv ha
  have bk00 : decide (q.kind < 1) = false := decide_eq_false (by have h9 := h_k0; omega)
  have bk10 : decide (5 < q.kind) = true := decide_eq_true (by have h9 := h_k1; omega)
  clear hm
  go_enter Try.func16, Try.ntmps16
  go_upto_region 1 with fail
  generalize hw1 : World.alloc _ _ = w1
  have hb1 : Below w.heap.size w w1 := by rw [← hw1]; exact (Below.refl _ _).alloc (Nat.le_refl _) _
  have hx1 : w1.heap[w.heap.size]? = some (.cells (RsC q mv) 47 (0, 0)) := by rw [← hw1]; exact heap_alloc_new _ _
  obtain ⟨d0, d1, d2, d3, d4, d5, d6, d7, d8, d9, d10, d11, d12, d13, d14, d15, d16, d17⟩ := RsC_cells hx1
  have z1 : w.heap.size < w1.heap.size := (Array.getElem?_eq_some_iff.1 hx1).1
  have H1 := Lib.hid (And.intro hb1 hx1)
  rw [HMV.out] at d4
  clear hb1 hx1 hw1
  clear h_k0 h_k1
  go_wp2_with (first
    | fail)
  go_ret
  exact ⟨rfl, H1.out.1⟩
set_option maxHeartbeats 4000000 in
set_option maxRecDepth 100000 in
theorem mayS_no_e0 (w : World) (q : Rs) (a : Option Addr) (cap : Nat) (ha : CV.At w a q.vars.length q.vars) (h_k0 : 1 ≤ q.kind) (h_k1 : q.kind ≤ 5) (h_e0 : ¬ 0 ≤ q.err) : Calls Try.prog 16 #[.agg (RsC q (.slice a q.vars.length cap))] w (TellsB false w) := by
  obtain ⟨mv, hmv⟩ : ∃ mv, mv = Value.slice a q.vars.length cap := ⟨_, rfl⟩
  obtain ⟨m, hm⟩ : ∃ m, m = q.vars.length := ⟨_, rfl⟩
  have HM := Lib.hid (And.intro hm (And.intro hmv ha))
  rw [← hmv]
  rw [← hm] at hmv
  have HMV := Lib.hid hmv
  clear hmv ha
  have bk00 : decide (q.kind < 1) = false := decide_eq_false (by have h9 := h_k0; omega)
  have bk10 : decide (5 < q.kind) = false := decide_eq_false (by have h9 := h_k1; omega)
  have be00 : decide (q.err < 0) = true := decide_eq_true (by have h9 := h_e0; omega)
  clear hm
  go_enter Try.func16, Try.ntmps16
  go_upto_region 1 with fail
  generalize hw1 : World.alloc _ _ = w1
  have hb1 : Below w.heap.size w w1 := by rw [← hw1]; exact (Below.refl _ _).alloc (Nat.le_refl _) _
  have hx1 : w1.heap[w.heap.size]? = some (.cells (RsC q mv) 47 (0, 0)) := by rw [← hw1]; exact heap_alloc_new _ _
  obtain ⟨d0, d1, d2, d3, d4, d5, d6, d7, d8, d9, d10, d11, d12, d13, d14, d15, d16, d17⟩ := RsC_cells hx1
  have z1 : w.heap.size < w1.heap.size := (Array.getElem?_eq_some_iff.1 hx1).1
  have H1 := Lib.hid (And.intro hb1 hx1)
  rw [HMV.out] at d4
  clear hb1 hx1 hw1
  clear h_k0 h_k1 h_e0
  go_wp2_with (first
    | fail)
  go_ret
  exact ⟨rfl, H1.out.1⟩
set_option maxHeartbeats 4000000 in
set_option maxRecDepth 100000 in
theorem mayS_no_e1 (w : World) (q : Rs) (a : Option Addr) (cap : Nat) (ha : CV.At w a q.vars.length q.vars) (h_k0 : 1 ≤ q.kind) (h_k1 : q.kind ≤ 5) (h_e0 : 0 ≤ q.err) (h_e1 : ¬ q.err ≤ 16) : Calls Try.prog 16 #[.agg (RsC q (.slice a q.vars.length cap))] w (TellsB false w) := by
  obtain ⟨mv, hmv⟩ : ∃ mv, mv = Value.slice a q.vars.length cap := ⟨_, rfl⟩
  obtain ⟨m, hm⟩ : ∃ m, m = q.vars.length := ⟨_, rfl⟩
  have HM := Lib.hid (And.intro hm (And.intro hmv ha))
  rw [← hmv]
  rw [← hm] at hmv
  have HMV := Lib.hid hmv
  clear hmv ha
  have bk00 : decide (q.kind < 1) = false := decide_eq_false (by have h9 := h_k0; omega)
  have bk10 : decide (5 < q.kind) = false := decide_eq_false (by have h9 := h_k1; omega)
  have be00 : decide (q.err < 0) = false := decide_eq_false (by have h9 := h_e0; omega)
  have be10 : decide (16 < q.err) = true := decide_eq_true (by have h9 := h_e1; omega)
  clear hm
  go_enter Try.func16, Try.ntmps16
  go_upto_region 1 with fail
  generalize hw1 : World.alloc _ _ = w1
  have hb1 : Below w.heap.size w w1 := by rw [← hw1]; exact (Below.refl _ _).alloc (Nat.le_refl _) _
  have hx1 : w1.heap[w.heap.size]? = some (.cells (RsC q mv) 47 (0, 0)) := by rw [← hw1]; exact heap_alloc_new _ _
  obtain ⟨d0, d1, d2, d3, d4, d5, d6, d7, d8, d9, d10, d11, d12, d13, d14, d15, d16, d17⟩ := RsC_cells hx1
  have z1 : w.heap.size < w1.heap.size := (Array.getElem?_eq_some_iff.1 hx1).1
  have H1 := Lib.hid (And.intro hb1 hx1)
  rw [HMV.out] at d4
  clear hb1 hx1 hw1
  clear h_k0 h_k1 h_e0 h_e1
  go_wp2_with (first
    | fail)
  go_ret
  exact ⟨rfl, H1.out.1⟩
set_option maxHeartbeats 4000000 in
set_option maxRecDepth 100000 in
theorem mayS_no_vs (w : World) (q : Rs) (a : Option Addr) (cap : Nat) (ha : CV.At w a q.vars.length q.vars) (h_k0 : 1 ≤ q.kind) (h_k1 : q.kind ≤ 5) (h_e0 : 0 ≤ q.err) (h_e1 : q.err ≤ 16) (h_vs : ¬ q.vars.length ≤ 8) : Calls Try.prog 16 #[.agg (RsC q (.slice a q.vars.length cap))] w (TellsB false w) := by
  obtain ⟨mv, hmv⟩ : ∃ mv, mv = Value.slice a q.vars.length cap := ⟨_, rfl⟩
  obtain ⟨m, hm⟩ : ∃ m, m = q.vars.length := ⟨_, rfl⟩
  have HM := Lib.hid (And.intro hm (And.intro hmv ha))
  rw [← hmv]
  rw [← hm] at hmv
  have HMV := Lib.hid hmv
  clear hmv ha
  have bk00 : decide (q.kind < 1) = false := decide_eq_false (by have h9 := h_k0; omega)
  have bk10 : decide (5 < q.kind) = false := decide_eq_false (by have h9 := h_k1; omega)
  have be00 : decide (q.err < 0) = false := decide_eq_false (by have h9 := h_e0; omega)
  have be10 : decide (16 < q.err) = false := decide_eq_false (by have h9 := h_e1; omega)
  have bvs0 : decide ((8 : Int) < (m : Int)) = true := decide_eq_true (by rw [hm]; have h9 := h_vs; omega)
  have bvs1 : decide (8 < m) = true := decide_eq_true (by rw [hm]; have h9 := h_vs; omega)
  clear hm
  go_enter Try.func16, Try.ntmps16
  go_upto_region 1 with fail
  generalize hw1 : World.alloc _ _ = w1
  have hb1 : Below w.heap.size w w1 := by rw [← hw1]; exact (Below.refl _ _).alloc (Nat.le_refl _) _
  have hx1 : w1.heap[w.heap.size]? = some (.cells (RsC q mv) 47 (0, 0)) := by rw [← hw1]; exact heap_alloc_new _ _
  obtain ⟨d0, d1, d2, d3, d4, d5, d6, d7, d8, d9, d10, d11, d12, d13, d14, d15, d16, d17⟩ := RsC_cells hx1
  have z1 : w.heap.size < w1.heap.size := (Array.getElem?_eq_some_iff.1 hx1).1
  have H1 := Lib.hid (And.intro hb1 hx1)
  rw [HMV.out] at d4
  clear hb1 hx1 hw1
  clear h_k0 h_k1 h_e0 h_e1 h_vs
  go_wp2_with (first
    | fail)
  go_ret
  exact ⟨rfl, H1.out.1⟩
set_option maxHeartbeats 4000000 in
set_option maxRecDepth 100000 in
theorem mayS_no_ro (w : World) (q : Rs) (a : Option Addr) (cap : Nat) (ha : CV.At w a q.vars.length q.vars) (h_k0 : 1 ≤ q.kind) (h_k1 : q.kind ≤ 5) (h_e0 : 0 ≤ q.err) (h_e1 : q.err ≤ 16) (h_vs : q.vars.length ≤ 8) (h_ro : in8 q.ro = false) : Calls Try.prog 16 #[.agg (RsC q (.slice a q.vars.length cap))] w (TellsB false w) := by
  have H_ro := Lib.hid h_ro
  clear h_ro
  obtain ⟨mv, hmv⟩ : ∃ mv, mv = Value.slice a q.vars.length cap := ⟨_, rfl⟩
  obtain ⟨m, hm⟩ : ∃ m, m = q.vars.length := ⟨_, rfl⟩
  have HM := Lib.hid (And.intro hm (And.intro hmv ha))
  rw [← hmv]
  rw [← hm] at hmv
  have HMV := Lib.hid hmv
  clear hmv ha
  have bk00 : decide (q.kind < 1) = false := decide_eq_false (by have h9 := h_k0; omega)
  have bk10 : decide (5 < q.kind) = false := decide_eq_false (by have h9 := h_k1; omega)
  have be00 : decide (q.err < 0) = false := decide_eq_false (by have h9 := h_e0; omega)
  have be10 : decide (16 < q.err) = false := decide_eq_false (by have h9 := h_e1; omega)
  have bvs0 : decide ((8 : Int) < (m : Int)) = false := decide_eq_false (by rw [hm]; have h9 := h_vs; omega)
  have bvs1 : decide (8 < m) = false := decide_eq_false (by rw [hm]; have h9 := h_vs; omega)
  clear hm
  go_enter Try.func16, Try.ntmps16
  go_upto_region 1 with fail
  generalize hw1 : World.alloc _ _ = w1
  have hb1 : Below w.heap.size w w1 := by rw [← hw1]; exact (Below.refl _ _).alloc (Nat.le_refl _) _
  have hx1 : w1.heap[w.heap.size]? = some (.cells (RsC q mv) 47 (0, 0)) := by rw [← hw1]; exact heap_alloc_new _ _
  obtain ⟨d0, d1, d2, d3, d4, d5, d6, d7, d8, d9, d10, d11, d12, d13, d14, d15, d16, d17⟩ := RsC_cells hx1
  have z1 : w.heap.size < w1.heap.size := (Array.getElem?_eq_some_iff.1 hx1).1
  have H1 := Lib.hid (And.intro hb1 hx1)
  rw [HMV.out] at d4
  clear hb1 hx1 hw1
  clear h_k0 h_k1 h_e0 h_e1 h_vs
  go_wp2_with (first
    | (go_at_call_of 31 (Value.int IntKind.i64 q.ro); refine (eight_any q.ro w1).mono ?_; rw [H_ro.out]; rintro e w' ⟨rfl, rfl⟩)
    | fail)
  go_ret
  exact ⟨rfl, H1.out.1⟩
set_option maxHeartbeats 4000000 in
set_option maxRecDepth 100000 in
theorem mayS_no_rp (w : World) (q : Rs) (a : Option Addr) (cap : Nat) (ha : CV.At w a q.vars.length q.vars) (h_k0 : 1 ≤ q.kind) (h_k1 : q.kind ≤ 5) (h_e0 : 0 ≤ q.err) (h_e1 : q.err ≤ 16) (h_vs : q.vars.length ≤ 8) (h_ro : in8 q.ro = true) (h_rp : in8 q.rp = false) : Calls Try.prog 16 #[.agg (RsC q (.slice a q.vars.length cap))] w (TellsB false w) := by
  have H_ro := Lib.hid h_ro
  clear h_ro
  have H_rp := Lib.hid h_rp
  clear h_rp
  obtain ⟨mv, hmv⟩ : ∃ mv, mv = Value.slice a q.vars.length cap := ⟨_, rfl⟩
  obtain ⟨m, hm⟩ : ∃ m, m = q.vars.length := ⟨_, rfl⟩
  have HM := Lib.hid (And.intro hm (And.intro hmv ha))
  rw [← hmv]
  rw [← hm] at hmv
  have HMV := Lib.hid hmv
  clear hmv ha
  have bk00 : decide (q.kind < 1) = false := decide_eq_false (by have h9 := h_k0; omega)
  have bk10 : decide (5 < q.kind) = false := decide_eq_false (by have h9 := h_k1; omega)
  have be00 : decide (q.err < 0) = false := decide_eq_false (by have h9 := h_e0; omega)
  have be10 : decide (16 < q.err) = false := decide_eq_false (by have h9 := h_e1; omega)
  have bvs0 : decide ((8 : Int) < (m : Int)) = false := decide_eq_false (by rw [hm]; have h9 := h_vs; omega)
  have bvs1 : decide (8 < m) = false := decide_eq_false (by rw [hm]; have h9 := h_vs; omega)
  clear hm
  go_enter Try.func16, Try.ntmps16
  go_upto_region 1 with fail
  generalize hw1 : World.alloc _ _ = w1
  have hb1 : Below w.heap.size w w1 := by rw [← hw1]; exact (Below.refl _ _).alloc (Nat.le_refl _) _
  have hx1 : w1.heap[w.heap.size]? = some (.cells (RsC q mv) 47 (0, 0)) := by rw [← hw1]; exact heap_alloc_new _ _
  obtain ⟨d0, d1, d2, d3, d4, d5, d6, d7, d8, d9, d10, d11, d12, d13, d14, d15, d16, d17⟩ := RsC_cells hx1
  have z1 : w.heap.size < w1.heap.size := (Array.getElem?_eq_some_iff.1 hx1).1
  have H1 := Lib.hid (And.intro hb1 hx1)
  rw [HMV.out] at d4
  clear hb1 hx1 hw1
  clear h_k0 h_k1 h_e0 h_e1 h_vs
  go_wp2_with (first
    | (go_at_call_of 31 (Value.int IntKind.i64 q.ro); refine (eight_any q.ro w1).mono ?_; rw [H_ro.out]; rintro e w' ⟨rfl, rfl⟩)
    | (go_at_call_of 31 (Value.int IntKind.i64 q.rp); refine (eight_any q.rp w1).mono ?_; rw [H_rp.out]; rintro e w' ⟨rfl, rfl⟩)
    | fail)
  go_ret
  exact ⟨rfl, H1.out.1⟩
set_option maxHeartbeats 4000000 in
set_option maxRecDepth 100000 in
theorem mayS_no_rn (w : World) (q : Rs) (a : Option Addr) (cap : Nat) (ha : CV.At w a q.vars.length q.vars) (h_k0 : 1 ≤ q.kind) (h_k1 : q.kind ≤ 5) (h_e0 : 0 ≤ q.err) (h_e1 : q.err ≤ 16) (h_vs : q.vars.length ≤ 8) (h_ro : in8 q.ro = true) (h_rp : in8 q.rp = true) (h_rn : in8 q.rn = false) : Calls Try.prog 16 #[.agg (RsC q (.slice a q.vars.length cap))] w (TellsB false w) := by
  have H_ro := Lib.hid h_ro
  clear h_ro
  have H_rp := Lib.hid h_rp
  clear h_rp
  have H_rn := Lib.hid h_rn
  clear h_rn
  obtain ⟨mv, hmv⟩ : ∃ mv, mv = Value.slice a q.vars.length cap := ⟨_, rfl⟩
  obtain ⟨m, hm⟩ : ∃ m, m = q.vars.length := ⟨_, rfl⟩
  have HM := Lib.hid (And.intro hm (And.intro hmv ha))
  rw [← hmv]
  rw [← hm] at hmv
  have HMV := Lib.hid hmv
  clear hmv ha
  have bk00 : decide (q.kind < 1) = false := decide_eq_false (by have h9 := h_k0; omega)
  have bk10 : decide (5 < q.kind) = false := decide_eq_false (by have h9 := h_k1; omega)
  have be00 : decide (q.err < 0) = false := decide_eq_false (by have h9 := h_e0; omega)
  have be10 : decide (16 < q.err) = false := decide_eq_false (by have h9 := h_e1; omega)
  have bvs0 : decide ((8 : Int) < (m : Int)) = false := decide_eq_false (by rw [hm]; have h9 := h_vs; omega)
  have bvs1 : decide (8 < m) = false := decide_eq_false (by rw [hm]; have h9 := h_vs; omega)
  clear hm
  go_enter Try.func16, Try.ntmps16
  go_upto_region 1 with fail
  generalize hw1 : World.alloc _ _ = w1
  have hb1 : Below w.heap.size w w1 := by rw [← hw1]; exact (Below.refl _ _).alloc (Nat.le_refl _) _
  have hx1 : w1.heap[w.heap.size]? = some (.cells (RsC q mv) 47 (0, 0)) := by rw [← hw1]; exact heap_alloc_new _ _
  obtain ⟨d0, d1, d2, d3, d4, d5, d6, d7, d8, d9, d10, d11, d12, d13, d14, d15, d16, d17⟩ := RsC_cells hx1
  have z1 : w.heap.size < w1.heap.size := (Array.getElem?_eq_some_iff.1 hx1).1
  have H1 := Lib.hid (And.intro hb1 hx1)
  rw [HMV.out] at d4
  clear hb1 hx1 hw1
  clear h_k0 h_k1 h_e0 h_e1 h_vs
  go_wp2_with (first
    | (go_at_call_of 31 (Value.int IntKind.i64 q.ro); refine (eight_any q.ro w1).mono ?_; rw [H_ro.out]; rintro e w' ⟨rfl, rfl⟩)
    | (go_at_call_of 31 (Value.int IntKind.i64 q.rp); refine (eight_any q.rp w1).mono ?_; rw [H_rp.out]; rintro e w' ⟨rfl, rfl⟩)
    | (go_at_call_of 31 (Value.int IntKind.i64 q.rn); refine (eight_any q.rn w1).mono ?_; rw [H_rn.out]; rintro e w' ⟨rfl, rfl⟩)
    | fail)
  go_ret
  exact ⟨rfl, H1.out.1⟩
set_option maxHeartbeats 4000000 in
set_option maxRecDepth 100000 in
theorem mayS_no_org (w : World) (q : Rs) (a : Option Addr) (cap : Nat) (ha : CV.At w a q.vars.length q.vars) (h_k0 : 1 ≤ q.kind) (h_k1 : q.kind ≤ 5) (h_e0 : 0 ≤ q.err) (h_e1 : q.err ≤ 16) (h_vs : q.vars.length ≤ 8) (h_ro : in8 q.ro = true) (h_rp : in8 q.rp = true) (h_rn : in8 q.rn = true) (h_org : in8 q.org = false) : Calls Try.prog 16 #[.agg (RsC q (.slice a q.vars.length cap))] w (TellsB false w) := by
  have H_ro := Lib.hid h_ro
  clear h_ro
  have H_rp := Lib.hid h_rp
  clear h_rp
  have H_rn := Lib.hid h_rn
  clear h_rn
  have H_org := Lib.hid h_org
  clear h_org
  obtain ⟨mv, hmv⟩ : ∃ mv, mv = Value.slice a q.vars.length cap := ⟨_, rfl⟩
  obtain ⟨m, hm⟩ : ∃ m, m = q.vars.length := ⟨_, rfl⟩
  have HM := Lib.hid (And.intro hm (And.intro hmv ha))
  rw [← hmv]
  rw [← hm] at hmv
  have HMV := Lib.hid hmv
  clear hmv ha
  have bk00 : decide (q.kind < 1) = false := decide_eq_false (by have h9 := h_k0; omega)
  have bk10 : decide (5 < q.kind) = false := decide_eq_false (by have h9 := h_k1; omega)
  have be00 : decide (q.err < 0) = false := decide_eq_false (by have h9 := h_e0; omega)
  have be10 : decide (16 < q.err) = false := decide_eq_false (by have h9 := h_e1; omega)
  have bvs0 : decide ((8 : Int) < (m : Int)) = false := decide_eq_false (by rw [hm]; have h9 := h_vs; omega)
  have bvs1 : decide (8 < m) = false := decide_eq_false (by rw [hm]; have h9 := h_vs; omega)
  clear hm
  go_enter Try.func16, Try.ntmps16
  go_upto_region 1 with fail
  generalize hw1 : World.alloc _ _ = w1
  have hb1 : Below w.heap.size w w1 := by rw [← hw1]; exact (Below.refl _ _).alloc (Nat.le_refl _) _
  have hx1 : w1.heap[w.heap.size]? = some (.cells (RsC q mv) 47 (0, 0)) := by rw [← hw1]; exact heap_alloc_new _ _
  obtain ⟨d0, d1, d2, d3, d4, d5, d6, d7, d8, d9, d10, d11, d12, d13, d14, d15, d16, d17⟩ := RsC_cells hx1
  have z1 : w.heap.size < w1.heap.size := (Array.getElem?_eq_some_iff.1 hx1).1
  have H1 := Lib.hid (And.intro hb1 hx1)
  rw [HMV.out] at d4
  clear hb1 hx1 hw1
  clear h_k0 h_k1 h_e0 h_e1 h_vs
  go_wp2_with (first
    | (go_at_call_of 31 (Value.int IntKind.i64 q.ro); refine (eight_any q.ro w1).mono ?_; rw [H_ro.out]; rintro e w' ⟨rfl, rfl⟩)
    | (go_at_call_of 31 (Value.int IntKind.i64 q.rp); refine (eight_any q.rp w1).mono ?_; rw [H_rp.out]; rintro e w' ⟨rfl, rfl⟩)
    | (go_at_call_of 31 (Value.int IntKind.i64 q.rn); refine (eight_any q.rn w1).mono ?_; rw [H_rn.out]; rintro e w' ⟨rfl, rfl⟩)
    | (go_at_call_of 31 (Value.int IntKind.i64 q.org); refine (eight_any q.org w1).mono ?_; rw [H_org.out]; rintro e w' ⟨rfl, rfl⟩)
    | fail)
  go_ret
  exact ⟨rfl, H1.out.1⟩
set_option maxHeartbeats 4000000 in
set_option maxRecDepth 100000 in
theorem mayS_no_pt (w : World) (q : Rs) (a : Option Addr) (cap : Nat) (ha : CV.At w a q.vars.length q.vars) (h_k0 : 1 ≤ q.kind) (h_k1 : q.kind ≤ 5) (h_e0 : 0 ≤ q.err) (h_e1 : q.err ≤ 16) (h_vs : q.vars.length ≤ 8) (h_ro : in8 q.ro = true) (h_rp : in8 q.rp = true) (h_rn : in8 q.rn = true) (h_org : in8 q.org = true) (h_pt : in8 q.pt = false) : Calls Try.prog 16 #[.agg (RsC q (.slice a q.vars.length cap))] w (TellsB false w) := by
  have H_ro := Lib.hid h_ro
  clear h_ro
  have H_rp := Lib.hid h_rp
  clear h_rp
  have H_rn := Lib.hid h_rn
  clear h_rn
  have H_org := Lib.hid h_org
  clear h_org
  have H_pt := Lib.hid h_pt
  clear h_pt
  obtain ⟨mv, hmv⟩ : ∃ mv, mv = Value.slice a q.vars.length cap := ⟨_, rfl⟩
  obtain ⟨m, hm⟩ : ∃ m, m = q.vars.length := ⟨_, rfl⟩
  have HM := Lib.hid (And.intro hm (And.intro hmv ha))
  rw [← hmv]
  rw [← hm] at hmv
  have HMV := Lib.hid hmv
  clear hmv ha
  have bk00 : decide (q.kind < 1) = false := decide_eq_false (by have h9 := h_k0; omega)
  have bk10 : decide (5 < q.kind) = false := decide_eq_false (by have h9 := h_k1; omega)
  have be00 : decide (q.err < 0) = false := decide_eq_false (by have h9 := h_e0; omega)
  have be10 : decide (16 < q.err) = false := decide_eq_false (by have h9 := h_e1; omega)
  have bvs0 : decide ((8 : Int) < (m : Int)) = false := decide_eq_false (by rw [hm]; have h9 := h_vs; omega)
  have bvs1 : decide (8 < m) = false := decide_eq_false (by rw [hm]; have h9 := h_vs; omega)
  clear hm
  go_enter Try.func16, Try.ntmps16
  go_upto_region 1 with fail
  generalize hw1 : World.alloc _ _ = w1
  have hb1 : Below w.heap.size w w1 := by rw [← hw1]; exact (Below.refl _ _).alloc (Nat.le_refl _) _
  have hx1 : w1.heap[w.heap.size]? = some (.cells (RsC q mv) 47 (0, 0)) := by rw [← hw1]; exact heap_alloc_new _ _
  obtain ⟨d0, d1, d2, d3, d4, d5, d6, d7, d8, d9, d10, d11, d12, d13, d14, d15, d16, d17⟩ := RsC_cells hx1
  have z1 : w.heap.size < w1.heap.size := (Array.getElem?_eq_some_iff.1 hx1).1
  have H1 := Lib.hid (And.intro hb1 hx1)
  rw [HMV.out] at d4
  clear hb1 hx1 hw1
  clear h_k0 h_k1 h_e0 h_e1 h_vs
  go_wp2_with (first
    | (go_at_call_of 31 (Value.int IntKind.i64 q.ro); refine (eight_any q.ro w1).mono ?_; rw [H_ro.out]; rintro e w' ⟨rfl, rfl⟩)
    | (go_at_call_of 31 (Value.int IntKind.i64 q.rp); refine (eight_any q.rp w1).mono ?_; rw [H_rp.out]; rintro e w' ⟨rfl, rfl⟩)
    | (go_at_call_of 31 (Value.int IntKind.i64 q.rn); refine (eight_any q.rn w1).mono ?_; rw [H_rn.out]; rintro e w' ⟨rfl, rfl⟩)
    | (go_at_call_of 31 (Value.int IntKind.i64 q.org); refine (eight_any q.org w1).mono ?_; rw [H_org.out]; rintro e w' ⟨rfl, rfl⟩)
    | (go_at_call_of 31 (Value.int IntKind.i64 q.pt); refine (eight_any q.pt w1).mono ?_; rw [H_pt.out]; rintro e w' ⟨rfl, rfl⟩)
    | fail)
  go_ret
  exact ⟨rfl, H1.out.1⟩
set_option maxHeartbeats 4000000 in
set_option maxRecDepth 100000 in
theorem mayS_no_ek (w : World) (q : Rs) (a : Option Addr) (cap : Nat) (ha : CV.At w a q.vars.length q.vars) (h_k0 : 1 ≤ q.kind) (h_k1 : q.kind ≤ 5) (h_e0 : 0 ≤ q.err) (h_e1 : q.err ≤ 16) (h_vs : q.vars.length ≤ 8) (h_ro : in8 q.ro = true) (h_rp : in8 q.rp = true) (h_rn : in8 q.rn = true) (h_org : in8 q.org = true) (h_pt : in8 q.pt = true) (h_ek : in8 q.ek = false) : Calls Try.prog 16 #[.agg (RsC q (.slice a q.vars.length cap))] w (TellsB false w) := by
  have H_ro := Lib.hid h_ro
  clear h_ro
  have H_rp := Lib.hid h_rp
  clear h_rp
  have H_rn := Lib.hid h_rn
  clear h_rn
  have H_org := Lib.hid h_org
  clear h_org
  have H_pt := Lib.hid h_pt
  clear h_pt
  have H_ek := Lib.hid h_ek
  clear h_ek
  obtain ⟨mv, hmv⟩ : ∃ mv, mv = Value.slice a q.vars.length cap := ⟨_, rfl⟩
  obtain ⟨m, hm⟩ : ∃ m, m = q.vars.length := ⟨_, rfl⟩
  have HM := Lib.hid (And.intro hm (And.intro hmv ha))
  rw [← hmv]
  rw [← hm] at hmv
  have HMV := Lib.hid hmv
  clear hmv ha
  have bk00 : decide (q.kind < 1) = false := decide_eq_false (by have h9 := h_k0; omega)
  have bk10 : decide (5 < q.kind) = false := decide_eq_false (by have h9 := h_k1; omega)
  have be00 : decide (q.err < 0) = false := decide_eq_false (by have h9 := h_e0; omega)
  have be10 : decide (16 < q.err) = false := decide_eq_false (by have h9 := h_e1; omega)
  have bvs0 : decide ((8 : Int) < (m : Int)) = false := decide_eq_false (by rw [hm]; have h9 := h_vs; omega)
  have bvs1 : decide (8 < m) = false := decide_eq_false (by rw [hm]; have h9 := h_vs; omega)
  clear hm
  go_enter Try.func16, Try.ntmps16
  go_upto_region 1 with fail
  generalize hw1 : World.alloc _ _ = w1
  have hb1 : Below w.heap.size w w1 := by rw [← hw1]; exact (Below.refl _ _).alloc (Nat.le_refl _) _
  have hx1 : w1.heap[w.heap.size]? = some (.cells (RsC q mv) 47 (0, 0)) := by rw [← hw1]; exact heap_alloc_new _ _
  obtain ⟨d0, d1, d2, d3, d4, d5, d6, d7, d8, d9, d10, d11, d12, d13, d14, d15, d16, d17⟩ := RsC_cells hx1
  have z1 : w.heap.size < w1.heap.size := (Array.getElem?_eq_some_iff.1 hx1).1
  have H1 := Lib.hid (And.intro hb1 hx1)
  rw [HMV.out] at d4
  clear hb1 hx1 hw1
  clear h_k0 h_k1 h_e0 h_e1 h_vs
  go_wp2_with (first
    | (go_at_call_of 31 (Value.int IntKind.i64 q.ro); refine (eight_any q.ro w1).mono ?_; rw [H_ro.out]; rintro e w' ⟨rfl, rfl⟩)
    | (go_at_call_of 31 (Value.int IntKind.i64 q.rp); refine (eight_any q.rp w1).mono ?_; rw [H_rp.out]; rintro e w' ⟨rfl, rfl⟩)
    | (go_at_call_of 31 (Value.int IntKind.i64 q.rn); refine (eight_any q.rn w1).mono ?_; rw [H_rn.out]; rintro e w' ⟨rfl, rfl⟩)
    | (go_at_call_of 31 (Value.int IntKind.i64 q.org); refine (eight_any q.org w1).mono ?_; rw [H_org.out]; rintro e w' ⟨rfl, rfl⟩)
    | (go_at_call_of 31 (Value.int IntKind.i64 q.pt); refine (eight_any q.pt w1).mono ?_; rw [H_pt.out]; rintro e w' ⟨rfl, rfl⟩)
    | (go_at_call_of 31 (Value.int IntKind.i64 q.ek); refine (eight_any q.ek w1).mono ?_; rw [H_ek.out]; rintro e w' ⟨rfl, rfl⟩)
    | fail)
  go_ret
  exact ⟨rfl, H1.out.1⟩
end Go.Proofs.Ytdpfmaikijilkaa
namespace Go.Proofs.Ytdpfmaikijilkaa
open Go Go.RowKit Go.Sort Go.Proofs

set_option maxHeartbeats 4000000 in
set_option maxRecDepth 100000 in
theorem mayS_k1 (w : World) (q : Rs) (a : Option Addr) (cap : Nat) (ha : CV.At w a q.vars.length q.vars) (L : LimS q) (hk : q.kind = 1) : Calls Try.prog 16 #[.agg (RsC q (.slice a q.vars.length cap))] w (TellsB (sameS ⟨1, q.id, q.err, q.floor, [], 0, 0, 0, 0, 0, 0, 0, 0, 0, 0, 0, 0, 0⟩ q) w) := by
  have hv8 := L.vs
  have he0 := L.e0
  have he1 := L.e1
  have be00 : decide (q.err < 0) = false := decide_eq_false (by omega)
  have be10 : decide (16 < q.err) = false := decide_eq_false (by omega)
  clear he0 he1
  obtain ⟨r, hr⟩ : ∃ r, r = (sameS ⟨1, q.id, q.err, q.floor, [], 0, 0, 0, 0, 0, 0, 0, 0, 0, 0, 0, 0, 0⟩ q) := ⟨_, rfl⟩
  rw [← hr]
  have HRR := Lib.hid hr
  have L := Lib.hid L
  clear hr
  obtain ⟨mv, hmv⟩ : ∃ mv, mv = Value.slice a q.vars.length cap := ⟨_, rfl⟩
  obtain ⟨m, hm⟩ : ∃ m, m = q.vars.length := ⟨_, rfl⟩
  have HM := Lib.hid (And.intro hm (And.intro hmv ha))
  rw [← hmv]
  rw [← hm] at hmv
  have HMV := Lib.hid hmv
  clear hmv ha
  have bvs0 : decide ((8 : Int) < (m : Int)) = false := decide_eq_false (by rw [hm]; omega)
  have bvs1 : decide (8 < m) = false := decide_eq_false (by rw [hm]; omega)
  clear hv8 hm
  go_enter Try.func16, Try.ntmps16
  go_upto_region 1 with fail
  generalize hw1 : World.alloc _ _ = w1
  have hb1 : Below w.heap.size w w1 := by rw [← hw1]; exact (Below.refl _ _).alloc (Nat.le_refl _) _
  have hx1 : w1.heap[w.heap.size]? = some (.cells (RsC q mv) 47 (0, 0)) := by rw [← hw1]; exact heap_alloc_new _ _
  obtain ⟨d0, d1, d2, d3, d4, d5, d6, d7, d8, d9, d10, d11, d12, d13, d14, d15, d16, d17⟩ := RsC_cells hx1
  have z1 : w.heap.size < w1.heap.size := (Array.getElem?_eq_some_iff.1 hx1).1
  have H1 := Lib.hid (And.intro hb1 hx1)
  rw [HMV.out] at d4
  clear hb1 hx1 hw1
  rw [hk] at d0
  go_upto_region 3 with (first
    | (go_at_call_of 31 (Value.int IntKind.i64 q.ro); refine (eight_any q.ro w1).mono ?_; rw [L.out.ro]; rintro e w' ⟨rfl, rfl⟩)
    | (go_at_call_of 31 (Value.int IntKind.i64 q.rp); refine (eight_any q.rp w1).mono ?_; rw [L.out.rp]; rintro e w' ⟨rfl, rfl⟩)
    | (go_at_call_of 31 (Value.int IntKind.i64 q.rn); refine (eight_any q.rn w1).mono ?_; rw [L.out.rn]; rintro e w' ⟨rfl, rfl⟩)
    | (go_at_call_of 31 (Value.int IntKind.i64 q.org); refine (eight_any q.org w1).mono ?_; rw [L.out.org]; rintro e w' ⟨rfl, rfl⟩)
    | (go_at_call_of 31 (Value.int IntKind.i64 q.pt); refine (eight_any q.pt w1).mono ?_; rw [L.out.pt]; rintro e w' ⟨rfl, rfl⟩)
    | (go_at_call_of 31 (Value.int IntKind.i64 q.ek); refine (eight_any q.ek w1).mono ?_; rw [L.out.ek]; rintro e w' ⟨rfl, rfl⟩)
    | fail)
  clear be00 be10 bvs0 bvs1
  go_upto_region 4 with (first
    | (show wpList _ _ _ (Oper.mk _ (.store _ (.tmp 3) (.tmp 74)) _ _ _ _ :: _) _ _; refine wpList_store_row rfl 47 (.tmp 3) (.tmp 74) rfl w1.heap.size (RsC ⟨1, 0, 0, 0, [], 0, 0, 0, 0, 0, 0, 0, 0, 0, 0, 0, 0, 0⟩ (.slice none 0 0)) rfl rfl 47 (RsC (zeroS 0) (.slice none 0 0)) (heap_alloc_new _ _) (infoS _ _) rfl (RsC_one _ _ _ _) ?_; generalize hw2 : World.setRow _ _ _ = w2; have g1 : Below w1.heap.size w1 w2 := (by rw [← hw2]; exact (grow_row w1 _ _ _).1); have g2 : w2.heap[w1.heap.size]? = some (.cells (RsC ⟨1, 0, 0, 0, [], 0, 0, 0, 0, 0, 0, 0, 0, 0, 0, 0, 0, 0⟩ (.slice none 0 0)) 47 (0, 0)) := (by rw [← hw2]; exact (grow_row w1 _ _ _).2); obtain ⟨u0, u1, u2, u3, u4, u5, u6, u7, u8, u9, u10, u11, u12, u13, u14, u15, u16, u17⟩ := RsC_cells g2; have fz : ∀ o, w2.frozen? ⟨w1.heap.size, o, none⟩ = false := (fun o => frozen_of_row _ _ _ _ _ g2); have G2 := Lib.hid (And.intro (H1.out.1.trans (g1.mono H1.out.1.size)) (And.intro g2 ((g1.block _ z1).trans H1.out.2))); replace d0 := cell_below d0 g1; replace d1 := cell_below d1 g1; replace d2 := cell_below d2 g1; replace d3 := cell_below d3 g1; replace d4 := cell_below d4 g1; replace d5 := cell_below d5 g1; replace d6 := cell_below d6 g1; replace d7 := cell_below d7 g1; replace d8 := cell_below d8 g1; replace d9 := cell_below d9 g1; replace d10 := cell_below d10 g1; replace d11 := cell_below d11 g1; replace d12 := cell_below d12 g1; replace d13 := cell_below d13 g1; replace d14 := cell_below d14 g1; replace d15 := cell_below d15 g1; replace d16 := cell_below d16 g1; replace d17 := cell_below d17 g1; clear hw2 g1 g2)
    | fail)
  go_upto_region 20 with fail
  have hn : w.heap.size ≠ w1.heap.size := by omega
  obtain ⟨w3, hw3⟩ : ∃ w3, w3 = (((w2.setCell ⟨w1.heap.size, 1, none⟩ (.int .u32 q.id)).setCell ⟨w1.heap.size, 2, none⟩ (.int .i64 q.err)).setCell ⟨w1.heap.size, 3, none⟩ (.int .i64 q.floor)) := ⟨_, rfl⟩
  have s3 : w3.heap[w1.heap.size]? = some (.cells (RsC ⟨1, q.id, q.err, q.floor, [], 0, 0, 0, 0, 0, 0, 0, 0, 0, 0, 0, 0, 0⟩ (.slice none 0 0)) 47 (0, 0)) := by rw [hw3]; exact (heap_setCell_same _ _ _ _ _ _ (heap_setCell_same _ _ _ _ _ _ (heap_setCell_same _ _ _ _ _ _ G2.out.2.1)))
  have b3 : But (fun x => x = w1.heap.size) w2 w3 := by rw [hw3]; exact ((((But.refl (fun x => x = w1.heap.size) w2).setCell (p := ⟨w1.heap.size, 1, none⟩) rfl _).setCell (p := ⟨w1.heap.size, 2, none⟩) rfl _).setCell (p := ⟨w1.heap.size, 3, none⟩) rfl _)
  have H3 : Hid (Below w.heap.size w w3 ∧ w3.heap[w.heap.size]? = some (.cells (RsC q mv) 47 (0, 0)) ∧ w3.heap[w1.heap.size]? = some (.cells (RsC ⟨1, q.id, q.err, q.floor, [], 0, 0, 0, 0, 0, 0, 0, 0, 0, 0, 0, 0, 0⟩ (.slice none 0 0)) 47 (0, 0))) := ⟨G2.out.1.trans (b3.below G2.out.1.size fun x e => by omega), (b3.block _ (Array.getElem?_eq_some_iff.1 G2.out.2.2).1 hn).trans G2.out.2.2, s3⟩
  rw [← hw3]
  clear hw3 s3 b3 hn fz u0 d0 u1 d1 u2 d2 u3 d3 u4 d4 u5 d5 u6 d6 u7 d7 u8 d8 u9 d9 u10 d10 u11 d11 u12 d12 u13 d13 u14 d14 u15 d15 u16 d16 u17 d17
  go_wp2_with (first
    | (show wpList _ _ _ (Oper.mk _ (.load _ (.tmp 3)) _ _ _ _ :: _) _ _; refine wpList_load_row rfl 47 (.tmp 3) rfl w1.heap.size rfl 47 (RsC ⟨1, q.id, q.err, q.floor, [], 0, 0, 0, 0, 0, 0, 0, 0, 0, 0, 0, 0, 0⟩ (.slice none 0 0)) (0, 0) _ H3.out.2.2 Try.underlying47 rfl (infoS _ _) ?_)
    | (show wpList _ _ _ (Oper.mk _ (.load _ (.tmp 1)) _ _ _ _ :: _) _ _; refine wpList_load_row rfl 47 (.tmp 1) rfl w.heap.size rfl 47 (RsC q mv) (0, 0) _ H3.out.2.1 Try.underlying47 rfl (infoS _ _) ?_)
    | (go_at_call 18; rw [HM.out.2.1]; refine (rsameResponse_any w3 ⟨1, q.id, q.err, q.floor, [], 0, 0, 0, 0, 0, 0, 0, 0, 0, 0, 0, 0, 0⟩ q none a 0 cap (CV_nil _ _) (HM.out.2.2.below H3.out.1)).mono ?_; rintro e w9 ⟨rfl, hb9⟩; have H9 := Lib.hid (H3.out.1.trans (hb9.mono H3.out.1.size)); clear hb9))
  go_ret
  exact ⟨by rw [HRR.out]; rfl, H9.out⟩
set_option maxHeartbeats 4000000 in
set_option maxRecDepth 100000 in
theorem mayS_k2 (w : World) (q : Rs) (a : Option Addr) (cap : Nat) (ha : CV.At w a q.vars.length q.vars) (L : LimS q) (hk : q.kind = 2) : Calls Try.prog 16 #[.agg (RsC q (.slice a q.vars.length cap))] w (TellsB (sameS ⟨2, q.id, 0, q.floor, q.vars, 0, 0, 0, 0, 0, 0, 0, 0, 0, 0, 0, 0, 0⟩ q) w) := by
  have hv8 := L.vs
  have he0 := L.e0
  have he1 := L.e1
  have be00 : decide (q.err < 0) = false := decide_eq_false (by omega)
  have be10 : decide (16 < q.err) = false := decide_eq_false (by omega)
  clear he0 he1
  obtain ⟨r, hr⟩ : ∃ r, r = (sameS ⟨2, q.id, 0, q.floor, q.vars, 0, 0, 0, 0, 0, 0, 0, 0, 0, 0, 0, 0, 0⟩ q) := ⟨_, rfl⟩
  rw [← hr]
  have HRR := Lib.hid hr
  have L := Lib.hid L
  clear hr
  obtain ⟨mv, hmv⟩ : ∃ mv, mv = Value.slice a q.vars.length cap := ⟨_, rfl⟩
  obtain ⟨m, hm⟩ : ∃ m, m = q.vars.length := ⟨_, rfl⟩
  have HM := Lib.hid (And.intro hm (And.intro hmv ha))
  rw [← hmv]
  rw [← hm] at hmv
  have HMV := Lib.hid hmv
  clear hmv ha
  have bvs0 : decide ((8 : Int) < (m : Int)) = false := decide_eq_false (by rw [hm]; omega)
  have bvs1 : decide (8 < m) = false := decide_eq_false (by rw [hm]; omega)
  clear hv8 hm
  go_enter Try.func16, Try.ntmps16
  go_upto_region 1 with fail
  generalize hw1 : World.alloc _ _ = w1
  have hb1 : Below w.heap.size w w1 := by rw [← hw1]; exact (Below.refl _ _).alloc (Nat.le_refl _) _
  have hx1 : w1.heap[w.heap.size]? = some (.cells (RsC q mv) 47 (0, 0)) := by rw [← hw1]; exact heap_alloc_new _ _
  obtain ⟨d0, d1, d2, d3, d4, d5, d6, d7, d8, d9, d10, d11, d12, d13, d14, d15, d16, d17⟩ := RsC_cells hx1
  have z1 : w.heap.size < w1.heap.size := (Array.getElem?_eq_some_iff.1 hx1).1
  have H1 := Lib.hid (And.intro hb1 hx1)
  rw [HMV.out] at d4
  clear hb1 hx1 hw1
  rw [hk] at d0
  go_upto_region 3 with (first
    | (go_at_call_of 31 (Value.int IntKind.i64 q.ro); refine (eight_any q.ro w1).mono ?_; rw [L.out.ro]; rintro e w' ⟨rfl, rfl⟩)
    | (go_at_call_of 31 (Value.int IntKind.i64 q.rp); refine (eight_any q.rp w1).mono ?_; rw [L.out.rp]; rintro e w' ⟨rfl, rfl⟩)
    | (go_at_call_of 31 (Value.int IntKind.i64 q.rn); refine (eight_any q.rn w1).mono ?_; rw [L.out.rn]; rintro e w' ⟨rfl, rfl⟩)
    | (go_at_call_of 31 (Value.int IntKind.i64 q.org); refine (eight_any q.org w1).mono ?_; rw [L.out.org]; rintro e w' ⟨rfl, rfl⟩)
    | (go_at_call_of 31 (Value.int IntKind.i64 q.pt); refine (eight_any q.pt w1).mono ?_; rw [L.out.pt]; rintro e w' ⟨rfl, rfl⟩)
    | (go_at_call_of 31 (Value.int IntKind.i64 q.ek); refine (eight_any q.ek w1).mono ?_; rw [L.out.ek]; rintro e w' ⟨rfl, rfl⟩)
    | fail)
  clear be00 be10 bvs0 bvs1
  go_upto_region 4 with (first
    | (show wpList _ _ _ (Oper.mk _ (.store _ (.tmp 3) (.tmp 74)) _ _ _ _ :: _) _ _; refine wpList_store_row rfl 47 (.tmp 3) (.tmp 74) rfl w1.heap.size (RsC ⟨2, 0, 0, 0, [], 0, 0, 0, 0, 0, 0, 0, 0, 0, 0, 0, 0, 0⟩ (.slice none 0 0)) rfl rfl 47 (RsC (zeroS 0) (.slice none 0 0)) (heap_alloc_new _ _) (infoS _ _) rfl (RsC_one _ _ _ _) ?_; generalize hw2 : World.setRow _ _ _ = w2; have g1 : Below w1.heap.size w1 w2 := (by rw [← hw2]; exact (grow_row w1 _ _ _).1); have g2 : w2.heap[w1.heap.size]? = some (.cells (RsC ⟨2, 0, 0, 0, [], 0, 0, 0, 0, 0, 0, 0, 0, 0, 0, 0, 0, 0⟩ (.slice none 0 0)) 47 (0, 0)) := (by rw [← hw2]; exact (grow_row w1 _ _ _).2); obtain ⟨u0, u1, u2, u3, u4, u5, u6, u7, u8, u9, u10, u11, u12, u13, u14, u15, u16, u17⟩ := RsC_cells g2; have fz : ∀ o, w2.frozen? ⟨w1.heap.size, o, none⟩ = false := (fun o => frozen_of_row _ _ _ _ _ g2); have G2 := Lib.hid (And.intro (H1.out.1.trans (g1.mono H1.out.1.size)) (And.intro g2 ((g1.block _ z1).trans H1.out.2))); replace d0 := cell_below d0 g1; replace d1 := cell_below d1 g1; replace d2 := cell_below d2 g1; replace d3 := cell_below d3 g1; replace d4 := cell_below d4 g1; replace d5 := cell_below d5 g1; replace d6 := cell_below d6 g1; replace d7 := cell_below d7 g1; replace d8 := cell_below d8 g1; replace d9 := cell_below d9 g1; replace d10 := cell_below d10 g1; replace d11 := cell_below d11 g1; replace d12 := cell_below d12 g1; replace d13 := cell_below d13 g1; replace d14 := cell_below d14 g1; replace d15 := cell_below d15 g1; replace d16 := cell_below d16 g1; replace d17 := cell_below d17 g1; clear hw2 g1 g2)
    | fail)
  go_upto_region 20 with fail
  have hn : w.heap.size ≠ w1.heap.size := by omega
  obtain ⟨w3, hw3⟩ : ∃ w3, w3 = (((w2.setCell ⟨w1.heap.size, 1, none⟩ (.int .u32 q.id)).setCell ⟨w1.heap.size, 3, none⟩ (.int .i64 q.floor)).setCell ⟨w1.heap.size, 4, none⟩ (.slice a m cap)) := ⟨_, rfl⟩
  have s3 : w3.heap[w1.heap.size]? = some (.cells (RsC ⟨2, q.id, 0, q.floor, q.vars, 0, 0, 0, 0, 0, 0, 0, 0, 0, 0, 0, 0, 0⟩ (.slice a m cap)) 47 (0, 0)) := by rw [hw3]; exact (heap_setCell_same _ _ _ _ _ _ (heap_setCell_same _ _ _ _ _ _ (heap_setCell_same _ _ _ _ _ _ G2.out.2.1)))
  have b3 : But (fun x => x = w1.heap.size) w2 w3 := by rw [hw3]; exact ((((But.refl (fun x => x = w1.heap.size) w2).setCell (p := ⟨w1.heap.size, 1, none⟩) rfl _).setCell (p := ⟨w1.heap.size, 3, none⟩) rfl _).setCell (p := ⟨w1.heap.size, 4, none⟩) rfl _)
  have H3 : Hid (Below w.heap.size w w3 ∧ w3.heap[w.heap.size]? = some (.cells (RsC q mv) 47 (0, 0)) ∧ w3.heap[w1.heap.size]? = some (.cells (RsC ⟨2, q.id, 0, q.floor, q.vars, 0, 0, 0, 0, 0, 0, 0, 0, 0, 0, 0, 0, 0⟩ (.slice a m cap)) 47 (0, 0))) := ⟨G2.out.1.trans (b3.below G2.out.1.size fun x e => by omega), (b3.block _ (Array.getElem?_eq_some_iff.1 G2.out.2.2).1 hn).trans G2.out.2.2, s3⟩
  rw [← hw3]
  clear hw3 s3 b3 hn fz u0 d0 u1 d1 u2 d2 u3 d3 u4 d4 u5 d5 u6 d6 u7 d7 u8 d8 u9 d9 u10 d10 u11 d11 u12 d12 u13 d13 u14 d14 u15 d15 u16 d16 u17 d17
  go_wp2_with (first
    | (show wpList _ _ _ (Oper.mk _ (.load _ (.tmp 3)) _ _ _ _ :: _) _ _; refine wpList_load_row rfl 47 (.tmp 3) rfl w1.heap.size rfl 47 (RsC ⟨2, q.id, 0, q.floor, q.vars, 0, 0, 0, 0, 0, 0, 0, 0, 0, 0, 0, 0, 0⟩ (.slice a m cap)) (0, 0) _ H3.out.2.2 Try.underlying47 rfl (infoS _ _) ?_)
    | (show wpList _ _ _ (Oper.mk _ (.load _ (.tmp 1)) _ _ _ _ :: _) _ _; refine wpList_load_row rfl 47 (.tmp 1) rfl w.heap.size rfl 47 (RsC q mv) (0, 0) _ H3.out.2.1 Try.underlying47 rfl (infoS _ _) ?_)
    | (go_at_call 18; rw [HM.out.1]; rw [HM.out.2.1]; refine (rsameResponse_any w3 ⟨2, q.id, 0, q.floor, q.vars, 0, 0, 0, 0, 0, 0, 0, 0, 0, 0, 0, 0, 0⟩ q a a cap cap (HM.out.2.2.below H3.out.1) (HM.out.2.2.below H3.out.1)).mono ?_; rintro e w9 ⟨rfl, hb9⟩; have H9 := Lib.hid (H3.out.1.trans (hb9.mono H3.out.1.size)); clear hb9))
  go_ret
  exact ⟨by rw [HRR.out]; rfl, H9.out⟩
end Go.Proofs.Ytdpfmaikijilkaa
namespace Go.Proofs.Ytdpfmaikijilkaa
open Go Go.RowKit Go.Sort Go.Proofs

set_option maxHeartbeats 4000000 in
set_option maxRecDepth 100000 in
theorem mayS_k3 (w : World) (q : Rs) (a : Option Addr) (cap : Nat) (ha : CV.At w a q.vars.length q.vars) (L : LimS q) (hk : q.kind = 3) : Calls Try.prog 16 #[.agg (RsC q (.slice a q.vars.length cap))] w (TellsB (sameS ⟨3, 0, 0, 0, [], q.rt, q.ro, q.rs, q.rp, q.rn, q.rv, 0, 0, 0, 0, 0, 0, 0⟩ q) w) := by
  have hv8 := L.vs
  have he0 := L.e0
  have he1 := L.e1
  have be00 : decide (q.err < 0) = false := decide_eq_false (by omega)
  have be10 : decide (16 < q.err) = false := decide_eq_false (by omega)
  clear he0 he1
  obtain ⟨r, hr⟩ : ∃ r, r = (sameS ⟨3, 0, 0, 0, [], q.rt, q.ro, q.rs, q.rp, q.rn, q.rv, 0, 0, 0, 0, 0, 0, 0⟩ q) := ⟨_, rfl⟩
  rw [← hr]
  have HRR := Lib.hid hr
  have L := Lib.hid L
  clear hr
  obtain ⟨mv, hmv⟩ : ∃ mv, mv = Value.slice a q.vars.length cap := ⟨_, rfl⟩
  obtain ⟨m, hm⟩ : ∃ m, m = q.vars.length := ⟨_, rfl⟩
  have HM := Lib.hid (And.intro hm (And.intro hmv ha))
  rw [← hmv]
  rw [← hm] at hmv
  have HMV := Lib.hid hmv
  clear hmv ha
  have bvs0 : decide ((8 : Int) < (m : Int)) = false := decide_eq_false (by rw [hm]; omega)
  have bvs1 : decide (8 < m) = false := decide_eq_false (by rw [hm]; omega)
  clear hv8 hm
  go_enter Try.func16, Try.ntmps16
  go_upto_region 1 with fail
  generalize hw1 : World.alloc _ _ = w1
  have hb1 : Below w.heap.size w w1 := by rw [← hw1]; exact (Below.refl _ _).alloc (Nat.le_refl _) _
  have hx1 : w1.heap[w.heap.size]? = some (.cells (RsC q mv) 47 (0, 0)) := by rw [← hw1]; exact heap_alloc_new _ _
  obtain ⟨d0, d1, d2, d3, d4, d5, d6, d7, d8, d9, d10, d11, d12, d13, d14, d15, d16, d17⟩ := RsC_cells hx1
  have z1 : w.heap.size < w1.heap.size := (Array.getElem?_eq_some_iff.1 hx1).1
  have H1 := Lib.hid (And.intro hb1 hx1)
  rw [HMV.out] at d4
  clear hb1 hx1 hw1
  rw [hk] at d0
  go_upto_region 3 with (first
    | (go_at_call_of 31 (Value.int IntKind.i64 q.ro); refine (eight_any q.ro w1).mono ?_; rw [L.out.ro]; rintro e w' ⟨rfl, rfl⟩)
    | (go_at_call_of 31 (Value.int IntKind.i64 q.rp); refine (eight_any q.rp w1).mono ?_; rw [L.out.rp]; rintro e w' ⟨rfl, rfl⟩)
    | (go_at_call_of 31 (Value.int IntKind.i64 q.rn); refine (eight_any q.rn w1).mono ?_; rw [L.out.rn]; rintro e w' ⟨rfl, rfl⟩)
    | (go_at_call_of 31 (Value.int IntKind.i64 q.org); refine (eight_any q.org w1).mono ?_; rw [L.out.org]; rintro e w' ⟨rfl, rfl⟩)
    | (go_at_call_of 31 (Value.int IntKind.i64 q.pt); refine (eight_any q.pt w1).mono ?_; rw [L.out.pt]; rintro e w' ⟨rfl, rfl⟩)
    | (go_at_call_of 31 (Value.int IntKind.i64 q.ek); refine (eight_any q.ek w1).mono ?_; rw [L.out.ek]; rintro e w' ⟨rfl, rfl⟩)
    | fail)
  clear be00 be10 bvs0 bvs1
  go_upto_region 4 with (first
    | (show wpList _ _ _ (Oper.mk _ (.store _ (.tmp 3) (.tmp 74)) _ _ _ _ :: _) _ _; refine wpList_store_row rfl 47 (.tmp 3) (.tmp 74) rfl w1.heap.size (RsC ⟨3, 0, 0, 0, [], 0, 0, 0, 0, 0, 0, 0, 0, 0, 0, 0, 0, 0⟩ (.slice none 0 0)) rfl rfl 47 (RsC (zeroS 0) (.slice none 0 0)) (heap_alloc_new _ _) (infoS _ _) rfl (RsC_one _ _ _ _) ?_; generalize hw2 : World.setRow _ _ _ = w2; have g1 : Below w1.heap.size w1 w2 := (by rw [← hw2]; exact (grow_row w1 _ _ _).1); have g2 : w2.heap[w1.heap.size]? = some (.cells (RsC ⟨3, 0, 0, 0, [], 0, 0, 0, 0, 0, 0, 0, 0, 0, 0, 0, 0, 0⟩ (.slice none 0 0)) 47 (0, 0)) := (by rw [← hw2]; exact (grow_row w1 _ _ _).2); obtain ⟨u0, u1, u2, u3, u4, u5, u6, u7, u8, u9, u10, u11, u12, u13, u14, u15, u16, u17⟩ := RsC_cells g2; have fz : ∀ o, w2.frozen? ⟨w1.heap.size, o, none⟩ = false := (fun o => frozen_of_row _ _ _ _ _ g2); have G2 := Lib.hid (And.intro (H1.out.1.trans (g1.mono H1.out.1.size)) (And.intro g2 ((g1.block _ z1).trans H1.out.2))); replace d0 := cell_below d0 g1; replace d1 := cell_below d1 g1; replace d2 := cell_below d2 g1; replace d3 := cell_below d3 g1; replace d4 := cell_below d4 g1; replace d5 := cell_below d5 g1; replace d6 := cell_below d6 g1; replace d7 := cell_below d7 g1; replace d8 := cell_below d8 g1; replace d9 := cell_below d9 g1; replace d10 := cell_below d10 g1; replace d11 := cell_below d11 g1; replace d12 := cell_below d12 g1; replace d13 := cell_below d13 g1; replace d14 := cell_below d14 g1; replace d15 := cell_below d15 g1; replace d16 := cell_below d16 g1; replace d17 := cell_below d17 g1; clear hw2 g1 g2)
    | fail)
  go_upto_region 20 with fail
  have hn : w.heap.size ≠ w1.heap.size := by omega
  obtain ⟨w3, hw3⟩ : ∃ w3, w3 = ((((((w2.setCell ⟨w1.heap.size, 5, none⟩ (.int .i64 q.rt)).setCell ⟨w1.heap.size, 6, none⟩ (.int .i64 q.ro)).setCell ⟨w1.heap.size, 7, none⟩ (.int .i64 q.rs)).setCell ⟨w1.heap.size, 8, none⟩ (.int .i64 q.rp)).setCell ⟨w1.heap.size, 9, none⟩ (.int .i64 q.rn)).setCell ⟨w1.heap.size, 10, none⟩ (.int .i64 q.rv)) := ⟨_, rfl⟩
  have s3 : w3.heap[w1.heap.size]? = some (.cells (RsC ⟨3, 0, 0, 0, [], q.rt, q.ro, q.rs, q.rp, q.rn, q.rv, 0, 0, 0, 0, 0, 0, 0⟩ (.slice none 0 0)) 47 (0, 0)) := by rw [hw3]; exact (heap_setCell_same _ _ _ _ _ _ (heap_setCell_same _ _ _ _ _ _ (heap_setCell_same _ _ _ _ _ _ (heap_setCell_same _ _ _ _ _ _ (heap_setCell_same _ _ _ _ _ _ (heap_setCell_same _ _ _ _ _ _ G2.out.2.1))))))
  have b3 : But (fun x => x = w1.heap.size) w2 w3 := by rw [hw3]; exact (((((((But.refl (fun x => x = w1.heap.size) w2).setCell (p := ⟨w1.heap.size, 5, none⟩) rfl _).setCell (p := ⟨w1.heap.size, 6, none⟩) rfl _).setCell (p := ⟨w1.heap.size, 7, none⟩) rfl _).setCell (p := ⟨w1.heap.size, 8, none⟩) rfl _).setCell (p := ⟨w1.heap.size, 9, none⟩) rfl _).setCell (p := ⟨w1.heap.size, 10, none⟩) rfl _)
  have H3 : Hid (Below w.heap.size w w3 ∧ w3.heap[w.heap.size]? = some (.cells (RsC q mv) 47 (0, 0)) ∧ w3.heap[w1.heap.size]? = some (.cells (RsC ⟨3, 0, 0, 0, [], q.rt, q.ro, q.rs, q.rp, q.rn, q.rv, 0, 0, 0, 0, 0, 0, 0⟩ (.slice none 0 0)) 47 (0, 0))) := ⟨G2.out.1.trans (b3.below G2.out.1.size fun x e => by omega), (b3.block _ (Array.getElem?_eq_some_iff.1 G2.out.2.2).1 hn).trans G2.out.2.2, s3⟩
  rw [← hw3]
  clear hw3 s3 b3 hn fz u0 d0 u1 d1 u2 d2 u3 d3 u4 d4 u5 d5 u6 d6 u7 d7 u8 d8 u9 d9 u10 d10 u11 d11 u12 d12 u13 d13 u14 d14 u15 d15 u16 d16 u17 d17
  go_wp2_with (first
    | (show wpList _ _ _ (Oper.mk _ (.load _ (.tmp 3)) _ _ _ _ :: _) _ _; refine wpList_load_row rfl 47 (.tmp 3) rfl w1.heap.size rfl 47 (RsC ⟨3, 0, 0, 0, [], q.rt, q.ro, q.rs, q.rp, q.rn, q.rv, 0, 0, 0, 0, 0, 0, 0⟩ (.slice none 0 0)) (0, 0) _ H3.out.2.2 Try.underlying47 rfl (infoS _ _) ?_)
    | (show wpList _ _ _ (Oper.mk _ (.load _ (.tmp 1)) _ _ _ _ :: _) _ _; refine wpList_load_row rfl 47 (.tmp 1) rfl w.heap.size rfl 47 (RsC q mv) (0, 0) _ H3.out.2.1 Try.underlying47 rfl (infoS _ _) ?_)
    | (go_at_call 18; rw [HM.out.2.1]; refine (rsameResponse_any w3 ⟨3, 0, 0, 0, [], q.rt, q.ro, q.rs, q.rp, q.rn, q.rv, 0, 0, 0, 0, 0, 0, 0⟩ q none a 0 cap (CV_nil _ _) (HM.out.2.2.below H3.out.1)).mono ?_; rintro e w9 ⟨rfl, hb9⟩; have H9 := Lib.hid (H3.out.1.trans (hb9.mono H3.out.1.size)); clear hb9))
  go_ret
  exact ⟨by rw [HRR.out]; rfl, H9.out⟩
set_option maxHeartbeats 4000000 in
set_option maxRecDepth 100000 in
theorem mayS_k4 (w : World) (q : Rs) (a : Option Addr) (cap : Nat) (ha : CV.At w a q.vars.length q.vars) (L : LimS q) (hk : q.kind = 4) : Calls Try.prog 16 #[.agg (RsC q (.slice a q.vars.length cap))] w (TellsB (sameS ⟨4, 0, 0, 0, [], 0, 0, 0, 0, 0, 0, q.num, q.time, q.org, q.seq, q.pt, q.ek, q.dat⟩ q) w) := by
  have hv8 := L.vs
  have he0 := L.e0
  have he1 := L.e1
  have be00 : decide (q.err < 0) = false := decide_eq_false (by omega)
  have be10 : decide (16 < q.err) = false := decide_eq_false (by omega)
  clear he0 he1
  obtain ⟨r, hr⟩ : ∃ r, r = (sameS ⟨4, 0, 0, 0, [], 0, 0, 0, 0, 0, 0, q.num, q.time, q.org, q.seq, q.pt, q.ek, q.dat⟩ q) := ⟨_, rfl⟩
  rw [← hr]
  have HRR := Lib.hid hr
  have L := Lib.hid L
  clear hr
  obtain ⟨mv, hmv⟩ : ∃ mv, mv = Value.slice a q.vars.length cap := ⟨_, rfl⟩
  obtain ⟨m, hm⟩ : ∃ m, m = q.vars.length := ⟨_, rfl⟩
  have HM := Lib.hid (And.intro hm (And.intro hmv ha))
  rw [← hmv]
  rw [← hm] at hmv
  have HMV := Lib.hid hmv
  clear hmv ha
  have bvs0 : decide ((8 : Int) < (m : Int)) = false := decide_eq_false (by rw [hm]; omega)
  have bvs1 : decide (8 < m) = false := decide_eq_false (by rw [hm]; omega)
  clear hv8 hm
  go_enter Try.func16, Try.ntmps16
  go_upto_region 1 with fail
  generalize hw1 : World.alloc _ _ = w1
  have hb1 : Below w.heap.size w w1 := by rw [← hw1]; exact (Below.refl _ _).alloc (Nat.le_refl _) _
  have hx1 : w1.heap[w.heap.size]? = some (.cells (RsC q mv) 47 (0, 0)) := by rw [← hw1]; exact heap_alloc_new _ _
  obtain ⟨d0, d1, d2, d3, d4, d5, d6, d7, d8, d9, d10, d11, d12, d13, d14, d15, d16, d17⟩ := RsC_cells hx1
  have z1 : w.heap.size < w1.heap.size := (Array.getElem?_eq_some_iff.1 hx1).1
  have H1 := Lib.hid (And.intro hb1 hx1)
  rw [HMV.out] at d4
  clear hb1 hx1 hw1
  rw [hk] at d0
  go_upto_region 3 with (first
    | (go_at_call_of 31 (Value.int IntKind.i64 q.ro); refine (eight_any q.ro w1).mono ?_; rw [L.out.ro]; rintro e w' ⟨rfl, rfl⟩)
    | (go_at_call_of 31 (Value.int IntKind.i64 q.rp); refine (eight_any q.rp w1).mono ?_; rw [L.out.rp]; rintro e w' ⟨rfl, rfl⟩)
    | (go_at_call_of 31 (Value.int IntKind.i64 q.rn); refine (eight_any q.rn w1).mono ?_; rw [L.out.rn]; rintro e w' ⟨rfl, rfl⟩)
    | (go_at_call_of 31 (Value.int IntKind.i64 q.org); refine (eight_any q.org w1).mono ?_; rw [L.out.org]; rintro e w' ⟨rfl, rfl⟩)
    | (go_at_call_of 31 (Value.int IntKind.i64 q.pt); refine (eight_any q.pt w1).mono ?_; rw [L.out.pt]; rintro e w' ⟨rfl, rfl⟩)
    | (go_at_call_of 31 (Value.int IntKind.i64 q.ek); refine (eight_any q.ek w1).mono ?_; rw [L.out.ek]; rintro e w' ⟨rfl, rfl⟩)
    | fail)
  clear be00 be10 bvs0 bvs1
  go_upto_region 4 with (first
    | (show wpList _ _ _ (Oper.mk _ (.store _ (.tmp 3) (.tmp 74)) _ _ _ _ :: _) _ _; refine wpList_store_row rfl 47 (.tmp 3) (.tmp 74) rfl w1.heap.size (RsC ⟨4, 0, 0, 0, [], 0, 0, 0, 0, 0, 0, 0, 0, 0, 0, 0, 0, 0⟩ (.slice none 0 0)) rfl rfl 47 (RsC (zeroS 0) (.slice none 0 0)) (heap_alloc_new _ _) (infoS _ _) rfl (RsC_one _ _ _ _) ?_; generalize hw2 : World.setRow _ _ _ = w2; have g1 : Below w1.heap.size w1 w2 := (by rw [← hw2]; exact (grow_row w1 _ _ _).1); have g2 : w2.heap[w1.heap.size]? = some (.cells (RsC ⟨4, 0, 0, 0, [], 0, 0, 0, 0, 0, 0, 0, 0, 0, 0, 0, 0, 0⟩ (.slice none 0 0)) 47 (0, 0)) := (by rw [← hw2]; exact (grow_row w1 _ _ _).2); obtain ⟨u0, u1, u2, u3, u4, u5, u6, u7, u8, u9, u10, u11, u12, u13, u14, u15, u16, u17⟩ := RsC_cells g2; have fz : ∀ o, w2.frozen? ⟨w1.heap.size, o, none⟩ = false := (fun o => frozen_of_row _ _ _ _ _ g2); have G2 := Lib.hid (And.intro (H1.out.1.trans (g1.mono H1.out.1.size)) (And.intro g2 ((g1.block _ z1).trans H1.out.2))); replace d0 := cell_below d0 g1; replace d1 := cell_below d1 g1; replace d2 := cell_below d2 g1; replace d3 := cell_below d3 g1; replace d4 := cell_below d4 g1; replace d5 := cell_below d5 g1; replace d6 := cell_below d6 g1; replace d7 := cell_below d7 g1; replace d8 := cell_below d8 g1; replace d9 := cell_below d9 g1; replace d10 := cell_below d10 g1; replace d11 := cell_below d11 g1; replace d12 := cell_below d12 g1; replace d13 := cell_below d13 g1; replace d14 := cell_below d14 g1; replace d15 := cell_below d15 g1; replace d16 := cell_below d16 g1; replace d17 := cell_below d17 g1; clear hw2 g1 g2)
    | fail)
  go_upto_region 20 with fail
  have hn : w.heap.size ≠ w1.heap.size := by omega
  obtain ⟨w3, hw3⟩ : ∃ w3, w3 = (((((((w2.setCell ⟨w1.heap.size, 11, none⟩ (.int .u32 q.num)).setCell ⟨w1.heap.size, 12, none⟩ (.int .i64 q.time)).setCell ⟨w1.heap.size, 13, none⟩ (.int .i64 q.org)).setCell ⟨w1.heap.size, 14, none⟩ (.int .i64 q.seq)).setCell ⟨w1.heap.size, 15, none⟩ (.int .i64 q.pt)).setCell ⟨w1.heap.size, 16, none⟩ (.int .i64 q.ek)).setCell ⟨w1.heap.size, 17, none⟩ (.int .i64 q.dat)) := ⟨_, rfl⟩
  have s3 : w3.heap[w1.heap.size]? = some (.cells (RsC ⟨4, 0, 0, 0, [], 0, 0, 0, 0, 0, 0, q.num, q.time, q.org, q.seq, q.pt, q.ek, q.dat⟩ (.slice none 0 0)) 47 (0, 0)) := by rw [hw3]; exact (heap_setCell_same _ _ _ _ _ _ (heap_setCell_same _ _ _ _ _ _ (heap_setCell_same _ _ _ _ _ _ (heap_setCell_same _ _ _ _ _ _ (heap_setCell_same _ _ _ _ _ _ (heap_setCell_same _ _ _ _ _ _ (heap_setCell_same _ _ _ _ _ _ G2.out.2.1)))))))
  have b3 : But (fun x => x = w1.heap.size) w2 w3 := by rw [hw3]; exact ((((((((But.refl (fun x => x = w1.heap.size) w2).setCell (p := ⟨w1.heap.size, 11, none⟩) rfl _).setCell (p := ⟨w1.heap.size, 12, none⟩) rfl _).setCell (p := ⟨w1.heap.size, 13, none⟩) rfl _).setCell (p := ⟨w1.heap.size, 14, none⟩) rfl _).setCell (p := ⟨w1.heap.size, 15, none⟩) rfl _).setCell (p := ⟨w1.heap.size, 16, none⟩) rfl _).setCell (p := ⟨w1.heap.size, 17, none⟩) rfl _)
  have H3 : Hid (Below w.heap.size w w3 ∧ w3.heap[w.heap.size]? = some (.cells (RsC q mv) 47 (0, 0)) ∧ w3.heap[w1.heap.size]? = some (.cells (RsC ⟨4, 0, 0, 0, [], 0, 0, 0, 0, 0, 0, q.num, q.time, q.org, q.seq, q.pt, q.ek, q.dat⟩ (.slice none 0 0)) 47 (0, 0))) := ⟨G2.out.1.trans (b3.below G2.out.1.size fun x e => by omega), (b3.block _ (Array.getElem?_eq_some_iff.1 G2.out.2.2).1 hn).trans G2.out.2.2, s3⟩
  rw [← hw3]
  clear hw3 s3 b3 hn fz u0 d0 u1 d1 u2 d2 u3 d3 u4 d4 u5 d5 u6 d6 u7 d7 u8 d8 u9 d9 u10 d10 u11 d11 u12 d12 u13 d13 u14 d14 u15 d15 u16 d16 u17 d17
  go_wp2_with (first
    | (show wpList _ _ _ (Oper.mk _ (.load _ (.tmp 3)) _ _ _ _ :: _) _ _; refine wpList_load_row rfl 47 (.tmp 3) rfl w1.heap.size rfl 47 (RsC ⟨4, 0, 0, 0, [], 0, 0, 0, 0, 0, 0, q.num, q.time, q.org, q.seq, q.pt, q.ek, q.dat⟩ (.slice none 0 0)) (0, 0) _ H3.out.2.2 Try.underlying47 rfl (infoS _ _) ?_)
    | (show wpList _ _ _ (Oper.mk _ (.load _ (.tmp 1)) _ _ _ _ :: _) _ _; refine wpList_load_row rfl 47 (.tmp 1) rfl w.heap.size rfl 47 (RsC q mv) (0, 0) _ H3.out.2.1 Try.underlying47 rfl (infoS _ _) ?_)
    | (go_at_call 18; rw [HM.out.2.1]; refine (rsameResponse_any w3 ⟨4, 0, 0, 0, [], 0, 0, 0, 0, 0, 0, q.num, q.time, q.org, q.seq, q.pt, q.ek, q.dat⟩ q none a 0 cap (CV_nil _ _) (HM.out.2.2.below H3.out.1)).mono ?_; rintro e w9 ⟨rfl, hb9⟩; have H9 := Lib.hid (H3.out.1.trans (hb9.mono H3.out.1.size)); clear hb9))
  go_ret
  exact ⟨by rw [HRR.out]; rfl, H9.out⟩
set_option maxHeartbeats 4000000 in
set_option maxRecDepth 100000 in
theorem mayS_k5 (w : World) (q : Rs) (a : Option Addr) (cap : Nat) (ha : CV.At w a q.vars.length q.vars) (L : LimS q) (hk : q.kind = 5) : Calls Try.prog 16 #[.agg (RsC q (.slice a q.vars.length cap))] w (TellsB (sameS ⟨5, 0, q.err, 0, [], 0, 0, 0, 0, 0, 0, 0, 0, 0, 0, 0, 0, 0⟩ q) w) := by
  have hv8 := L.vs
  have he0 := L.e0
  have he1 := L.e1
  have be00 : decide (q.err < 0) = false := decide_eq_false (by omega)
  have be10 : decide (16 < q.err) = false := decide_eq_false (by omega)
  clear he0 he1
  obtain ⟨r, hr⟩ : ∃ r, r = (sameS ⟨5, 0, q.err, 0, [], 0, 0, 0, 0, 0, 0, 0, 0, 0, 0, 0, 0, 0⟩ q) := ⟨_, rfl⟩
  rw [← hr]
  have HRR := Lib.hid hr
  have L := Lib.hid L
  clear hr
  obtain ⟨mv, hmv⟩ : ∃ mv, mv = Value.slice a q.vars.length cap := ⟨_, rfl⟩
  obtain ⟨m, hm⟩ : ∃ m, m = q.vars.length := ⟨_, rfl⟩
  have HM := Lib.hid (And.intro hm (And.intro hmv ha))
  rw [← hmv]
  rw [← hm] at hmv
  have HMV := Lib.hid hmv
  clear hmv ha
  have bvs0 : decide ((8 : Int) < (m : Int)) = false := decide_eq_false (by rw [hm]; omega)
  have bvs1 : decide (8 < m) = false := decide_eq_false (by rw [hm]; omega)
  clear hv8 hm
  go_enter Try.func16, Try.ntmps16
  go_upto_region 1 with fail
  generalize hw1 : World.alloc _ _ = w1
  have hb1 : Below w.heap.size w w1 := by rw [← hw1]; exact (Below.refl _ _).alloc (Nat.le_refl _) _
  have hx1 : w1.heap[w.heap.size]? = some (.cells (RsC q mv) 47 (0, 0)) := by rw [← hw1]; exact heap_alloc_new _ _
  obtain ⟨d0, d1, d2, d3, d4, d5, d6, d7, d8, d9, d10, d11, d12, d13, d14, d15, d16, d17⟩ := RsC_cells hx1
  have z1 : w.heap.size < w1.heap.size := (Array.getElem?_eq_some_iff.1 hx1).1
  have H1 := Lib.hid (And.intro hb1 hx1)
  rw [HMV.out] at d4
  clear hb1 hx1 hw1
  rw [hk] at d0
  go_upto_region 3 with (first
    | (go_at_call_of 31 (Value.int IntKind.i64 q.ro); refine (eight_any q.ro w1).mono ?_; rw [L.out.ro]; rintro e w' ⟨rfl, rfl⟩)
    | (go_at_call_of 31 (Value.int IntKind.i64 q.rp); refine (eight_any q.rp w1).mono ?_; rw [L.out.rp]; rintro e w' ⟨rfl, rfl⟩)
    | (go_at_call_of 31 (Value.int IntKind.i64 q.rn); refine (eight_any q.rn w1).mono ?_; rw [L.out.rn]; rintro e w' ⟨rfl, rfl⟩)
    | (go_at_call_of 31 (Value.int IntKind.i64 q.org); refine (eight_any q.org w1).mono ?_; rw [L.out.org]; rintro e w' ⟨rfl, rfl⟩)
    | (go_at_call_of 31 (Value.int IntKind.i64 q.pt); refine (eight_any q.pt w1).mono ?_; rw [L.out.pt]; rintro e w' ⟨rfl, rfl⟩)
    | (go_at_call_of 31 (Value.int IntKind.i64 q.ek); refine (eight_any q.ek w1).mono ?_; rw [L.out.ek]; rintro e w' ⟨rfl, rfl⟩)
    | fail)
  clear be00 be10 bvs0 bvs1
  go_upto_region 4 with (first
    | (show wpList _ _ _ (Oper.mk _ (.store _ (.tmp 3) (.tmp 74)) _ _ _ _ :: _) _ _; refine wpList_store_row rfl 47 (.tmp 3) (.tmp 74) rfl w1.heap.size (RsC ⟨5, 0, 0, 0, [], 0, 0, 0, 0, 0, 0, 0, 0, 0, 0, 0, 0, 0⟩ (.slice none 0 0)) rfl rfl 47 (RsC (zeroS 0) (.slice none 0 0)) (heap_alloc_new _ _) (infoS _ _) rfl (RsC_one _ _ _ _) ?_; generalize hw2 : World.setRow _ _ _ = w2; have g1 : Below w1.heap.size w1 w2 := (by rw [← hw2]; exact (grow_row w1 _ _ _).1); have g2 : w2.heap[w1.heap.size]? = some (.cells (RsC ⟨5, 0, 0, 0, [], 0, 0, 0, 0, 0, 0, 0, 0, 0, 0, 0, 0, 0⟩ (.slice none 0 0)) 47 (0, 0)) := (by rw [← hw2]; exact (grow_row w1 _ _ _).2); obtain ⟨u0, u1, u2, u3, u4, u5, u6, u7, u8, u9, u10, u11, u12, u13, u14, u15, u16, u17⟩ := RsC_cells g2; have fz : ∀ o, w2.frozen? ⟨w1.heap.size, o, none⟩ = false := (fun o => frozen_of_row _ _ _ _ _ g2); have G2 := Lib.hid (And.intro (H1.out.1.trans (g1.mono H1.out.1.size)) (And.intro g2 ((g1.block _ z1).trans H1.out.2))); replace d0 := cell_below d0 g1; replace d1 := cell_below d1 g1; replace d2 := cell_below d2 g1; replace d3 := cell_below d3 g1; replace d4 := cell_below d4 g1; replace d5 := cell_below d5 g1; replace d6 := cell_below d6 g1; replace d7 := cell_below d7 g1; replace d8 := cell_below d8 g1; replace d9 := cell_below d9 g1; replace d10 := cell_below d10 g1; replace d11 := cell_below d11 g1; replace d12 := cell_below d12 g1; replace d13 := cell_below d13 g1; replace d14 := cell_below d14 g1; replace d15 := cell_below d15 g1; replace d16 := cell_below d16 g1; replace d17 := cell_below d17 g1; clear hw2 g1 g2)
    | fail)
  go_upto_region 20 with fail
  have hn : w.heap.size ≠ w1.heap.size := by omega
  obtain ⟨w3, hw3⟩ : ∃ w3, w3 = (w2.setCell ⟨w1.heap.size, 2, none⟩ (.int .i64 q.err)) := ⟨_, rfl⟩
  have s3 : w3.heap[w1.heap.size]? = some (.cells (RsC ⟨5, 0, q.err, 0, [], 0, 0, 0, 0, 0, 0, 0, 0, 0, 0, 0, 0, 0⟩ (.slice none 0 0)) 47 (0, 0)) := by rw [hw3]; exact (heap_setCell_same _ _ _ _ _ _ G2.out.2.1)
  have b3 : But (fun x => x = w1.heap.size) w2 w3 := by rw [hw3]; exact ((But.refl (fun x => x = w1.heap.size) w2).setCell (p := ⟨w1.heap.size, 2, none⟩) rfl _)
  have H3 : Hid (Below w.heap.size w w3 ∧ w3.heap[w.heap.size]? = some (.cells (RsC q mv) 47 (0, 0)) ∧ w3.heap[w1.heap.size]? = some (.cells (RsC ⟨5, 0, q.err, 0, [], 0, 0, 0, 0, 0, 0, 0, 0, 0, 0, 0, 0, 0⟩ (.slice none 0 0)) 47 (0, 0))) := ⟨G2.out.1.trans (b3.below G2.out.1.size fun x e => by omega), (b3.block _ (Array.getElem?_eq_some_iff.1 G2.out.2.2).1 hn).trans G2.out.2.2, s3⟩
  rw [← hw3]
  clear hw3 s3 b3 hn fz u0 d0 u1 d1 u2 d2 u3 d3 u4 d4 u5 d5 u6 d6 u7 d7 u8 d8 u9 d9 u10 d10 u11 d11 u12 d12 u13 d13 u14 d14 u15 d15 u16 d16 u17 d17
  go_wp2_with (first
    | (show wpList _ _ _ (Oper.mk _ (.load _ (.tmp 3)) _ _ _ _ :: _) _ _; refine wpList_load_row rfl 47 (.tmp 3) rfl w1.heap.size rfl 47 (RsC ⟨5, 0, q.err, 0, [], 0, 0, 0, 0, 0, 0, 0, 0, 0, 0, 0, 0, 0⟩ (.slice none 0 0)) (0, 0) _ H3.out.2.2 Try.underlying47 rfl (infoS _ _) ?_)
    | (show wpList _ _ _ (Oper.mk _ (.load _ (.tmp 1)) _ _ _ _ :: _) _ _; refine wpList_load_row rfl 47 (.tmp 1) rfl w.heap.size rfl 47 (RsC q mv) (0, 0) _ H3.out.2.1 Try.underlying47 rfl (infoS _ _) ?_)
    | (go_at_call 18; rw [HM.out.2.1]; refine (rsameResponse_any w3 ⟨5, 0, q.err, 0, [], 0, 0, 0, 0, 0, 0, 0, 0, 0, 0, 0, 0, 0⟩ q none a 0 cap (CV_nil _ _) (HM.out.2.2.below H3.out.1)).mono ?_; rintro e w9 ⟨rfl, hb9⟩; have H9 := Lib.hid (H3.out.1.trans (hb9.mono H3.out.1.size)); clear hb9))
  go_ret
  exact ⟨by rw [HRR.out]; rfl, H9.out⟩
end Go.Proofs.Ytdpfmaikijilkaa
namespace Go.Proofs.Ytdpfmaikijilkaa
open Go Go.RowKit

theorem rMayResponse_any (w : World) (q : Rs) (a : Option Addr) (cap : Nat) (ha : CV.At w a q.vars.length q.vars) : Calls Try.prog 16 #[.agg (RsC q (.slice a q.vars.length cap))] w (TellsB (mayS q) w) := by
  by_cases h_k0 : 1 ≤ q.kind
  case neg =>
    rw [mayS_no fun e => h_k0 e.k0]
    exact mayS_no_k0 w q a cap ha h_k0
  by_cases h_k1 : q.kind ≤ 5
  case neg =>
    rw [mayS_no fun e => h_k1 e.k1]
    exact mayS_no_k1 w q a cap ha h_k0 h_k1
  by_cases h_e0 : 0 ≤ q.err
  case neg =>
    rw [mayS_no fun e => h_e0 e.e0]
    exact mayS_no_e0 w q a cap ha h_k0 h_k1 h_e0
  by_cases h_e1 : q.err ≤ 16
  case neg =>
    rw [mayS_no fun e => h_e1 e.e1]
    exact mayS_no_e1 w q a cap ha h_k0 h_k1 h_e0 h_e1
  by_cases h_vs : q.vars.length ≤ 8
  case neg =>
    rw [mayS_no fun e => h_vs e.vs]
    exact mayS_no_vs w q a cap ha h_k0 h_k1 h_e0 h_e1 h_vs
  cases h_ro : in8 q.ro
  case false =>
    rw [mayS_no fun e => by rw [e.ro] at h_ro; cases h_ro]
    exact mayS_no_ro w q a cap ha h_k0 h_k1 h_e0 h_e1 h_vs h_ro
  cases h_rp : in8 q.rp
  case false =>
    rw [mayS_no fun e => by rw [e.rp] at h_rp; cases h_rp]
    exact mayS_no_rp w q a cap ha h_k0 h_k1 h_e0 h_e1 h_vs h_ro h_rp
  cases h_rn : in8 q.rn
  case false =>
    rw [mayS_no fun e => by rw [e.rn] at h_rn; cases h_rn]
    exact mayS_no_rn w q a cap ha h_k0 h_k1 h_e0 h_e1 h_vs h_ro h_rp h_rn
  cases h_org : in8 q.org
  case false =>
    rw [mayS_no fun e => by rw [e.org] at h_org; cases h_org]
    exact mayS_no_org w q a cap ha h_k0 h_k1 h_e0 h_e1 h_vs h_ro h_rp h_rn h_org
  cases h_pt : in8 q.pt
  case false =>
    rw [mayS_no fun e => by rw [e.pt] at h_pt; cases h_pt]
    exact mayS_no_pt w q a cap ha h_k0 h_k1 h_e0 h_e1 h_vs h_ro h_rp h_rn h_org h_pt
  cases h_ek : in8 q.ek
  case false =>
    rw [mayS_no fun e => by rw [e.ek] at h_ek; cases h_ek]
    exact mayS_no_ek w q a cap ha h_k0 h_k1 h_e0 h_e1 h_vs h_ro h_rp h_rn h_org h_pt h_ek
  have L : LimS q := ⟨h_k0, h_k1, h_e0, h_e1, h_vs, h_ro, h_rp, h_rn, h_org, h_pt, h_ek⟩
  rw [← mayS_same L]
  by_cases k1 : q.kind = 1
  · have h := mayS_k1 w q a cap ha L k1
    unfold onlyS
    simp only [k1] at h ⊢
    exact h
  by_cases k2 : q.kind = 2
  · have h := mayS_k2 w q a cap ha L k2
    unfold onlyS
    simp only [k2] at h ⊢
    exact h
  by_cases k3 : q.kind = 3
  · have h := mayS_k3 w q a cap ha L k3
    unfold onlyS
    simp only [k3] at h ⊢
    exact h
  by_cases k4 : q.kind = 4
  · have h := mayS_k4 w q a cap ha L k4
    unfold onlyS
    simp only [k4] at h ⊢
    exact h
  have k5 : q.kind = 5 := by omega
  have h := mayS_k5 w q a cap ha L k5
  unfold onlyS
  simp only [k5] at h ⊢
  exact h
end Go.Proofs.Ytdpfmaikijilkaa
