/-
  The walk of the document's MayRequest: ways, a.
-/
import Derived.Test.YtnafeppljnjbeaaDM
namespace Go.Proofs.Ytnafeppljnjbeaa
open Go Go.RowKit Go.Sort Go.Proofs

set_option maxHeartbeats 4000000 in
set_option maxRecDepth 100000 in
theorem may_no_k0 (w : World) (q : Rq) (a : Option Addr) (cap : Nat) (ha : CB.At w a q.model.length q.model) (h_k0 : ¬ 1 ≤ q.kind) : Calls Try.prog 10 #[.agg (RqC q (.slice a q.model.length cap))] w (TellsB false w) := by
  have bk0 : decide (q.kind < 1) = true := decide_eq_true (by omega)
  obtain ⟨mv, hmv⟩ : ∃ mv, mv = Value.slice a q.model.length cap := ⟨_, rfl⟩
  obtain ⟨m, hm⟩ : ∃ m, m = q.model.length := ⟨_, rfl⟩
  have HM := Lib.hid (And.intro hm (And.intro hmv ha))
  rw [← hmv]
  rw [← hm] at hmv
  have HMV := Lib.hid hmv
  clear hmv hm ha
  go_enter Try.func10, Try.ntmps10
  go_upto_region 1 with fail
  generalize hw1 : World.alloc _ _ = w1
  have hb1 : Below w.heap.size w w1 := by rw [← hw1]; exact (Below.refl _ _).alloc (Nat.le_refl _) _
  have hx1 : w1.heap[w.heap.size]? = some (.cells (RqC q mv) 32 (0, 0)) := by rw [← hw1]; exact heap_alloc_new _ _
  obtain ⟨d0, d1, d2, d3, d4, d5, d6, d7, d8, d9, d10, d11, d12, d13, d14, d15, d16⟩ := RqC_cells hx1
  have z1 : w.heap.size < w1.heap.size := (Array.getElem?_eq_some_iff.1 hx1).1
  have H1 := Lib.hid (And.intro hb1 hx1)
  rw [HMV.out] at d3
  clear hb1 hx1 hw1
  go_wp2_with (first
    | fail)
  go_ret
  exact ⟨rfl, H1.out.1⟩
set_option maxHeartbeats 4000000 in
set_option maxRecDepth 100000 in
theorem may_no_k1 (w : World) (q : Rq) (a : Option Addr) (cap : Nat) (ha : CB.At w a q.model.length q.model) (h_k0 : 1 ≤ q.kind) (h_k1 : ¬ q.kind ≤ 12) : Calls Try.prog 10 #[.agg (RqC q (.slice a q.model.length cap))] w (TellsB false w) := by
  have bk1 : decide (12 < q.kind) = true := decide_eq_true (by omega)
  obtain ⟨mv, hmv⟩ : ∃ mv, mv = Value.slice a q.model.length cap := ⟨_, rfl⟩
  obtain ⟨m, hm⟩ : ∃ m, m = q.model.length := ⟨_, rfl⟩
  have HM := Lib.hid (And.intro hm (And.intro hmv ha))
  rw [← hmv]
  rw [← hm] at hmv
  have HMV := Lib.hid hmv
  clear hmv hm ha
  go_enter Try.func10, Try.ntmps10
  go_upto_region 1 with fail
  generalize hw1 : World.alloc _ _ = w1
  have hb1 : Below w.heap.size w w1 := by rw [← hw1]; exact (Below.refl _ _).alloc (Nat.le_refl _) _
  have hx1 : w1.heap[w.heap.size]? = some (.cells (RqC q mv) 32 (0, 0)) := by rw [← hw1]; exact heap_alloc_new _ _
  obtain ⟨d0, d1, d2, d3, d4, d5, d6, d7, d8, d9, d10, d11, d12, d13, d14, d15, d16⟩ := RqC_cells hx1
  have z1 : w.heap.size < w1.heap.size := (Array.getElem?_eq_some_iff.1 hx1).1
  have H1 := Lib.hid (And.intro hb1 hx1)
  rw [HMV.out] at d3
  clear hb1 hx1 hw1
  go_wp2_with (first
    | fail)
  go_ret
  exact ⟨rfl, H1.out.1⟩
set_option maxHeartbeats 4000000 in
set_option maxRecDepth 100000 in
theorem may_no_ver (w : World) (q : Rq) (a : Option Addr) (cap : Nat) (ha : CB.At w a q.model.length q.model) (h_k0 : 1 ≤ q.kind) (h_k1 : q.kind ≤ 12) (h_ver : in8 q.ver = false) : Calls Try.prog 10 #[.agg (RqC q (.slice a q.model.length cap))] w (TellsB false w) := by
  have H_ver := Lib.hid h_ver
  clear h_ver
  obtain ⟨mv, hmv⟩ : ∃ mv, mv = Value.slice a q.model.length cap := ⟨_, rfl⟩
  obtain ⟨m, hm⟩ : ∃ m, m = q.model.length := ⟨_, rfl⟩
  have HM := Lib.hid (And.intro hm (And.intro hmv ha))
  rw [← hmv]
  rw [← hm] at hmv
  have HMV := Lib.hid hmv
  clear hmv hm ha
  go_enter Try.func10, Try.ntmps10
  go_upto_region 1 with fail
  generalize hw1 : World.alloc _ _ = w1
  have hb1 : Below w.heap.size w w1 := by rw [← hw1]; exact (Below.refl _ _).alloc (Nat.le_refl _) _
  have hx1 : w1.heap[w.heap.size]? = some (.cells (RqC q mv) 32 (0, 0)) := by rw [← hw1]; exact heap_alloc_new _ _
  obtain ⟨d0, d1, d2, d3, d4, d5, d6, d7, d8, d9, d10, d11, d12, d13, d14, d15, d16⟩ := RqC_cells hx1
  have z1 : w.heap.size < w1.heap.size := (Array.getElem?_eq_some_iff.1 hx1).1
  have H1 := Lib.hid (And.intro hb1 hx1)
  rw [HMV.out] at d3
  clear hb1 hx1 hw1
  go_wp2_with (first
    | (go_at_call_of 31 (Value.int IntKind.i64 q.ver); refine (eight_any q.ver w1).mono ?_; rw [H_ver.out]; rintro e w' ⟨rfl, rfl⟩)
    | fail)
  go_ret
  exact ⟨rfl, H1.out.1⟩
set_option maxHeartbeats 4000000 in
set_option maxRecDepth 100000 in
theorem may_no_pr (w : World) (q : Rq) (a : Option Addr) (cap : Nat) (ha : CB.At w a q.model.length q.model) (h_k0 : 1 ≤ q.kind) (h_k1 : q.kind ≤ 12) (h_ver : in8 q.ver = true) (h_pr : in8 q.pr = false) : Calls Try.prog 10 #[.agg (RqC q (.slice a q.model.length cap))] w (TellsB false w) := by
  have H_ver := Lib.hid h_ver
  clear h_ver
  have H_pr := Lib.hid h_pr
  clear h_pr
  obtain ⟨mv, hmv⟩ : ∃ mv, mv = Value.slice a q.model.length cap := ⟨_, rfl⟩
  obtain ⟨m, hm⟩ : ∃ m, m = q.model.length := ⟨_, rfl⟩
  have HM := Lib.hid (And.intro hm (And.intro hmv ha))
  rw [← hmv]
  rw [← hm] at hmv
  have HMV := Lib.hid hmv
  clear hmv hm ha
  go_enter Try.func10, Try.ntmps10
  go_upto_region 1 with fail
  generalize hw1 : World.alloc _ _ = w1
  have hb1 : Below w.heap.size w w1 := by rw [← hw1]; exact (Below.refl _ _).alloc (Nat.le_refl _) _
  have hx1 : w1.heap[w.heap.size]? = some (.cells (RqC q mv) 32 (0, 0)) := by rw [← hw1]; exact heap_alloc_new _ _
  obtain ⟨d0, d1, d2, d3, d4, d5, d6, d7, d8, d9, d10, d11, d12, d13, d14, d15, d16⟩ := RqC_cells hx1
  have z1 : w.heap.size < w1.heap.size := (Array.getElem?_eq_some_iff.1 hx1).1
  have H1 := Lib.hid (And.intro hb1 hx1)
  rw [HMV.out] at d3
  clear hb1 hx1 hw1
  go_wp2_with (first
    | (go_at_call_of 31 (Value.int IntKind.i64 q.ver); refine (eight_any q.ver w1).mono ?_; rw [H_ver.out]; rintro e w' ⟨rfl, rfl⟩)
    | (go_at_call_of 31 (Value.int IntKind.i64 q.pr); refine (eight_any q.pr w1).mono ?_; rw [H_pr.out]; rintro e w' ⟨rfl, rfl⟩)
    | fail)
  go_ret
  exact ⟨rfl, H1.out.1⟩
set_option maxHeartbeats 4000000 in
set_option maxRecDepth 100000 in
theorem may_no_pt (w : World) (q : Rq) (a : Option Addr) (cap : Nat) (ha : CB.At w a q.model.length q.model) (h_k0 : 1 ≤ q.kind) (h_k1 : q.kind ≤ 12) (h_ver : in8 q.ver = true) (h_pr : in8 q.pr = true) (h_pt : in8 q.pt = false) : Calls Try.prog 10 #[.agg (RqC q (.slice a q.model.length cap))] w (TellsB false w) := by
  have H_ver := Lib.hid h_ver
  clear h_ver
  have H_pr := Lib.hid h_pr
  clear h_pr
  have H_pt := Lib.hid h_pt
  clear h_pt
  obtain ⟨mv, hmv⟩ : ∃ mv, mv = Value.slice a q.model.length cap := ⟨_, rfl⟩
  obtain ⟨m, hm⟩ : ∃ m, m = q.model.length := ⟨_, rfl⟩
  have HM := Lib.hid (And.intro hm (And.intro hmv ha))
  rw [← hmv]
  rw [← hm] at hmv
  have HMV := Lib.hid hmv
  clear hmv hm ha
  go_enter Try.func10, Try.ntmps10
  go_upto_region 1 with fail
  generalize hw1 : World.alloc _ _ = w1
  have hb1 : Below w.heap.size w w1 := by rw [← hw1]; exact (Below.refl _ _).alloc (Nat.le_refl _) _
  have hx1 : w1.heap[w.heap.size]? = some (.cells (RqC q mv) 32 (0, 0)) := by rw [← hw1]; exact heap_alloc_new _ _
  obtain ⟨d0, d1, d2, d3, d4, d5, d6, d7, d8, d9, d10, d11, d12, d13, d14, d15, d16⟩ := RqC_cells hx1
  have z1 : w.heap.size < w1.heap.size := (Array.getElem?_eq_some_iff.1 hx1).1
  have H1 := Lib.hid (And.intro hb1 hx1)
  rw [HMV.out] at d3
  clear hb1 hx1 hw1
  go_wp2_with (first
    | (go_at_call_of 31 (Value.int IntKind.i64 q.ver); refine (eight_any q.ver w1).mono ?_; rw [H_ver.out]; rintro e w' ⟨rfl, rfl⟩)
    | (go_at_call_of 31 (Value.int IntKind.i64 q.pr); refine (eight_any q.pr w1).mono ?_; rw [H_pr.out]; rintro e w' ⟨rfl, rfl⟩)
    | (go_at_call_of 31 (Value.int IntKind.i64 q.pt); refine (eight_any q.pt w1).mono ?_; rw [H_pt.out]; rintro e w' ⟨rfl, rfl⟩)
    | fail)
  go_ret
  exact ⟨rfl, H1.out.1⟩
set_option maxHeartbeats 4000000 in
set_option maxRecDepth 100000 in
theorem may_no_ek (w : World) (q : Rq) (a : Option Addr) (cap : Nat) (ha : CB.At w a q.model.length q.model) (h_k0 : 1 ≤ q.kind) (h_k1 : q.kind ≤ 12) (h_ver : in8 q.ver = true) (h_pr : in8 q.pr = true) (h_pt : in8 q.pt = true) (h_ek : in8 q.ek = false) : Calls Try.prog 10 #[.agg (RqC q (.slice a q.model.length cap))] w (TellsB false w) := by
  have H_ver := Lib.hid h_ver
  clear h_ver
  have H_pr := Lib.hid h_pr
  clear h_pr
  have H_pt := Lib.hid h_pt
  clear h_pt
  have H_ek := Lib.hid h_ek
  clear h_ek
  obtain ⟨mv, hmv⟩ : ∃ mv, mv = Value.slice a q.model.length cap := ⟨_, rfl⟩
  obtain ⟨m, hm⟩ : ∃ m, m = q.model.length := ⟨_, rfl⟩
  have HM := Lib.hid (And.intro hm (And.intro hmv ha))
  rw [← hmv]
  rw [← hm] at hmv
  have HMV := Lib.hid hmv
  clear hmv hm ha
  go_enter Try.func10, Try.ntmps10
  go_upto_region 1 with fail
  generalize hw1 : World.alloc _ _ = w1
  have hb1 : Below w.heap.size w w1 := by rw [← hw1]; exact (Below.refl _ _).alloc (Nat.le_refl _) _
  have hx1 : w1.heap[w.heap.size]? = some (.cells (RqC q mv) 32 (0, 0)) := by rw [← hw1]; exact heap_alloc_new _ _
  obtain ⟨d0, d1, d2, d3, d4, d5, d6, d7, d8, d9, d10, d11, d12, d13, d14, d15, d16⟩ := RqC_cells hx1
  have z1 : w.heap.size < w1.heap.size := (Array.getElem?_eq_some_iff.1 hx1).1
  have H1 := Lib.hid (And.intro hb1 hx1)
  rw [HMV.out] at d3
  clear hb1 hx1 hw1
  go_wp2_with (first
    | (go_at_call_of 31 (Value.int IntKind.i64 q.ver); refine (eight_any q.ver w1).mono ?_; rw [H_ver.out]; rintro e w' ⟨rfl, rfl⟩)
    | (go_at_call_of 31 (Value.int IntKind.i64 q.pr); refine (eight_any q.pr w1).mono ?_; rw [H_pr.out]; rintro e w' ⟨rfl, rfl⟩)
    | (go_at_call_of 31 (Value.int IntKind.i64 q.pt); refine (eight_any q.pt w1).mono ?_; rw [H_pt.out]; rintro e w' ⟨rfl, rfl⟩)
    | (go_at_call_of 31 (Value.int IntKind.i64 q.ek); refine (eight_any q.ek w1).mono ?_; rw [H_ek.out]; rintro e w' ⟨rfl, rfl⟩)
    | fail)
  go_ret
  exact ⟨rfl, H1.out.1⟩
set_option maxHeartbeats 4000000 in
set_option maxRecDepth 100000 in
theorem may_no_org (w : World) (q : Rq) (a : Option Addr) (cap : Nat) (ha : CB.At w a q.model.length q.model) (h_k0 : 1 ≤ q.kind) (h_k1 : q.kind ≤ 12) (h_ver : in8 q.ver = true) (h_pr : in8 q.pr = true) (h_pt : in8 q.pt = true) (h_ek : in8 q.ek = true) (h_org : ¬ q.org = 0) : Calls Try.prog 10 #[.agg (RqC q (.slice a q.model.length cap))] w (TellsB false w) := by
  have H_ver := Lib.hid h_ver
  clear h_ver
  have H_pr := Lib.hid h_pr
  clear h_pr
  have H_pt := Lib.hid h_pt
  clear h_pt
  have H_ek := Lib.hid h_ek
  clear h_ek
  obtain ⟨mv, hmv⟩ : ∃ mv, mv = Value.slice a q.model.length cap := ⟨_, rfl⟩
  obtain ⟨m, hm⟩ : ∃ m, m = q.model.length := ⟨_, rfl⟩
  have HM := Lib.hid (And.intro hm (And.intro hmv ha))
  rw [← hmv]
  rw [← hm] at hmv
  have HMV := Lib.hid hmv
  clear hmv hm ha
  go_enter Try.func10, Try.ntmps10
  go_upto_region 1 with fail
  generalize hw1 : World.alloc _ _ = w1
  have hb1 : Below w.heap.size w w1 := by rw [← hw1]; exact (Below.refl _ _).alloc (Nat.le_refl _) _
  have hx1 : w1.heap[w.heap.size]? = some (.cells (RqC q mv) 32 (0, 0)) := by rw [← hw1]; exact heap_alloc_new _ _
  obtain ⟨d0, d1, d2, d3, d4, d5, d6, d7, d8, d9, d10, d11, d12, d13, d14, d15, d16⟩ := RqC_cells hx1
  have z1 : w.heap.size < w1.heap.size := (Array.getElem?_eq_some_iff.1 hx1).1
  have H1 := Lib.hid (And.intro hb1 hx1)
  rw [HMV.out] at d3
  clear hb1 hx1 hw1
  go_wp2_with (first
    | (go_at_call_of 31 (Value.int IntKind.i64 q.ver); refine (eight_any q.ver w1).mono ?_; rw [H_ver.out]; rintro e w' ⟨rfl, rfl⟩)
    | (go_at_call_of 31 (Value.int IntKind.i64 q.pr); refine (eight_any q.pr w1).mono ?_; rw [H_pr.out]; rintro e w' ⟨rfl, rfl⟩)
    | (go_at_call_of 31 (Value.int IntKind.i64 q.pt); refine (eight_any q.pt w1).mono ?_; rw [H_pt.out]; rintro e w' ⟨rfl, rfl⟩)
    | (go_at_call_of 31 (Value.int IntKind.i64 q.ek); refine (eight_any q.ek w1).mono ?_; rw [H_ek.out]; rintro e w' ⟨rfl, rfl⟩)
    | fail)
  go_ret
  exact ⟨rfl, H1.out.1⟩
end Go.Proofs.Ytnafeppljnjbeaa
