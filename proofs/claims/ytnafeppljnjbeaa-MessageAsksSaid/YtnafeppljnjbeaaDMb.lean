/-
  The walk of the document's MayRequest: ways, b.
-/
import Derived.Test.YtnafeppljnjbeaaDM
namespace Go.Proofs.Ytnafeppljnjbeaa
open Go Go.RowKit Go.Sort Go.Proofs

set_option maxHeartbeats 4000000 in
set_option maxRecDepth 100000 in
theorem may_no_seq (w : World) (q : Rq) (a : Option Addr) (cap : Nat) (ha : CB.At w a q.model.length q.model) (h_k0 : 1 ≤ q.kind) (h_k1 : q.kind ≤ 12) (h_ver : in8 q.ver = true) (h_pr : in8 q.pr = true) (h_pt : in8 q.pt = true) (h_ek : in8 q.ek = true) (h_org : q.org = 0) (h_seq : ¬ q.seq = 0) : Calls Try.prog 10 #[.agg (RqC q (.slice a q.model.length cap))] w (TellsB false w) := by
  have H_ver := Lib.hid h_ver
  clear h_ver
  have H_pr := Lib.hid h_pr
  clear h_pr
  have H_pt := Lib.hid h_pt
  clear h_pt
  have H_ek := Lib.hid h_ek
  clear h_ek
  obtain ⟨mv, hmv⟩ : ∃ mv, mv = Value.slice a q.model.length cap := ⟨_, rfl⟩
  obtain ⟨m, hm⟩ : ∃ m, m = q.model.length := ⟨_, rfl⟩
  have HM := Lib.hid (And.intro hm (And.intro hmv ha))
  rw [← hmv]
  rw [← hm] at hmv
  have HMV := Lib.hid hmv
  clear hmv hm ha
  go_enter Try.func10, Try.ntmps10
  go_upto_region 1 with fail
  generalize hw1 : World.alloc _ _ = w1
  have hb1 : Below w.heap.size w w1 := by rw [← hw1]; exact (Below.refl _ _).alloc (Nat.le_refl _) _
  have hx1 : w1.heap[w.heap.size]? = some (.cells (RqC q mv) 32 (0, 0)) := by rw [← hw1]; exact heap_alloc_new _ _
  obtain ⟨d0, d1, d2, d3, d4, d5, d6, d7, d8, d9, d10, d11, d12, d13, d14, d15, d16⟩ := RqC_cells hx1
  have z1 : w.heap.size < w1.heap.size := (Array.getElem?_eq_some_iff.1 hx1).1
  have H1 := Lib.hid (And.intro hb1 hx1)
  rw [HMV.out] at d3
  clear hb1 hx1 hw1
  rw [h_org] at d5
  go_wp2_with (first
    | (go_at_call_of 31 (Value.int IntKind.i64 q.ver); refine (eight_any q.ver w1).mono ?_; rw [H_ver.out]; rintro e w' ⟨rfl, rfl⟩)
    | (go_at_call_of 31 (Value.int IntKind.i64 q.pr); refine (eight_any q.pr w1).mono ?_; rw [H_pr.out]; rintro e w' ⟨rfl, rfl⟩)
    | (go_at_call_of 31 (Value.int IntKind.i64 q.pt); refine (eight_any q.pt w1).mono ?_; rw [H_pt.out]; rintro e w' ⟨rfl, rfl⟩)
    | (go_at_call_of 31 (Value.int IntKind.i64 q.ek); refine (eight_any q.ek w1).mono ?_; rw [H_ek.out]; rintro e w' ⟨rfl, rfl⟩)
    | fail)
  go_ret
  exact ⟨rfl, H1.out.1⟩
set_option maxHeartbeats 4000000 in
set_option maxRecDepth 100000 in
theorem may_no_bp (w : World) (q : Rq) (a : Option Addr) (cap : Nat) (ha : CB.At w a q.model.length q.model) (h_k0 : 1 ≤ q.kind) (h_k1 : q.kind ≤ 12) (h_ver : in8 q.ver = true) (h_pr : in8 q.pr = true) (h_pt : in8 q.pt = true) (h_ek : in8 q.ek = true) (h_org : q.org = 0) (h_seq : q.seq = 0) (h_bp : in8 q.bp = false) : Calls Try.prog 10 #[.agg (RqC q (.slice a q.model.length cap))] w (TellsB false w) := by
  have H_ver := Lib.hid h_ver
  clear h_ver
  have H_pr := Lib.hid h_pr
  clear h_pr
  have H_pt := Lib.hid h_pt
  clear h_pt
  have H_ek := Lib.hid h_ek
  clear h_ek
  have H_bp := Lib.hid h_bp
  clear h_bp
  obtain ⟨mv, hmv⟩ : ∃ mv, mv = Value.slice a q.model.length cap := ⟨_, rfl⟩
  obtain ⟨m, hm⟩ : ∃ m, m = q.model.length := ⟨_, rfl⟩
  have HM := Lib.hid (And.intro hm (And.intro hmv ha))
  rw [← hmv]
  rw [← hm] at hmv
  have HMV := Lib.hid hmv
  clear hmv hm ha
  go_enter Try.func10, Try.ntmps10
  go_upto_region 1 with fail
  generalize hw1 : World.alloc _ _ = w1
  have hb1 : Below w.heap.size w w1 := by rw [← hw1]; exact (Below.refl _ _).alloc (Nat.le_refl _) _
  have hx1 : w1.heap[w.heap.size]? = some (.cells (RqC q mv) 32 (0, 0)) := by rw [← hw1]; exact heap_alloc_new _ _
  obtain ⟨d0, d1, d2, d3, d4, d5, d6, d7, d8, d9, d10, d11, d12, d13, d14, d15, d16⟩ := RqC_cells hx1
  have z1 : w.heap.size < w1.heap.size := (Array.getElem?_eq_some_iff.1 hx1).1
  have H1 := Lib.hid (And.intro hb1 hx1)
  rw [HMV.out] at d3
  clear hb1 hx1 hw1
  rw [h_org] at d5
  rw [h_seq] at d6
  go_wp2_with (first
    | (go_at_call_of 31 (Value.int IntKind.i64 q.ver); refine (eight_any q.ver w1).mono ?_; rw [H_ver.out]; rintro e w' ⟨rfl, rfl⟩)
    | (go_at_call_of 31 (Value.int IntKind.i64 q.pr); refine (eight_any q.pr w1).mono ?_; rw [H_pr.out]; rintro e w' ⟨rfl, rfl⟩)
    | (go_at_call_of 31 (Value.int IntKind.i64 q.pt); refine (eight_any q.pt w1).mono ?_; rw [H_pt.out]; rintro e w' ⟨rfl, rfl⟩)
    | (go_at_call_of 31 (Value.int IntKind.i64 q.ek); refine (eight_any q.ek w1).mono ?_; rw [H_ek.out]; rintro e w' ⟨rfl, rfl⟩)
    | (go_at_call_of 31 (Value.int IntKind.i64 q.bp); refine (eight_any q.bp w1).mono ?_; rw [H_bp.out]; rintro e w' ⟨rfl, rfl⟩)
    | fail)
  go_ret
  exact ⟨rfl, H1.out.1⟩
set_option maxHeartbeats 4000000 in
set_option maxRecDepth 100000 in
theorem may_no_b0 (w : World) (q : Rq) (a : Option Addr) (cap : Nat) (ha : CB.At w a q.model.length q.model) (h_k0 : 1 ≤ q.kind) (h_k1 : q.kind ≤ 12) (h_ver : in8 q.ver = true) (h_pr : in8 q.pr = true) (h_pt : in8 q.pt = true) (h_ek : in8 q.ek = true) (h_org : q.org = 0) (h_seq : q.seq = 0) (h_bp : in8 q.bp = true) (h_b0 : ¬ -1 ≤ q.bk) : Calls Try.prog 10 #[.agg (RqC q (.slice a q.model.length cap))] w (TellsB false w) := by
  have H_ver := Lib.hid h_ver
  clear h_ver
  have H_pr := Lib.hid h_pr
  clear h_pr
  have H_pt := Lib.hid h_pt
  clear h_pt
  have H_ek := Lib.hid h_ek
  clear h_ek
  have H_bp := Lib.hid h_bp
  clear h_bp
  have bb0 : decide (q.bk < -1) = true := decide_eq_true (by omega)
  obtain ⟨mv, hmv⟩ : ∃ mv, mv = Value.slice a q.model.length cap := ⟨_, rfl⟩
  obtain ⟨m, hm⟩ : ∃ m, m = q.model.length := ⟨_, rfl⟩
  have HM := Lib.hid (And.intro hm (And.intro hmv ha))
  rw [← hmv]
  rw [← hm] at hmv
  have HMV := Lib.hid hmv
  clear hmv hm ha
  go_enter Try.func10, Try.ntmps10
  go_upto_region 1 with fail
  generalize hw1 : World.alloc _ _ = w1
  have hb1 : Below w.heap.size w w1 := by rw [← hw1]; exact (Below.refl _ _).alloc (Nat.le_refl _) _
  have hx1 : w1.heap[w.heap.size]? = some (.cells (RqC q mv) 32 (0, 0)) := by rw [← hw1]; exact heap_alloc_new _ _
  obtain ⟨d0, d1, d2, d3, d4, d5, d6, d7, d8, d9, d10, d11, d12, d13, d14, d15, d16⟩ := RqC_cells hx1
  have z1 : w.heap.size < w1.heap.size := (Array.getElem?_eq_some_iff.1 hx1).1
  have H1 := Lib.hid (And.intro hb1 hx1)
  rw [HMV.out] at d3
  clear hb1 hx1 hw1
  rw [h_org] at d5
  rw [h_seq] at d6
  go_wp2_with (first
    | (go_at_call_of 31 (Value.int IntKind.i64 q.ver); refine (eight_any q.ver w1).mono ?_; rw [H_ver.out]; rintro e w' ⟨rfl, rfl⟩)
    | (go_at_call_of 31 (Value.int IntKind.i64 q.pr); refine (eight_any q.pr w1).mono ?_; rw [H_pr.out]; rintro e w' ⟨rfl, rfl⟩)
    | (go_at_call_of 31 (Value.int IntKind.i64 q.pt); refine (eight_any q.pt w1).mono ?_; rw [H_pt.out]; rintro e w' ⟨rfl, rfl⟩)
    | (go_at_call_of 31 (Value.int IntKind.i64 q.ek); refine (eight_any q.ek w1).mono ?_; rw [H_ek.out]; rintro e w' ⟨rfl, rfl⟩)
    | (go_at_call_of 31 (Value.int IntKind.i64 q.bp); refine (eight_any q.bp w1).mono ?_; rw [H_bp.out]; rintro e w' ⟨rfl, rfl⟩)
    | fail)
  go_ret
  exact ⟨rfl, H1.out.1⟩
set_option maxHeartbeats 4000000 in
set_option maxRecDepth 100000 in
theorem may_no_b1 (w : World) (q : Rq) (a : Option Addr) (cap : Nat) (ha : CB.At w a q.model.length q.model) (h_k0 : 1 ≤ q.kind) (h_k1 : q.kind ≤ 12) (h_ver : in8 q.ver = true) (h_pr : in8 q.pr = true) (h_pt : in8 q.pt = true) (h_ek : in8 q.ek = true) (h_org : q.org = 0) (h_seq : q.seq = 0) (h_bp : in8 q.bp = true) (h_b0 : -1 ≤ q.bk) (h_b1 : ¬ q.bk ≤ 254) : Calls Try.prog 10 #[.agg (RqC q (.slice a q.model.length cap))] w (TellsB false w) := by
  have H_ver := Lib.hid h_ver
  clear h_ver
  have H_pr := Lib.hid h_pr
  clear h_pr
  have H_pt := Lib.hid h_pt
  clear h_pt
  have H_ek := Lib.hid h_ek
  clear h_ek
  have H_bp := Lib.hid h_bp
  clear h_bp
  have bb1 : decide (254 < q.bk) = true := decide_eq_true (by omega)
  obtain ⟨mv, hmv⟩ : ∃ mv, mv = Value.slice a q.model.length cap := ⟨_, rfl⟩
  obtain ⟨m, hm⟩ : ∃ m, m = q.model.length := ⟨_, rfl⟩
  have HM := Lib.hid (And.intro hm (And.intro hmv ha))
  rw [← hmv]
  rw [← hm] at hmv
  have HMV := Lib.hid hmv
  clear hmv hm ha
  go_enter Try.func10, Try.ntmps10
  go_upto_region 1 with fail
  generalize hw1 : World.alloc _ _ = w1
  have hb1 : Below w.heap.size w w1 := by rw [← hw1]; exact (Below.refl _ _).alloc (Nat.le_refl _) _
  have hx1 : w1.heap[w.heap.size]? = some (.cells (RqC q mv) 32 (0, 0)) := by rw [← hw1]; exact heap_alloc_new _ _
  obtain ⟨d0, d1, d2, d3, d4, d5, d6, d7, d8, d9, d10, d11, d12, d13, d14, d15, d16⟩ := RqC_cells hx1
  have z1 : w.heap.size < w1.heap.size := (Array.getElem?_eq_some_iff.1 hx1).1
  have H1 := Lib.hid (And.intro hb1 hx1)
  rw [HMV.out] at d3
  clear hb1 hx1 hw1
  rw [h_org] at d5
  rw [h_seq] at d6
  go_wp2_with (first
    | (go_at_call_of 31 (Value.int IntKind.i64 q.ver); refine (eight_any q.ver w1).mono ?_; rw [H_ver.out]; rintro e w' ⟨rfl, rfl⟩)
    | (go_at_call_of 31 (Value.int IntKind.i64 q.pr); refine (eight_any q.pr w1).mono ?_; rw [H_pr.out]; rintro e w' ⟨rfl, rfl⟩)
    | (go_at_call_of 31 (Value.int IntKind.i64 q.pt); refine (eight_any q.pt w1).mono ?_; rw [H_pt.out]; rintro e w' ⟨rfl, rfl⟩)
    | (go_at_call_of 31 (Value.int IntKind.i64 q.ek); refine (eight_any q.ek w1).mono ?_; rw [H_ek.out]; rintro e w' ⟨rfl, rfl⟩)
    | (go_at_call_of 31 (Value.int IntKind.i64 q.bp); refine (eight_any q.bp w1).mono ?_; rw [H_bp.out]; rintro e w' ⟨rfl, rfl⟩)
    | fail)
  go_ret
  exact ⟨rfl, H1.out.1⟩
set_option maxHeartbeats 4000000 in
set_option maxRecDepth 100000 in
theorem may_two_no (w : World) (q : Rq) (a : Option Addr) (cap : Nat) (ha : CB.At w a q.model.length q.model) (L : Lims q) (hk : q.kind = 2) (hl : ¬ (1 ≤ q.model.length ∧ q.model.length ≤ 4091)) : Calls Try.prog 10 #[.agg (RqC q (.slice a q.model.length cap))] w (TellsB false w) := by
  have hk0 := L.k0
  have hk1 := L.k1
  have hb0 := L.b0
  have hb1' := L.b1
  have horg := L.org
  have hseq := L.seq
  obtain ⟨r, hr⟩ : ∃ r, r = false := ⟨_, rfl⟩
  rw [← hr]
  have HRR := Lib.hid hr
  have L := Lib.hid L
  clear hr
  obtain ⟨mv, hmv⟩ : ∃ mv, mv = Value.slice a q.model.length cap := ⟨_, rfl⟩
  obtain ⟨m, hm⟩ : ∃ m, m = q.model.length := ⟨_, rfl⟩
  have HM := Lib.hid (And.intro hm (And.intro hmv ha))
  rw [← hmv]
  rw [← hm] at hmv
  have HMV := Lib.hid hmv
  clear hmv hm ha
  go_enter Try.func10, Try.ntmps10
  go_upto_region 1 with fail
  generalize hw1 : World.alloc _ _ = w1
  have hb1 : Below w.heap.size w w1 := by rw [← hw1]; exact (Below.refl _ _).alloc (Nat.le_refl _) _
  have hx1 : w1.heap[w.heap.size]? = some (.cells (RqC q mv) 32 (0, 0)) := by rw [← hw1]; exact heap_alloc_new _ _
  obtain ⟨d0, d1, d2, d3, d4, d5, d6, d7, d8, d9, d10, d11, d12, d13, d14, d15, d16⟩ := RqC_cells hx1
  have z1 : w.heap.size < w1.heap.size := (Array.getElem?_eq_some_iff.1 hx1).1
  have H1 := Lib.hid (And.intro hb1 hx1)
  rw [HMV.out] at d3
  clear hb1 hx1 hw1
  rw [horg] at d5
  rw [hseq] at d6
  clear horg hseq
  rw [hk] at d0 hk0 hk1
  have hl2 : ¬ (1 ≤ m ∧ m ≤ 4091) := by rw [HM.out.1]; exact hl
  clear hl
  by_cases hl1 : 1 ≤ m
  · have hl3 : ¬ m ≤ 4091 := fun e => hl2 ⟨hl1, e⟩
    clear hl2
    go_wp2_with (first
      | (go_at_call_of 31 (Value.int IntKind.i64 q.ver); refine (eight_any q.ver w1).mono ?_; rw [L.out.ver]; rintro e w' ⟨rfl, rfl⟩)
      | (go_at_call_of 31 (Value.int IntKind.i64 q.pr); refine (eight_any q.pr w1).mono ?_; rw [L.out.pr]; rintro e w' ⟨rfl, rfl⟩)
      | (go_at_call_of 31 (Value.int IntKind.i64 q.pt); refine (eight_any q.pt w1).mono ?_; rw [L.out.pt]; rintro e w' ⟨rfl, rfl⟩)
      | (go_at_call_of 31 (Value.int IntKind.i64 q.ek); refine (eight_any q.ek w1).mono ?_; rw [L.out.ek]; rintro e w' ⟨rfl, rfl⟩)
      | (go_at_call_of 31 (Value.int IntKind.i64 q.bp); refine (eight_any q.bp w1).mono ?_; rw [L.out.bp]; rintro e w' ⟨rfl, rfl⟩)
      | fail)
    go_ret
    exact ⟨by rw [HRR.out]; rfl, H1.out.1⟩
  · clear hl2
    go_wp2_with (first
      | (go_at_call_of 31 (Value.int IntKind.i64 q.ver); refine (eight_any q.ver w1).mono ?_; rw [L.out.ver]; rintro e w' ⟨rfl, rfl⟩)
      | (go_at_call_of 31 (Value.int IntKind.i64 q.pr); refine (eight_any q.pr w1).mono ?_; rw [L.out.pr]; rintro e w' ⟨rfl, rfl⟩)
      | (go_at_call_of 31 (Value.int IntKind.i64 q.pt); refine (eight_any q.pt w1).mono ?_; rw [L.out.pt]; rintro e w' ⟨rfl, rfl⟩)
      | (go_at_call_of 31 (Value.int IntKind.i64 q.ek); refine (eight_any q.ek w1).mono ?_; rw [L.out.ek]; rintro e w' ⟨rfl, rfl⟩)
      | (go_at_call_of 31 (Value.int IntKind.i64 q.bp); refine (eight_any q.bp w1).mono ?_; rw [L.out.bp]; rintro e w' ⟨rfl, rfl⟩)
      | fail)
    go_ret
    exact ⟨by rw [HRR.out]; rfl, H1.out.1⟩
end Go.Proofs.Ytnafeppljnjbeaa
