/-
  The walk of the document's MayRequest: ways, a.
-/
import Derived.Test.YtdpfmaikijilkaaDM
namespace Go.Proofs.Ytdpfmaikijilkaa
open Go Go.RowKit Go.Sort Go.Proofs

set_option maxHeartbeats 4000000 in
set_option maxRecDepth 100000 in
theorem may_no_k0 (w : World) (q : Rq) (a : Option Addr) (cap : Nat) (ha : CB.At w a q.model.length q.model) (h_k0 : ¬ 1 ≤ q.kind) : Calls Try.prog 10 #[.agg (RqC q (.slice a q.model.length cap))] w (TellsB false w) := by
  have bk0 : decide (q.kind < 1) = true := decide_eq_true (by omega)
  obtain ⟨mv, hmv⟩ : ∃ mv, mv = Value.slice a q.model.length cap := ⟨_, rfl⟩
  obtain ⟨m, hm⟩ : ∃ m, m = q.model.length := ⟨_, rfl⟩
  have HM := Lib.hid (And.intro hm (And.intro hmv ha))
  rw [← hmv]
  rw [← hm] at hmv
  have HMV := Lib.hid hmv
  clear hmv hm ha
  go_enter Try.func10, Try.ntmps10
  go_upto_region 1 with fail
  generalize hw1 : World.alloc _ _ = w1
  have hb1 : Below w.heap.size w w1 := by rw [← hw1]; exact (Below.refl _ _).alloc (Nat.le_refl _) _
  have hx1 : w1.heap[w.heap.size]? = some (.cells (RqC q mv) 32 (0, 0)) := by rw [← hw1]; exact heap_alloc_new _ _
  obtain ⟨d0, d1, d2, d3, d4, d5, d6, d7, d8, d9, d10, d11, d12, d13, d14, d15, d16⟩ := RqC_cells hx1
  have z1 : w.heap.size < w1.heap.size := (Array.getElem?_eq_some_iff.1 hx1).1
  have H1 := Lib.hid (And.intro hb1 hx1)
  rw [HMV.out] at d3
  clear hb1 hx1 hw1
  go_wp2_with (first
    | fail)
  go_ret
  exact ⟨rfl, H1.out.1⟩
set_option maxHeartbeats 4000000 in
set_option maxRecDepth 100000 in
theorem may_no_k1 (w : World) (q : Rq) (a : Option Addr) (cap : Nat) (ha : CB.At w a q.model.length q.model) (h_k0 : 1 ≤ q.kind) (h_k1 : ¬ q.kind ≤ 12) : Calls Try.prog 10 #[.agg (RqC q (.slice a q.model.length cap))] w (TellsB false w) := by
  have bk1 : decide (12 < q.kind) = true := decide_eq_true (by omega)
  obtain ⟨mv, hmv⟩ : ∃ mv, mv = Value.slice a q.model.length cap := ⟨_, rfl⟩
  obtain ⟨m, hm⟩ : ∃ m, m = q.model.length := ⟨_, rfl⟩
  have HM := Lib.hid (And.intro hm (And.intro hmv ha))
  rw [← hmv]
  rw [← hm] at hmv
  have HMV := Lib.hid hmv
  clear hmv hm ha
  go_enter Try.func10, Try.ntmps10
  go_upto_region 1 with fail
  generalize hw1 : World.alloc _ _ = w1
  have hb1 : Below w.heap.size w w1 := by rw [← hw1]; exact (Below.refl _ _).alloc (Nat.le_refl _) _
  have hx1 : w1.heap[w.heap.size]? = some (.cells (RqC q mv) 32 (0, 0)) := by rw [← hw1]; exact heap_alloc_new _ _
  obtain ⟨d0, d1, d2, d3, d4, d5, d6, d7, d8, d9, d10, d11, d12, d13, d14, d15, d16⟩ := RqC_cells hx1
  have z1 : w.heap.size < w1.heap.size := (Array.getElem?_eq_some_iff.1 hx1).1
  have H1 := Lib.hid (And.intro hb1 hx1)
  rw [HMV.out] at d3
  clear hb1 hx1 hw1
  go_wp2_with (first
    | fail)
  go_ret
  exact ⟨rfl, H1.out.1⟩
set_option maxHeartbeats 4000000 in
set_option maxRecDepth 100000 in
theorem may_no_ver (w : World) (q : Rq) (a : Option Addr) (cap : Nat) (ha : CB.At w a q.model.length q.model) (h_k0 : 1 ≤ q.kind) (h_k1 : q.kind ≤ 12) (h_ver : in8 q.ver = false) : Calls Try.prog 10 #[.agg (RqC q (.slice a q.model.length cap))] w (TellsB false w) := by
  have H_ver := Lib.hid h_ver
  clear h_ver
  obtain ⟨mv, hmv⟩ : ∃ mv, mv = Value.slice a q.model.length cap := ⟨_, rfl⟩
  obtain ⟨m, hm⟩ : ∃ m, m = q.model.length := ⟨_, rfl⟩
  have HM := Lib.hid (And.intro hm (And.intro hmv ha))
  rw [← hmv]
  rw [← hm] at hmv
  have HMV := Lib.hid hmv
  clear hmv hm ha
  go_enter Try.func10, Try.ntmps10
  go_upto_region 1 with fail
  generalize hw1 : World.alloc _ _ = w1
  have hb1 : Below w.heap.size w w1 := by rw [← hw1]; exact (Below.refl _ _).alloc (Nat.le_refl _) _
  have hx1 : w1.heap[w.heap.size]? = some (.cells (RqC q mv) 32 (0, 0)) := by rw [← hw1]; exact heap_alloc_new _ _
  obtain ⟨d0, d1, d2, d3, d4, d5, d6, d7, d8, d9, d10, d11, d12, d13, d14, d15, d16⟩ := RqC_cells hx1
  have z1 : w.heap.size < w1.heap.size := (Array.getElem?_eq_some_iff.1 hx1).1
  have H1 := Lib.hid (And.intro hb1 hx1)
  rw [HMV.out] at d3
  clear hb1 hx1 hw1
  go_wp2_with (first
    | (go_at_call_of 31 (Value.int IntKind.i64 q.ver); refine (eight_any q.ver w1).mono ?_; rw [H_ver.out]; rintro e w' ⟨rfl, rfl⟩)
    | fail)
  go_ret
  exact ⟨rfl, H1.out.1⟩
set_option maxHeartbeats 4000000 in
set_option maxRecDepth 100000 in
theorem may_no_pr (w : World) (q : Rq) (a : Option Addr) (cap : Nat) (ha : CB.At w a q.model.length q.model) (h_k0 : 1 ≤ q.kind) (h_k1 : q.kind ≤ 12) (h_ver : in8 q.ver = true) (h_pr : in8 q.pr = false) : Calls Try.prog 10 #[.agg (RqC q (.slice a q.model.length cap))] w (TellsB false w) := by
  have H_ver := Lib.hid h_ver
  clear h_ver
  have H_pr := Lib.hid h_pr
  clear h_pr
  obtain ⟨mv, hmv⟩ : ∃ mv, mv = Value.slice a q.model.length cap := ⟨_, rfl⟩
  obtain ⟨m, hm⟩ : ∃ m, m = q.model.length := ⟨_, rfl⟩
  have HM := Lib.hid (And.intro hm (And.intro hmv ha))
  rw [← hmv]
  rw [← hm] at hmv
  have HMV := Lib.hid hmv
  clear hmv hm ha
  go_enter Try.func10, Try.ntmps10
  go_upto_region 1 with fail
  generalize hw1 : World.alloc _ _ = w1
  have hb1 : Below w.heap.size w w1 := by rw [← hw1]; exact (Below.refl _ _).alloc (Nat.le_refl _) _
  have hx1 : w1.heap[w.heap.size]? = some (.cells (RqC q mv) 32 (0, 0)) := by rw [← hw1]; exact heap_alloc_new _ _
  obtain ⟨d0, d1, d2, d3, d4, d5, d6, d7, d8, d9, d10, d11, d12, d13, d14, d15, d16⟩ := RqC_cells hx1
  have z1 : w.heap.size < w1.heap.size := (Array.getElem?_eq_some_iff.1 hx1).1
  have H1 := Lib.hid (And.intro hb1 hx1)
  rw [HMV.out] at d3
  clear hb1 hx1 hw1
  go_wp2_with (first
    | (go_at_call_of 31 (Value.int IntKind.i64 q.ver); refine (eight_any q.ver w1).mono ?_; rw [H_ver.out]; rintro e w' ⟨rfl, rfl⟩)
    | (go_at_call_of 31 (Value.int IntKind.i64 q.pr); refine (eight_any q.pr w1).mono ?_; rw [H_pr.out]; rintro e w' ⟨rfl, rfl⟩)
    | fail)
  go_ret
  exact ⟨rfl, H1.out.1⟩
set_option maxHeartbeats 4000000 in
set_option maxRecDepth 100000 in
theorem may_no_pt (w : World) (q : Rq) (a : Option Addr) (cap : Nat) (ha : CB.At w a q.model.length q.model) (h_k0 : 1 ≤ q.kind) (h_k1 : q.kind ≤ 12) (h_ver : in8 q.ver = true) (h_pr : in8 q.pr = true) (h_pt : in8 q.pt = false) : Calls Try.prog 10 #[.agg (RqC q (.slice a q.model.length cap))] w (TellsB false w) := by
  have H_ver := Lib.hid h_ver
  clear h_ver
  have H_pr := Lib.hid h_pr
  clear h_pr
  have H_pt := Lib.hid h_pt
  clear h_pt
  obtain ⟨mv, hmv⟩ : ∃ mv, mv = Value.slice a q.model.length cap := ⟨_, rfl⟩
  obtain ⟨m, hm⟩ : ∃ m, m = q.model.length := ⟨_, rfl⟩
  have HM := Lib.hid (And.intro hm (And.intro hmv ha))
  rw [← hmv]
  rw [← hm] at hmv
  have HMV := Lib.hid hmv
  clear hmv hm ha
  go_enter Try.func10, Try.ntmps10
  go_upto_region 1 with fail
  generalize hw1 : World.alloc _ _ = w1
  have hb1 : Below w.heap.size w w1 := by rw [← hw1]; exact (Below.refl _ _).alloc (Nat.le_refl _) _
  have hx1 : w1.heap[w.heap.size]? = some (.cells (RqC q mv) 32 (0, 0)) := by rw [← hw1]; exact heap_alloc_new _ _
  obtain ⟨d0, d1, d2, d3, d4, d5, d6, d7, d8, d9, d10, d11, d12, d13, d14, d15, d16⟩ := RqC_cells hx1
  have z1 : w.heap.size < w1.heap.size := (Array.getElem?_eq_some_iff.1 hx1).1
  have H1 := Lib.hid (And.intro hb1 hx1)
  rw [HMV.out] at d3
  clear hb1 hx1 hw1
  go_wp2_with (first
    | (go_at_call_of 31 (Value.int IntKind.i64 q.ver); refine (eight_any q.ver w1).mono ?_; rw [H_ver.out]; rintro e w' ⟨rfl, rfl⟩)
    | (go_at_call_of 31 (Value.int IntKind.i64 q.pr); refine (eight_any q.pr w1).mono ?_; rw [H_pr.out]; rintro e w' ⟨rfl, rfl⟩)
    | (go_at_call_of 31 (Value.int IntKind.i64 q.pt); refine (eight_any q.pt w1).mono ?_; rw [H_pt.out]; rintro e w' ⟨rfl, rfl⟩)
    | fail)
  go_ret
  exact ⟨rfl, H1.out.1⟩
set_option maxHeartbeats 4000000 in
set_option maxRecDepth 100000 in
theorem may_no_ek (w : World) (q : Rq) (a : Option Addr) (cap : Nat) (ha : CB.At w a q.model.length q.model) (h_k0 : 1 ≤ q.kind) (h_k1 : q.kind ≤ 12) (h_ver : in8 q.ver = true) (h_pr : in8 q.pr = true) (h_pt : in8 q.pt = true) (h_ek : in8 q.ek = false) : Calls Try.prog 10 #[.agg (RqC q (.slice a q.model.length cap))] w (TellsB false w) := by
  have H_ver := Lib.hid h_ver
  clear h_ver
  have H_pr := Lib.hid h_pr
  clear h_pr
  have H_pt := Lib.hid h_pt
  clear h_pt
  have H_ek := Lib.hid h_ek
  clear h_ek
  obtain ⟨mv, hmv⟩ : ∃ mv, mv = Value.slice a q.model.length cap := ⟨_, rfl⟩
  obtain ⟨m, hm⟩ : ∃ m, m = q.model.length := ⟨_, rfl⟩
  have HM := Lib.hid (And.intro hm (And.intro hmv ha))
  rw [← hmv]
  rw [← hm] at hmv
  have HMV := Lib.hid hmv
  clear hmv hm ha
  go_enter Try.func10, Try.ntmps10
  go_upto_region 1 with fail
  generalize hw1 : World.alloc _ _ = w1
  have hb1 : Below w.heap.size w w1 := by rw [← hw1]; exact (Below.refl _ _).alloc (Nat.le_refl _) _
  have hx1 : w1.heap[w.heap.size]? = some (.cells (RqC q mv) 32 (0, 0)) := by rw [← hw1]; exact heap_alloc_new _ _
  obtain ⟨d0, d1, d2, d3, d4, d5, d6, d7, d8, d9, d10, d11, d12, d13, d14, d15, d16⟩ := RqC_cells hx1
  have z1 : w.heap.size < w1.heap.size := (Array.getElem?_eq_some_iff.1 hx1).1
  have H1 := Lib.hid (And.intro hb1 hx1)
  rw [HMV.out] at d3
  clear hb1 hx1 hw1
  go_wp2_with (first
    | (go_at_call_of 31 (Value.int IntKind.i64 q.ver); refine (eight_any q.ver w1).mono ?_; rw [H_ver.out]; rintro e w' ⟨rfl, rfl⟩)
    | (go_at_call_of 31 (Value.int IntKind.i64 q.pr); refine (eight_any q.pr w1).mono ?_; rw [H_pr.out]; rintro e w' ⟨rfl, rfl⟩)
    | (go_at_call_of 31 (Value.int IntKind.i64 q.pt); refine (eight_any q.pt w1).mono ?_; rw [H_pt.out]; rintro e w' ⟨rfl, rfl⟩)
    | (go_at_call_of 31 (Value.int IntKind.i64 q.ek); refine (eight_any q.ek w1).mono ?_; rw [H_ek.out]; rintro e w' ⟨rfl, rfl⟩)
    | fail)
  go_ret
  exact ⟨rfl, H1.out.1⟩
set_option maxHeartbeats 4000000 in
set_option maxRecDepth 100000 in
theorem may_no_org (w : World) (q : Rq) (a : Option Addr) (cap : Nat) (ha : CB.At w a q.model.length q.model) (h_k0 : 1 ≤ q.kind) (h_k1 : q.kind ≤ 12) (h_ver : in8 q.ver = true) (h_pr : in8 q.pr = true) (h_pt : in8 q.pt = true) (h_ek : in8 q.ek = true) (h_org : ¬ q.org = 0) : Calls Try.prog 10 #[.agg (RqC q (.slice a q.model.length cap))] w (TellsB false w) := by
  have H_ver := Lib.hid h_ver
  clear h_ver
  have H_pr := Lib.hid h_pr
  clear h_pr
  have H_pt := Lib.hid h_pt
  clear h_pt
  have H_ek := Lib.hid h_ek
  clear h_ek
  obtain ⟨mv, hmv⟩ : ∃ mv, mv = Value.slice a q.model.length cap := ⟨_, rfl⟩
  obtain ⟨m, hm⟩ : ∃ m, m = q.model.length := ⟨_, rfl⟩
  have HM := Lib.hid (And.intro hm (And.intro hmv ha))
  rw [← hmv]
  rw [← hm] at hmv
  have HMV := Lib.hid hmv
  clear hmv hm ha
  go_enter Try.func10, Try.ntmps10
  go_upto_region 1 with fail
  generalize hw1 : World.alloc _ _ = w1
  have hb1 : Below w.heap.size w w1 := by rw [← hw1]; exact (Below.refl _ _).alloc (Nat.le_refl _) _
  have hx1 : w1.heap[w.heap.size]? = some (.cells (RqC q mv) 32 (0, 0)) := by rw [← hw1]; exact heap_alloc_new _ _
  obtain ⟨d0, d1, d2, d3, d4, d5, d6, d7, d8, d9, d10, d11, d12, d13, d14, d15, d16⟩ := RqC_cells hx1
  have z1 : w.heap.size < w1.heap.size := (Array.getElem?_eq_some_iff.1 hx1).1
  have H1 := Lib.hid (And.intro hb1 hx1)
  rw [HMV.out] at d3
  clear hb1 hx1 hw1
  go_wp2_with (first
    | (go_at_call_of 31 (Value.int IntKind.i64 q.ver); refine (eight_any q.ver w1).mono ?_; rw [H_ver.out]; rintro e w' ⟨rfl, rfl⟩)
    | (go_at_call_of 31 (Value.int IntKind.i64 q.pr); refine (eight_any q.pr w1).mono ?_; rw [H_pr.out]; rintro e w' ⟨rfl, rfl⟩)
    | (go_at_call_of 31 (Value.int IntKind.i64 q.pt); refine (eight_any q.pt w1).mono ?_; rw [H_pt.out]; rintro e w' ⟨rfl, rfl⟩)
    | (go_at_call_of 31 (Value.int IntKind.i64 q.ek); refine (eight_any q.ek w1).mono ?_; rw [H_ek.out]; rintro e w' ⟨rfl, rfl⟩)
    | fail)
  go_ret
  exact ⟨rfl, H1.out.1⟩
end Go.Proofs.Ytdpfmaikijilkaa
namespace Go.Proofs.Ytdpfmaikijilkaa
open Go Go.RowKit Go.Sort Go.Proofs

set_option maxHeartbeats 4000000 in
set_option maxRecDepth 100000 in
theorem may_k1 (w : World) (q : Rq) (a : Option Addr) (cap : Nat) (ha : CB.At w a q.model.length q.model) (L : Lims q) (hk : q.kind = 1) : Calls Try.prog 10 #[.agg (RqC q (.slice a q.model.length cap))] w (TellsB (sameQ ⟨1, q.id, q.ver, [], 0, 0, 0, 0, 0, 0, 0, 0, 0, 0, 0, 0, 0⟩ q) w) := by
  have hk0 := L.k0
  have hk1 := L.k1
  have hb0 := L.b0
  have hb1' := L.b1
  have horg := L.org
  have hseq := L.seq
  have bb0 : decide (q.bk < -1) = false := decide_eq_false (by omega)
  have bb1 : decide (254 < q.bk) = false := decide_eq_false (by omega)
  have bk0 : decide (q.kind < 1) = false := decide_eq_false (by omega)
  have bk1 : decide (12 < q.kind) = false := decide_eq_false (by omega)
  clear hb0 hb1'
  obtain ⟨r, hr⟩ : ∃ r, r = (sameQ ⟨1, q.id, q.ver, [], 0, 0, 0, 0, 0, 0, 0, 0, 0, 0, 0, 0, 0⟩ q) := ⟨_, rfl⟩
  rw [← hr]
  have HRR := Lib.hid hr
  have L := Lib.hid L
  clear hr
  obtain ⟨mv, hmv⟩ : ∃ mv, mv = Value.slice a q.model.length cap := ⟨_, rfl⟩
  obtain ⟨m, hm⟩ : ∃ m, m = q.model.length := ⟨_, rfl⟩
  have HM := Lib.hid (And.intro hm (And.intro hmv ha))
  rw [← hmv]
  rw [← hm] at hmv
  have HMV := Lib.hid hmv
  clear hmv hm ha
  go_enter Try.func10, Try.ntmps10
  go_upto_region 1 with fail
  generalize hw1 : World.alloc _ _ = w1
  have hb1 : Below w.heap.size w w1 := by rw [← hw1]; exact (Below.refl _ _).alloc (Nat.le_refl _) _
  have hx1 : w1.heap[w.heap.size]? = some (.cells (RqC q mv) 32 (0, 0)) := by rw [← hw1]; exact heap_alloc_new _ _
  obtain ⟨d0, d1, d2, d3, d4, d5, d6, d7, d8, d9, d10, d11, d12, d13, d14, d15, d16⟩ := RqC_cells hx1
  have z1 : w.heap.size < w1.heap.size := (Array.getElem?_eq_some_iff.1 hx1).1
  have H1 := Lib.hid (And.intro hb1 hx1)
  rw [HMV.out] at d3
  clear hb1 hx1 hw1
  rw [horg] at d5
  rw [hseq] at d6
  clear horg hseq
  clear bk0 bk1 hk0 hk1
  rw [hk] at d0
  go_upto_region 3 with (first
    | (go_at_call_of 31 (Value.int IntKind.i64 q.ver); refine (eight_any q.ver w1).mono ?_; rw [L.out.ver]; rintro e w' ⟨rfl, rfl⟩)
    | (go_at_call_of 31 (Value.int IntKind.i64 q.pr); refine (eight_any q.pr w1).mono ?_; rw [L.out.pr]; rintro e w' ⟨rfl, rfl⟩)
    | (go_at_call_of 31 (Value.int IntKind.i64 q.pt); refine (eight_any q.pt w1).mono ?_; rw [L.out.pt]; rintro e w' ⟨rfl, rfl⟩)
    | (go_at_call_of 31 (Value.int IntKind.i64 q.ek); refine (eight_any q.ek w1).mono ?_; rw [L.out.ek]; rintro e w' ⟨rfl, rfl⟩)
    | (go_at_call_of 31 (Value.int IntKind.i64 q.bp); refine (eight_any q.bp w1).mono ?_; rw [L.out.bp]; rintro e w' ⟨rfl, rfl⟩)
    | fail)
  go_upto_region 5 with fail
  go_upto_region 6 with (first
    | (show wpList _ _ _ (Oper.mk _ (.store _ (.tmp 3) (.tmp 90)) _ _ _ _ :: _) _ _; refine wpList_store_row rfl 32 (.tmp 3) (.tmp 90) rfl w1.heap.size (RqC ⟨1, q.id, 0, [], 0, 0, 0, 0, 0, 0, 0, 0, 0, 0, 0, 0, 0⟩ (.slice none 0 0)) rfl rfl 32 (RqC (zeroQ 0) (.slice none 0 0)) (heap_alloc_new _ _) (infoQ _ _) rfl (RqC_one _ _ _ _) ?_; generalize hw2 : World.setRow _ _ _ = w2; have g1 : Below w1.heap.size w1 w2 := (by rw [← hw2]; exact (grow_row w1 _ _ _).1); have g2 : w2.heap[w1.heap.size]? = some (.cells (RqC ⟨1, q.id, 0, [], 0, 0, 0, 0, 0, 0, 0, 0, 0, 0, 0, 0, 0⟩ (.slice none 0 0)) 32 (0, 0)) := (by rw [← hw2]; exact (grow_row w1 _ _ _).2); obtain ⟨u0, u1, u2, u3, u4, u5, u6, u7, u8, u9, u10, u11, u12, u13, u14, u15, u16⟩ := RqC_cells g2; have fz : ∀ o, w2.frozen? ⟨w1.heap.size, o, none⟩ = false := (fun o => frozen_of_row _ _ _ _ _ g2); have G2 := Lib.hid (And.intro (H1.out.1.trans (g1.mono H1.out.1.size)) (And.intro g2 ((g1.block _ z1).trans H1.out.2))); replace d2 := cell_below d2 g1; replace d3 := cell_below d3 g1; replace d4 := cell_below d4 g1; replace d5 := cell_below d5 g1; replace d6 := cell_below d6 g1; replace d7 := cell_below d7 g1; replace d8 := cell_below d8 g1; replace d9 := cell_below d9 g1; replace d10 := cell_below d10 g1; replace d11 := cell_below d11 g1; replace d12 := cell_below d12 g1; replace d13 := cell_below d13 g1; replace d14 := cell_below d14 g1; replace d15 := cell_below d15 g1; replace d16 := cell_below d16 g1; replace d0 := cell_below d0 g1; replace d1 := cell_below d1 g1; clear hw2 g1 g2)
    | fail)
  go_upto_region 23 with fail
  have hn : w.heap.size ≠ w1.heap.size := by omega
  obtain ⟨w3, hw3⟩ : ∃ w3, w3 = (w2.setCell ⟨w1.heap.size, 2, none⟩ (.int .i64 q.ver)) := ⟨_, rfl⟩
  have s3 : w3.heap[w1.heap.size]? = some (.cells (RqC ⟨1, q.id, q.ver, [], 0, 0, 0, 0, 0, 0, 0, 0, 0, 0, 0, 0, 0⟩ (.slice none 0 0)) 32 (0, 0)) := by rw [hw3]; exact (heap_setCell_same _ _ _ _ _ _ G2.out.2.1)
  have b3 : But (fun x => x = w1.heap.size) w2 w3 := by rw [hw3]; exact ((But.refl (fun x => x = w1.heap.size) w2).setCell (p := ⟨w1.heap.size, 2, none⟩) rfl _)
  have H3 : Hid (Below w.heap.size w w3 ∧ w3.heap[w.heap.size]? = some (.cells (RqC q mv) 32 (0, 0)) ∧ w3.heap[w1.heap.size]? = some (.cells (RqC ⟨1, q.id, q.ver, [], 0, 0, 0, 0, 0, 0, 0, 0, 0, 0, 0, 0, 0⟩ (.slice none 0 0)) 32 (0, 0))) := ⟨G2.out.1.trans (b3.below G2.out.1.size fun x e => by omega), (b3.block _ (Array.getElem?_eq_some_iff.1 G2.out.2.2).1 hn).trans G2.out.2.2, s3⟩
  rw [← hw3]
  clear hw3 s3 b3 hn fz u0 u1 u2 u3 u4 u5 u6 u7 u8 u9 u10 u11 u12 u13 u14 u15 u16 d0 d1 d2 d3 d4 d5 d6 d7 d8 d9 d10 d11 d12 d13 d14 d15 d16
  go_wp2_with (first
    | (show wpList _ _ _ (Oper.mk _ (.load _ (.tmp 3)) _ _ _ _ :: _) _ _; refine wpList_load_row rfl 32 (.tmp 3) rfl w1.heap.size rfl 32 (RqC ⟨1, q.id, q.ver, [], 0, 0, 0, 0, 0, 0, 0, 0, 0, 0, 0, 0, 0⟩ (.slice none 0 0)) (0, 0) _ H3.out.2.2 Try.underlying32 rfl (infoQ _ _) ?_)
    | (show wpList _ _ _ (Oper.mk _ (.load _ (.tmp 1)) _ _ _ _ :: _) _ _; refine wpList_load_row rfl 32 (.tmp 1) rfl w.heap.size rfl 32 (RqC q mv) (0, 0) _ H3.out.2.1 Try.underlying32 rfl (infoQ _ _) ?_)
    | (go_at_call 12; rw [HM.out.2.1]; refine (rsameRequest_any w3 ⟨1, q.id, q.ver, [], 0, 0, 0, 0, 0, 0, 0, 0, 0, 0, 0, 0, 0⟩ q none a 0 cap (CB_nil _ _) (HM.out.2.2.below H3.out.1)).mono ?_; rintro e w9 ⟨rfl, hb9⟩; have H9 := Lib.hid (H3.out.1.trans (hb9.mono H3.out.1.size)); clear hb9))
  go_ret
  exact ⟨by rw [HRR.out]; rfl, H9.out⟩
set_option maxHeartbeats 4000000 in
set_option maxRecDepth 100000 in
theorem may_k2 (w : World) (q : Rq) (a : Option Addr) (cap : Nat) (ha : CB.At w a q.model.length q.model) (L : Lims q) (hk : q.kind = 2) (hl : 1 ≤ q.model.length ∧ q.model.length ≤ 4091) : Calls Try.prog 10 #[.agg (RqC q (.slice a q.model.length cap))] w (TellsB (sameQ ⟨2, q.id, 0, q.model, 0, 0, 0, 0, 0, 0, 0, 0, 0, 0, 0, 0, 0⟩ q) w) := by
  have hk0 := L.k0
  have hk1 := L.k1
  have hb0 := L.b0
  have hb1' := L.b1
  have horg := L.org
  have hseq := L.seq
  have bb0 : decide (q.bk < -1) = false := decide_eq_false (by omega)
  have bb1 : decide (254 < q.bk) = false := decide_eq_false (by omega)
  have bk0 : decide (q.kind < 1) = false := decide_eq_false (by omega)
  have bk1 : decide (12 < q.kind) = false := decide_eq_false (by omega)
  clear hb0 hb1'
  obtain ⟨r, hr⟩ : ∃ r, r = (sameQ ⟨2, q.id, 0, q.model, 0, 0, 0, 0, 0, 0, 0, 0, 0, 0, 0, 0, 0⟩ q) := ⟨_, rfl⟩
  rw [← hr]
  have HRR := Lib.hid hr
  have L := Lib.hid L
  clear hr
  obtain ⟨mv, hmv⟩ : ∃ mv, mv = Value.slice a q.model.length cap := ⟨_, rfl⟩
  obtain ⟨m, hm⟩ : ∃ m, m = q.model.length := ⟨_, rfl⟩
  have HM := Lib.hid (And.intro hm (And.intro hmv ha))
  rw [← hmv]
  rw [← hm] at hmv
  have HMV := Lib.hid hmv
  clear hmv hm ha
  go_enter Try.func10, Try.ntmps10
  go_upto_region 1 with fail
  generalize hw1 : World.alloc _ _ = w1
  have hb1 : Below w.heap.size w w1 := by rw [← hw1]; exact (Below.refl _ _).alloc (Nat.le_refl _) _
  have hx1 : w1.heap[w.heap.size]? = some (.cells (RqC q mv) 32 (0, 0)) := by rw [← hw1]; exact heap_alloc_new _ _
  obtain ⟨d0, d1, d2, d3, d4, d5, d6, d7, d8, d9, d10, d11, d12, d13, d14, d15, d16⟩ := RqC_cells hx1
  have z1 : w.heap.size < w1.heap.size := (Array.getElem?_eq_some_iff.1 hx1).1
  have H1 := Lib.hid (And.intro hb1 hx1)
  rw [HMV.out] at d3
  clear hb1 hx1 hw1
  rw [horg] at d5
  rw [hseq] at d6
  clear horg hseq
  clear bk0 bk1 hk0 hk1
  rw [hk] at d0
  have hl1 : 1 ≤ m := by rw [HM.out.1]; exact hl.1
  have hl2 : m ≤ 4091 := by rw [HM.out.1]; exact hl.2
  clear hl
  go_upto_region 3 with (first
    | (go_at_call_of 31 (Value.int IntKind.i64 q.ver); refine (eight_any q.ver w1).mono ?_; rw [L.out.ver]; rintro e w' ⟨rfl, rfl⟩)
    | (go_at_call_of 31 (Value.int IntKind.i64 q.pr); refine (eight_any q.pr w1).mono ?_; rw [L.out.pr]; rintro e w' ⟨rfl, rfl⟩)
    | (go_at_call_of 31 (Value.int IntKind.i64 q.pt); refine (eight_any q.pt w1).mono ?_; rw [L.out.pt]; rintro e w' ⟨rfl, rfl⟩)
    | (go_at_call_of 31 (Value.int IntKind.i64 q.ek); refine (eight_any q.ek w1).mono ?_; rw [L.out.ek]; rintro e w' ⟨rfl, rfl⟩)
    | (go_at_call_of 31 (Value.int IntKind.i64 q.bp); refine (eight_any q.bp w1).mono ?_; rw [L.out.bp]; rintro e w' ⟨rfl, rfl⟩)
    | fail)
  go_upto_region 5 with fail
  go_upto_region 6 with (first
    | (show wpList _ _ _ (Oper.mk _ (.store _ (.tmp 3) (.tmp 90)) _ _ _ _ :: _) _ _; refine wpList_store_row rfl 32 (.tmp 3) (.tmp 90) rfl w1.heap.size (RqC ⟨2, q.id, 0, [], 0, 0, 0, 0, 0, 0, 0, 0, 0, 0, 0, 0, 0⟩ (.slice none 0 0)) rfl rfl 32 (RqC (zeroQ 0) (.slice none 0 0)) (heap_alloc_new _ _) (infoQ _ _) rfl (RqC_one _ _ _ _) ?_; generalize hw2 : World.setRow _ _ _ = w2; have g1 : Below w1.heap.size w1 w2 := (by rw [← hw2]; exact (grow_row w1 _ _ _).1); have g2 : w2.heap[w1.heap.size]? = some (.cells (RqC ⟨2, q.id, 0, [], 0, 0, 0, 0, 0, 0, 0, 0, 0, 0, 0, 0, 0⟩ (.slice none 0 0)) 32 (0, 0)) := (by rw [← hw2]; exact (grow_row w1 _ _ _).2); obtain ⟨u0, u1, u2, u3, u4, u5, u6, u7, u8, u9, u10, u11, u12, u13, u14, u15, u16⟩ := RqC_cells g2; have fz : ∀ o, w2.frozen? ⟨w1.heap.size, o, none⟩ = false := (fun o => frozen_of_row _ _ _ _ _ g2); have G2 := Lib.hid (And.intro (H1.out.1.trans (g1.mono H1.out.1.size)) (And.intro g2 ((g1.block _ z1).trans H1.out.2))); replace d2 := cell_below d2 g1; replace d3 := cell_below d3 g1; replace d4 := cell_below d4 g1; replace d5 := cell_below d5 g1; replace d6 := cell_below d6 g1; replace d7 := cell_below d7 g1; replace d8 := cell_below d8 g1; replace d9 := cell_below d9 g1; replace d10 := cell_below d10 g1; replace d11 := cell_below d11 g1; replace d12 := cell_below d12 g1; replace d13 := cell_below d13 g1; replace d14 := cell_below d14 g1; replace d15 := cell_below d15 g1; replace d16 := cell_below d16 g1; replace d0 := cell_below d0 g1; replace d1 := cell_below d1 g1; clear hw2 g1 g2)
    | fail)
  go_upto_region 23 with fail
  have hn : w.heap.size ≠ w1.heap.size := by omega
  obtain ⟨w3, hw3⟩ : ∃ w3, w3 = (w2.setCell ⟨w1.heap.size, 3, none⟩ (.slice a m cap)) := ⟨_, rfl⟩
  have s3 : w3.heap[w1.heap.size]? = some (.cells (RqC ⟨2, q.id, 0, q.model, 0, 0, 0, 0, 0, 0, 0, 0, 0, 0, 0, 0, 0⟩ (.slice a m cap)) 32 (0, 0)) := by rw [hw3]; exact (heap_setCell_same _ _ _ _ _ _ G2.out.2.1)
  have b3 : But (fun x => x = w1.heap.size) w2 w3 := by rw [hw3]; exact ((But.refl (fun x => x = w1.heap.size) w2).setCell (p := ⟨w1.heap.size, 3, none⟩) rfl _)
  have H3 : Hid (Below w.heap.size w w3 ∧ w3.heap[w.heap.size]? = some (.cells (RqC q mv) 32 (0, 0)) ∧ w3.heap[w1.heap.size]? = some (.cells (RqC ⟨2, q.id, 0, q.model, 0, 0, 0, 0, 0, 0, 0, 0, 0, 0, 0, 0, 0⟩ (.slice a m cap)) 32 (0, 0))) := ⟨G2.out.1.trans (b3.below G2.out.1.size fun x e => by omega), (b3.block _ (Array.getElem?_eq_some_iff.1 G2.out.2.2).1 hn).trans G2.out.2.2, s3⟩
  rw [← hw3]
  clear hw3 s3 b3 hn fz u0 u1 u2 u3 u4 u5 u6 u7 u8 u9 u10 u11 u12 u13 u14 u15 u16 d0 d1 d2 d3 d4 d5 d6 d7 d8 d9 d10 d11 d12 d13 d14 d15 d16
  go_wp2_with (first
    | (show wpList _ _ _ (Oper.mk _ (.load _ (.tmp 3)) _ _ _ _ :: _) _ _; refine wpList_load_row rfl 32 (.tmp 3) rfl w1.heap.size rfl 32 (RqC ⟨2, q.id, 0, q.model, 0, 0, 0, 0, 0, 0, 0, 0, 0, 0, 0, 0, 0⟩ (.slice a m cap)) (0, 0) _ H3.out.2.2 Try.underlying32 rfl (infoQ _ _) ?_)
    | (show wpList _ _ _ (Oper.mk _ (.load _ (.tmp 1)) _ _ _ _ :: _) _ _; refine wpList_load_row rfl 32 (.tmp 1) rfl w.heap.size rfl 32 (RqC q mv) (0, 0) _ H3.out.2.1 Try.underlying32 rfl (infoQ _ _) ?_)
    | (go_at_call 12; rw [HM.out.1]; rw [HM.out.2.1]; refine (rsameRequest_any w3 ⟨2, q.id, 0, q.model, 0, 0, 0, 0, 0, 0, 0, 0, 0, 0, 0, 0, 0⟩ q a a cap cap (HM.out.2.2.below H3.out.1) (HM.out.2.2.below H3.out.1)).mono ?_; rintro e w9 ⟨rfl, hb9⟩; have H9 := Lib.hid (H3.out.1.trans (hb9.mono H3.out.1.size)); clear hb9))
  go_ret
  exact ⟨by rw [HRR.out]; rfl, H9.out⟩
end Go.Proofs.Ytdpfmaikijilkaa
namespace Go.Proofs.Ytdpfmaikijilkaa
open Go Go.RowKit Go.Sort Go.Proofs

set_option maxHeartbeats 4000000 in
set_option maxRecDepth 100000 in
theorem may_k5 (w : World) (q : Rq) (a : Option Addr) (cap : Nat) (ha : CB.At w a q.model.length q.model) (L : Lims q) (hk : q.kind = 5) : Calls Try.prog 10 #[.agg (RqC q (.slice a q.model.length cap))] w (TellsB (sameQ ⟨5, q.id, 0, [], 0, 0, 0, 0, 0, 0, q.num, 0, 0, 0, 0, 0, 0⟩ q) w) := by
  have hk0 := L.k0
  have hk1 := L.k1
  have hb0 := L.b0
  have hb1' := L.b1
  have horg := L.org
  have hseq := L.seq
  have bb0 : decide (q.bk < -1) = false := decide_eq_false (by omega)
  have bb1 : decide (254 < q.bk) = false := decide_eq_false (by omega)
  have bk0 : decide (q.kind < 1) = false := decide_eq_false (by omega)
  have bk1 : decide (12 < q.kind) = false := decide_eq_false (by omega)
  clear hb0 hb1'
  obtain ⟨r, hr⟩ : ∃ r, r = (sameQ ⟨5, q.id, 0, [], 0, 0, 0, 0, 0, 0, q.num, 0, 0, 0, 0, 0, 0⟩ q) := ⟨_, rfl⟩
  rw [← hr]
  have HRR := Lib.hid hr
  have L := Lib.hid L
  clear hr
  obtain ⟨mv, hmv⟩ : ∃ mv, mv = Value.slice a q.model.length cap := ⟨_, rfl⟩
  obtain ⟨m, hm⟩ : ∃ m, m = q.model.length := ⟨_, rfl⟩
  have HM := Lib.hid (And.intro hm (And.intro hmv ha))
  rw [← hmv]
  rw [← hm] at hmv
  have HMV := Lib.hid hmv
  clear hmv hm ha
  go_enter Try.func10, Try.ntmps10
  go_upto_region 1 with fail
  generalize hw1 : World.alloc _ _ = w1
  have hb1 : Below w.heap.size w w1 := by rw [← hw1]; exact (Below.refl _ _).alloc (Nat.le_refl _) _
  have hx1 : w1.heap[w.heap.size]? = some (.cells (RqC q mv) 32 (0, 0)) := by rw [← hw1]; exact heap_alloc_new _ _
  obtain ⟨d0, d1, d2, d3, d4, d5, d6, d7, d8, d9, d10, d11, d12, d13, d14, d15, d16⟩ := RqC_cells hx1
  have z1 : w.heap.size < w1.heap.size := (Array.getElem?_eq_some_iff.1 hx1).1
  have H1 := Lib.hid (And.intro hb1 hx1)
  rw [HMV.out] at d3
  clear hb1 hx1 hw1
  rw [horg] at d5
  rw [hseq] at d6
  clear horg hseq
  clear bk0 bk1 hk0 hk1
  rw [hk] at d0
  go_upto_region 3 with (first
    | (go_at_call_of 31 (Value.int IntKind.i64 q.ver); refine (eight_any q.ver w1).mono ?_; rw [L.out.ver]; rintro e w' ⟨rfl, rfl⟩)
    | (go_at_call_of 31 (Value.int IntKind.i64 q.pr); refine (eight_any q.pr w1).mono ?_; rw [L.out.pr]; rintro e w' ⟨rfl, rfl⟩)
    | (go_at_call_of 31 (Value.int IntKind.i64 q.pt); refine (eight_any q.pt w1).mono ?_; rw [L.out.pt]; rintro e w' ⟨rfl, rfl⟩)
    | (go_at_call_of 31 (Value.int IntKind.i64 q.ek); refine (eight_any q.ek w1).mono ?_; rw [L.out.ek]; rintro e w' ⟨rfl, rfl⟩)
    | (go_at_call_of 31 (Value.int IntKind.i64 q.bp); refine (eight_any q.bp w1).mono ?_; rw [L.out.bp]; rintro e w' ⟨rfl, rfl⟩)
    | fail)
  go_upto_region 5 with fail
  go_upto_region 6 with (first
    | (show wpList _ _ _ (Oper.mk _ (.store _ (.tmp 3) (.tmp 90)) _ _ _ _ :: _) _ _; refine wpList_store_row rfl 32 (.tmp 3) (.tmp 90) rfl w1.heap.size (RqC ⟨5, q.id, 0, [], 0, 0, 0, 0, 0, 0, 0, 0, 0, 0, 0, 0, 0⟩ (.slice none 0 0)) rfl rfl 32 (RqC (zeroQ 0) (.slice none 0 0)) (heap_alloc_new _ _) (infoQ _ _) rfl (RqC_one _ _ _ _) ?_; generalize hw2 : World.setRow _ _ _ = w2; have g1 : Below w1.heap.size w1 w2 := (by rw [← hw2]; exact (grow_row w1 _ _ _).1); have g2 : w2.heap[w1.heap.size]? = some (.cells (RqC ⟨5, q.id, 0, [], 0, 0, 0, 0, 0, 0, 0, 0, 0, 0, 0, 0, 0⟩ (.slice none 0 0)) 32 (0, 0)) := (by rw [← hw2]; exact (grow_row w1 _ _ _).2); obtain ⟨u0, u1, u2, u3, u4, u5, u6, u7, u8, u9, u10, u11, u12, u13, u14, u15, u16⟩ := RqC_cells g2; have fz : ∀ o, w2.frozen? ⟨w1.heap.size, o, none⟩ = false := (fun o => frozen_of_row _ _ _ _ _ g2); have G2 := Lib.hid (And.intro (H1.out.1.trans (g1.mono H1.out.1.size)) (And.intro g2 ((g1.block _ z1).trans H1.out.2))); replace d2 := cell_below d2 g1; replace d3 := cell_below d3 g1; replace d4 := cell_below d4 g1; replace d5 := cell_below d5 g1; replace d6 := cell_below d6 g1; replace d7 := cell_below d7 g1; replace d8 := cell_below d8 g1; replace d9 := cell_below d9 g1; replace d10 := cell_below d10 g1; replace d11 := cell_below d11 g1; replace d12 := cell_below d12 g1; replace d13 := cell_below d13 g1; replace d14 := cell_below d14 g1; replace d15 := cell_below d15 g1; replace d16 := cell_below d16 g1; replace d0 := cell_below d0 g1; replace d1 := cell_below d1 g1; clear hw2 g1 g2)
    | fail)
  go_upto_region 23 with fail
  have hn : w.heap.size ≠ w1.heap.size := by omega
  obtain ⟨w3, hw3⟩ : ∃ w3, w3 = (w2.setCell ⟨w1.heap.size, 10, none⟩ (.int .u32 q.num)) := ⟨_, rfl⟩
  have s3 : w3.heap[w1.heap.size]? = some (.cells (RqC ⟨5, q.id, 0, [], 0, 0, 0, 0, 0, 0, q.num, 0, 0, 0, 0, 0, 0⟩ (.slice none 0 0)) 32 (0, 0)) := by rw [hw3]; exact (heap_setCell_same _ _ _ _ _ _ G2.out.2.1)
  have b3 : But (fun x => x = w1.heap.size) w2 w3 := by rw [hw3]; exact ((But.refl (fun x => x = w1.heap.size) w2).setCell (p := ⟨w1.heap.size, 10, none⟩) rfl _)
  have H3 : Hid (Below w.heap.size w w3 ∧ w3.heap[w.heap.size]? = some (.cells (RqC q mv) 32 (0, 0)) ∧ w3.heap[w1.heap.size]? = some (.cells (RqC ⟨5, q.id, 0, [], 0, 0, 0, 0, 0, 0, q.num, 0, 0, 0, 0, 0, 0⟩ (.slice none 0 0)) 32 (0, 0))) := ⟨G2.out.1.trans (b3.below G2.out.1.size fun x e => by omega), (b3.block _ (Array.getElem?_eq_some_iff.1 G2.out.2.2).1 hn).trans G2.out.2.2, s3⟩
  rw [← hw3]
  clear hw3 s3 b3 hn fz u0 u1 u2 u3 u4 u5 u6 u7 u8 u9 u10 u11 u12 u13 u14 u15 u16 d0 d1 d2 d3 d4 d5 d6 d7 d8 d9 d10 d11 d12 d13 d14 d15 d16
  go_wp2_with (first
    | (show wpList _ _ _ (Oper.mk _ (.load _ (.tmp 3)) _ _ _ _ :: _) _ _; refine wpList_load_row rfl 32 (.tmp 3) rfl w1.heap.size rfl 32 (RqC ⟨5, q.id, 0, [], 0, 0, 0, 0, 0, 0, q.num, 0, 0, 0, 0, 0, 0⟩ (.slice none 0 0)) (0, 0) _ H3.out.2.2 Try.underlying32 rfl (infoQ _ _) ?_)
    | (show wpList _ _ _ (Oper.mk _ (.load _ (.tmp 1)) _ _ _ _ :: _) _ _; refine wpList_load_row rfl 32 (.tmp 1) rfl w.heap.size rfl 32 (RqC q mv) (0, 0) _ H3.out.2.1 Try.underlying32 rfl (infoQ _ _) ?_)
    | (go_at_call 12; rw [HM.out.2.1]; refine (rsameRequest_any w3 ⟨5, q.id, 0, [], 0, 0, 0, 0, 0, 0, q.num, 0, 0, 0, 0, 0, 0⟩ q none a 0 cap (CB_nil _ _) (HM.out.2.2.below H3.out.1)).mono ?_; rintro e w9 ⟨rfl, hb9⟩; have H9 := Lib.hid (H3.out.1.trans (hb9.mono H3.out.1.size)); clear hb9))
  go_ret
  exact ⟨by rw [HRR.out]; rfl, H9.out⟩
set_option maxHeartbeats 4000000 in
set_option maxRecDepth 100000 in
theorem may_k6 (w : World) (q : Rq) (a : Option Addr) (cap : Nat) (ha : CB.At w a q.model.length q.model) (L : Lims q) (hk : q.kind = 6) : Calls Try.prog 10 #[.agg (RqC q (.slice a q.model.length cap))] w (TellsB (sameQ ⟨6, q.id, 0, [], 0, 0, 0, 0, 0, 0, 0, 0, 0, 0, q.pr, 0, 0⟩ q) w) := by
  have hk0 := L.k0
  have hk1 := L.k1
  have hb0 := L.b0
  have hb1' := L.b1
  have horg := L.org
  have hseq := L.seq
  have bb0 : decide (q.bk < -1) = false := decide_eq_false (by omega)
  have bb1 : decide (254 < q.bk) = false := decide_eq_false (by omega)
  have bk0 : decide (q.kind < 1) = false := decide_eq_false (by omega)
  have bk1 : decide (12 < q.kind) = false := decide_eq_false (by omega)
  clear hb0 hb1'
  obtain ⟨r, hr⟩ : ∃ r, r = (sameQ ⟨6, q.id, 0, [], 0, 0, 0, 0, 0, 0, 0, 0, 0, 0, q.pr, 0, 0⟩ q) := ⟨_, rfl⟩
  rw [← hr]
  have HRR := Lib.hid hr
  have L := Lib.hid L
  clear hr
  obtain ⟨mv, hmv⟩ : ∃ mv, mv = Value.slice a q.model.length cap := ⟨_, rfl⟩
  obtain ⟨m, hm⟩ : ∃ m, m = q.model.length := ⟨_, rfl⟩
  have HM := Lib.hid (And.intro hm (And.intro hmv ha))
  rw [← hmv]
  rw [← hm] at hmv
  have HMV := Lib.hid hmv
  clear hmv hm ha
  go_enter Try.func10, Try.ntmps10
  go_upto_region 1 with fail
  generalize hw1 : World.alloc _ _ = w1
  have hb1 : Below w.heap.size w w1 := by rw [← hw1]; exact (Below.refl _ _).alloc (Nat.le_refl _) _
  have hx1 : w1.heap[w.heap.size]? = some (.cells (RqC q mv) 32 (0, 0)) := by rw [← hw1]; exact heap_alloc_new _ _
  obtain ⟨d0, d1, d2, d3, d4, d5, d6, d7, d8, d9, d10, d11, d12, d13, d14, d15, d16⟩ := RqC_cells hx1
  have z1 : w.heap.size < w1.heap.size := (Array.getElem?_eq_some_iff.1 hx1).1
  have H1 := Lib.hid (And.intro hb1 hx1)
  rw [HMV.out] at d3
  clear hb1 hx1 hw1
  rw [horg] at d5
  rw [hseq] at d6
  clear horg hseq
  clear bk0 bk1 hk0 hk1
  rw [hk] at d0
  go_upto_region 3 with (first
    | (go_at_call_of 31 (Value.int IntKind.i64 q.ver); refine (eight_any q.ver w1).mono ?_; rw [L.out.ver]; rintro e w' ⟨rfl, rfl⟩)
    | (go_at_call_of 31 (Value.int IntKind.i64 q.pr); refine (eight_any q.pr w1).mono ?_; rw [L.out.pr]; rintro e w' ⟨rfl, rfl⟩)
    | (go_at_call_of 31 (Value.int IntKind.i64 q.pt); refine (eight_any q.pt w1).mono ?_; rw [L.out.pt]; rintro e w' ⟨rfl, rfl⟩)
    | (go_at_call_of 31 (Value.int IntKind.i64 q.ek); refine (eight_any q.ek w1).mono ?_; rw [L.out.ek]; rintro e w' ⟨rfl, rfl⟩)
    | (go_at_call_of 31 (Value.int IntKind.i64 q.bp); refine (eight_any q.bp w1).mono ?_; rw [L.out.bp]; rintro e w' ⟨rfl, rfl⟩)
    | fail)
  go_upto_region 5 with fail
  go_upto_region 6 with (first
    | (show wpList _ _ _ (Oper.mk _ (.store _ (.tmp 3) (.tmp 90)) _ _ _ _ :: _) _ _; refine wpList_store_row rfl 32 (.tmp 3) (.tmp 90) rfl w1.heap.size (RqC ⟨6, q.id, 0, [], 0, 0, 0, 0, 0, 0, 0, 0, 0, 0, 0, 0, 0⟩ (.slice none 0 0)) rfl rfl 32 (RqC (zeroQ 0) (.slice none 0 0)) (heap_alloc_new _ _) (infoQ _ _) rfl (RqC_one _ _ _ _) ?_; generalize hw2 : World.setRow _ _ _ = w2; have g1 : Below w1.heap.size w1 w2 := (by rw [← hw2]; exact (grow_row w1 _ _ _).1); have g2 : w2.heap[w1.heap.size]? = some (.cells (RqC ⟨6, q.id, 0, [], 0, 0, 0, 0, 0, 0, 0, 0, 0, 0, 0, 0, 0⟩ (.slice none 0 0)) 32 (0, 0)) := (by rw [← hw2]; exact (grow_row w1 _ _ _).2); obtain ⟨u0, u1, u2, u3, u4, u5, u6, u7, u8, u9, u10, u11, u12, u13, u14, u15, u16⟩ := RqC_cells g2; have fz : ∀ o, w2.frozen? ⟨w1.heap.size, o, none⟩ = false := (fun o => frozen_of_row _ _ _ _ _ g2); have G2 := Lib.hid (And.intro (H1.out.1.trans (g1.mono H1.out.1.size)) (And.intro g2 ((g1.block _ z1).trans H1.out.2))); replace d2 := cell_below d2 g1; replace d3 := cell_below d3 g1; replace d4 := cell_below d4 g1; replace d5 := cell_below d5 g1; replace d6 := cell_below d6 g1; replace d7 := cell_below d7 g1; replace d8 := cell_below d8 g1; replace d9 := cell_below d9 g1; replace d10 := cell_below d10 g1; replace d11 := cell_below d11 g1; replace d12 := cell_below d12 g1; replace d13 := cell_below d13 g1; replace d14 := cell_below d14 g1; replace d15 := cell_below d15 g1; replace d16 := cell_below d16 g1; replace d0 := cell_below d0 g1; replace d1 := cell_below d1 g1; clear hw2 g1 g2)
    | fail)
  go_upto_region 23 with fail
  have hn : w.heap.size ≠ w1.heap.size := by omega
  obtain ⟨w3, hw3⟩ : ∃ w3, w3 = (w2.setCell ⟨w1.heap.size, 14, none⟩ (.int .i64 q.pr)) := ⟨_, rfl⟩
  have s3 : w3.heap[w1.heap.size]? = some (.cells (RqC ⟨6, q.id, 0, [], 0, 0, 0, 0, 0, 0, 0, 0, 0, 0, q.pr, 0, 0⟩ (.slice none 0 0)) 32 (0, 0)) := by rw [hw3]; exact (heap_setCell_same _ _ _ _ _ _ G2.out.2.1)
  have b3 : But (fun x => x = w1.heap.size) w2 w3 := by rw [hw3]; exact ((But.refl (fun x => x = w1.heap.size) w2).setCell (p := ⟨w1.heap.size, 14, none⟩) rfl _)
  have H3 : Hid (Below w.heap.size w w3 ∧ w3.heap[w.heap.size]? = some (.cells (RqC q mv) 32 (0, 0)) ∧ w3.heap[w1.heap.size]? = some (.cells (RqC ⟨6, q.id, 0, [], 0, 0, 0, 0, 0, 0, 0, 0, 0, 0, q.pr, 0, 0⟩ (.slice none 0 0)) 32 (0, 0))) := ⟨G2.out.1.trans (b3.below G2.out.1.size fun x e => by omega), (b3.block _ (Array.getElem?_eq_some_iff.1 G2.out.2.2).1 hn).trans G2.out.2.2, s3⟩
  rw [← hw3]
  clear hw3 s3 b3 hn fz u0 u1 u2 u3 u4 u5 u6 u7 u8 u9 u10 u11 u12 u13 u14 u15 u16 d0 d1 d2 d3 d4 d5 d6 d7 d8 d9 d10 d11 d12 d13 d14 d15 d16
  go_wp2_with (first
    | (show wpList _ _ _ (Oper.mk _ (.load _ (.tmp 3)) _ _ _ _ :: _) _ _; refine wpList_load_row rfl 32 (.tmp 3) rfl w1.heap.size rfl 32 (RqC ⟨6, q.id, 0, [], 0, 0, 0, 0, 0, 0, 0, 0, 0, 0, q.pr, 0, 0⟩ (.slice none 0 0)) (0, 0) _ H3.out.2.2 Try.underlying32 rfl (infoQ _ _) ?_)
    | (show wpList _ _ _ (Oper.mk _ (.load _ (.tmp 1)) _ _ _ _ :: _) _ _; refine wpList_load_row rfl 32 (.tmp 1) rfl w.heap.size rfl 32 (RqC q mv) (0, 0) _ H3.out.2.1 Try.underlying32 rfl (infoQ _ _) ?_)
    | (go_at_call 12; rw [HM.out.2.1]; refine (rsameRequest_any w3 ⟨6, q.id, 0, [], 0, 0, 0, 0, 0, 0, 0, 0, 0, 0, q.pr, 0, 0⟩ q none a 0 cap (CB_nil _ _) (HM.out.2.2.below H3.out.1)).mono ?_; rintro e w9 ⟨rfl, hb9⟩; have H9 := Lib.hid (H3.out.1.trans (hb9.mono H3.out.1.size)); clear hb9))
  go_ret
  exact ⟨by rw [HRR.out]; rfl, H9.out⟩
end Go.Proofs.Ytdpfmaikijilkaa
