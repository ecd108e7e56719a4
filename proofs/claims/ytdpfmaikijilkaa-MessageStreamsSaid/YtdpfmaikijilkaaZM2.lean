/-
  The walk of the document's MayRequest: ways, b.
-/
import Derived.Test.YtdpfmaikijilkaaDM
import Derived.Test.YtdpfmaikijilkaaZM1
namespace Go.Proofs.Ytdpfmaikijilkaa
open Go Go.RowKit Go.Sort Go.Proofs

set_option maxHeartbeats 4000000 in
set_option maxRecDepth 100000 in
theorem may_no_seq (w : World) (q : Rq) (a : Option Addr) (cap : Nat) (ha : CB.At w a q.model.length q.model) (h_k0 : 1 ≤ q.kind) (h_k1 : q.kind ≤ 12) (h_ver : in8 q.ver = true) (h_pr : in8 q.pr = true) (h_pt : in8 q.pt = true) (h_ek : in8 q.ek = true) (h_org : q.org = 0) (h_seq : ¬ q.seq = 0) : Calls Try.prog 10 #[.agg (RqC q (.slice a q.model.length cap))] w (TellsB false w) := by
  have H_ver := Lib.hid h_ver
  clear h_ver
  have H_pr := Lib.hid h_pr
  clear h_pr
  have H_pt := Lib.hid h_pt
  clear h_pt
  have H_ek := Lib.hid h_ek
  clear h_ek
  obtain ⟨mv, hmv⟩ : ∃ mv, mv = Value.slice a q.model.length cap := ⟨_, rfl⟩
  obtain ⟨m, hm⟩ : ∃ m, m = q.model.length := ⟨_, rfl⟩
  have HM := Lib.hid (And.intro hm (And.intro hmv ha))
  rw [← hmv]
  rw [← hm] at hmv
  have HMV := Lib.hid hmv
  clear hmv hm ha
  go_enter Try.func10, Try.ntmps10
  go_upto_region 1 with fail
  generalize hw1 : World.alloc _ _ = w1
  have hb1 : Below w.heap.size w w1 := by rw [← hw1]; exact (Below.refl _ _).alloc (Nat.le_refl _) _
  have hx1 : w1.heap[w.heap.size]? = some (.cells (RqC q mv) 32 (0, 0)) := by rw [← hw1]; exact heap_alloc_new _ _
  obtain ⟨d0, d1, d2, d3, d4, d5, d6, d7, d8, d9, d10, d11, d12, d13, d14, d15, d16⟩ := RqC_cells hx1
  have z1 : w.heap.size < w1.heap.size := (Array.getElem?_eq_some_iff.1 hx1).1
  have H1 := Lib.hid (And.intro hb1 hx1)
  rw [HMV.out] at d3
  clear hb1 hx1 hw1
  rw [h_org] at d5
  go_wp2_with (first
    | (go_at_call_of 31 (Value.int IntKind.i64 q.ver); refine (eight_any q.ver w1).mono ?_; rw [H_ver.out]; rintro e w' ⟨rfl, rfl⟩)
    | (go_at_call_of 31 (Value.int IntKind.i64 q.pr); refine (eight_any q.pr w1).mono ?_; rw [H_pr.out]; rintro e w' ⟨rfl, rfl⟩)
    | (go_at_call_of 31 (Value.int IntKind.i64 q.pt); refine (eight_any q.pt w1).mono ?_; rw [H_pt.out]; rintro e w' ⟨rfl, rfl⟩)
    | (go_at_call_of 31 (Value.int IntKind.i64 q.ek); refine (eight_any q.ek w1).mono ?_; rw [H_ek.out]; rintro e w' ⟨rfl, rfl⟩)
    | fail)
  go_ret
  exact ⟨rfl, H1.out.1⟩
set_option maxHeartbeats 4000000 in
set_option maxRecDepth 100000 in
theorem may_no_bp (w : World) (q : Rq) (a : Option Addr) (cap : Nat) (ha : CB.At w a q.model.length q.model) (h_k0 : 1 ≤ q.kind) (h_k1 : q.kind ≤ 12) (h_ver : in8 q.ver = true) (h_pr : in8 q.pr = true) (h_pt : in8 q.pt = true) (h_ek : in8 q.ek = true) (h_org : q.org = 0) (h_seq : q.seq = 0) (h_bp : in8 q.bp = false) : Calls Try.prog 10 #[.agg (RqC q (.slice a q.model.length cap))] w (TellsB false w) := by
  have H_ver := Lib.hid h_ver
  clear h_ver
  have H_pr := Lib.hid h_pr
  clear h_pr
  have H_pt := Lib.hid h_pt
  clear h_pt
  have H_ek := Lib.hid h_ek
  clear h_ek
  have H_bp := Lib.hid h_bp
  clear h_bp
  obtain ⟨mv, hmv⟩ : ∃ mv, mv = Value.slice a q.model.length cap := ⟨_, rfl⟩
  obtain ⟨m, hm⟩ : ∃ m, m = q.model.length := ⟨_, rfl⟩
  have HM := Lib.hid (And.intro hm (And.intro hmv ha))
  rw [← hmv]
  rw [← hm] at hmv
  have HMV := Lib.hid hmv
  clear hmv hm ha
  go_enter Try.func10, Try.ntmps10
  go_upto_region 1 with fail
  generalize hw1 : World.alloc _ _ = w1
  have hb1 : Below w.heap.size w w1 := by rw [← hw1]; exact (Below.refl _ _).alloc (Nat.le_refl _) _
  have hx1 : w1.heap[w.heap.size]? = some (.cells (RqC q mv) 32 (0, 0)) := by rw [← hw1]; exact heap_alloc_new _ _
  obtain ⟨d0, d1, d2, d3, d4, d5, d6, d7, d8, d9, d10, d11, d12, d13, d14, d15, d16⟩ := RqC_cells hx1
  have z1 : w.heap.size < w1.heap.size := (Array.getElem?_eq_some_iff.1 hx1).1
  have H1 := Lib.hid (And.intro hb1 hx1)
  rw [HMV.out] at d3
  clear hb1 hx1 hw1
  rw [h_org] at d5
  rw [h_seq] at d6
  go_wp2_with (first
    | (go_at_call_of 31 (Value.int IntKind.i64 q.ver); refine (eight_any q.ver w1).mono ?_; rw [H_ver.out]; rintro e w' ⟨rfl, rfl⟩)
    | (go_at_call_of 31 (Value.int IntKind.i64 q.pr); refine (eight_any q.pr w1).mono ?_; rw [H_pr.out]; rintro e w' ⟨rfl, rfl⟩)
    | (go_at_call_of 31 (Value.int IntKind.i64 q.pt); refine (eight_any q.pt w1).mono ?_; rw [H_pt.out]; rintro e w' ⟨rfl, rfl⟩)
    | (go_at_call_of 31 (Value.int IntKind.i64 q.ek); refine (eight_any q.ek w1).mono ?_; rw [H_ek.out]; rintro e w' ⟨rfl, rfl⟩)
    | (go_at_call_of 31 (Value.int IntKind.i64 q.bp); refine (eight_any q.bp w1).mono ?_; rw [H_bp.out]; rintro e w' ⟨rfl, rfl⟩)
    | fail)
  go_ret
  exact ⟨rfl, H1.out.1⟩
set_option maxHeartbeats 4000000 in
set_option maxRecDepth 100000 in
theorem may_no_b0 (w : World) (q : Rq) (a : Option Addr) (cap : Nat) (ha : CB.At w a q.model.length q.model) (h_k0 : 1 ≤ q.kind) (h_k1 : q.kind ≤ 12) (h_ver : in8 q.ver = true) (h_pr : in8 q.pr = true) (h_pt : in8 q.pt = true) (h_ek : in8 q.ek = true) (h_org : q.org = 0) (h_seq : q.seq = 0) (h_bp : in8 q.bp = true) (h_b0 : ¬ -1 ≤ q.bk) : Calls Try.prog 10 #[.agg (RqC q (.slice a q.model.length cap))] w (TellsB false w) := by
  have H_ver := Lib.hid h_ver
  clear h_ver
  have H_pr := Lib.hid h_pr
  clear h_pr
  have H_pt := Lib.hid h_pt
  clear h_pt
  have H_ek := Lib.hid h_ek
  clear h_ek
  have H_bp := Lib.hid h_bp
  clear h_bp
  have bb0 : decide (q.bk < -1) = true := decide_eq_true (by omega)
  obtain ⟨mv, hmv⟩ : ∃ mv, mv = Value.slice a q.model.length cap := ⟨_, rfl⟩
  obtain ⟨m, hm⟩ : ∃ m, m = q.model.length := ⟨_, rfl⟩
  have HM := Lib.hid (And.intro hm (And.intro hmv ha))
  rw [← hmv]
  rw [← hm] at hmv
  have HMV := Lib.hid hmv
  clear hmv hm ha
  go_enter Try.func10, Try.ntmps10
  go_upto_region 1 with fail
  generalize hw1 : World.alloc _ _ = w1
  have hb1 : Below w.heap.size w w1 := by rw [← hw1]; exact (Below.refl _ _).alloc (Nat.le_refl _) _
  have hx1 : w1.heap[w.heap.size]? = some (.cells (RqC q mv) 32 (0, 0)) := by rw [← hw1]; exact heap_alloc_new _ _
  obtain ⟨d0, d1, d2, d3, d4, d5, d6, d7, d8, d9, d10, d11, d12, d13, d14, d15, d16⟩ := RqC_cells hx1
  have z1 : w.heap.size < w1.heap.size := (Array.getElem?_eq_some_iff.1 hx1).1
  have H1 := Lib.hid (And.intro hb1 hx1)
  rw [HMV.out] at d3
  clear hb1 hx1 hw1
  rw [h_org] at d5
  rw [h_seq] at d6
  go_wp2_with (first
    | (go_at_call_of 31 (Value.int IntKind.i64 q.ver); refine (eight_any q.ver w1).mono ?_; rw [H_ver.out]; rintro e w' ⟨rfl, rfl⟩)
    | (go_at_call_of 31 (Value.int IntKind.i64 q.pr); refine (eight_any q.pr w1).mono ?_; rw [H_pr.out]; rintro e w' ⟨rfl, rfl⟩)
    | (go_at_call_of 31 (Value.int IntKind.i64 q.pt); refine (eight_any q.pt w1).mono ?_; rw [H_pt.out]; rintro e w' ⟨rfl, rfl⟩)
    | (go_at_call_of 31 (Value.int IntKind.i64 q.ek); refine (eight_any q.ek w1).mono ?_; rw [H_ek.out]; rintro e w' ⟨rfl, rfl⟩)
    | (go_at_call_of 31 (Value.int IntKind.i64 q.bp); refine (eight_any q.bp w1).mono ?_; rw [H_bp.out]; rintro e w' ⟨rfl, rfl⟩)
    | fail)
  go_ret
  exact ⟨rfl, H1.out.1⟩
set_option maxHeartbeats 4000000 in
set_option maxRecDepth 100000 in
theorem may_no_b1 (w : World) (q : Rq) (a : Option Addr) (cap : Nat) (ha : CB.At w a q.model.length q.model) (h_k0 : 1 ≤ q.kind) (h_k1 : q.kind ≤ 12) (h_ver : in8 q.ver = true) (h_pr : in8 q.pr = true) (h_pt : in8 q.pt = true) (h_ek : in8 q.ek = true) (h_org : q.org = 0) (h_seq : q.seq = 0) (h_bp : in8 q.bp = true) (h_b0 : -1 ≤ q.bk) (h_b1 : ¬ q.bk ≤ 254) : Calls Try.prog 10 #[.agg (RqC q (.slice a q.model.length cap))] w (TellsB false w) := by
  have H_ver := Lib.hid h_ver
  clear h_ver
  have H_pr := Lib.hid h_pr
  clear h_pr
  have H_pt := Lib.hid h_pt
  clear h_pt
  have H_ek := Lib.hid h_ek
  clear h_ek
  have H_bp := Lib.hid h_bp
  clear h_bp
  have bb1 : decide (254 < q.bk) = true := decide_eq_true (by omega)
  obtain ⟨mv, hmv⟩ : ∃ mv, mv = Value.slice a q.model.length cap := ⟨_, rfl⟩
  obtain ⟨m, hm⟩ : ∃ m, m = q.model.length := ⟨_, rfl⟩
  have HM := Lib.hid (And.intro hm (And.intro hmv ha))
  rw [← hmv]
  rw [← hm] at hmv
  have HMV := Lib.hid hmv
  clear hmv hm ha
  go_enter Try.func10, Try.ntmps10
  go_upto_region 1 with fail
  generalize hw1 : World.alloc _ _ = w1
  have hb1 : Below w.heap.size w w1 := by rw [← hw1]; exact (Below.refl _ _).alloc (Nat.le_refl _) _
  have hx1 : w1.heap[w.heap.size]? = some (.cells (RqC q mv) 32 (0, 0)) := by rw [← hw1]; exact heap_alloc_new _ _
  obtain ⟨d0, d1, d2, d3, d4, d5, d6, d7, d8, d9, d10, d11, d12, d13, d14, d15, d16⟩ := RqC_cells hx1
  have z1 : w.heap.size < w1.heap.size := (Array.getElem?_eq_some_iff.1 hx1).1
  have H1 := Lib.hid (And.intro hb1 hx1)
  rw [HMV.out] at d3
  clear hb1 hx1 hw1
  rw [h_org] at d5
  rw [h_seq] at d6
  go_wp2_with (first
    | (go_at_call_of 31 (Value.int IntKind.i64 q.ver); refine (eight_any q.ver w1).mono ?_; rw [H_ver.out]; rintro e w' ⟨rfl, rfl⟩)
    | (go_at_call_of 31 (Value.int IntKind.i64 q.pr); refine (eight_any q.pr w1).mono ?_; rw [H_pr.out]; rintro e w' ⟨rfl, rfl⟩)
    | (go_at_call_of 31 (Value.int IntKind.i64 q.pt); refine (eight_any q.pt w1).mono ?_; rw [H_pt.out]; rintro e w' ⟨rfl, rfl⟩)
    | (go_at_call_of 31 (Value.int IntKind.i64 q.ek); refine (eight_any q.ek w1).mono ?_; rw [H_ek.out]; rintro e w' ⟨rfl, rfl⟩)
    | (go_at_call_of 31 (Value.int IntKind.i64 q.bp); refine (eight_any q.bp w1).mono ?_; rw [H_bp.out]; rintro e w' ⟨rfl, rfl⟩)
    | fail)
  go_ret
  exact ⟨rfl, H1.out.1⟩
set_option maxHeartbeats 4000000 in
set_option maxRecDepth 100000 in
theorem may_two_no (w : World) (q : Rq) (a : Option Addr) (cap : Nat) (ha : CB.At w a q.model.length q.model) (L : Lims q) (hk : q.kind = 2) (hl : ¬ (1 ≤ q.model.length ∧ q.model.length ≤ 4091)) : Calls Try.prog 10 #[.agg (RqC q (.slice a q.model.length cap))] w (TellsB false w) := by
  have hk0 := L.k0
  have hk1 := L.k1
  have hb0 := L.b0
  have hb1' := L.b1
  have horg := L.org
  have hseq := L.seq
  obtain ⟨r, hr⟩ : ∃ r, r = false := ⟨_, rfl⟩
  rw [← hr]
  have HRR := Lib.hid hr
  have L := Lib.hid L
  clear hr
  obtain ⟨mv, hmv⟩ : ∃ mv, mv = Value.slice a q.model.length cap := ⟨_, rfl⟩
  obtain ⟨m, hm⟩ : ∃ m, m = q.model.length := ⟨_, rfl⟩
  have HM := Lib.hid (And.intro hm (And.intro hmv ha))
  rw [← hmv]
  rw [← hm] at hmv
  have HMV := Lib.hid hmv
  clear hmv hm ha
  go_enter Try.func10, Try.ntmps10
  go_upto_region 1 with fail
  generalize hw1 : World.alloc _ _ = w1
  have hb1 : Below w.heap.size w w1 := by rw [← hw1]; exact (Below.refl _ _).alloc (Nat.le_refl _) _
  have hx1 : w1.heap[w.heap.size]? = some (.cells (RqC q mv) 32 (0, 0)) := by rw [← hw1]; exact heap_alloc_new _ _
  obtain ⟨d0, d1, d2, d3, d4, d5, d6, d7, d8, d9, d10, d11, d12, d13, d14, d15, d16⟩ := RqC_cells hx1
  have z1 : w.heap.size < w1.heap.size := (Array.getElem?_eq_some_iff.1 hx1).1
  have H1 := Lib.hid (And.intro hb1 hx1)
  rw [HMV.out] at d3
  clear hb1 hx1 hw1
  rw [horg] at d5
  rw [hseq] at d6
  clear horg hseq
  rw [hk] at d0 hk0 hk1
  have hl2 : ¬ (1 ≤ m ∧ m ≤ 4091) := by rw [HM.out.1]; exact hl
  clear hl
  by_cases hl1 : 1 ≤ m
  · have hl3 : ¬ m ≤ 4091 := fun e => hl2 ⟨hl1, e⟩
    clear hl2
    go_wp2_with (first
      | (go_at_call_of 31 (Value.int IntKind.i64 q.ver); refine (eight_any q.ver w1).mono ?_; rw [L.out.ver]; rintro e w' ⟨rfl, rfl⟩)
      | (go_at_call_of 31 (Value.int IntKind.i64 q.pr); refine (eight_any q.pr w1).mono ?_; rw [L.out.pr]; rintro e w' ⟨rfl, rfl⟩)
      | (go_at_call_of 31 (Value.int IntKind.i64 q.pt); refine (eight_any q.pt w1).mono ?_; rw [L.out.pt]; rintro e w' ⟨rfl, rfl⟩)
      | (go_at_call_of 31 (Value.int IntKind.i64 q.ek); refine (eight_any q.ek w1).mono ?_; rw [L.out.ek]; rintro e w' ⟨rfl, rfl⟩)
      | (go_at_call_of 31 (Value.int IntKind.i64 q.bp); refine (eight_any q.bp w1).mono ?_; rw [L.out.bp]; rintro e w' ⟨rfl, rfl⟩)
      | fail)
    go_ret
    exact ⟨by rw [HRR.out]; rfl, H1.out.1⟩
  · clear hl2
    go_wp2_with (first
      | (go_at_call_of 31 (Value.int IntKind.i64 q.ver); refine (eight_any q.ver w1).mono ?_; rw [L.out.ver]; rintro e w' ⟨rfl, rfl⟩)
      | (go_at_call_of 31 (Value.int IntKind.i64 q.pr); refine (eight_any q.pr w1).mono ?_; rw [L.out.pr]; rintro e w' ⟨rfl, rfl⟩)
      | (go_at_call_of 31 (Value.int IntKind.i64 q.pt); refine (eight_any q.pt w1).mono ?_; rw [L.out.pt]; rintro e w' ⟨rfl, rfl⟩)
      | (go_at_call_of 31 (Value.int IntKind.i64 q.ek); refine (eight_any q.ek w1).mono ?_; rw [L.out.ek]; rintro e w' ⟨rfl, rfl⟩)
      | (go_at_call_of 31 (Value.int IntKind.i64 q.bp); refine (eight_any q.bp w1).mono ?_; rw [L.out.bp]; rintro e w' ⟨rfl, rfl⟩)
      | fail)
    go_ret
    exact ⟨by rw [HRR.out]; rfl, H1.out.1⟩
end Go.Proofs.Ytdpfmaikijilkaa
namespace Go.Proofs.Ytdpfmaikijilkaa
open Go Go.RowKit Go.Sort Go.Proofs

set_option maxHeartbeats 4000000 in
set_option maxRecDepth 100000 in
theorem may_k3 (w : World) (q : Rq) (a : Option Addr) (cap : Nat) (ha : CB.At w a q.model.length q.model) (L : Lims q) (hk : q.kind = 3) : Calls Try.prog 10 #[.agg (RqC q (.slice a q.model.length cap))] w (TellsB (sameQ ⟨3, q.id, 0, [], q.time, 0, 0, q.pt, q.ek, q.dat, 0, 0, 0, 0, 0, 0, 0⟩ q) w) := by
  have hk0 := L.k0
  have hk1 := L.k1
  have hb0 := L.b0
  have hb1' := L.b1
  have horg := L.org
  have hseq := L.seq
  have bb0 : decide (q.bk < -1) = false := decide_eq_false (by omega)
  have bb1 : decide (254 < q.bk) = false := decide_eq_false (by omega)
  have bk0 : decide (q.kind < 1) = false := decide_eq_false (by omega)
  have bk1 : decide (12 < q.kind) = false := decide_eq_false (by omega)
  clear hb0 hb1'
  obtain ⟨r, hr⟩ : ∃ r, r = (sameQ ⟨3, q.id, 0, [], q.time, 0, 0, q.pt, q.ek, q.dat, 0, 0, 0, 0, 0, 0, 0⟩ q) := ⟨_, rfl⟩
  rw [← hr]
  have HRR := Lib.hid hr
  have L := Lib.hid L
  clear hr
  obtain ⟨mv, hmv⟩ : ∃ mv, mv = Value.slice a q.model.length cap := ⟨_, rfl⟩
  obtain ⟨m, hm⟩ : ∃ m, m = q.model.length := ⟨_, rfl⟩
  have HM := Lib.hid (And.intro hm (And.intro hmv ha))
  rw [← hmv]
  rw [← hm] at hmv
  have HMV := Lib.hid hmv
  clear hmv hm ha
  go_enter Try.func10, Try.ntmps10
  go_upto_region 1 with fail
  generalize hw1 : World.alloc _ _ = w1
  have hb1 : Below w.heap.size w w1 := by rw [← hw1]; exact (Below.refl _ _).alloc (Nat.le_refl _) _
  have hx1 : w1.heap[w.heap.size]? = some (.cells (RqC q mv) 32 (0, 0)) := by rw [← hw1]; exact heap_alloc_new _ _
  obtain ⟨d0, d1, d2, d3, d4, d5, d6, d7, d8, d9, d10, d11, d12, d13, d14, d15, d16⟩ := RqC_cells hx1
  have z1 : w.heap.size < w1.heap.size := (Array.getElem?_eq_some_iff.1 hx1).1
  have H1 := Lib.hid (And.intro hb1 hx1)
  rw [HMV.out] at d3
  clear hb1 hx1 hw1
  rw [horg] at d5
  rw [hseq] at d6
  clear horg hseq
  clear bk0 bk1 hk0 hk1
  rw [hk] at d0
  go_upto_region 3 with (first
    | (go_at_call_of 31 (Value.int IntKind.i64 q.ver); refine (eight_any q.ver w1).mono ?_; rw [L.out.ver]; rintro e w' ⟨rfl, rfl⟩)
    | (go_at_call_of 31 (Value.int IntKind.i64 q.pr); refine (eight_any q.pr w1).mono ?_; rw [L.out.pr]; rintro e w' ⟨rfl, rfl⟩)
    | (go_at_call_of 31 (Value.int IntKind.i64 q.pt); refine (eight_any q.pt w1).mono ?_; rw [L.out.pt]; rintro e w' ⟨rfl, rfl⟩)
    | (go_at_call_of 31 (Value.int IntKind.i64 q.ek); refine (eight_any q.ek w1).mono ?_; rw [L.out.ek]; rintro e w' ⟨rfl, rfl⟩)
    | (go_at_call_of 31 (Value.int IntKind.i64 q.bp); refine (eight_any q.bp w1).mono ?_; rw [L.out.bp]; rintro e w' ⟨rfl, rfl⟩)
    | fail)
  go_upto_region 5 with fail
  go_upto_region 6 with (first
    | (show wpList _ _ _ (Oper.mk _ (.store _ (.tmp 3) (.tmp 90)) _ _ _ _ :: _) _ _; refine wpList_store_row rfl 32 (.tmp 3) (.tmp 90) rfl w1.heap.size (RqC ⟨3, q.id, 0, [], 0, 0, 0, 0, 0, 0, 0, 0, 0, 0, 0, 0, 0⟩ (.slice none 0 0)) rfl rfl 32 (RqC (zeroQ 0) (.slice none 0 0)) (heap_alloc_new _ _) (infoQ _ _) rfl (RqC_one _ _ _ _) ?_; generalize hw2 : World.setRow _ _ _ = w2; have g1 : Below w1.heap.size w1 w2 := (by rw [← hw2]; exact (grow_row w1 _ _ _).1); have g2 : w2.heap[w1.heap.size]? = some (.cells (RqC ⟨3, q.id, 0, [], 0, 0, 0, 0, 0, 0, 0, 0, 0, 0, 0, 0, 0⟩ (.slice none 0 0)) 32 (0, 0)) := (by rw [← hw2]; exact (grow_row w1 _ _ _).2); obtain ⟨u0, u1, u2, u3, u4, u5, u6, u7, u8, u9, u10, u11, u12, u13, u14, u15, u16⟩ := RqC_cells g2; have fz : ∀ o, w2.frozen? ⟨w1.heap.size, o, none⟩ = false := (fun o => frozen_of_row _ _ _ _ _ g2); have G2 := Lib.hid (And.intro (H1.out.1.trans (g1.mono H1.out.1.size)) (And.intro g2 ((g1.block _ z1).trans H1.out.2))); replace d2 := cell_below d2 g1; replace d3 := cell_below d3 g1; replace d4 := cell_below d4 g1; replace d5 := cell_below d5 g1; replace d6 := cell_below d6 g1; replace d7 := cell_below d7 g1; replace d8 := cell_below d8 g1; replace d9 := cell_below d9 g1; replace d10 := cell_below d10 g1; replace d11 := cell_below d11 g1; replace d12 := cell_below d12 g1; replace d13 := cell_below d13 g1; replace d14 := cell_below d14 g1; replace d15 := cell_below d15 g1; replace d16 := cell_below d16 g1; replace d0 := cell_below d0 g1; replace d1 := cell_below d1 g1; clear hw2 g1 g2)
    | fail)
  go_upto_region 23 with fail
  have hn : w.heap.size ≠ w1.heap.size := by omega
  obtain ⟨w3, hw3⟩ : ∃ w3, w3 = ((((((w2.setCell ⟨w1.heap.size, 4, none⟩ (.int .i64 q.time)).setCell ⟨w1.heap.size, 5, none⟩ (.int .i64 0)).setCell ⟨w1.heap.size, 6, none⟩ (.int .i64 0)).setCell ⟨w1.heap.size, 7, none⟩ (.int .i64 q.pt)).setCell ⟨w1.heap.size, 8, none⟩ (.int .i64 q.ek)).setCell ⟨w1.heap.size, 9, none⟩ (.int .i64 q.dat)) := ⟨_, rfl⟩
  have s3 : w3.heap[w1.heap.size]? = some (.cells (RqC ⟨3, q.id, 0, [], q.time, 0, 0, q.pt, q.ek, q.dat, 0, 0, 0, 0, 0, 0, 0⟩ (.slice none 0 0)) 32 (0, 0)) := by rw [hw3]; exact (heap_setCell_same _ _ _ _ _ _ (heap_setCell_same _ _ _ _ _ _ (heap_setCell_same _ _ _ _ _ _ (heap_setCell_same _ _ _ _ _ _ (heap_setCell_same _ _ _ _ _ _ (heap_setCell_same _ _ _ _ _ _ G2.out.2.1))))))
  have b3 : But (fun x => x = w1.heap.size) w2 w3 := by rw [hw3]; exact (((((((But.refl (fun x => x = w1.heap.size) w2).setCell (p := ⟨w1.heap.size, 4, none⟩) rfl _).setCell (p := ⟨w1.heap.size, 5, none⟩) rfl _).setCell (p := ⟨w1.heap.size, 6, none⟩) rfl _).setCell (p := ⟨w1.heap.size, 7, none⟩) rfl _).setCell (p := ⟨w1.heap.size, 8, none⟩) rfl _).setCell (p := ⟨w1.heap.size, 9, none⟩) rfl _)
  have H3 : Hid (Below w.heap.size w w3 ∧ w3.heap[w.heap.size]? = some (.cells (RqC q mv) 32 (0, 0)) ∧ w3.heap[w1.heap.size]? = some (.cells (RqC ⟨3, q.id, 0, [], q.time, 0, 0, q.pt, q.ek, q.dat, 0, 0, 0, 0, 0, 0, 0⟩ (.slice none 0 0)) 32 (0, 0))) := ⟨G2.out.1.trans (b3.below G2.out.1.size fun x e => by omega), (b3.block _ (Array.getElem?_eq_some_iff.1 G2.out.2.2).1 hn).trans G2.out.2.2, s3⟩
  rw [← hw3]
  clear hw3 s3 b3 hn fz u0 u1 u2 u3 u4 u5 u6 u7 u8 u9 u10 u11 u12 u13 u14 u15 u16 d0 d1 d2 d3 d4 d5 d6 d7 d8 d9 d10 d11 d12 d13 d14 d15 d16
  go_wp2_with (first
    | (show wpList _ _ _ (Oper.mk _ (.load _ (.tmp 3)) _ _ _ _ :: _) _ _; refine wpList_load_row rfl 32 (.tmp 3) rfl w1.heap.size rfl 32 (RqC ⟨3, q.id, 0, [], q.time, 0, 0, q.pt, q.ek, q.dat, 0, 0, 0, 0, 0, 0, 0⟩ (.slice none 0 0)) (0, 0) _ H3.out.2.2 Try.underlying32 rfl (infoQ _ _) ?_)
    | (show wpList _ _ _ (Oper.mk _ (.load _ (.tmp 1)) _ _ _ _ :: _) _ _; refine wpList_load_row rfl 32 (.tmp 1) rfl w.heap.size rfl 32 (RqC q mv) (0, 0) _ H3.out.2.1 Try.underlying32 rfl (infoQ _ _) ?_)
    | (go_at_call 12; rw [HM.out.2.1]; refine (rsameRequest_any w3 ⟨3, q.id, 0, [], q.time, 0, 0, q.pt, q.ek, q.dat, 0, 0, 0, 0, 0, 0, 0⟩ q none a 0 cap (CB_nil _ _) (HM.out.2.2.below H3.out.1)).mono ?_; rintro e w9 ⟨rfl, hb9⟩; have H9 := Lib.hid (H3.out.1.trans (hb9.mono H3.out.1.size)); clear hb9))
  go_ret
  exact ⟨by rw [HRR.out]; rfl, H9.out⟩
set_option maxHeartbeats 4000000 in
set_option maxRecDepth 100000 in
theorem may_k4 (w : World) (q : Rq) (a : Option Addr) (cap : Nat) (ha : CB.At w a q.model.length q.model) (L : Lims q) (hk : q.kind = 4) : Calls Try.prog 10 #[.agg (RqC q (.slice a q.model.length cap))] w (TellsB (sameQ ⟨4, q.id, 0, [], 0, 0, 0, 0, 0, 0, q.num, q.bp, q.bk, q.bt, 0, 0, 0⟩ q) w) := by
  have hk0 := L.k0
  have hk1 := L.k1
  have hb0 := L.b0
  have hb1' := L.b1
  have horg := L.org
  have hseq := L.seq
  have bb0 : decide (q.bk < -1) = false := decide_eq_false (by omega)
  have bb1 : decide (254 < q.bk) = false := decide_eq_false (by omega)
  have bk0 : decide (q.kind < 1) = false := decide_eq_false (by omega)
  have bk1 : decide (12 < q.kind) = false := decide_eq_false (by omega)
  clear hb0 hb1'
  obtain ⟨r, hr⟩ : ∃ r, r = (sameQ ⟨4, q.id, 0, [], 0, 0, 0, 0, 0, 0, q.num, q.bp, q.bk, q.bt, 0, 0, 0⟩ q) := ⟨_, rfl⟩
  rw [← hr]
  have HRR := Lib.hid hr
  have L := Lib.hid L
  clear hr
  obtain ⟨mv, hmv⟩ : ∃ mv, mv = Value.slice a q.model.length cap := ⟨_, rfl⟩
  obtain ⟨m, hm⟩ : ∃ m, m = q.model.length := ⟨_, rfl⟩
  have HM := Lib.hid (And.intro hm (And.intro hmv ha))
  rw [← hmv]
  rw [← hm] at hmv
  have HMV := Lib.hid hmv
  clear hmv hm ha
  go_enter Try.func10, Try.ntmps10
  go_upto_region 1 with fail
  generalize hw1 : World.alloc _ _ = w1
  have hb1 : Below w.heap.size w w1 := by rw [← hw1]; exact (Below.refl _ _).alloc (Nat.le_refl _) _
  have hx1 : w1.heap[w.heap.size]? = some (.cells (RqC q mv) 32 (0, 0)) := by rw [← hw1]; exact heap_alloc_new _ _
  obtain ⟨d0, d1, d2, d3, d4, d5, d6, d7, d8, d9, d10, d11, d12, d13, d14, d15, d16⟩ := RqC_cells hx1
  have z1 : w.heap.size < w1.heap.size := (Array.getElem?_eq_some_iff.1 hx1).1
  have H1 := Lib.hid (And.intro hb1 hx1)
  rw [HMV.out] at d3
  clear hb1 hx1 hw1
  rw [horg] at d5
  rw [hseq] at d6
  clear horg hseq
  clear bk0 bk1 hk0 hk1
  rw [hk] at d0
  go_upto_region 3 with (first
    | (go_at_call_of 31 (Value.int IntKind.i64 q.ver); refine (eight_any q.ver w1).mono ?_; rw [L.out.ver]; rintro e w' ⟨rfl, rfl⟩)
    | (go_at_call_of 31 (Value.int IntKind.i64 q.pr); refine (eight_any q.pr w1).mono ?_; rw [L.out.pr]; rintro e w' ⟨rfl, rfl⟩)
    | (go_at_call_of 31 (Value.int IntKind.i64 q.pt); refine (eight_any q.pt w1).mono ?_; rw [L.out.pt]; rintro e w' ⟨rfl, rfl⟩)
    | (go_at_call_of 31 (Value.int IntKind.i64 q.ek); refine (eight_any q.ek w1).mono ?_; rw [L.out.ek]; rintro e w' ⟨rfl, rfl⟩)
    | (go_at_call_of 31 (Value.int IntKind.i64 q.bp); refine (eight_any q.bp w1).mono ?_; rw [L.out.bp]; rintro e w' ⟨rfl, rfl⟩)
    | fail)
  go_upto_region 5 with fail
  go_upto_region 6 with (first
    | (show wpList _ _ _ (Oper.mk _ (.store _ (.tmp 3) (.tmp 90)) _ _ _ _ :: _) _ _; refine wpList_store_row rfl 32 (.tmp 3) (.tmp 90) rfl w1.heap.size (RqC ⟨4, q.id, 0, [], 0, 0, 0, 0, 0, 0, 0, 0, 0, 0, 0, 0, 0⟩ (.slice none 0 0)) rfl rfl 32 (RqC (zeroQ 0) (.slice none 0 0)) (heap_alloc_new _ _) (infoQ _ _) rfl (RqC_one _ _ _ _) ?_; generalize hw2 : World.setRow _ _ _ = w2; have g1 : Below w1.heap.size w1 w2 := (by rw [← hw2]; exact (grow_row w1 _ _ _).1); have g2 : w2.heap[w1.heap.size]? = some (.cells (RqC ⟨4, q.id, 0, [], 0, 0, 0, 0, 0, 0, 0, 0, 0, 0, 0, 0, 0⟩ (.slice none 0 0)) 32 (0, 0)) := (by rw [← hw2]; exact (grow_row w1 _ _ _).2); obtain ⟨u0, u1, u2, u3, u4, u5, u6, u7, u8, u9, u10, u11, u12, u13, u14, u15, u16⟩ := RqC_cells g2; have fz : ∀ o, w2.frozen? ⟨w1.heap.size, o, none⟩ = false := (fun o => frozen_of_row _ _ _ _ _ g2); have G2 := Lib.hid (And.intro (H1.out.1.trans (g1.mono H1.out.1.size)) (And.intro g2 ((g1.block _ z1).trans H1.out.2))); replace d2 := cell_below d2 g1; replace d3 := cell_below d3 g1; replace d4 := cell_below d4 g1; replace d5 := cell_below d5 g1; replace d6 := cell_below d6 g1; replace d7 := cell_below d7 g1; replace d8 := cell_below d8 g1; replace d9 := cell_below d9 g1; replace d10 := cell_below d10 g1; replace d11 := cell_below d11 g1; replace d12 := cell_below d12 g1; replace d13 := cell_below d13 g1; replace d14 := cell_below d14 g1; replace d15 := cell_below d15 g1; replace d16 := cell_below d16 g1; replace d0 := cell_below d0 g1; replace d1 := cell_below d1 g1; clear hw2 g1 g2)
    | fail)
  go_upto_region 23 with fail
  have hn : w.heap.size ≠ w1.heap.size := by omega
  obtain ⟨w3, hw3⟩ : ∃ w3, w3 = ((((w2.setCell ⟨w1.heap.size, 10, none⟩ (.int .u32 q.num)).setCell ⟨w1.heap.size, 11, none⟩ (.int .i64 q.bp)).setCell ⟨w1.heap.size, 12, none⟩ (.int .i64 q.bk)).setCell ⟨w1.heap.size, 13, none⟩ (.int .i64 q.bt)) := ⟨_, rfl⟩
  have s3 : w3.heap[w1.heap.size]? = some (.cells (RqC ⟨4, q.id, 0, [], 0, 0, 0, 0, 0, 0, q.num, q.bp, q.bk, q.bt, 0, 0, 0⟩ (.slice none 0 0)) 32 (0, 0)) := by rw [hw3]; exact (heap_setCell_same _ _ _ _ _ _ (heap_setCell_same _ _ _ _ _ _ (heap_setCell_same _ _ _ _ _ _ (heap_setCell_same _ _ _ _ _ _ G2.out.2.1))))
  have b3 : But (fun x => x = w1.heap.size) w2 w3 := by rw [hw3]; exact (((((But.refl (fun x => x = w1.heap.size) w2).setCell (p := ⟨w1.heap.size, 10, none⟩) rfl _).setCell (p := ⟨w1.heap.size, 11, none⟩) rfl _).setCell (p := ⟨w1.heap.size, 12, none⟩) rfl _).setCell (p := ⟨w1.heap.size, 13, none⟩) rfl _)
  have H3 : Hid (Below w.heap.size w w3 ∧ w3.heap[w.heap.size]? = some (.cells (RqC q mv) 32 (0, 0)) ∧ w3.heap[w1.heap.size]? = some (.cells (RqC ⟨4, q.id, 0, [], 0, 0, 0, 0, 0, 0, q.num, q.bp, q.bk, q.bt, 0, 0, 0⟩ (.slice none 0 0)) 32 (0, 0))) := ⟨G2.out.1.trans (b3.below G2.out.1.size fun x e => by omega), (b3.block _ (Array.getElem?_eq_some_iff.1 G2.out.2.2).1 hn).trans G2.out.2.2, s3⟩
  rw [← hw3]
  clear hw3 s3 b3 hn fz u0 u1 u2 u3 u4 u5 u6 u7 u8 u9 u10 u11 u12 u13 u14 u15 u16 d0 d1 d2 d3 d4 d5 d6 d7 d8 d9 d10 d11 d12 d13 d14 d15 d16
  go_wp2_with (first
    | (show wpList _ _ _ (Oper.mk _ (.load _ (.tmp 3)) _ _ _ _ :: _) _ _; refine wpList_load_row rfl 32 (.tmp 3) rfl w1.heap.size rfl 32 (RqC ⟨4, q.id, 0, [], 0, 0, 0, 0, 0, 0, q.num, q.bp, q.bk, q.bt, 0, 0, 0⟩ (.slice none 0 0)) (0, 0) _ H3.out.2.2 Try.underlying32 rfl (infoQ _ _) ?_)
    | (show wpList _ _ _ (Oper.mk _ (.load _ (.tmp 1)) _ _ _ _ :: _) _ _; refine wpList_load_row rfl 32 (.tmp 1) rfl w.heap.size rfl 32 (RqC q mv) (0, 0) _ H3.out.2.1 Try.underlying32 rfl (infoQ _ _) ?_)
    | (go_at_call 12; rw [HM.out.2.1]; refine (rsameRequest_any w3 ⟨4, q.id, 0, [], 0, 0, 0, 0, 0, 0, q.num, q.bp, q.bk, q.bt, 0, 0, 0⟩ q none a 0 cap (CB_nil _ _) (HM.out.2.2.below H3.out.1)).mono ?_; rintro e w9 ⟨rfl, hb9⟩; have H9 := Lib.hid (H3.out.1.trans (hb9.mono H3.out.1.size)); clear hb9))
  go_ret
  exact ⟨by rw [HRR.out]; rfl, H9.out⟩
end Go.Proofs.Ytdpfmaikijilkaa
namespace Go.Proofs.Ytdpfmaikijilkaa
open Go Go.RowKit Go.Sort Go.Proofs

set_option maxHeartbeats 4000000 in
set_option maxRecDepth 100000 in
theorem may_k10 (w : World) (q : Rq) (a : Option Addr) (cap : Nat) (ha : CB.At w a q.model.length q.model) (L : Lims q) (hk : q.kind = 10) : Calls Try.prog 10 #[.agg (RqC q (.slice a q.model.length cap))] w (TellsB (sameQ ⟨10, q.id, 0, [], 0, 0, 0, 0, 0, 0, 0, 0, 0, 0, 0, q.nm, q.dn⟩ q) w) := by
  have hk0 := L.k0
  have hk1 := L.k1
  have hb0 := L.b0
  have hb1' := L.b1
  have horg := L.org
  have hseq := L.seq
  have bb0 : decide (q.bk < -1) = false := decide_eq_false (by omega)
  have bb1 : decide (254 < q.bk) = false := decide_eq_false (by omega)
  have bk0 : decide (q.kind < 1) = false := decide_eq_false (by omega)
  have bk1 : decide (12 < q.kind) = false := decide_eq_false (by omega)
  clear hb0 hb1'
  obtain ⟨r, hr⟩ : ∃ r, r = (sameQ ⟨10, q.id, 0, [], 0, 0, 0, 0, 0, 0, 0, 0, 0, 0, 0, q.nm, q.dn⟩ q) := ⟨_, rfl⟩
  rw [← hr]
  have HRR := Lib.hid hr
  have L := Lib.hid L
  clear hr
  obtain ⟨mv, hmv⟩ : ∃ mv, mv = Value.slice a q.model.length cap := ⟨_, rfl⟩
  obtain ⟨m, hm⟩ : ∃ m, m = q.model.length := ⟨_, rfl⟩
  have HM := Lib.hid (And.intro hm (And.intro hmv ha))
  rw [← hmv]
  rw [← hm] at hmv
  have HMV := Lib.hid hmv
  clear hmv hm ha
  go_enter Try.func10, Try.ntmps10
  go_upto_region 1 with fail
  generalize hw1 : World.alloc _ _ = w1
  have hb1 : Below w.heap.size w w1 := by rw [← hw1]; exact (Below.refl _ _).alloc (Nat.le_refl _) _
  have hx1 : w1.heap[w.heap.size]? = some (.cells (RqC q mv) 32 (0, 0)) := by rw [← hw1]; exact heap_alloc_new _ _
  obtain ⟨d0, d1, d2, d3, d4, d5, d6, d7, d8, d9, d10, d11, d12, d13, d14, d15, d16⟩ := RqC_cells hx1
  have z1 : w.heap.size < w1.heap.size := (Array.getElem?_eq_some_iff.1 hx1).1
  have H1 := Lib.hid (And.intro hb1 hx1)
  rw [HMV.out] at d3
  clear hb1 hx1 hw1
  rw [horg] at d5
  rw [hseq] at d6
  clear horg hseq
  clear bk0 bk1 hk0 hk1
  rw [hk] at d0
  go_upto_region 3 with (first
    | (go_at_call_of 31 (Value.int IntKind.i64 q.ver); refine (eight_any q.ver w1).mono ?_; rw [L.out.ver]; rintro e w' ⟨rfl, rfl⟩)
    | (go_at_call_of 31 (Value.int IntKind.i64 q.pr); refine (eight_any q.pr w1).mono ?_; rw [L.out.pr]; rintro e w' ⟨rfl, rfl⟩)
    | (go_at_call_of 31 (Value.int IntKind.i64 q.pt); refine (eight_any q.pt w1).mono ?_; rw [L.out.pt]; rintro e w' ⟨rfl, rfl⟩)
    | (go_at_call_of 31 (Value.int IntKind.i64 q.ek); refine (eight_any q.ek w1).mono ?_; rw [L.out.ek]; rintro e w' ⟨rfl, rfl⟩)
    | (go_at_call_of 31 (Value.int IntKind.i64 q.bp); refine (eight_any q.bp w1).mono ?_; rw [L.out.bp]; rintro e w' ⟨rfl, rfl⟩)
    | fail)
  go_upto_region 5 with fail
  go_upto_region 6 with (first
    | (show wpList _ _ _ (Oper.mk _ (.store _ (.tmp 3) (.tmp 90)) _ _ _ _ :: _) _ _; refine wpList_store_row rfl 32 (.tmp 3) (.tmp 90) rfl w1.heap.size (RqC ⟨10, q.id, 0, [], 0, 0, 0, 0, 0, 0, 0, 0, 0, 0, 0, 0, 0⟩ (.slice none 0 0)) rfl rfl 32 (RqC (zeroQ 0) (.slice none 0 0)) (heap_alloc_new _ _) (infoQ _ _) rfl (RqC_one _ _ _ _) ?_; generalize hw2 : World.setRow _ _ _ = w2; have g1 : Below w1.heap.size w1 w2 := (by rw [← hw2]; exact (grow_row w1 _ _ _).1); have g2 : w2.heap[w1.heap.size]? = some (.cells (RqC ⟨10, q.id, 0, [], 0, 0, 0, 0, 0, 0, 0, 0, 0, 0, 0, 0, 0⟩ (.slice none 0 0)) 32 (0, 0)) := (by rw [← hw2]; exact (grow_row w1 _ _ _).2); obtain ⟨u0, u1, u2, u3, u4, u5, u6, u7, u8, u9, u10, u11, u12, u13, u14, u15, u16⟩ := RqC_cells g2; have fz : ∀ o, w2.frozen? ⟨w1.heap.size, o, none⟩ = false := (fun o => frozen_of_row _ _ _ _ _ g2); have G2 := Lib.hid (And.intro (H1.out.1.trans (g1.mono H1.out.1.size)) (And.intro g2 ((g1.block _ z1).trans H1.out.2))); replace d2 := cell_below d2 g1; replace d3 := cell_below d3 g1; replace d4 := cell_below d4 g1; replace d5 := cell_below d5 g1; replace d6 := cell_below d6 g1; replace d7 := cell_below d7 g1; replace d8 := cell_below d8 g1; replace d9 := cell_below d9 g1; replace d10 := cell_below d10 g1; replace d11 := cell_below d11 g1; replace d12 := cell_below d12 g1; replace d13 := cell_below d13 g1; replace d14 := cell_below d14 g1; replace d15 := cell_below d15 g1; replace d16 := cell_below d16 g1; replace d0 := cell_below d0 g1; replace d1 := cell_below d1 g1; clear hw2 g1 g2)
    | fail)
  go_upto_region 23 with fail
  have hn : w.heap.size ≠ w1.heap.size := by omega
  obtain ⟨w3, hw3⟩ : ∃ w3, w3 = ((w2.setCell ⟨w1.heap.size, 15, none⟩ (.int .i64 q.nm)).setCell ⟨w1.heap.size, 16, none⟩ (.int .i64 q.dn)) := ⟨_, rfl⟩
  have s3 : w3.heap[w1.heap.size]? = some (.cells (RqC ⟨10, q.id, 0, [], 0, 0, 0, 0, 0, 0, 0, 0, 0, 0, 0, q.nm, q.dn⟩ (.slice none 0 0)) 32 (0, 0)) := by rw [hw3]; exact (heap_setCell_same _ _ _ _ _ _ (heap_setCell_same _ _ _ _ _ _ G2.out.2.1))
  have b3 : But (fun x => x = w1.heap.size) w2 w3 := by rw [hw3]; exact (((But.refl (fun x => x = w1.heap.size) w2).setCell (p := ⟨w1.heap.size, 15, none⟩) rfl _).setCell (p := ⟨w1.heap.size, 16, none⟩) rfl _)
  have H3 : Hid (Below w.heap.size w w3 ∧ w3.heap[w.heap.size]? = some (.cells (RqC q mv) 32 (0, 0)) ∧ w3.heap[w1.heap.size]? = some (.cells (RqC ⟨10, q.id, 0, [], 0, 0, 0, 0, 0, 0, 0, 0, 0, 0, 0, q.nm, q.dn⟩ (.slice none 0 0)) 32 (0, 0))) := ⟨G2.out.1.trans (b3.below G2.out.1.size fun x e => by omega), (b3.block _ (Array.getElem?_eq_some_iff.1 G2.out.2.2).1 hn).trans G2.out.2.2, s3⟩
  rw [← hw3]
  clear hw3 s3 b3 hn fz u0 u1 u2 u3 u4 u5 u6 u7 u8 u9 u10 u11 u12 u13 u14 u15 u16 d0 d1 d2 d3 d4 d5 d6 d7 d8 d9 d10 d11 d12 d13 d14 d15 d16
  go_wp2_with (first
    | (show wpList _ _ _ (Oper.mk _ (.load _ (.tmp 3)) _ _ _ _ :: _) _ _; refine wpList_load_row rfl 32 (.tmp 3) rfl w1.heap.size rfl 32 (RqC ⟨10, q.id, 0, [], 0, 0, 0, 0, 0, 0, 0, 0, 0, 0, 0, q.nm, q.dn⟩ (.slice none 0 0)) (0, 0) _ H3.out.2.2 Try.underlying32 rfl (infoQ _ _) ?_)
    | (show wpList _ _ _ (Oper.mk _ (.load _ (.tmp 1)) _ _ _ _ :: _) _ _; refine wpList_load_row rfl 32 (.tmp 1) rfl w.heap.size rfl 32 (RqC q mv) (0, 0) _ H3.out.2.1 Try.underlying32 rfl (infoQ _ _) ?_)
    | (go_at_call 12; rw [HM.out.2.1]; refine (rsameRequest_any w3 ⟨10, q.id, 0, [], 0, 0, 0, 0, 0, 0, 0, 0, 0, 0, 0, q.nm, q.dn⟩ q none a 0 cap (CB_nil _ _) (HM.out.2.2.below H3.out.1)).mono ?_; rintro e w9 ⟨rfl, hb9⟩; have H9 := Lib.hid (H3.out.1.trans (hb9.mono H3.out.1.size)); clear hb9))
  go_ret
  exact ⟨by rw [HRR.out]; rfl, H9.out⟩
set_option maxHeartbeats 4000000 in
set_option maxRecDepth 100000 in
theorem may_k0 (w : World) (q : Rq) (a : Option Addr) (cap : Nat) (ha : CB.At w a q.model.length q.model) (L : Lims q) (hk : q.kind ≠ 1 ∧ q.kind ≠ 2 ∧ q.kind ≠ 3 ∧ q.kind ≠ 4 ∧ q.kind ≠ 5 ∧ q.kind ≠ 6 ∧ q.kind ≠ 10) : Calls Try.prog 10 #[.agg (RqC q (.slice a q.model.length cap))] w (TellsB (sameQ ⟨q.kind, q.id, 0, [], 0, 0, 0, 0, 0, 0, 0, 0, 0, 0, 0, 0, 0⟩ q) w) := by
  have hk0 := L.k0
  have hk1 := L.k1
  have hb0 := L.b0
  have hb1' := L.b1
  have horg := L.org
  have hseq := L.seq
  have bb0 : decide (q.bk < -1) = false := decide_eq_false (by omega)
  have bb1 : decide (254 < q.bk) = false := decide_eq_false (by omega)
  have bk0 : decide (q.kind < 1) = false := decide_eq_false (by omega)
  have bk1 : decide (12 < q.kind) = false := decide_eq_false (by omega)
  clear hb0 hb1'
  obtain ⟨r, hr⟩ : ∃ r, r = (sameQ ⟨q.kind, q.id, 0, [], 0, 0, 0, 0, 0, 0, 0, 0, 0, 0, 0, 0, 0⟩ q) := ⟨_, rfl⟩
  rw [← hr]
  have HRR := Lib.hid hr
  have L := Lib.hid L
  clear hr
  obtain ⟨mv, hmv⟩ : ∃ mv, mv = Value.slice a q.model.length cap := ⟨_, rfl⟩
  obtain ⟨m, hm⟩ : ∃ m, m = q.model.length := ⟨_, rfl⟩
  have HM := Lib.hid (And.intro hm (And.intro hmv ha))
  rw [← hmv]
  rw [← hm] at hmv
  have HMV := Lib.hid hmv
  clear hmv hm ha
  go_enter Try.func10, Try.ntmps10
  go_upto_region 1 with fail
  generalize hw1 : World.alloc _ _ = w1
  have hb1 : Below w.heap.size w w1 := by rw [← hw1]; exact (Below.refl _ _).alloc (Nat.le_refl _) _
  have hx1 : w1.heap[w.heap.size]? = some (.cells (RqC q mv) 32 (0, 0)) := by rw [← hw1]; exact heap_alloc_new _ _
  obtain ⟨d0, d1, d2, d3, d4, d5, d6, d7, d8, d9, d10, d11, d12, d13, d14, d15, d16⟩ := RqC_cells hx1
  have z1 : w.heap.size < w1.heap.size := (Array.getElem?_eq_some_iff.1 hx1).1
  have H1 := Lib.hid (And.intro hb1 hx1)
  rw [HMV.out] at d3
  clear hb1 hx1 hw1
  rw [horg] at d5
  rw [hseq] at d6
  clear horg hseq
  obtain ⟨n1, n2, n3, n4, n5, n6, n7⟩ := hk
  go_upto_region 3 with (first
    | (go_at_call_of 31 (Value.int IntKind.i64 q.ver); refine (eight_any q.ver w1).mono ?_; rw [L.out.ver]; rintro e w' ⟨rfl, rfl⟩)
    | (go_at_call_of 31 (Value.int IntKind.i64 q.pr); refine (eight_any q.pr w1).mono ?_; rw [L.out.pr]; rintro e w' ⟨rfl, rfl⟩)
    | (go_at_call_of 31 (Value.int IntKind.i64 q.pt); refine (eight_any q.pt w1).mono ?_; rw [L.out.pt]; rintro e w' ⟨rfl, rfl⟩)
    | (go_at_call_of 31 (Value.int IntKind.i64 q.ek); refine (eight_any q.ek w1).mono ?_; rw [L.out.ek]; rintro e w' ⟨rfl, rfl⟩)
    | (go_at_call_of 31 (Value.int IntKind.i64 q.bp); refine (eight_any q.bp w1).mono ?_; rw [L.out.bp]; rintro e w' ⟨rfl, rfl⟩)
    | fail)
  go_upto_region 5 with fail
  go_upto_region 6 with (first
    | (show wpList _ _ _ (Oper.mk _ (.store _ (.tmp 3) (.tmp 90)) _ _ _ _ :: _) _ _; refine wpList_store_row rfl 32 (.tmp 3) (.tmp 90) rfl w1.heap.size (RqC ⟨q.kind, q.id, 0, [], 0, 0, 0, 0, 0, 0, 0, 0, 0, 0, 0, 0, 0⟩ (.slice none 0 0)) rfl rfl 32 (RqC (zeroQ 0) (.slice none 0 0)) (heap_alloc_new _ _) (infoQ _ _) rfl (RqC_one _ _ _ _) ?_; generalize hw2 : World.setRow _ _ _ = w2; have g1 : Below w1.heap.size w1 w2 := (by rw [← hw2]; exact (grow_row w1 _ _ _).1); have g2 : w2.heap[w1.heap.size]? = some (.cells (RqC ⟨q.kind, q.id, 0, [], 0, 0, 0, 0, 0, 0, 0, 0, 0, 0, 0, 0, 0⟩ (.slice none 0 0)) 32 (0, 0)) := (by rw [← hw2]; exact (grow_row w1 _ _ _).2); obtain ⟨u0, u1, u2, u3, u4, u5, u6, u7, u8, u9, u10, u11, u12, u13, u14, u15, u16⟩ := RqC_cells g2; have fz : ∀ o, w2.frozen? ⟨w1.heap.size, o, none⟩ = false := (fun o => frozen_of_row _ _ _ _ _ g2); have G2 := Lib.hid (And.intro (H1.out.1.trans (g1.mono H1.out.1.size)) (And.intro g2 ((g1.block _ z1).trans H1.out.2))); replace d2 := cell_below d2 g1; replace d3 := cell_below d3 g1; replace d4 := cell_below d4 g1; replace d5 := cell_below d5 g1; replace d6 := cell_below d6 g1; replace d7 := cell_below d7 g1; replace d8 := cell_below d8 g1; replace d9 := cell_below d9 g1; replace d10 := cell_below d10 g1; replace d11 := cell_below d11 g1; replace d12 := cell_below d12 g1; replace d13 := cell_below d13 g1; replace d14 := cell_below d14 g1; replace d15 := cell_below d15 g1; replace d16 := cell_below d16 g1; replace d0 := cell_below d0 g1; replace d1 := cell_below d1 g1; clear hw2 g1 g2)
    | fail)
  go_upto_region 23 with fail
  have hn : w.heap.size ≠ w1.heap.size := by omega
  obtain ⟨w3, hw3⟩ : ∃ w3, w3 = w2 := ⟨_, rfl⟩
  have s3 : w3.heap[w1.heap.size]? = some (.cells (RqC ⟨q.kind, q.id, 0, [], 0, 0, 0, 0, 0, 0, 0, 0, 0, 0, 0, 0, 0⟩ (.slice none 0 0)) 32 (0, 0)) := by rw [hw3]; exact G2.out.2.1
  have b3 : But (fun x => x = w1.heap.size) w2 w3 := by rw [hw3]; exact (But.refl (fun x => x = w1.heap.size) w2)
  have H3 : Hid (Below w.heap.size w w3 ∧ w3.heap[w.heap.size]? = some (.cells (RqC q mv) 32 (0, 0)) ∧ w3.heap[w1.heap.size]? = some (.cells (RqC ⟨q.kind, q.id, 0, [], 0, 0, 0, 0, 0, 0, 0, 0, 0, 0, 0, 0, 0⟩ (.slice none 0 0)) 32 (0, 0))) := ⟨G2.out.1.trans (b3.below G2.out.1.size fun x e => by omega), (b3.block _ (Array.getElem?_eq_some_iff.1 G2.out.2.2).1 hn).trans G2.out.2.2, s3⟩
  subst hw3
  clear s3 b3 hn fz u0 u1 u2 u3 u4 u5 u6 u7 u8 u9 u10 u11 u12 u13 u14 u15 u16 d0 d1 d2 d3 d4 d5 d6 d7 d8 d9 d10 d11 d12 d13 d14 d15 d16
  go_wp2_with (first
    | (show wpList _ _ _ (Oper.mk _ (.load _ (.tmp 3)) _ _ _ _ :: _) _ _; refine wpList_load_row rfl 32 (.tmp 3) rfl w1.heap.size rfl 32 (RqC ⟨q.kind, q.id, 0, [], 0, 0, 0, 0, 0, 0, 0, 0, 0, 0, 0, 0, 0⟩ (.slice none 0 0)) (0, 0) _ H3.out.2.2 Try.underlying32 rfl (infoQ _ _) ?_)
    | (show wpList _ _ _ (Oper.mk _ (.load _ (.tmp 1)) _ _ _ _ :: _) _ _; refine wpList_load_row rfl 32 (.tmp 1) rfl w.heap.size rfl 32 (RqC q mv) (0, 0) _ H3.out.2.1 Try.underlying32 rfl (infoQ _ _) ?_)
    | (go_at_call 12; rw [HM.out.2.1]; refine (rsameRequest_any w3 ⟨q.kind, q.id, 0, [], 0, 0, 0, 0, 0, 0, 0, 0, 0, 0, 0, 0, 0⟩ q none a 0 cap (CB_nil _ _) (HM.out.2.2.below H3.out.1)).mono ?_; rintro e w9 ⟨rfl, hb9⟩; have H9 := Lib.hid (H3.out.1.trans (hb9.mono H3.out.1.size)); clear hb9))
  go_ret
  exact ⟨by rw [HRR.out]; rfl, H9.out⟩
end Go.Proofs.Ytdpfmaikijilkaa
namespace Go.Proofs.Ytdpfmaikijilkaa
open Go Go.RowKit

def lenOk (q : Rq) : Bool := decide (q.kind = 2 → 1 ≤ q.model.length ∧ q.model.length ≤ 4091)
theorem lenOk_iff (q : Rq) : lenOk q = true ↔ (q.kind = 2 → 1 ≤ q.model.length ∧ q.model.length ≤ 4091) := by unfold lenOk; rw [decide_eq_true_eq]
theorem Lims.iff (q : Rq) : Lims q ↔ (1 ≤ q.kind ∧ q.kind ≤ 12 ∧ in8 q.ver = true ∧ in8 q.pr = true ∧ in8 q.pt = true ∧ in8 q.ek = true ∧ q.org = 0 ∧ q.seq = 0 ∧ in8 q.bp = true ∧ -1 ≤ q.bk ∧ q.bk ≤ 254) :=
  ⟨fun h => ⟨h.k0, h.k1, h.ver, h.pr, h.pt, h.ek, h.org, h.seq, h.bp, h.b0, h.b1⟩, fun ⟨a, b, c, d, e, f, g, h, i, j, k⟩ => ⟨a, b, c, d, e, f, g, h, i, j, k⟩⟩
theorem may_iff_1 (q : Rq) (hk : q.kind = 1) : mayQ q = true ↔ Lims q ∧ lenOk q = true ∧ onlyQ q = q := by
  rw [Lims.iff, lenOk_iff]
  unfold mayQ
  rw [Bool.and_eq_true, Bool.and_eq_true, decide_eq_true_eq, sameQ_iff]
  unfold backQ onlyQ
  obtain ⟨k, i, ve, mo, ti, og, sq, pt, ek, da, nu, bp, bk, bt, pr, nm, dn⟩ := q
  dsimp only at hk ⊢
  subst hk
  simp [tabM, oks, sets, mID, mVer, zeroQ, in8_iff]
  intros
  omega
theorem may_iff_2 (q : Rq) (hk : q.kind = 2) : mayQ q = true ↔ Lims q ∧ lenOk q = true ∧ onlyQ q = q := by
  rw [Lims.iff, lenOk_iff]
  unfold mayQ
  rw [Bool.and_eq_true, Bool.and_eq_true, decide_eq_true_eq, sameQ_iff]
  unfold backQ onlyQ
  obtain ⟨k, i, ve, mo, ti, og, sq, pt, ek, da, nu, bp, bk, bt, pr, nm, dn⟩ := q
  dsimp only at hk ⊢
  subst hk
  simp [tabM, oks, sets, mID, mModel, zeroQ, in8_iff]
  intros
  omega
theorem may_iff_3 (q : Rq) (hk : q.kind = 3) : mayQ q = true ↔ Lims q ∧ lenOk q = true ∧ onlyQ q = q := by
  rw [Lims.iff, lenOk_iff]
  unfold mayQ
  rw [Bool.and_eq_true, Bool.and_eq_true, decide_eq_true_eq, sameQ_iff]
  unfold backQ onlyQ
  obtain ⟨k, i, ve, mo, ti, og, sq, pt, ek, da, nu, bp, bk, bt, pr, nm, dn⟩ := q
  dsimp only at hk ⊢
  subst hk
  simp [tabM, oks, sets, mID, mEvent, zeroQ, in8_iff]
  constructor
  · intro h
    refine ⟨by omega, ?_⟩
    first | (simp_all; done) | (simp_all; omega)
  · intro h
    first | (simp_all; done) | (simp_all; omega)
theorem may_iff_4 (q : Rq) (hk : q.kind = 4) : mayQ q = true ↔ Lims q ∧ lenOk q = true ∧ onlyQ q = q := by
  rw [Lims.iff, lenOk_iff]
  unfold mayQ
  rw [Bool.and_eq_true, Bool.and_eq_true, decide_eq_true_eq, sameQ_iff]
  unfold backQ onlyQ
  obtain ⟨k, i, ve, mo, ti, og, sq, pt, ek, da, nu, bp, bk, bt, pr, nm, dn⟩ := q
  dsimp only at hk ⊢
  subst hk
  simp [tabM, oks, sets, mID, mNum, mBreak, zeroQ, in8_iff]
  intros
  omega
theorem may_iff_5 (q : Rq) (hk : q.kind = 5) : mayQ q = true ↔ Lims q ∧ lenOk q = true ∧ onlyQ q = q := by
  rw [Lims.iff, lenOk_iff]
  unfold mayQ
  rw [Bool.and_eq_true, Bool.and_eq_true, decide_eq_true_eq, sameQ_iff]
  unfold backQ onlyQ
  obtain ⟨k, i, ve, mo, ti, og, sq, pt, ek, da, nu, bp, bk, bt, pr, nm, dn⟩ := q
  dsimp only at hk ⊢
  subst hk
  simp [tabM, oks, sets, mID, mNum, zeroQ, in8_iff]
  intros
  omega
theorem may_iff_6 (q : Rq) (hk : q.kind = 6) : mayQ q = true ↔ Lims q ∧ lenOk q = true ∧ onlyQ q = q := by
  rw [Lims.iff, lenOk_iff]
  unfold mayQ
  rw [Bool.and_eq_true, Bool.and_eq_true, decide_eq_true_eq, sameQ_iff]
  unfold backQ onlyQ
  obtain ⟨k, i, ve, mo, ti, og, sq, pt, ek, da, nu, bp, bk, bt, pr, nm, dn⟩ := q
  dsimp only at hk ⊢
  subst hk
  simp [tabM, oks, sets, mID, mProc, zeroQ, in8_iff]
  intros
  omega
theorem may_iff_10 (q : Rq) (hk : q.kind = 10) : mayQ q = true ↔ Lims q ∧ lenOk q = true ∧ onlyQ q = q := by
  rw [Lims.iff, lenOk_iff]
  unfold mayQ
  rw [Bool.and_eq_true, Bool.and_eq_true, decide_eq_true_eq, sameQ_iff]
  unfold backQ onlyQ
  obtain ⟨k, i, ve, mo, ti, og, sq, pt, ek, da, nu, bp, bk, bt, pr, nm, dn⟩ := q
  dsimp only at hk ⊢
  subst hk
  simp [tabM, oks, sets, mID, mRate, zeroQ, in8_iff]
  intros
  omega
theorem may_iff_0 (q : Rq) (hk : q.kind ≠ 1 ∧ q.kind ≠ 2 ∧ q.kind ≠ 3 ∧ q.kind ≠ 4 ∧ q.kind ≠ 5 ∧ q.kind ≠ 6 ∧ q.kind ≠ 10) : mayQ q = true ↔ Lims q ∧ lenOk q = true ∧ onlyQ q = q := by
  rw [Lims.iff, lenOk_iff]
  unfold mayQ
  rw [Bool.and_eq_true, Bool.and_eq_true, decide_eq_true_eq, sameQ_iff]
  unfold backQ onlyQ
  obtain ⟨k, i, ve, mo, ti, og, sq, pt, ek, da, nu, bp, bk, bt, pr, nm, dn⟩ := q
  dsimp only at hk ⊢
  obtain ⟨k1, k2, k3, k4, k5, k6, k7⟩ := hk
  simp [tabM, oks, sets, mID, zeroQ, in8_iff, k1, k2, k3, k4, k5, k6, k7]
  intros
  omega
theorem mayQ_iff (q : Rq) : mayQ q = true ↔ Lims q ∧ lenOk q = true ∧ onlyQ q = q := by
  by_cases k1 : q.kind = 1
  · exact may_iff_1 q k1
  by_cases k2 : q.kind = 2
  · exact may_iff_2 q k2
  by_cases k3 : q.kind = 3
  · exact may_iff_3 q k3
  by_cases k4 : q.kind = 4
  · exact may_iff_4 q k4
  by_cases k5 : q.kind = 5
  · exact may_iff_5 q k5
  by_cases k6 : q.kind = 6
  · exact may_iff_6 q k6
  by_cases k7 : q.kind = 10
  · exact may_iff_10 q k7
  exact may_iff_0 q ⟨k1, k2, k3, k4, k5, k6, k7⟩
theorem mayQ_no {q : Rq} (h : ¬ (Lims q ∧ lenOk q = true)) : mayQ q = false := by
  cases e : mayQ q with
  | false => rfl
  | true =>
    have := (mayQ_iff q).1 e
    exact absurd ⟨this.1, this.2.1⟩ h
theorem mayQ_same {q : Rq} (L : Lims q) (hl : lenOk q = true) : sameQ (onlyQ q) q = mayQ q := by
  cases e : mayQ q with
  | true => exact (sameQ_iff _ _).2 ((mayQ_iff q).1 e).2.2
  | false =>
    cases e2 : sameQ (onlyQ q) q with
    | false => rfl
    | true => rw [(mayQ_iff q).2 ⟨L, hl, (sameQ_iff _ _).1 e2⟩] at e; cases e
end Go.Proofs.Ytdpfmaikijilkaa
namespace Go.Proofs.Ytdpfmaikijilkaa
open Go Go.RowKit

theorem rMayRequest_any (w : World) (q : Rq) (a : Option Addr) (cap : Nat) (ha : CB.At w a q.model.length q.model) : Calls Try.prog 10 #[.agg (RqC q (.slice a q.model.length cap))] w (TellsB (mayQ q) w) := by
  by_cases h_k0 : 1 ≤ q.kind
  case neg =>
    rw [mayQ_no fun e => h_k0 e.1.k0]
    exact may_no_k0 w q a cap ha h_k0
  by_cases h_k1 : q.kind ≤ 12
  case neg =>
    rw [mayQ_no fun e => h_k1 e.1.k1]
    exact may_no_k1 w q a cap ha h_k0 h_k1
  cases h_ver : in8 q.ver
  case false =>
    rw [mayQ_no fun e => by rw [e.1.ver] at h_ver; cases h_ver]
    exact may_no_ver w q a cap ha h_k0 h_k1 h_ver
  cases h_pr : in8 q.pr
  case false =>
    rw [mayQ_no fun e => by rw [e.1.pr] at h_pr; cases h_pr]
    exact may_no_pr w q a cap ha h_k0 h_k1 h_ver h_pr
  cases h_pt : in8 q.pt
  case false =>
    rw [mayQ_no fun e => by rw [e.1.pt] at h_pt; cases h_pt]
    exact may_no_pt w q a cap ha h_k0 h_k1 h_ver h_pr h_pt
  cases h_ek : in8 q.ek
  case false =>
    rw [mayQ_no fun e => by rw [e.1.ek] at h_ek; cases h_ek]
    exact may_no_ek w q a cap ha h_k0 h_k1 h_ver h_pr h_pt h_ek
  by_cases h_org : q.org = 0
  case neg =>
    rw [mayQ_no fun e => h_org e.1.org]
    exact may_no_org w q a cap ha h_k0 h_k1 h_ver h_pr h_pt h_ek h_org
  by_cases h_seq : q.seq = 0
  case neg =>
    rw [mayQ_no fun e => h_seq e.1.seq]
    exact may_no_seq w q a cap ha h_k0 h_k1 h_ver h_pr h_pt h_ek h_org h_seq
  cases h_bp : in8 q.bp
  case false =>
    rw [mayQ_no fun e => by rw [e.1.bp] at h_bp; cases h_bp]
    exact may_no_bp w q a cap ha h_k0 h_k1 h_ver h_pr h_pt h_ek h_org h_seq h_bp
  by_cases h_b0 : -1 ≤ q.bk
  case neg =>
    rw [mayQ_no fun e => h_b0 e.1.b0]
    exact may_no_b0 w q a cap ha h_k0 h_k1 h_ver h_pr h_pt h_ek h_org h_seq h_bp h_b0
  by_cases h_b1 : q.bk ≤ 254
  case neg =>
    rw [mayQ_no fun e => h_b1 e.1.b1]
    exact may_no_b1 w q a cap ha h_k0 h_k1 h_ver h_pr h_pt h_ek h_org h_seq h_bp h_b0 h_b1
  have L : Lims q := ⟨h_k0, h_k1, h_ver, h_pr, h_pt, h_ek, h_org, h_seq, h_bp, h_b0, h_b1⟩
  by_cases hl : lenOk q = true
  case neg =>
    rw [mayQ_no fun e => hl e.2]
    have h2 : q.kind = 2 := Classical.byContradiction fun e => hl ((lenOk_iff q).2 fun e2 => absurd e2 e)
    exact may_two_no w q a cap ha L h2 fun e => hl ((lenOk_iff q).2 fun _ => e)
  rw [← mayQ_same L hl]
  have ho := L.org
  have hs := L.seq
  by_cases k1 : q.kind = 1
  · have h := may_k1 w q a cap ha L k1
    unfold onlyQ
    simp only [k1, ho, hs] at h ⊢
    exact h
  by_cases k2 : q.kind = 2
  · have h := may_k2 w q a cap ha L k2 ((lenOk_iff q).1 hl k2)
    unfold onlyQ
    simp only [k2, ho, hs] at h ⊢
    exact h
  by_cases k3 : q.kind = 3
  · have h := may_k3 w q a cap ha L k3
    unfold onlyQ
    simp only [k3, ho, hs] at h ⊢
    exact h
  by_cases k4 : q.kind = 4
  · have h := may_k4 w q a cap ha L k4
    unfold onlyQ
    simp only [k4, ho, hs] at h ⊢
    exact h
  by_cases k5 : q.kind = 5
  · have h := may_k5 w q a cap ha L k5
    unfold onlyQ
    simp only [k5, ho, hs] at h ⊢
    exact h
  by_cases k6 : q.kind = 6
  · have h := may_k6 w q a cap ha L k6
    unfold onlyQ
    simp only [k6, ho, hs] at h ⊢
    exact h
  by_cases k10 : q.kind = 10
  · have h := may_k10 w q a cap ha L k10
    unfold onlyQ
    simp only [k10, ho, hs] at h ⊢
    exact h
  have h := may_k0 w q a cap ha L ⟨k1, k2, k3, k4, k5, k6, k10⟩
  unfold onlyQ
  rw [if_neg k1, if_neg k2, if_neg k3, if_neg k4, if_neg k5, if_neg k6, if_neg k10]
  exact h
end Go.Proofs.Ytdpfmaikijilkaa
