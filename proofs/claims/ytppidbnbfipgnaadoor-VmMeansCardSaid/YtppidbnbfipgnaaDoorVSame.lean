/-
  The walks of the document's SameEvents, SameRecords, over equal rows.
-/
import Derived.Test.YtppidbnbfipgnaaDoorVEq
import Derived.Test.YtppidbnbfipgnaaDoorVMach
import Derived.Test.YtppidbnbfipgnaaDoorGMem
import Derived.Test.YtppidbnbfipgnaaDoorGQuiet
namespace Go.Proofs.YtppidbnbfipgnaaDoor
open Go Go.RowKit Go.Sort Go.Proofs CodM VmM

theorem six_cells {w : World} {B o : Nat} {x : Ev} (h : CEv.Cell w B o x) : w.cell? ⟨B, o, none⟩ = some (.int .i64 x.time) ∧ w.cell? ⟨B, o + 1, none⟩ = some (.int .i64 x.org) ∧ w.cell? ⟨B, o + 2, none⟩ = some (.int .i64 x.seq) ∧ w.cell? ⟨B, o + 3, none⟩ = some (.int .i64 x.to) ∧ w.cell? ⟨B, o + 4, none⟩ = some (.int .i64 x.kind) ∧ w.cell? ⟨B, o + 5, none⟩ = some (.int .i64 x.data) :=
  ⟨h 0 (by decide), h 1 (by decide), h 2 (by decide), h 3 (by decide), h 4 (by decide), h 5 (by decide)⟩
theorem six_cellsR {w : World} {B o : Nat} {x : Rc} (h : CRc.Cell w B o x) : w.cell? ⟨B, o, none⟩ = some (.int .i64 x.time) ∧ w.cell? ⟨B, o + 1, none⟩ = some (.int .i64 x.org) ∧ w.cell? ⟨B, o + 2, none⟩ = some (.int .i64 x.seq) ∧ w.cell? ⟨B, o + 3, none⟩ = some (.int .i64 x.proc) ∧ w.cell? ⟨B, o + 4, none⟩ = some (.int .i64 x.nth) ∧ w.cell? ⟨B, o + 5, none⟩ = some (.int .i64 x.val) :=
  ⟨h 0 (by decide), h 1 (by decide), h 2 (by decide), h 3 (by decide), h 4 (by decide), h 5 (by decide)⟩
def CountRel (w : World) (n : Nat) (i : Value) (wr : World) : Prop := ∃ k : Nat, k ≤ n ∧ i = .int .i64 k ∧ Below w.heap.size w wr

set_option maxHeartbeats 1000000 in
theorem sameE_any (w : World) (a b : Option Addr) (n c d : Nat) (l : List Ev) (ha : CEv.At w a n l) (hb : CEv.At w b n l) (hn : n ≤ 1000) :
    Calls Tryd.prog 31 #[.slice a n c, .slice b n d] w (fun e w' => e = .returned (.bool true) ∧ Below w.heap.size w w') := by
  have HA := Lib.hid ha
  have HB := Lib.hid hb
  clear ha hb
  go_enter Tryd.func31, Tryd.ntmps31
  go_wp2
  go_loopw [5] (fun i wr => CountRel w n i wr) (fun i _ => n - (intOf i).toNat)
  case atStart => exact ⟨0, Nat.zero_le _, rfl, Below.refl _ _⟩
  case round =>
    rename_i wr
    obtain ⟨k, hk, rfl, hbel⟩ := hrel
    have HBEL := Lib.hid hbel
    clear hbel
    by_cases hlt : k < n
    · obtain ⟨B1, o1, rfl, hB1, x, hx, hc1⟩ := (HA.out.below HBEL.out).cell hlt
      obtain ⟨B2, o2, rfl, hB2, y, hy, hc2⟩ := (HB.out.below HBEL.out).cell hlt
      obtain rfl : x = y := Option.some.inj (hx.symm.trans hy)
      obtain ⟨p0, p1, p2, p3, p4, p5⟩ := six_cells hc1
      obtain ⟨s0, s1, s2, s3, s4, s5⟩ := six_cells hc2
      clear hc1 hc2 hx hy hB1 hB2
      have hk6 : CEv.k = 6 := rfl
      rw [hk6] at p0 p1 p2 p3 p4 p5 s0 s1 s2 s3 s4 s5
      have g0 : ∀ q : InB wr, _ := fun q => cell_keep q p0
      have g1 : ∀ q : InB wr, _ := fun q => cell_keep q p1
      have g2 : ∀ q : InB wr, _ := fun q => cell_keep q p2
      have g3 : ∀ q : InB wr, _ := fun q => cell_keep q p3
      have g4 : ∀ q : InB wr, _ := fun q => cell_keep q p4
      have g5 : ∀ q : InB wr, _ := fun q => cell_keep q p5
      have r0 : ∀ q : InB wr, _ := fun q => cell_keep q s0
      have r1 : ∀ q : InB wr, _ := fun q => cell_keep q s1
      have r2 : ∀ q : InB wr, _ := fun q => cell_keep q s2
      have r3 : ∀ q : InB wr, _ := fun q => cell_keep q s3
      have r4 : ∀ q : InB wr, _ := fun q => cell_keep q s4
      have r5 : ∀ q : InB wr, _ := fun q => cell_keep q s5
      clear p0 p1 p2 p3 p4 p5 s0 s1 s2 s3 s4 s5 hk6
      have hne := evNe x.time x.org x.seq x.to x.kind x.data
      have hgd := fun (op : BinOp) (x y : Operand) (xs ys : Array Value) (w : World) => run_eqGuard_agg (P := Tryd.prog) w op 31 x y xs ys evGuard
      go_wp2
      refine wp_region_below (by kernel_rfl) (by kernel_rfl) ?_
      repeat (refine WQ.step (fun K hK => ?_); go_simp; refine hK _ ?_; clear hK K)
      refine WQ.nil ?_
      intro w8 ⟨q8, hq8⟩
      have HB8 := Lib.hid (HBEL.out.trans (q8.h.mono HBEL.out.size))
      rw [← hq8] at HB8
      clear hq8 q8 g0 g1 g2 g3 g4 g5 r0 r1 r2 r3 r4 r5 hne hgd
      go_wp2
      go_roundw
      case rel => exact ⟨k + 1, by omega, by go_num, HB8.out⟩
      case measure => simp [intOf]; omega
    · go_wp2
      go_ret
      exact ⟨rfl, HBEL.out⟩
set_option maxHeartbeats 1000000 in
theorem sameR_any (w : World) (a b : Option Addr) (n c d : Nat) (l : List Rc) (ha : CRc.At w a n l) (hb : CRc.At w b n l) (hn : n ≤ 1000) :
    Calls Tryd.prog 32 #[.slice a n c, .slice b n d] w (fun e w' => e = .returned (.bool true) ∧ Below w.heap.size w w') := by
  have HA := Lib.hid ha
  have HB := Lib.hid hb
  clear ha hb
  go_enter Tryd.func32, Tryd.ntmps32
  go_wp2
  go_loopw [5] (fun i wr => CountRel w n i wr) (fun i _ => n - (intOf i).toNat)
  case atStart => exact ⟨0, Nat.zero_le _, rfl, Below.refl _ _⟩
  case round =>
    rename_i wr
    obtain ⟨k, hk, rfl, hbel⟩ := hrel
    have HBEL := Lib.hid hbel
    clear hbel
    by_cases hlt : k < n
    · obtain ⟨B1, o1, rfl, hB1, x, hx, hc1⟩ := (HA.out.below HBEL.out).cell hlt
      obtain ⟨B2, o2, rfl, hB2, y, hy, hc2⟩ := (HB.out.below HBEL.out).cell hlt
      obtain rfl : x = y := Option.some.inj (hx.symm.trans hy)
      obtain ⟨p0, p1, p2, p3, p4, p5⟩ := six_cellsR hc1
      obtain ⟨s0, s1, s2, s3, s4, s5⟩ := six_cellsR hc2
      clear hc1 hc2 hx hy hB1 hB2
      have hk6 : CRc.k = 6 := rfl
      rw [hk6] at p0 p1 p2 p3 p4 p5 s0 s1 s2 s3 s4 s5
      have g0 : ∀ q : InB wr, _ := fun q => cell_keep q p0
      have g1 : ∀ q : InB wr, _ := fun q => cell_keep q p1
      have g2 : ∀ q : InB wr, _ := fun q => cell_keep q p2
      have g3 : ∀ q : InB wr, _ := fun q => cell_keep q p3
      have g4 : ∀ q : InB wr, _ := fun q => cell_keep q p4
      have g5 : ∀ q : InB wr, _ := fun q => cell_keep q p5
      have r0 : ∀ q : InB wr, _ := fun q => cell_keep q s0
      have r1 : ∀ q : InB wr, _ := fun q => cell_keep q s1
      have r2 : ∀ q : InB wr, _ := fun q => cell_keep q s2
      have r3 : ∀ q : InB wr, _ := fun q => cell_keep q s3
      have r4 : ∀ q : InB wr, _ := fun q => cell_keep q s4
      have r5 : ∀ q : InB wr, _ := fun q => cell_keep q s5
      clear p0 p1 p2 p3 p4 p5 s0 s1 s2 s3 s4 s5 hk6
      have hne := rcNe x.time x.org x.seq x.proc x.nth x.val
      have hgd := fun (op : BinOp) (x y : Operand) (xs ys : Array Value) (w : World) => run_eqGuard_agg (P := Tryd.prog) w op 55 x y xs ys rcGuard
      go_wp2
      refine wp_region_below (by kernel_rfl) (by kernel_rfl) ?_
      repeat (refine WQ.step (fun K hK => ?_); go_simp; refine hK _ ?_; clear hK K)
      refine WQ.nil ?_
      intro w8 ⟨q8, hq8⟩
      have HB8 := Lib.hid (HBEL.out.trans (q8.h.mono HBEL.out.size))
      rw [← hq8] at HB8
      clear hq8 q8 g0 g1 g2 g3 g4 g5 r0 r1 r2 r3 r4 r5 hne hgd
      go_wp2
      go_roundw
      case rel => exact ⟨k + 1, by omega, by go_num, HB8.out⟩
      case measure => simp [intOf]; omega
    · go_wp2
      go_ret
      exact ⟨rfl, HBEL.out⟩

set_option maxHeartbeats 1000000 in
theorem sameS_any (w : World) (a b : Option Addr) (c d : Nat) (l : List Int) (n : Nat) (ha : CV.At w a n l) (hb : CV.At w b n l) (hn : n ≤ 1000) (s0 d0 : Int) :
    Calls Tryd.prog 16 #[stV a n c s0 d0, stV b n d s0 d0] w (fun e w' => e = .returned (.bool true) ∧ Below w.heap.size w w') := by
  have HA := Lib.hid ha
  have HB := Lib.hid hb
  clear ha hb
  go_enter Tryd.func16, Tryd.ntmps16
  go_upto_region 1 with fail
  obtain ⟨wb, hwb⟩ : ∃ wb, wb = (w.alloc (.cells #[.slice a n c, .int .i64 s0, .int .i64 d0] 27)).alloc (.cells #[.slice b n d, .int .i64 s0, .int .i64 d0] 27) := ⟨_, rfl⟩
  have HB0 := Lib.hid (show Below w.heap.size w wb from by rw [hwb]; exact ((Below.refl _ _).alloc (Nat.le_refl _) _).alloc (by simp) _)
  have x0 : wb.heap[w.heap.size]? = some (.cells #[.slice a n c, .int .i64 s0, .int .i64 d0] 27 (0, 0)) := by
    rw [hwb, heap_alloc_old _ _ (by simp), heap_alloc_new]
  have x1 : wb.heap[w.heap.size + 1]? = some (.cells #[.slice b n d, .int .i64 s0, .int .i64 d0] 27 (0, 0)) := by
    rw [hwb]
    have z : (w.alloc (.cells #[.slice a n c, .int .i64 s0, .int .i64 d0] 27)).heap.size = w.heap.size + 1 := by simp
    rw [← z, heap_alloc_new]
  have q0 : wb.cell? ⟨w.heap.size, 0, none⟩ = some (.slice a n c) := by rw [cell_of_row _ _ _ _ _ _ x0]; rfl
  have q1 : wb.cell? ⟨w.heap.size, 1, none⟩ = some (.int .i64 s0) := by rw [cell_of_row _ _ _ _ _ _ x0]; rfl
  have q2 : wb.cell? ⟨w.heap.size, 2, none⟩ = some (.int .i64 d0) := by rw [cell_of_row _ _ _ _ _ _ x0]; rfl
  have r0 : wb.cell? ⟨w.heap.size + 1, 0, none⟩ = some (.slice b n d) := by rw [cell_of_row _ _ _ _ _ _ x1]; rfl
  have r1 : wb.cell? ⟨w.heap.size + 1, 1, none⟩ = some (.int .i64 s0) := by rw [cell_of_row _ _ _ _ _ _ x1]; rfl
  have r2 : wb.cell? ⟨w.heap.size + 1, 2, none⟩ = some (.int .i64 d0) := by rw [cell_of_row _ _ _ _ _ _ x1]; rfl
  rw [← hwb]
  clear hwb x0 x1
  go_wp2
  go_loopw [5] (fun i wr => CountRel wb n i wr) (fun i _ => n - (intOf i).toNat)
  case atStart => exact ⟨0, Nat.zero_le _, rfl, Below.refl _ _⟩
  case round =>
    rename_i wr
    obtain ⟨k, hk, rfl, hbel⟩ := hrel
    have u0 := (hbel.cell (World.block_lt_of_cell? wb _ q0)).trans q0
    have v0 := (hbel.cell (World.block_lt_of_cell? wb _ r0)).trans r0
    have HBEL := Lib.hid hbel
    have HBL := Lib.hid (HB0.out.trans (hbel.mono HB0.out.size))
    clear hbel q0 q1 q2 r0 r1 r2
    by_cases hlt : k < n
    · obtain ⟨B1, o1, rfl, hB1, x, hx, hc1⟩ := (HA.out.below HBL.out).cell hlt
      obtain ⟨B2, o2, rfl, hB2, y, hy, hc2⟩ := (HB.out.below HBL.out).cell hlt
      obtain rfl : x = y := Option.some.inj (hx.symm.trans hy)
      have p0 : wr.cell? ⟨B1, o1 + k, none⟩ = some (.int .i64 x) := (show o1 + k * CV.k + 0 = o1 + k from by show o1 + k * 1 + 0 = _; omega) ▸ hc1 0 (by decide)
      have s0 : wr.cell? ⟨B2, o2 + k, none⟩ = some (.int .i64 x) := (show o2 + k * CV.k + 0 = o2 + k from by show o2 + k * 1 + 0 = _; omega) ▸ hc2 0 (by decide)
      clear hc1 hc2 hx hy hB1 hB2
      go_wp2
      have g0 : ∀ q : InB wr, _ := fun q => cell_keep q p0
      have g1 : ∀ q : InB wr, _ := fun q => cell_keep q s0
      have g2 : ∀ q : InB wr, _ := fun q => cell_keep q u0
      have g3 : ∀ q : InB wr, _ := fun q => cell_keep q v0
      clear p0 s0
      refine wp_region_below (by kernel_rfl) (by kernel_rfl) ?_
      repeat (refine WQ.step (fun K hK => ?_); go_simp; refine hK _ ?_; clear hK K)
      refine WQ.nil ?_
      intro w8 ⟨q8, hq8⟩
      have HB8 := Lib.hid (HBEL.out.trans (q8.h.mono HBEL.out.size))
      rw [← hq8] at HB8
      clear hq8 q8 g0 g1 g2 g3
      go_wp2
      go_roundw
      case rel => exact ⟨k + 1, by omega, by go_num, HB8.out⟩
      case measure => simp [intOf]; omega
    · go_wp2
      go_ret
      exact ⟨rfl, HBL.out⟩
end Go.Proofs.YtppidbnbfipgnaaDoor
