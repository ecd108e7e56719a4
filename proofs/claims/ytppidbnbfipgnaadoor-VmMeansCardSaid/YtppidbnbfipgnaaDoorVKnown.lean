/-
  The walk of known.
-/
import Derived.Test.YtppidbnbfipgnaaDoorVMRun
import Derived.Test.YtppidbnbfipgnaaDoorVNew
import Derived.Test.YtppidbnbfipgnaaDoorVEq
namespace Go.Proofs.YtppidbnbfipgnaaDoor
open Go Go.RowKit Go.Sort Go.Proofs CodM VmM

def kp : Prg := ⟨0, [[(1, 7), (1, 5), (1, 2), (15, 1)], [(1, 1), (13, 0)]]⟩
def km : Mch := ⟨1, 2, 3⟩
def kev : Ev := ⟨15, 1, 0, 2, 1, 7⟩
theorem kp_may : CodM.may (codeNk kp) kp = true := by decide +kernel
theorem k_ok1 : okR km kp ⟨[], 0, 0⟩ ⟨10, 0, 0, 1, 0, 0⟩ = true := by decide +kernel
theorem k_ok2 : okR km kp ⟨[], 0, 0⟩ ⟨10, 0, 0, 1, 1, 0⟩ = true := by decide +kernel
theorem k_run1 : run km kp ⟨[], 0, 0⟩ ⟨10, 0, 0, 1, 0, 0⟩ = ⟨⟨[], 1, 0⟩, [kev], []⟩ := by decide +kernel
theorem k_run2 : run km kp ⟨[], 0, 0⟩ ⟨10, 0, 0, 1, 1, 0⟩ = ⟨⟨[], 0, 0⟩, [], []⟩ := by decide +kernel
theorem kp_at {W : World} {b0 b1 b2 : Nat} (h0 : W.heap[b0]? = some (.cells #[.int .i64 1, .int .i64 7, .int .i64 1, .int .i64 5, .int .i64 1, .int .i64 2, .int .i64 15, .int .i64 1] 62 (0, 0))) (h1 : W.heap[b1]? = some (.cells #[.int .i64 1, .int .i64 1, .int .i64 13, .int .i64 0] 62 (0, 0)))
    (h2 : W.heap[b2]? = some (.cells #[.slice (some ⟨b0, 0, none⟩) 4 4, .slice (some ⟨b1, 0, none⟩) 2 2] 59 (0, 0))) : ProgAt W (some ⟨b2, 0, none⟩) 2 kp := by
  have hi : ∀ (n : Int), n = 0 ∨ n = 1 ∨ n = 2 ∨ n = 5 ∨ n = 7 ∨ n = 13 ∨ n = 15 → I64 n := fun n h => by unfold I64; omega
  refine ⟨hi 0 (by simp), rfl, by decide, .inr ⟨b2, 0, rfl, (Array.getElem?_eq_some_iff.1 h2).1, fun i hi' => ?_⟩⟩
  match i, hi' with
  | 0, _ =>
    refine ⟨some ⟨b0, 0, none⟩, 4, 4, by rw [cell_of_row _ _ _ _ _ _ h2]; rfl, ⟨Nat.le_refl _, fun e => by cases e⟩, rfl, fun x hx => ?_, by decide, .inr ⟨b0, 0, rfl, (Array.getElem?_eq_some_iff.1 h0).1, fun j hj => ?_⟩⟩
    · have hx2 : x ∈ [((1 : Int), (7 : Int)), (1, 5), (1, 2), (15, 1)] := hx
      simp at hx2
      rcases hx2 with rfl | rfl | rfl | rfl <;> exact ⟨hi _ (by simp), hi _ (by simp)⟩
    · match j, hj with
      | 0, _ | 1, _ | 2, _ | 3, _ => exact ⟨by rw [cell_of_row _ _ _ _ _ _ h0]; rfl, by rw [cell_of_row _ _ _ _ _ _ h0]; rfl⟩
  | 1, _ =>
    refine ⟨some ⟨b1, 0, none⟩, 2, 2, by rw [cell_of_row _ _ _ _ _ _ h2]; rfl, ⟨Nat.le_refl _, fun e => by cases e⟩, rfl, fun x hx => ?_, by decide, .inr ⟨b1, 0, rfl, (Array.getElem?_eq_some_iff.1 h1).1, fun j hj => ?_⟩⟩
    · have hx2 : x ∈ [((1 : Int), (1 : Int)), (13, 0)] := hx
      simp at hx2
      rcases hx2 with rfl | rfl <;> exact ⟨hi _ (by simp), hi _ (by simp)⟩
    · match j, hj with
      | 0, _ | 1, _ => exact ⟨by rw [cell_of_row _ _ _ _ _ _ h1]; rfl, by rw [cell_of_row _ _ _ _ _ _ h1]; rfl⟩
def K1To (W : World) (e : Ending) (w' : World) : Prop := ∃ va vc g sc ta tc, e = .returned (.tuple #[.agg #[.slice va 0 vc, .int .i64 1, .int .i64 0, .slice (some ⟨g, 0, none⟩) 1 sc, .slice ta 0 tc], .int .i64 0]) ∧ CEv.Cell w' g 0 kev ∧ Below W.heap.size W w'
def K2To (W : World) (e : Ending) (w' : World) : Prop := ∃ va vc sa sc ta tc, e = .returned (.tuple #[.agg #[.slice va 0 vc, .int .i64 0, .int .i64 0, .slice sa 0 sc, .slice ta 0 tc], .int .i64 0]) ∧ Below W.heap.size W w'
theorem run1_any (W : World) (M : Nat) (a : Option Addr) (n c : Nat) (h : MAt W M km kp a n c) : Calls Tryd.prog 13 #[.pointer (some ⟨M, 0, none⟩), .agg #[.slice none 0 0, .int .i64 0, .int .i64 0], .agg #[.int .i64 10, .int .i64 0, .int .i64 0, .int .i64 1, .int .i64 0, .int .i64 0]] W (K1To W) := by
  have := mRun_any W M km kp a n c h none 0 ⟨[], 0, 0⟩ (Cod.At.nil W) (by simp) (fun _ => rfl) ⟨10, 0, 0, 1, 0, 0⟩
  rw [k_ok1, k_run1] at this
  refine this.mono ?_
  rintro e w' ⟨hb, hx⟩
  rw [if_pos rfl] at hx
  obtain ⟨vv, sv, tv, rfl, hs⟩ := hx
  obtain ⟨va, vc, rfl, -, -, -, -⟩ := hs.vars.at_ (by simp)
  obtain ⟨ta, tc, rfl, -, -, -, -⟩ := hs.tells.at_ (by simp)
  obtain ⟨sa, sc, rfl, -, hat, -, hsh⟩ := hs.sends.at_ (by simp)
  rcases hsh with ⟨_, h0, _⟩ | ⟨g, rfl⟩
  · cases h0
  · obtain ⟨B, off, e2, _, x, hx, hc⟩ := hat.cell (i := 0) (by simp)
    cases e2
    have hx2 : kev = x := by simpa using hx
    subst hx2
    exact ⟨va, vc, g, sc, ta, tc, rfl, hc, hb⟩
theorem run2_any (W : World) (M : Nat) (a : Option Addr) (n c : Nat) (h : MAt W M km kp a n c) : Calls Tryd.prog 13 #[.pointer (some ⟨M, 0, none⟩), .agg #[.slice none 0 0, .int .i64 0, .int .i64 0], .agg #[.int .i64 10, .int .i64 0, .int .i64 0, .int .i64 1, .int .i64 1, .int .i64 0]] W (K2To W) := by
  have := mRun_any W M km kp a n c h none 0 ⟨[], 0, 0⟩ (Cod.At.nil W) (by simp) (fun _ => rfl) ⟨10, 0, 0, 1, 1, 0⟩
  rw [k_ok2, k_run2] at this
  refine this.mono ?_
  rintro e w' ⟨hb, hx⟩
  rw [if_pos rfl] at hx
  obtain ⟨vv, sv, tv, rfl, hs⟩ := hx
  obtain ⟨va, vc, rfl, -, -, -, -⟩ := hs.vars.at_ (by simp)
  obtain ⟨ta, tc, rfl, -, -, -, -⟩ := hs.tells.at_ (by simp)
  obtain ⟨sa, sc, rfl, -, -, -, -⟩ := hs.sends.at_ (by simp)
  exact ⟨va, vc, sa, sc, ta, tc, rfl, hb⟩
set_option maxHeartbeats 4000000 in
set_option maxRecDepth 100000 in
theorem known_any (w : World) (hW : Wds w) : Calls Tryd.prog 7 #[] w (fun e w' => e = .returned (.bool true) ∧ Below w.heap.size w w') := by
  obtain ⟨w4, hw4⟩ : ∃ w4, w4 = (((w.alloc (.cells #[.int .i64 1, .int .i64 7, .int .i64 1, .int .i64 5, .int .i64 1, .int .i64 2, .int .i64 15, .int .i64 1] 62)).alloc (.cells #[.int .i64 1, .int .i64 1, .int .i64 13, .int .i64 0] 62)).alloc (.cells #[.slice (some ⟨w.heap.size, 0, none⟩) 4 4, .slice (some ⟨w.heap.size + 1, 0, none⟩) 2 2] 59)).alloc (.cells #[.int .i64 0, .slice (some ⟨w.heap.size + 1 + 1, 0, none⟩) 2 2] 24) := ⟨_, rfl⟩
  have z1 : ∀ o : Obj, (w.alloc o).heap.size = w.heap.size + 1 := fun o => by simp
  have z2 : ∀ o p : Obj, ((w.alloc o).alloc p).heap.size = w.heap.size + 1 + 1 := fun o p => by simp
  have z3 : ∀ o p q : Obj, (((w.alloc o).alloc p).alloc q).heap.size = w.heap.size + 1 + 1 + 1 := fun o p q => by simp
  have hb4 : Below w.heap.size w w4 := by rw [hw4]; exact ((((Below.refl _ _).alloc (Nat.le_refl _) _).alloc (by simp) _).alloc (by simp; omega) _).alloc (by simp; omega) _
  have x0 : w4.heap[w.heap.size]? = some (.cells #[.int .i64 1, .int .i64 7, .int .i64 1, .int .i64 5, .int .i64 1, .int .i64 2, .int .i64 15, .int .i64 1] 62 (0, 0)) := by
    rw [hw4, heap_alloc_old _ _ (by rw [z3]; omega), heap_alloc_old _ _ (by rw [z2]; omega), heap_alloc_old _ _ (by rw [z1]; omega), heap_alloc_new]
  have x1 : w4.heap[w.heap.size + 1]? = some (.cells #[.int .i64 1, .int .i64 1, .int .i64 13, .int .i64 0] 62 (0, 0)) := by
    rw [hw4, heap_alloc_old _ _ (by rw [z3]; omega), heap_alloc_old _ _ (by rw [z2]; omega), ← z1, heap_alloc_new]
  have x2 : w4.heap[w.heap.size + 1 + 1]? = some (.cells #[.slice (some ⟨w.heap.size, 0, none⟩) 4 4, .slice (some ⟨w.heap.size + 1, 0, none⟩) 2 2] 59 (0, 0)) := by
    rw [hw4, heap_alloc_old _ _ (by rw [z3]; omega)]
    exact (congrArg (fun i => ((World.alloc _ _).heap[i]?)) (z2 _ _).symm).trans (heap_alloc_new _ _)
  have x3 : w4.heap[w.heap.size + 1 + 1 + 1]? = some (.cells #[.int .i64 0, .slice (some ⟨w.heap.size + 1 + 1, 0, none⟩) 2 2] 24 (0, 0)) := by
    rw [hw4]
    exact (congrArg (fun i => ((World.alloc _ _).heap[i]?)) (z3 _ _ _).symm).trans (heap_alloc_new _ _)
  have HNEW : Hid (Calls Tryd.prog 8 #[.agg #[.int .i64 0, .slice (some ⟨w.heap.size + 1 + 1, 0, none⟩) 2 2], .int .i64 1, .int .i64 2, .int .i64 3] w4 (MadeTo w4 km kp)) := Lib.hid (New_any w4 kp _ 2 2 (hW.next hb4 (Nat.le_refl _)) (kp_at x0 x1 x2) ⟨Nat.le_refl _, fun e => by cases e⟩ kp_may km ⟨by decide, by decide⟩ ⟨by decide, by decide⟩)
  have e0 : w4.cell? ⟨w.heap.size + 1 + 1 + 1, 0, none⟩ = some (.int .i64 0) := by rw [cell_of_row _ _ _ _ _ _ x3]; rfl
  have e1 : w4.cell? ⟨w.heap.size + 1 + 1 + 1, 1, none⟩ = some (.slice (some ⟨w.heap.size + 1 + 1, 0, none⟩) 2 2) := by rw [cell_of_row _ _ _ _ _ _ x3]; rfl
  have HW4 := Lib.hid hw4
  have HB4 := Lib.hid hb4
  clear hW hw4 z1 z2 z3 hb4 x0 x1 x2 x3
  go_enter Tryd.func7, Tryd.ntmps7
  go_upto_region 2 with fail
  rw [← HW4.out]
  go_upto_region 8 with (first
    | (go_at_call 8; refine HNEW.out.mono ?_; rintro e w5 ⟨M, a5, n5, c5, rfl, hm5, hb5⟩; have H5 := Lib.hid (And.intro hm5 (HB4.out.trans (hb5.mono HB4.out.size))); clear hm5 hb5)
    | (go_at_call 13; refine (run2_any _ M a5 n5 c5 (H5.out.1.below (H6.out.1.alloc H6.out.1.size _))).mono ?_; rintro e w8 ⟨va8, vc8, sa8, sc8, ta8, tc8, rfl, hb8⟩; have H8 := Lib.hid hb8; clear hb8)
    | (go_at_call 13; refine (run1_any _ M a5 n5 c5 H5.out.1).mono ?_; rintro e w6 ⟨va6, vc6, g6, sc6, ta6, tc6, rfl, hc6, hb6⟩; have H6 := Lib.hid (And.intro hb6 hc6); clear hb6 hc6))
  obtain ⟨w10, hw10⟩ : ∃ w10, w10 = (w8.alloc (.cells #[.slice va8 0 vc8, .int .i64 0, .int .i64 0, .slice sa8 0 sc8, .slice ta8 0 tc8] 46)).alloc (.cells #[.int .i64 15, .int .i64 1, .int .i64 0, .int .i64 2, .int .i64 1, .int .i64 7] 31) := ⟨_, rfl⟩
  rw [← hw10]
  have h8 := H8.out
  have hb10 : Below w8.heap.size w8 w10 := by rw [hw10]; exact ((Below.refl _ _).alloc (Nat.le_refl _) _).alloc (by simp) _
  have z8 : ∀ o : Obj, (w8.alloc o).heap.size = w8.heap.size + 1 := fun o => by simp
  have y4 : w10.heap[w6.heap.size]? = some (.cells #[.slice va6 0 vc6, .int .i64 1, .int .i64 0, .slice (some ⟨g6, 0, none⟩) 1 sc6, .slice ta6 0 tc6] 46 (0, 0)) := by
    have e8 := (h8.block w6.heap.size (by simp)).trans (heap_alloc_new w6 _)
    exact (hb10.block _ (Array.getElem?_eq_some_iff.1 e8).1).trans e8
  have y6 : w10.heap[w8.heap.size]? = some (.cells #[.slice va8 0 vc8, .int .i64 0, .int .i64 0, .slice sa8 0 sc8, .slice ta8 0 tc8] 46 (0, 0)) := by rw [hw10, heap_alloc_old _ _ (by rw [z8]; omega), heap_alloc_new]
  have y8 : w10.heap[w8.heap.size + 1]? = some (.cells #[.int .i64 15, .int .i64 1, .int .i64 0, .int .i64 2, .int .i64 1, .int .i64 7] 31 (0, 0)) := by
    rw [hw10]
    exact (congrArg (fun i => ((World.alloc _ _).heap[i]?)) (z8 _).symm).trans (heap_alloc_new _ _)
  have b68 : Below w6.heap.size w6 w8 := ((Below.refl _ w6).alloc (Nat.le_refl _) _).trans (h8.mono (by simp))
  have b610 : Below w6.heap.size w6 w10 := b68.trans (hb10.mono b68.size)
  have hg : ∀ c, c < 6 → w10.cell? ⟨g6, 0 + c, none⟩ = (CEv.enc kev)[c]? := fun c hc => by
    have h6 := H6.out.2 c hc
    obtain ⟨v, hv⟩ : ∃ v, (CEv.enc kev)[c]? = some v := ⟨(CEv.enc kev)[c]'(by rw [CEv.len]; exact hc), List.getElem?_eq_getElem _⟩
    rw [hv] at h6 ⊢
    exact (b610.cell (World.block_lt_of_cell? w6 _ h6)).trans h6
  have p0 : ∀ q : InB w10, q.w.cell? ⟨g6, 0, none⟩ = some (.int .i64 15) := fun q => cell_keep q (hg 0 (by decide))
  have p1 : ∀ q : InB w10, q.w.cell? ⟨g6, 1, none⟩ = some (.int .i64 1) := fun q => cell_keep q (hg 1 (by decide))
  have p2 : ∀ q : InB w10, q.w.cell? ⟨g6, 2, none⟩ = some (.int .i64 0) := fun q => cell_keep q (hg 2 (by decide))
  have p3 : ∀ q : InB w10, q.w.cell? ⟨g6, 3, none⟩ = some (.int .i64 2) := fun q => cell_keep q (hg 3 (by decide))
  have p4 : ∀ q : InB w10, q.w.cell? ⟨g6, 4, none⟩ = some (.int .i64 1) := fun q => cell_keep q (hg 4 (by decide))
  have p5 : ∀ q : InB w10, q.w.cell? ⟨g6, 5, none⟩ = some (.int .i64 7) := fun q => cell_keep q (hg 5 (by decide))
  have r0 : ∀ q : InB w10, q.w.cell? ⟨w8.heap.size + 1, 0, none⟩ = some (.int .i64 15) := fun q => cell_keep q (by rw [cell_of_row _ _ _ _ _ _ y8]; rfl)
  have r1 : ∀ q : InB w10, q.w.cell? ⟨w8.heap.size + 1, 1, none⟩ = some (.int .i64 1) := fun q => cell_keep q (by rw [cell_of_row _ _ _ _ _ _ y8]; rfl)
  have r2 : ∀ q : InB w10, q.w.cell? ⟨w8.heap.size + 1, 2, none⟩ = some (.int .i64 0) := fun q => cell_keep q (by rw [cell_of_row _ _ _ _ _ _ y8]; rfl)
  have r3 : ∀ q : InB w10, q.w.cell? ⟨w8.heap.size + 1, 3, none⟩ = some (.int .i64 2) := fun q => cell_keep q (by rw [cell_of_row _ _ _ _ _ _ y8]; rfl)
  have r4 : ∀ q : InB w10, q.w.cell? ⟨w8.heap.size + 1, 4, none⟩ = some (.int .i64 1) := fun q => cell_keep q (by rw [cell_of_row _ _ _ _ _ _ y8]; rfl)
  have r5 : ∀ q : InB w10, q.w.cell? ⟨w8.heap.size + 1, 5, none⟩ = some (.int .i64 7) := fun q => cell_keep q (by rw [cell_of_row _ _ _ _ _ _ y8]; rfl)
  have s1 : ∀ q : InB w10, q.w.cell? ⟨w6.heap.size, 1, none⟩ = some (.int .i64 1) := fun q => cell_keep q (by rw [cell_of_row _ _ _ _ _ _ y4]; rfl)
  have s3 : ∀ q : InB w10, q.w.cell? ⟨w6.heap.size, 3, none⟩ = some (.slice (some ⟨g6, 0, none⟩) 1 sc6) := fun q => cell_keep q (by rw [cell_of_row _ _ _ _ _ _ y4]; rfl)
  have t3 : ∀ q : InB w10, q.w.cell? ⟨w8.heap.size, 3, none⟩ = some (.slice sa8 0 sc8) := fun q => cell_keep q (by rw [cell_of_row _ _ _ _ _ _ y6]; rfl)
  have t4 : ∀ q : InB w10, q.w.cell? ⟨w8.heap.size, 4, none⟩ = some (.slice ta8 0 tc8) := fun q => cell_keep q (by rw [cell_of_row _ _ _ _ _ _ y6]; rfl)
  have he := evEq 15 1 0 2 1 7
  have hgd := fun (op : BinOp) (x y : Operand) (xs ys : Array Value) (w : World) => run_eqGuard_agg (P := Tryd.prog) w op 31 x y xs ys evGuard
  have HB10 := Lib.hid (H5.out.2.trans ((H6.out.1.trans (b610.mono H6.out.1.size)).mono H5.out.2.size))
  clear hw10 h8 hb10 z8 y4 y6 y8 b68 b610 hg e0 e1
  refine wp_region_below (by kernel_rfl) (by kernel_rfl) ?_
  repeat (refine WQ.step (fun K hK => ?_); go_simp; first | (refine hK _ ?_; clear hK K) | (apply Exists.intro; refine ⟨fun _ => ?_, hK _ ?_⟩; (fail); clear hK K))
  refine WQ.nil ?_
  intro w11 hw11
  obtain ⟨pq, hpq⟩ := hw11
  have HP := Lib.hid (HB10.out.trans (pq.h.mono HB10.out.size))
  rw [← hpq] at HP
  clear hpq pq p0 p1 p2 p3 p4 p5 r0 r1 r2 r3 r4 r5 s1 s3 t3 t4 he hgd
  go_wp2
  go_ret
  exact ⟨rfl, HP.out⟩
end Go.Proofs.YtppidbnbfipgnaaDoor
