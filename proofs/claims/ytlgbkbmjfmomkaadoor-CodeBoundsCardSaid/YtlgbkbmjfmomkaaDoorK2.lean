/-
  The law CodeBounds, walked.
-/
import Derived.Test.YtlgbkbmjfmomkaaDoorK1
namespace Go.Proofs.YtlgbkbmjfmomkaaDoor
open Go.RowKit CodM

abbrev okKs : List (List Ins) := [endsL 128, [(13, 2), (14, 0)], [(15, 7), (3, 7), (1, -9223372036854775808)], [], [], [], [], []]
abbrev okP : Prg := ⟨8, okKs⟩
theorem ok_may : CodM.may (codeNk okP) okP = true := by kernel_rfl
theorem bounds_ok {w : World} {S : Nat} (l : w.heap[S]? = some (.cells (longC 129) 49)) (k : w.heap[S + 1]? = some (.cells #[.slice (some ⟨S, 0, none⟩) 128 129, .slice (some ⟨S + 3, 0, none⟩) 2 2, .slice (some ⟨S + 3 + 1, 0, none⟩) 3 3, .slice none 0 0, .slice none 0 0, .slice none 0 0, .slice none 0 0, .slice none 0 0] 46))
    (a : w.heap[S + 3]? = some (.cells #[.int .i64 13, .int .i64 2, .int .i64 14, .int .i64 0] 49)) (d : w.heap[S + 3 + 1]? = some (.cells #[.int .i64 15, .int .i64 7, .int .i64 3, .int .i64 7, .int .i64 1, .int .i64 (-9223372036854775808)] 49)) : ProgAt w (some ⟨S + 1, 0, none⟩) 8 okP := by
  have iw : ∀ x : Ins, x ∈ ([(13, 2), (14, 0), (15, 7), (3, 7), (1, -9223372036854775808)] : List Ins) → I64 x.1 ∧ I64 x.2 := by
    intro x hx
    unfold I64
    simp only [List.mem_cons, List.not_mem_nil, or_false] at hx
    rcases hx with rfl | rfl | rfl | rfl | rfl <;> simp
  have hnil : InsAt w none 0 [] := ⟨rfl, by simp, by omega, .inl rfl⟩
  have hso : SlOk none 0 0 := ⟨Nat.le_refl _, fun _ => rfl⟩
  refine ⟨by show -9223372036854775808 ≤ (8 : Int) ∧ (8 : Int) ≤ 9223372036854775807; omega, rfl, by omega, .inr ⟨S + 1, 0, rfl, heap_lt k, fun i hi => ?_⟩⟩
  rw [cell_of_row _ _ _ _ _ _ k]
  match i, hi with
  | 0, _ => exact ⟨_, _, _, rfl, ⟨by omega, fun e => by cases e⟩, longC_ins l 128 (by omega)⟩
  | 1, _ => exact ⟨_, _, _, rfl, ⟨by omega, fun e => by cases e⟩, ⟨rfl, fun x hx => iw x (by simp [okKs] at hx; rcases hx with rfl | rfl <;> simp), by omega, .inr ⟨S + 3, 0, rfl, heap_lt a, fun j hj => by
      rw [cell_of_row _ _ _ _ _ _ a, cell_of_row _ _ _ _ _ _ a]
      match j, hj with
      | 0, _ => exact ⟨rfl, rfl⟩
      | 1, _ => exact ⟨rfl, rfl⟩⟩⟩⟩
  | 2, _ => exact ⟨_, _, _, rfl, ⟨by omega, fun e => by cases e⟩, ⟨rfl, fun x hx => iw x (by simp [okKs] at hx; rcases hx with rfl | rfl | rfl <;> simp), by omega, .inr ⟨S + 3 + 1, 0, rfl, heap_lt d, fun j hj => by
      rw [cell_of_row _ _ _ _ _ _ d, cell_of_row _ _ _ _ _ _ d]
      match j, hj with
      | 0, _ => exact ⟨rfl, rfl⟩
      | 1, _ => exact ⟨rfl, rfl⟩
      | 2, _ => exact ⟨rfl, rfl⟩⟩⟩⟩
  | 3, _ => exact ⟨_, _, _, rfl, hso, hnil⟩
  | 4, _ => exact ⟨_, _, _, rfl, hso, hnil⟩
  | 5, _ => exact ⟨_, _, _, rfl, hso, hnil⟩
  | 6, _ => exact ⟨_, _, _, rfl, hso, hnil⟩
  | 7, _ => exact ⟨_, _, _, rfl, hso, hnil⟩

theorem one_kind {W : World} {a : Option Addr} {n c : Nat} {l : List Ins} (h : InsAt W a n l) (hs : SlOk a n c) (t : TypeId) (fr : Nat × Nat) : ProgAt (W.alloc (.cells #[.slice a n c] t fr)) (some ⟨W.heap.size, 0, none⟩) 1 ⟨0, [l]⟩ := by
  refine ⟨by show -9223372036854775808 ≤ (0 : Int) ∧ (0 : Int) ≤ 9223372036854775807; omega, rfl, by omega, .inr ⟨W.heap.size, 0, rfl, by simp, fun i hi => ?_⟩⟩
  obtain rfl : i = 0 := by omega
  exact ⟨a, n, c, by rw [cell_of_row _ _ _ _ _ _ (heap_alloc_new W _)]; rfl, hs, h.below ((Below.refl _ _).alloc (Nat.le_refl _) _) (Nat.le_refl _)⟩
theorem one_ins (W : World) (x y : Int) (hx : I64 x) (hy : I64 y) (fr : Nat × Nat) : InsAt (W.alloc (.cells #[.int .i64 x, .int .i64 y] 49 fr)) (some ⟨W.heap.size, 0, none⟩) 1 [(x, y)] := by
  refine ⟨rfl, fun z hz => ?_, by omega, .inr ⟨W.heap.size, 0, rfl, by simp, fun i hi => ?_⟩⟩
  · simp at hz; subst hz; exact ⟨hx, hy⟩
  · obtain rfl : i = 0 := by omega
    rw [cell_of_row _ _ _ _ _ _ (heap_alloc_new W _), cell_of_row _ _ _ _ _ _ (heap_alloc_new W _)]
    exact ⟨rfl, rfl⟩
theorem long_may : CodM.may (codeNk ⟨0, [endsL 129]⟩) ⟨0, [endsL 129]⟩ = false := by kernel_rfl
abbrev badL : List Ins := [(13, 2), (14, -1), (15, 1), (2, 0), (8, 1), (0, 0), (18, 0)]
abbrev badC : Array Value := #[.int .i64 13, .int .i64 2, .int .i64 14, .int .i64 (-1), .int .i64 15, .int .i64 1, .int .i64 2, .int .i64 0, .int .i64 8, .int .i64 1, .int .i64 0, .int .i64 0, .int .i64 18, .int .i64 0]
theorem bad_at : ∀ k, k < 7 → ∃ x y, badC[k * 2]? = some (.int .i64 x) ∧ badC[k * 2 + 1]? = some (.int .i64 y) ∧ I64 x ∧ I64 y ∧ CodM.may (codeNk ⟨0, [[(x, y)]]⟩) ⟨0, [[(x, y)]]⟩ = false
  | 0, _ => ⟨_, _, rfl, rfl, by unfold I64; omega, by unfold I64; omega, by kernel_rfl⟩
  | 1, _ => ⟨_, _, rfl, rfl, by unfold I64; omega, by unfold I64; omega, by kernel_rfl⟩
  | 2, _ => ⟨_, _, rfl, rfl, by unfold I64; omega, by unfold I64; omega, by kernel_rfl⟩
  | 3, _ => ⟨_, _, rfl, rfl, by unfold I64; omega, by unfold I64; omega, by kernel_rfl⟩
  | 4, _ => ⟨_, _, rfl, rfl, by unfold I64; omega, by unfold I64; omega, by kernel_rfl⟩
  | 5, _ => ⟨_, _, rfl, rfl, by unfold I64; omega, by unfold I64; omega, by kernel_rfl⟩
  | 6, _ => ⟨_, _, rfl, rfl, by unfold I64; omega, by unfold I64; omega, by kernel_rfl⟩
def BadRel (wb : World) (g : Nat) (i : Value) (wr : World) : Prop := ∃ k : Nat, k ≤ 7 ∧ i = .int .i64 k ∧ wr.heap[g]? = some (.cells badC 49 (0, 0)) ∧ Below wb.heap.size wb wr

set_option maxHeartbeats 4000000 in
set_option maxRecDepth 100000 in
theorem bounds_law (w : World) (hG : Glo w) : Calls Tryd.prog 8 #[] w (TellsBB true w) := by
  have HG := Lib.hid hG
  have hmk : ∀ w : World, (Instr.makeSlice 46 (.int .i64 129) (.int .i64 129)).run Tryd.prog w = .ok (.slice (some ⟨w.heap.size, 0, none⟩) 129 129) (w.alloc (.cells (zeroI 129) 49)) := madeI 129 (by omega)
  obtain ⟨Z, hZ⟩ : ∃ Z, Z = zeroI 129 := ⟨_, rfl⟩
  rw [← hZ] at hmk
  have HZ := Lib.hid hZ
  have hms8 : ∀ w : World, (Instr.makeSlice 22 (.int .i64 8) (.int .i64 8)).run Tryd.prog w = .ok (.slice (some ⟨w.heap.size, 0, none⟩) 8 8) (w.alloc (.cells (zeroS 8) 46)) := madeS 8 (by omega)
  have hms9 : ∀ w : World, (Instr.makeSlice 22 (.int .i64 9) (.int .i64 9)).run Tryd.prog w = .ok (.slice (some ⟨w.heap.size, 0, none⟩) 9 9) (w.alloc (.cells (zeroS 9) 46)) := madeS 9 (by omega)
  have hz8 : zeroS 8 = #[.slice none 0 0, .slice none 0 0, .slice none 0 0, .slice none 0 0, .slice none 0 0, .slice none 0 0, .slice none 0 0, .slice none 0 0] := by kernel_rfl
  have hz9 : zeroS 9 = #[.slice none 0 0, .slice none 0 0, .slice none 0 0, .slice none 0 0, .slice none 0 0, .slice none 0 0, .slice none 0 0, .slice none 0 0, .slice none 0 0] := by kernel_rfl
  rw [hz8] at hms8
  rw [hz9] at hms9
  clear hG hZ hz8 hz9
  go_enter Tryd.func8, Tryd.ntmps8
  go_wp2
  clear hmk
  go_loopw [2] (fun i wr => LongRel w i wr) (fun i _ => 129 - (intOf i).toNat)
  case atStart => exact ⟨0, by omega, rfl, by rw [heap_alloc_new, HZ.out, longC_zero], (Below.refl _ _).alloc (Nat.le_refl _) _, by simp⟩
  case round =>
    obtain ⟨k, hk, rfl, hL, hb, hs⟩ := hrel
    have HL := Lib.hid hL
    have HB := Lib.hid hb
    have HS := Lib.hid hs
    by_cases hlt : k < 129
    · obtain ⟨u, hu⟩ : ∃ u, wr.cell? ⟨w.heap.size, k * 2, none⟩ = some (.int .i64 u) := ⟨_, by rw [cell_of_row _ _ _ _ _ _ hL, longC_get _ _ (by omega)]⟩
      have f0 : wr.frozen? ⟨w.heap.size, k * 2, none⟩ = false := frozen_of_row _ _ _ _ _ hL
      clear hL hb hs
      go_wp2
      go_roundw
      case rel =>
        have hset := heap_setCell_same wr w.heap.size (k * 2) _ _ (.int .i64 17) HL.out
        rw [longC_step k hlt] at hset
        exact ⟨k + 1, by omega, by go_num, hset, HB.out.setCell (Nat.le_refl _) _, by simp [World.setCell]; exact HS.out⟩
      case measure => simp [intOf]; omega
    · obtain rfl : k = 129 := by omega
      clear hL hb hs
      go_wp2
      obtain ⟨L, hLw⟩ : ∃ L, L = w.heap.size := ⟨_, rfl⟩
      obtain ⟨w7, hw7⟩ : ∃ w7, w7 = (wr.alloc (.cells #[.slice none 0 0, .slice none 0 0, .slice none 0 0, .slice none 0 0, .slice none 0 0, .slice none 0 0, .slice none 0 0, .slice none 0 0] 46)).alloc (.cells #[.int .i64 8, .slice (some ⟨wr.heap.size, 0, none⟩) 8 8] 24) := ⟨_, rfl⟩
      have hsr := HS.out
      have l7 : w7.heap[w.heap.size]? = some (.cells (longC 129) 49) := by rw [hw7]; exact (heap_alloc_old _ _ (by simp; omega)).trans ((heap_alloc_old _ _ (by omega)).trans HL.out)
      have k7 : w7.heap[w.heap.size + 1]? = some (.cells #[.slice none 0 0, .slice none 0 0, .slice none 0 0, .slice none 0 0, .slice none 0 0, .slice none 0 0, .slice none 0 0, .slice none 0 0] 46) := by rw [hw7, ← hsr]; exact (heap_alloc_old _ _ (by simp)).trans (heap_alloc_new _ _)
      have p7 : w7.heap[w.heap.size + 2]? = some (.cells #[.int .i64 8, .slice (some ⟨w.heap.size + 1, 0, none⟩) 8 8] 24) := by
        have := heap_alloc_new (wr.alloc (.cells #[.slice none 0 0, .slice none 0 0, .slice none 0 0, .slice none 0 0, .slice none 0 0, .slice none 0 0, .slice none 0 0, .slice none 0 0] 46)) (.cells #[.int .i64 8, .slice (some ⟨wr.heap.size, 0, none⟩) 8 8] 24)
        rw [← hw7] at this
        simpa [hsr] using this
      have s7 : w7.heap.size = w.heap.size + 3 := by rw [hw7]; simp [hsr]
      have b7 : Below w.heap.size w w7 := by rw [hw7]; exact (HB.out.alloc (by omega) _).alloc (by simp; omega) _
      rw [← hw7, hsr]
      have L7 := Lib.hid l7
      have K7 := Lib.hid k7
      have P7 := Lib.hid p7
      have S7 := Lib.hid s7
      have B7 := Lib.hid b7
      have c0 : w7.cell? ⟨w.heap.size + 2, 1, none⟩ = some (.slice (some ⟨w.heap.size + 1, 0, none⟩) 8 8) := by rw [cell_of_row _ _ _ _ _ _ p7]; rfl
      have c1 : w7.cell? ⟨w.heap.size + 1, 0, none⟩ = some (.slice none 0 0) := by rw [cell_of_row _ _ _ _ _ _ k7]; rfl
      have f1 : w7.frozen? ⟨w.heap.size + 1, 0, none⟩ = false := frozen_of_row _ _ _ _ _ k7
      clear hw7 hsr l7 k7 p7 s7 b7
      go_region
      obtain ⟨w8, hw8⟩ : ∃ w8, w8 = (w7.setCell ⟨w.heap.size + 1, 0, none⟩ (.slice (some ⟨w.heap.size, 0, none⟩) 128 129)).drew := ⟨_, rfl⟩
      have l8 : w8.heap[w.heap.size]? = some (.cells (longC 129) 49) := by rw [hw8]; exact (Below.heap_setCell _ _ _ _ (by show w.heap.size ≠ w.heap.size + 1; omega)).trans L7.out
      have k8 : w8.heap[w.heap.size + 1]? = some (.cells #[.slice (some ⟨w.heap.size, 0, none⟩) 128 129, .slice none 0 0, .slice none 0 0, .slice none 0 0, .slice none 0 0, .slice none 0 0, .slice none 0 0, .slice none 0 0] 46) := by rw [hw8]; exact heap_setCell_same w7 (w.heap.size + 1) 0 _ _ _ K7.out
      have p8 : w8.heap[w.heap.size + 2]? = some (.cells #[.int .i64 8, .slice (some ⟨w.heap.size + 1, 0, none⟩) 8 8] 24) := by rw [hw8]; exact (Below.heap_setCell _ _ _ _ (by show w.heap.size + 2 ≠ w.heap.size + 1; omega)).trans P7.out
      have s8 : w8.heap.size = w.heap.size + 3 := by rw [hw8]; simpa [World.setCell] using S7.out
      have b8 : Below w.heap.size w w8 := by rw [hw8]; exact (B7.out.setCell (by show w.heap.size ≤ w.heap.size + 1; omega) _).drew
      rw [← hw8]
      have L8 := Lib.hid l8
      have K8 := Lib.hid k8
      have P8 := Lib.hid p8
      have S8 := Lib.hid s8
      have B8 := Lib.hid b8
      clear c0 c1 f1 hw8
      have c00 : w8.cell? ⟨w.heap.size + 2, 0, none⟩ = some (.int .i64 8) := by rw [cell_of_row _ _ _ _ _ _ p8]; rfl
      have c0 : w8.cell? ⟨w.heap.size + 2, 1, none⟩ = some (.slice (some ⟨w.heap.size + 1, 0, none⟩) 8 8) := by rw [cell_of_row _ _ _ _ _ _ p8]; rfl
      have c1 : w8.cell? ⟨w.heap.size + 1, 1, none⟩ = some (.slice none 0 0) := by rw [cell_of_row _ _ _ _ _ _ k8]; rfl
      have c2 : w8.cell? ⟨w.heap.size + 1, 2, none⟩ = some (.slice none 0 0) := by rw [cell_of_row _ _ _ _ _ _ k8]; rfl
      have f1 : w8.frozen? ⟨w.heap.size + 1, 1, none⟩ = false := frozen_of_row _ _ _ _ _ k8
      have f2 : w8.frozen? ⟨w.heap.size + 1, 2, none⟩ = false := frozen_of_row _ _ _ _ _ k8
      clear l8 k8 p8 b8
      go_wp2_with (first
        | (go_at_call 14; refine Hid.out ?_))
      clear c00 c0 c1 c2 f1 f2
      obtain ⟨ws, hws⟩ : ∃ ws, ws = (w8.setCell ⟨w.heap.size + 1, 1, none⟩ (.slice (some ⟨w.heap.size + 3, 0, none⟩) 2 2)).setCell ⟨w.heap.size + 1, 2, none⟩ (.slice (some ⟨w.heap.size + 3 + 1, 0, none⟩) 3 3) := ⟨_, rfl⟩
      have ls : ws.heap[w.heap.size]? = some (.cells (longC 129) 49) := by rw [hws]; exact (Below.heap_setCell _ _ _ _ (by show w.heap.size ≠ w.heap.size + 1; omega)).trans ((Below.heap_setCell _ _ _ _ (by show w.heap.size ≠ w.heap.size + 1; omega)).trans L8.out)
      have ks : ws.heap[w.heap.size + 1]? = some (.cells #[.slice (some ⟨w.heap.size, 0, none⟩) 128 129, .slice (some ⟨w.heap.size + 3, 0, none⟩) 2 2, .slice (some ⟨w.heap.size + 3 + 1, 0, none⟩) 3 3, .slice none 0 0, .slice none 0 0, .slice none 0 0, .slice none 0 0, .slice none 0 0] 46) := by rw [hws]; exact heap_setCell_same _ (w.heap.size + 1) 2 _ _ _ (heap_setCell_same w8 (w.heap.size + 1) 1 _ _ _ K8.out)
      have ps : ws.heap[w.heap.size + 2]? = some (.cells #[.int .i64 8, .slice (some ⟨w.heap.size + 1, 0, none⟩) 8 8] 24) := by rw [hws]; exact (Below.heap_setCell _ _ _ _ (by show w.heap.size + 2 ≠ w.heap.size + 1; omega)).trans ((Below.heap_setCell _ _ _ _ (by show w.heap.size + 2 ≠ w.heap.size + 1; omega)).trans P8.out)
      have ss : ws.heap.size = w.heap.size + 3 := by rw [hws]; simpa [World.setCell] using S8.out
      have bs : Below w.heap.size w ws := by rw [hws]; exact ((B8.out.setCell (by show w.heap.size ≤ w.heap.size + 1; omega) _).setCell (by show w.heap.size ≤ w.heap.size + 1; omega) _)
      obtain ⟨w9, hw9⟩ : ∃ w9, w9 = (ws.alloc (.cells #[.int .i64 13, .int .i64 2, .int .i64 14, .int .i64 0] 49)).alloc (.cells #[.int .i64 15, .int .i64 7, .int .i64 3, .int .i64 7, .int .i64 1, .int .i64 (-9223372036854775808)] 49) := ⟨_, rfl⟩
      rw [← hws, ← hw9]
      have l9 : w9.heap[w.heap.size]? = some (.cells (longC 129) 49) := by rw [hw9]; exact (heap_alloc_old _ _ (by simp; omega)).trans ((heap_alloc_old _ _ (by omega)).trans ls)
      have k9 : w9.heap[w.heap.size + 1]? = some (.cells #[.slice (some ⟨w.heap.size, 0, none⟩) 128 129, .slice (some ⟨w.heap.size + 3, 0, none⟩) 2 2, .slice (some ⟨w.heap.size + 3 + 1, 0, none⟩) 3 3, .slice none 0 0, .slice none 0 0, .slice none 0 0, .slice none 0 0, .slice none 0 0] 46) := by rw [hw9]; exact (heap_alloc_old _ _ (by simp; omega)).trans ((heap_alloc_old _ _ (by omega)).trans ks)
      have p9 : w9.heap[w.heap.size + 2]? = some (.cells #[.int .i64 8, .slice (some ⟨w.heap.size + 1, 0, none⟩) 8 8] 24) := by rw [hw9]; exact (heap_alloc_old _ _ (by simp; omega)).trans ((heap_alloc_old _ _ (by omega)).trans ps)
      have a9 : w9.heap[w.heap.size + 3]? = some (.cells #[.int .i64 13, .int .i64 2, .int .i64 14, .int .i64 0] 49) := by rw [hw9, ← ss]; exact (heap_alloc_old _ _ (by simp)).trans (heap_alloc_new _ _)
      have d9 : w9.heap[w.heap.size + 3 + 1]? = some (.cells #[.int .i64 15, .int .i64 7, .int .i64 3, .int .i64 7, .int .i64 1, .int .i64 (-9223372036854775808)] 49) := by
        have := heap_alloc_new (ws.alloc (.cells #[.int .i64 13, .int .i64 2, .int .i64 14, .int .i64 0] 49)) (.cells #[.int .i64 15, .int .i64 7, .int .i64 3, .int .i64 7, .int .i64 1, .int .i64 (-9223372036854775808)] 49)
        rw [← hw9] at this
        simpa [ss] using this
      have b9 : Below w.heap.size w w9 := by rw [hw9]; exact (bs.alloc (by omega) _).alloc (by simp; omega) _
      have HP9 := Lib.hid (bounds_ok l9 k9 a9 d9)
      have HL9 := Lib.hid (longC_ins l9 129 (by omega))
      have L9 := Lib.hid l9
      have P9 := Lib.hid p9
      have B9 := Lib.hid b9
      have BC := Lib.hid (Below.refl w9.heap.size w9)
      have sz9 := heap_lt p9
      have c0 : w9.cell? ⟨w.heap.size + 2, 1, none⟩ = some (.slice (some ⟨w.heap.size + 1, 0, none⟩) 8 8) := by rw [cell_of_row _ _ _ _ _ _ p9]; rfl
      have C9 := Lib.hid c0
      have hm8 := Lib.hid ok_may
      clear ls ks ps ss bs hws hw9 l9 k9 p9 a9 d9 b9 s8
      refine Lib.hid ?_
      go_wp2_with (first
        | (go_at_call 14; refine (may_any _ _ _ okP _ (HG.out.words.next (B9.out.trans (BC.out.mono B9.out.size)) (Nat.le_refl _)) HP9.out).mono ?_; rintro e w10 ⟨rfl, hb⟩; rw [hm8.out]; replace BC := Lib.hid (BC.out.trans (hb.mono BC.out.size)); have c1 := (BC.out.cell (p := ⟨w.heap.size + 2, 1, none⟩) sz9).trans C9.out; clear hb)
        | (go_at_call 14; refine (may_head_any _ _ _ _ _ (by unfold I64; omega) (by omega) (by omega)).mono ?_; rintro e w11 ⟨rfl, hb⟩; (first | (replace BC := Lib.hid (BC.out.trans (hb.mono BC.out.size))) | (replace BC := Lib.hid (BC.out.trans ((((Below.refl _ _).alloc (Nat.le_refl _) _).trans (hb.mono (by simp))).mono BC.out.size)))); have c2 := (BC.out.cell (p := ⟨w.heap.size + 2, 1, none⟩) sz9).trans C9.out; clear hb)
        | (go_at_call 14; refine (may_any _ _ _ ⟨0, [endsL 129]⟩ _ ((HG.out.words.next (B9.out.trans (BC.out.mono B9.out.size)) (Nat.le_refl _)).alloc _) (one_kind (HL9.out.below BC.out (Nat.le_refl _)) ⟨by omega, fun e => by cases e⟩ _ _)).mono ?_; rintro e w12 ⟨rfl, hb⟩; rw [long_may]; replace BC := Lib.hid (BC.out.trans ((((Below.refl _ _).alloc (Nat.le_refl _) _).trans (hb.mono (by simp))).mono BC.out.size)); clear hb))
      have BW := Lib.hid (B9.out.trans (BC.out.mono B9.out.size))
      clear hms8 hms9
      go_loopw [5] (fun i wr => BadRel w12 w12.heap.size i wr) (fun i _ => 7 - (intOf i).toNat)
      case atStart => exact ⟨0, by omega, rfl, heap_alloc_new _ _, (Below.refl _ _).alloc (Nat.le_refl _) _⟩
      case round =>
        obtain ⟨k, hk, rfl, hg, hb⟩ := hrel
        have hgl := heap_lt hg
        by_cases hlt : k < 7
        · obtain ⟨x, y, hx, hy, ix, iy, hbad⟩ := bad_at k hlt
          have c1 : wr.cell? ⟨w12.heap.size, k * 2, none⟩ = some (.int .i64 x) := by rw [cell_of_row _ _ _ _ _ _ hg]; exact hx
          have c2 : wr.cell? ⟨w12.heap.size, k * 2 + 1, none⟩ = some (.int .i64 y) := by rw [cell_of_row _ _ _ _ _ _ hg]; exact hy
          have HG2 := Lib.hid hg
          have HBR := Lib.hid hb
          have HBAD := Lib.hid hbad
          have IX := Lib.hid ix
          have IY := Lib.hid iy
          have HWR := Lib.hid (HG.out.words.next (BW.out.trans (hb.mono BW.out.size)) (Nat.le_refl _))
          clear hg hb hbad ix iy hx hy
          go_wp2_with (first
            | (go_at_call 14; refine (may_any _ _ _ ⟨0, [[(x, y)]]⟩ _ ((HWR.out.alloc _).alloc _) ?_).mono ?_; (have h := one_kind (c := 1) (one_ins wr x y IX.out IY.out (0, 0)) ⟨by omega, fun e => by cases e⟩ 46 (0, 0); simpa using h); rintro e w13 ⟨rfl, hb⟩; rw [HBAD.out]; have HB3 := Lib.hid ((((Below.refl wr.heap.size wr).alloc (Nat.le_refl _) _).alloc (by simp) _).trans (hb.mono (by simp; omega))); clear hb))
          go_roundw
          case rel => exact ⟨k + 1, by omega, by go_num, (HB3.out.block _ (by omega)).trans HG2.out, HBR.out.trans (HB3.out.mono HBR.out.size)⟩
          case measure => simp [intOf]; omega
        · have HBR := Lib.hid (BW.out.trans (hb.mono BW.out.size))
          clear hg hb
          go_wp2_with (first
            | (go_at_call 10; refine (known_any _ (HG.out.next HBR.out (Nat.le_refl _))).mono ?_; rintro e w3 ⟨rfl, hb⟩; have HB3 := Lib.hid (HBR.out.trans (hb.mono HBR.out.size)); clear hb))
          go_ret
          exact ⟨rfl, HB3.out⟩
end Go.Proofs.YtlgbkbmjfmomkaaDoor
