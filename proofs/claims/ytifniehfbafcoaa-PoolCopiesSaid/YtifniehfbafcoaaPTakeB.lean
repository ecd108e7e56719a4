/-
  The walk of Take.
-/
import Derived.Test.YtifniehfbafcoaaPTake
namespace Go.Proofs.Ytifniehfbafcoaa
open Go Go.RowKit Go.Lib Go.Sort Go.Proofs

/-- a box of a message, its cells by their numbers -/
theorem box_lit {w : World} {R : Nat} {x : Ms} (h : w.heap[R]? = some (MsO x)) :
    (w.cell? ⟨R, 0, none⟩ = some (.int .i64 x.1.1.1) ∧ w.cell? ⟨R, 1, none⟩ = some (.int .i64 x.1.1.2.1) ∧ w.cell? ⟨R, 2, none⟩ = some (.int .i64 x.1.1.2.2) ∧ w.cell? ⟨R, 3, none⟩ = some (.int .i64 x.1.2.1) ∧ w.cell? ⟨R, 4, none⟩ = some (.int .i64 x.1.2.2.1) ∧
      w.cell? ⟨R, 5, none⟩ = some (.int .i64 x.1.2.2.2) ∧ w.cell? ⟨R, 6, none⟩ = some (.int .i64 x.2.1) ∧ w.cell? ⟨R, 7, none⟩ = some (.bool x.2.2.1) ∧ w.cell? ⟨R, 8, none⟩ = some (.bool x.2.2.2.1) ∧ w.cell? ⟨R, 9, none⟩ = some (.int .i64 x.2.2.2.2)) ∧
    w.frozen? ⟨R, 0, none⟩ = false ∧ w.frozen? ⟨R, 1, none⟩ = false ∧ w.frozen? ⟨R, 2, none⟩ = false ∧ w.frozen? ⟨R, 3, none⟩ = false ∧ w.frozen? ⟨R, 4, none⟩ = false ∧ w.frozen? ⟨R, 5, none⟩ = false ∧ w.frozen? ⟨R, 6, none⟩ = false ∧ w.frozen? ⟨R, 7, none⟩ = false ∧ w.frozen? ⟨R, 8, none⟩ = false ∧ w.frozen? ⟨R, 9, none⟩ = false := by
  obtain ⟨⟨x0, x1, x2, x3, x4, x5, x6, x7, x8, x9⟩, f⟩ := box_here h
  exact ⟨⟨x0, x1, x2, x3, x4, x5, x6, x7, x8, x9⟩, f⟩
/-- .. behind one block more -/
theorem box_alloc {w : World} {R : Nat} {x : Ms} (h : w.heap[R]? = some (MsO x)) : ((∀ o, (w.alloc o).cell? ⟨R, 0, none⟩ = some (.int .i64 x.1.1.1)) ∧ (∀ o, (w.alloc o).cell? ⟨R, 1, none⟩ = some (.int .i64 x.1.1.2.1)) ∧ (∀ o, (w.alloc o).cell? ⟨R, 2, none⟩ = some (.int .i64 x.1.1.2.2)) ∧ (∀ o, (w.alloc o).cell? ⟨R, 3, none⟩ = some (.int .i64 x.1.2.1)) ∧ (∀ o, (w.alloc o).cell? ⟨R, 4, none⟩ = some (.int .i64 x.1.2.2.1)) ∧ (∀ o, (w.alloc o).cell? ⟨R, 5, none⟩ = some (.int .i64 x.1.2.2.2)) ∧ (∀ o, (w.alloc o).cell? ⟨R, 6, none⟩ = some (.int .i64 x.2.1)) ∧ (∀ o, (w.alloc o).cell? ⟨R, 7, none⟩ = some (.bool x.2.2.1)) ∧ (∀ o, (w.alloc o).cell? ⟨R, 8, none⟩ = some (.bool x.2.2.2.1)) ∧ (∀ o, (w.alloc o).cell? ⟨R, 9, none⟩ = some (.int .i64 x.2.2.2.2))) ∧ (∀ o, (w.alloc o).frozen? ⟨R, 0, none⟩ = false) ∧ (∀ o, (w.alloc o).frozen? ⟨R, 1, none⟩ = false) ∧ (∀ o, (w.alloc o).frozen? ⟨R, 2, none⟩ = false) ∧ (∀ o, (w.alloc o).frozen? ⟨R, 3, none⟩ = false) ∧ (∀ o, (w.alloc o).frozen? ⟨R, 4, none⟩ = false) ∧ (∀ o, (w.alloc o).frozen? ⟨R, 5, none⟩ = false) ∧ (∀ o, (w.alloc o).frozen? ⟨R, 6, none⟩ = false) ∧ (∀ o, (w.alloc o).frozen? ⟨R, 7, none⟩ = false) ∧ (∀ o, (w.alloc o).frozen? ⟨R, 8, none⟩ = false) ∧ (∀ o, (w.alloc o).frozen? ⟨R, 9, none⟩ = false) := by
  have k : ∀ o, (w.alloc o).heap[R]? = some (MsO x) := fun o => (heap_alloc_old _ _ (Array.getElem?_eq_some_iff.1 h).1).trans h
  refine ⟨⟨?_, ?_, ?_, ?_, ?_, ?_, ?_, ?_, ?_, ?_⟩, ?_, ?_, ?_, ?_, ?_, ?_, ?_, ?_, ?_, ?_⟩ <;> intro o
  all_goals first
    | exact frozen_of_row _ _ _ _ _ (k o)
    | (rw [cell_of_row _ _ _ _ _ _ (k o)]; rfl)
set_option maxHeartbeats 2000000 in
theorem pl_take_none {w : World} {G : Nat} {F : Nat → Prop} {x : List Ms × Nat} (h : Pl w G F x) (i : Int) (hi : i < 0 ∨ (x.1.length : Int) ≤ i) : Calls Try.prog 16 #[.pointer (some ⟨G, 0, none⟩), .int .i64 i] w (MsTo msZ 6 w) := by
  have HH : Hid (Pl (w.alloc MsZO) G F x) := Thing.below (A := plT) h ((Below.refl _ _).alloc (Nat.le_refl _) _)
  have HI := Lib.hid hi
  have hbz : (w.alloc MsZO).heap[w.heap.size]? = some MsZO := heap_alloc_new _ _
  have HBZ := Lib.hid hbz
  have hsz : (w.alloc MsZO).heap.size = w.heap.size + 1 := by simp
  have HSZ := Lib.hid hsz
  clear h hi hbz hsz
  go_enter Try.func16, Try.ntmps16
  go_wp2_with (go_at_call 21; refine (pl_at_none HH.out i HI.out).mono ?_; rintro e w1 ⟨rfl, hb1⟩; have HB1 := Lib.hid hb1; obtain ⟨⟨x0, x1, x2, x3, x4, x5, x6, x7, x8, x9⟩, f0, f1, f2, f3, f4, f5, f6, f7, f8, f9⟩ := box_alloc (x := msZ) ((hb1.block _ (by have := HSZ.out; omega)).trans HBZ.out); clear hb1)
  refine bodyPost_ret (v := .tuple #[MsV msZ, .int .i64 6]) (by simp [results, Try.results16, go_sem, msZ, x0, x1, x2, x3, x4, x5, x6, x7, x8, x9]) rfl ⟨rfl, ?_⟩
  have hb := ((Below.refl w.heap.size w).alloc (Nat.le_refl _) MsZO).trans (HB1.out.mono (by have := HSZ.out; omega))
  exact below_set10 (hb.alloc hb.size _) (Nat.le_refl _) _ _ _ _ _ _ _ _ _ _
set_option maxHeartbeats 2000000 in
theorem pl_take {w : World} {G : Nat} {F : Nat → Prop} {x : List Ms × Nat} (h : Pl w G F x) (i : Nat) (y : Ms) (hy : x.1[i]? = some y) : Calls Try.prog 16 #[.pointer (some ⟨G, 0, none⟩), .int .i64 i] w (plT.To (.tuple #[MsV y, .int .i64 0]) G F (x.1.eraseIdx i, x.2) w) := by
  have H0 := Lib.hid h
  have HY := Lib.hid hy
  have hal : ∀ o : Obj, Below w.heap.size w (w.alloc o) := fun o => (Below.refl _ _).alloc (Nat.le_refl _) _
  have HH : Hid (Pl (w.alloc MsZO) G F x) := Thing.below (A := plT) h (hal _)
  have hbz : (w.alloc MsZO).heap[w.heap.size]? = some MsZO := heap_alloc_new _ _
  have HBZ := Lib.hid hbz
  have hsz : (w.alloc MsZO).heap.size = w.heap.size + 1 := by simp
  have HSZ := Lib.hid hsz
  obtain ⟨v, vs, bs, hx, hfl, hn1, hn2, hn3⟩ := h
  have hil : i < x.1.length := (List.getElem?_eq_some_iff.1 hy).1
  obtain ⟨mm, hmm⟩ : ∃ mm, mm = x.1.length - 1 := ⟨_, rfl⟩
  have HX := Lib.hid hx
  have HN : Hid (bs.flatten = x.1 ∧ i < bs.flatten.length ∧ x.1.length = mm + 1 ∧ x.1.length ≤ 1000000 ∧ bs.flatten.length ≤ 1000000 ∧ bs.length ≤ 1000000 ∧ bs.length ≤ x.2 ∧ x.2 ≤ 1000000 ∧ x.1.length ≤ x.2) := ⟨hfl, by rw [hfl]; exact hil, by omega, by omega, by rw [hfl]; omega, by omega, hn1, hn3, hn2⟩
  clear hy hbz hsz hx hfl hn1 hn2 hn3 hil hmm hal
  go_enter Try.func16, Try.ntmps16
  go_wp2_with (first
    | (go_at_call 21; refine (pl_at HH.out i y HY.out).mono ?_; rintro e w1 ⟨rfl, hb1⟩; have HB1 := Lib.hid hb1; clear hb1)
    | (go_at_call 31; refine (remove_any (w := w1.alloc (MsO y)) (HX.out.below (((Below.refl _ _).alloc (Nat.le_refl _) MsZO).trans ((HB1.out.alloc HB1.out.size _).mono (by have := HSZ.out; omega)))) i HN.out.2.1 mm HN.out.2.2.1 HN.out.2.2.2.1 HN.out.2.2.2.2.1 HN.out.2.2.2.2.2.1).mono ?_; rintro e w3 ⟨rfl, hr3⟩; have H3 := Lib.hid hr3; clear hr3; refine Hid.out ?_))
  have hs1 : w.heap.size + 1 ≤ w1.heap.size := by have := HB1.out.size; have := HSZ.out; omega
  obtain ⟨v3, vs3, bs3, hp3, hf3, hl3, hb3⟩ := H3.out
  have HP := Lib.hid hp3
  have HF : Hid (bs3.flatten = bs.flatten.eraseIdx i ∧ bs3.length ≤ bs.length) := ⟨hf3, hl3⟩
  have HB := Lib.hid hb3
  have hlt := HX.out.lt
  have hnF : ∀ b, w.heap.size ≤ b → ¬ F b := fun b hb e => by have := hlt b e; omega
  have e1 : w1.heap[w.heap.size]? = some MsZO := (HB1.out.block _ (by have := HSZ.out; omega)).trans HBZ.out
  have e2 : w3.heap[w.heap.size]? = some (MsO msZ) := (hb3.block _ (by simp; omega) (hnF _ (Nat.le_refl _))).trans ((heap_alloc_old _ _ (by omega)).trans e1)
  have e3 : w3.heap[w1.heap.size]? = some (MsO y) := (hb3.block _ (by simp) (hnF _ (by omega))).trans (heap_alloc_new _ _)
  obtain ⟨⟨x0, x1, x2, x3, x4, x5, x6, x7, x8, x9⟩, f0, f1, f2, f3, f4, f5, f6, f7, f8, f9⟩ := box_lit e2
  obtain ⟨⟨y0, y1, y2, y3, y4, y5, y6, y7, y8, y9⟩, -⟩ := box_lit e3
  have HE := Lib.hid hs1
  have HLT := Lib.hid hlt
  clear e1 e2 e3 hs1 hp3 hf3 hl3 hb3 hlt hnF H3
  refine Lib.hid ?_
  go_wp2
  refine bodyPost_ret (v := .tuple #[MsV y, .int .i64 0]) (by simp [results, Try.results16, go_sem, x0, x1, x2, x3, x4, x5, x6, x7, x8, x9]) rfl ?_
  have hb4 := but_set10 w3 w.heap.size (.int .i64 y.1.1.1) (.int .i64 y.1.1.2.1) (.int .i64 y.1.1.2.2) (.int .i64 y.1.2.1) (.int .i64 y.1.2.2.1) (.int .i64 y.1.2.2.2) (.int .i64 y.2.1) (.bool y.2.2.1) (.bool y.2.2.2.1) (.int .i64 y.2.2.2.2)
  have hbw : Below w.heap.size w (w1.alloc (MsO y)) := ((Below.refl _ _).alloc (Nat.le_refl _) MsZO).trans ((HB1.out.alloc HB1.out.size _).mono (by have := HSZ.out; omega))
  have hbF : But F w w3 := (But.of hbw).trans HB.out
  have hz := hb4.size
  have hz1 : w.heap.size < (w1.alloc (MsO y)).heap.size := by have := HE.out; simp; omega
  have hm : (x.1.eraseIdx i).length = mm := by
    have := HN.out.2.1
    rw [HN.out.1] at this
    have := HN.out.2.2.1
    rw [List.length_eraseIdx, if_pos (by omega)]
    omega
  have hx4 := HP.out.but hb4 (fun b e e2 => by
    rcases e with e | e
    · have := HLT.out b e
      omega
    · omega)
  refine ⟨rfl, ⟨v3, vs3, bs3, ?_, ?_, ?_, ?_, HN.out.2.2.2.2.2.2.2.1⟩, hbF.next hb4 fun j hj e => by omega⟩
  · show PlX _ _ _ _ _ _ (x.1.eraseIdx i).length x.2
    rw [hm]
    refine hx4.wide (fun b e => e.imp id fun e => ⟨by omega, by omega⟩) fun b e => ?_
    rcases e with e | e
    · have := HLT.out b e
      have := HB.out.size
      omega
    · exact e.2
  · show _ = x.1.eraseIdx i
    rw [HF.out.1, HN.out.1]
  · exact Nat.le_trans HF.out.2 HN.out.2.2.2.2.2.2.1
  · show (x.1.eraseIdx i).length ≤ x.2
    rw [hm]
    have := HN.out
    omega
end Go.Proofs.Ytifniehfbafcoaa
