/-
  The walks of the pool's Older and Least.
-/
import Derived.Test.YtifniehfbafcoaaPSeq
import Derived.Test.YtifniehfbafcoaaDRest
import Derived.Deep.RegionHeld3
namespace Go.Proofs.Ytifniehfbafcoaa
open Go Go.Shelf Go.RowKit Go.Lib Go.Sort Go.Proofs

attribute [local go_sem] Oper.semAt_some

theorem cells_own {β : Type} (B : Nat) (f : β → Obj) (hf : ∀ s, (f s).isCells = true) : Own (fun (s : β) W => W.heap[B]? = some (f s)) := fun s X Y row hs hg hrow =>
  (hg.block B (Array.getElem?_eq_some_iff.1 hs).1 (fun e => by
    obtain ⟨o, ho, hc⟩ := hrow B e.symm
    rw [hs] at ho
    cases ho
    rw [hf] at hc
    cases hc)).trans hs
set_option maxRecDepth 100000 in
set_option maxHeartbeats 4000000 in
theorem pl_older {w : World} {G : Nat} {F : Nat → Prop} {x : List Ms × Nat} (h : Pl w G F x) (col : Int) : Calls Try.prog 25 #[.pointer (some ⟨G, 0, none⟩), .int .i64 col] w (Tells (.int .i64 (old col x.1 : Nat)) w) := by
  obtain ⟨v, vs, bs, hx, hfl, hn1, hn2, hn3⟩ := h
  obtain ⟨w1, hw1⟩ : ∃ w1, w1 = ((w.alloc (.cells #[.int .i64 col] 3)).alloc (.cells #[.int .i64 0] 3)).alloc (.cells #[.pointer (some ⟨G, 0, none⟩)] 24) := ⟨_, rfl⟩
  have hb1 : Below w.heap.size w w1 := by rw [hw1]; exact (((Below.refl _ _).alloc (Nat.le_refl _) _).alloc (by simp) _).alloc (by simp; omega) _
  have hsz : w1.heap.size = w.heap.size + 3 := by rw [hw1]; simp
  have hbc : Boxed w1 w.heap.size 3 (.int .i64 col) := by rw [hw1]; exact ((Boxed.new w 3 (.int .i64 col)).alloc _).alloc _
  have hbn : Boxed w1 (w.heap.size + 1) 3 (.int .i64 0) := by
    rw [hw1]
    have := Boxed.new (w.alloc (.cells #[.int .i64 col] 3)) 3 (.int .i64 0)
    rw [World.size_alloc] at this
    exact this.alloc _
  have hS : w1.heap[w.heap.size + 2]? = some (.cells #[.pointer (some ⟨G, 0, none⟩)] 24 (0, 0)) := by
    rw [hw1]
    have := heap_alloc_new ((w.alloc (.cells #[.int .i64 col] 3)).alloc (.cells #[.int .i64 0] 3)) (.cells #[.pointer (some ⟨G, 0, none⟩)] 24)
    simp only [World.size_alloc] at this
    exact this
  have hF : ∀ b, F b → b < w.heap.size := hx.lt
  have HX : Hid (PlX w1 G F v vs bs x.1.length x.2) := hx.below hb1
  obtain ⟨L, hL⟩ : ∃ L, L = bs.flatten := ⟨_, rfl⟩
  have HL : Hid (L = bs.flatten ∧ L = x.1 ∧ bs.length ≤ 1000000 ∧ L.length ≤ 1000000) := ⟨hL, by rw [hL, hfl], by omega, by rw [hL, hfl]; omega⟩
  rw [← HL.out.2.1]
  have HW1 := Lib.hid hw1
  clear hx hfl hn1 hn2 hn3 hL hw1
  refine (callsIn_wide (n := 6)).1 ?_
  refine callsIn_of_wp_marks Try.func25 rfl trivial ?_ rfl
  simp only [Try.ntmps25, List.size_toArray, List.length_cons, List.length_nil, Nat.reduceAdd, Nat.reduceSub, Array.replicate_succ, Array.replicate_zero, List.push_toArray, List.append_toArray, List.nil_append, List.cons_append]
  gi_wp2_with (refine ⟨trivial, ?_⟩; gi_at_call 33; refine (callsIn_wide.2 (each_any _ G)).mono ?_; rintro e w2 ⟨rfl, rfl⟩; rw [← HW1.out])
  all_goals
    refine wpIn_rangeFunc_ownH rfl (by decide) (gf := 40) (lb := #[.pointer (some ⟨w.heap.size + 2, 0, none⟩)]) (by simp [Act.eval]) trivial (enters_of Try.func40 (by kernel_rfl) rfl)
      (each_stops Fence.wide 5 trivial rfl (by decide) (w.heap.size + 2) G F v vs bs _ _ w1 hS HX.out HL.out.2.2.1) KpF.trans (kpF_b fun b e => by have := hF b e; omega) (Below.refl _ _) (fun _ => rfl)
      (fun pre W => (Boxed W (w.heap.size + 1) 3 (.int .i64 (old col pre : Nat)) ∧ Boxed W w.heap.size 3 (.int .i64 col)) ∧ Below w.heap.size w1 W)
      (fun cd pre W => False)
      (OwnFrom.and (OwnFrom.and (Own.from (boxed_own _ _ _) _) (Own.from (boxed_own _ _ _) _)) (ownFrom_below (by omega) (by omega)))
      (fun cd => ownFrom_pure _ _)
      ⟨⟨hbn, hbc⟩, Below.refl _ _⟩
      (fun x a' W => ∃ Bx, w1.heap.size ≤ Bx ∧ W.heap[Bx]? = some (MsO x) ∧ a' = { tmps := #[.pointer (some ⟨G, 0, none⟩), .int .i64 col, undef, .pointer (some ⟨w.heap.size, 0, none⟩), .int .i64 0, .pointer (some ⟨w.heap.size + 1, 0, none⟩), .pointer (some ⟨Bx, 0, none⟩), .pointer (some ⟨G, 0, none⟩), .func (.func 40) #[] #[.pointer (some ⟨w.heap.size + 2, 0, none⟩)], MsV x, undef, undef, undef, undef, undef, undef, undef], defers := [] })
      (fun x a' _ X Y row hs hg hr => by
        obtain ⟨Bx, h1, h2, h3⟩ := hs
        exact ⟨Bx, h1, (hg.block Bx (Array.getElem?_eq_some_iff.1 h2).1 (fun e => by obtain ⟨_, o, ho, hoc⟩ := hr Bx e.symm; rw [h2] at ho; cases ho; cases hoc)).trans h2, h3⟩)
      ?assign ?body ?done ?stop
  case assign =>
    rintro l pre x W K ⟨⟨hv, hm1⟩, hB1⟩ hK
    gi_wp2
    exact hK _ _ ((KeepsOthers.alloc _ _).from _) ((KpF.refl _ _).alloc _) ⟨⟨hv.alloc _, hm1.alloc _⟩, hB1.alloc (by have := hB1.size; omega) _⟩ ⟨W.heap.size, hB1.size, heap_alloc_new _ _, rfl⟩
  case body =>
    rintro l pre x a' W hl ⟨r, hr⟩ ⟨⟨hv, hm1⟩, hB1⟩ ⟨Bx, hBx, bX, rfl⟩ hlt
    have hc := hv.cell
    have hf := hv.frozen
    have hc2 := hm1.cell
    obtain ⟨⟨-, -, -, -, -, -, -, -, -, x9⟩, -⟩ := box_lit bX
    have hon : old col pre < 1000000 := by
      have := old_le col pre
      have := HL.out
      rw [← this.1] at hlt
      omega
    obtain ⟨k, hk⟩ : ∃ k, k = old col pre := ⟨_, rfl⟩
    rw [← hk] at hc hon
    have HK := Lib.hid hk
    clear hk
    by_cases hcol : x.2.2.2.2 < col
    · have hd : decide (x.2.2.2.2 < col) = true := by simpa using hcol
      have HC : Hid (old col (pre ++ [x]) = k + 1) := by show _ = _; rw [old_snoc, if_pos hcol, HK.out]
      have hwk : IntKind.i64.wrap ((k : Int) + 1) = ((k + 1 : Nat) : Int) := by rw [IntKind.wrap_i64]; omega
      clear hcol
      gi_wp2
      have hb2 : Below w.heap.size W (W.setCell ⟨w.heap.size + 1, 0, none⟩ (.int .i64 ((k : Int) + 1))) := (Below.refl _ _).setCell (p := ⟨w.heap.size + 1, 0, none⟩) (Nat.le_succ _) _
      refine ⟨⟨hb2.size, fun q o hq ho hoc => (heap_setCell_other _ _ _ _ fun e => ?_).trans ho⟩, ⟨hb2.size, fun b e _ => hb2.block b (hF b e)⟩, ⟨?_, hm1.other (by omega) _⟩, hB1.trans hb2⟩
      · subst e
        have h0 : W.heap[w.heap.size + 1]? = _ := hv
        rw [h0] at ho
        cases ho
        cases hoc
      · rw [HC.out]
        exact hv.set _
    · have hd : decide (x.2.2.2.2 < col) = false := by simpa using hcol
      have HC : Hid (old col (pre ++ [x]) = k) := by show _ = _; rw [old_snoc, if_neg hcol, HK.out]
      clear hcol
      gi_wp2
      refine ⟨KeepsFrom.refl _ _, KpF.refl _ _, ⟨?_, hm1⟩, hB1⟩
      rw [HC.out, HK.out]
      exact hv
  case done =>
    rintro D xs W hD rfl ⟨⟨hv, hm1⟩, hB1⟩ hK
    have hc := hv.cell
    gi_wp2
    refine ⟨by simp, .inl ⟨_, _, rfl, run_takeDeferred hK, ?_⟩⟩
    refine ⟨_, by simp [results, Try.results25, go_sem]; rfl, ?_, (hb1.trans hB1).trans (belowK_b (w := w) (Nat.le_refl _) W D _ _ (by omega) hK rfl rfl)⟩
    rw [HL.out.1]
  case stop =>
    rintro D cd pre W hD hpre h hK
    exact h.elim
end Go.Proofs.Ytifniehfbafcoaa
