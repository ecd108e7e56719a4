/-
  The walks of slices.MaxFunc and Most.
-/
import Derived.Test.YtgfoagpmkbdciaaHDrop
namespace Go.Proofs.Ytgfoagpmkbdciaa
open Go Go.Shelf Go.RowKit Go.Lib Go.Sort Go.Proofs HpM

theorem gwOf (w : World) (n : Nat) (os : Array Obj) : Gw w (grow (w.drewN n) os) := ⟨n, os, rfl⟩
theorem sCmp_symm (a b : Int) : sCmp b a = -sCmp a b := by
  unfold sCmp
  (repeat' split) <;> omega
theorem iCmp_symm (x y : It) : iCmp y x = -iCmp x y := by
  unfold iCmp
  rw [kCmp_symm x.1.1 y.1.1]
  by_cases h : kCmp x.1.1 y.1.1 = 0
  · simp [h, sCmp_symm x.2 y.2]
  · simp [h]
theorem iCmp_pos (x y : It) : decide (0 < iCmp x y) = iLt y x := by
  rw [← iCmp_neg y x, iCmp_symm x y]
  by_cases h : 0 < iCmp x y
  · rw [decide_eq_true h, decide_eq_true (by omega)]
  · rw [decide_eq_false h, decide_eq_false (by omega)]
theorem set7_box {w : World} {R : Nat} {x : It} (h : w.heap[R]? = some (ItO x)) (y : It) :
    (((((((w.setCell ⟨R, 0, none⟩ (.int .i64 y.1.1.1)).setCell ⟨R, 1, none⟩ (.int .i64 y.1.1.2.1)).setCell ⟨R, 2, none⟩ (.int .i64 y.1.1.2.2)).setCell ⟨R, 3, none⟩ (.int .i64 y.1.2.1)).setCell ⟨R, 4, none⟩ (.int .i64 y.1.2.2.1)).setCell ⟨R, 5, none⟩ (.int .i64 y.1.2.2.2)).setCell ⟨R, 6, none⟩ (.int .i64 y.2)).heap[R]? = some (ItO y) := by
  have h1 := heap_setCell_same w R 0 _ _ (.int .i64 y.1.1.1) h
  have h2 := heap_setCell_same _ R 1 _ _ (.int .i64 y.1.1.2.1) h1
  have h3 := heap_setCell_same _ R 2 _ _ (.int .i64 y.1.1.2.2) h2
  have h4 := heap_setCell_same _ R 3 _ _ (.int .i64 y.1.2.1) h3
  have h5 := heap_setCell_same _ R 4 _ _ (.int .i64 y.1.2.2.1) h4
  have h6 := heap_setCell_same _ R 5 _ _ (.int .i64 y.1.2.2.2) h5
  have h7 := heap_setCell_same _ R 6 _ _ (.int .i64 y.2) h6
  rw [h7]
  simp
theorem set7_other {w : World} {R k : Nat} (hk : k ≠ R) (y : It) :
    (((((((w.setCell ⟨R, 0, none⟩ (.int .i64 y.1.1.1)).setCell ⟨R, 1, none⟩ (.int .i64 y.1.1.2.1)).setCell ⟨R, 2, none⟩ (.int .i64 y.1.1.2.2)).setCell ⟨R, 3, none⟩ (.int .i64 y.1.2.1)).setCell ⟨R, 4, none⟩ (.int .i64 y.1.2.2.1)).setCell ⟨R, 5, none⟩ (.int .i64 y.1.2.2.2)).setCell ⟨R, 6, none⟩ (.int .i64 y.2)).heap[k]? = w.heap[k]? := by
  have := ((((((((But.refl (fun b => b = R) w).setCell (p := ⟨R, 0, none⟩) rfl (.int .i64 y.1.1.1)).setCell (p := ⟨R, 1, none⟩) rfl (.int .i64 y.1.1.2.1)).setCell (p := ⟨R, 2, none⟩) rfl (.int .i64 y.1.1.2.2)).setCell (p := ⟨R, 3, none⟩) rfl (.int .i64 y.1.2.1)).setCell (p := ⟨R, 4, none⟩) rfl (.int .i64 y.1.2.2.1)).setCell (p := ⟨R, 5, none⟩) rfl (.int .i64 y.1.2.2.2)).setCell (p := ⟨R, 6, none⟩) rfl (.int .i64 y.2))
  by_cases hl : k < w.heap.size
  · exact this.block k hl hk
  · rw [Array.getElem?_eq_none (by simp [World.setCell]; omega), Array.getElem?_eq_none (by omega)]

/-- the greatest of so many -/
def MaxTo (n : Nat) (el : Nat → It) (w : World) (e : Ending) (w' : World) : Prop :=
  ∃ y, e = .returned (ItV y) ∧ (∃ j, j < n ∧ y = el j) ∧ (∀ j, j < n → iLt y (el j) = false) ∧ Below w.heap.size w w'

set_option maxHeartbeats 4000000 in
set_option maxRecDepth 100000 in
theorem max_any (w : World) (B off n cap : Nat) (el : Nat → It) (hc : ∀ i, i < n → ItCell w B (off + i * 7) (el i)) (hB : B < w.heap.size) (h0 : 0 < n) (hn : n ≤ 1000000) :
    Calls Try.prog 39 #[.slice (some ⟨B, off, none⟩) n cap, .func (.func 40) #[] #[]] w (MaxTo n el w) := by
  have mixed : Try.prog.follows .mixedOrders = true := by kernel_rfl
  have HC := Lib.hid hc
  have x7 : Cells7 (w.alloc ItZO) B off (el 0) := by
    have := ((hc 0 h0).same ((Below.refl w.heap.size w).alloc (Nat.le_refl _) ItZO |>.block B hB)).seven
    rwa [Nat.zero_mul, Nat.add_zero] at this
  obtain ⟨x0, x1, x2, x3, x4, x5, x6⟩ := x7
  have hd1 : decide ((n : Int) < 1) = false := by simp; omega
  have hz : (0 : Int) < (n : Int) := by omega
  clear hc
  go_enter Try.func39, Try.ntmps39
  go_wp2
  have hs1 : (w.alloc ItZO).heap.size = w.heap.size + 1 := by simp
  have A0 : Aside (Below w.heap.size w ((w.alloc ItZO).alloc (ItO (el 0))) ∧ ((w.alloc ItZO).alloc (ItO (el 0))).heap[w.heap.size]? = some (ItO itZ) ∧ ((w.alloc ItZO).alloc (ItO (el 0))).heap[w.heap.size + 1]? = some (ItO (el 0))) := by
    refine ⟨((Below.refl _ _).alloc (Nat.le_refl _) _).alloc (by omega) _, (heap_alloc_old _ _ (by omega)).trans (heap_alloc_new _ _), ?_⟩
    rw [← hs1]
    exact heap_alloc_new _ _
  clear x0 x1 x2 x3 x4 x5 x6 hs1
  go_loopg [6] n (fun kx s6 wr => ∃ (i : Nat) (y : It), s6 = .int .i64 i ∧ 1 ≤ i ∧ i ≤ n ∧ n - i ≤ kx ∧ Aside (Below w.heap.size w wr ∧ wr.heap[w.heap.size]? = some (ItO itZ) ∧ wr.heap[w.heap.size + 1]? = some (ItO y)) ∧ Aside ((∃ j, j < n ∧ y = el j) ∧ ∀ j, j < i → iLt y (el j) = false))
  case atStart => exact ⟨1, el 0, by go_num, Nat.le_refl _, by omega, by omega, A0, ⟨⟨0, h0, rfl⟩, fun j hj => by rw [show j = 0 by omega]; exact iLt_swo.irrefl _⟩⟩
  case round =>
    clear A0
    obtain ⟨i, y, rfl, hi1, hin, hkx, A, AY⟩ := hrel
    by_cases hlt : i < n
    · have hlz : decide ((i : Int) < (n : Int)) = true := by simpa using hlt
      have hiz : (i : Int) < (n : Int) := by omega
      obtain ⟨x, hx⟩ : ∃ x, x = el i := ⟨_, rfl⟩
      have hcell : ∀ nq os, ItCell (grow (wr.drewN nq) os) B (off + i * 7) x := fun nq os => by
        rw [hx]
        exact ((HC.out i hlt).same (A.out.1.block B hB)).same ((gwOf wr nq os).block (Nat.lt_of_lt_of_le hB A.out.1.size))
      have x0 := fun nq os => (hcell nq os).seven.1
      have x1 := fun nq os => (hcell nq os).seven.2.1
      have x2 := fun nq os => (hcell nq os).seven.2.2.1
      have x3 := fun nq os => (hcell nq os).seven.2.2.2.1
      have x4 := fun nq os => (hcell nq os).seven.2.2.2.2.1
      have x5 := fun nq os => (hcell nq os).seven.2.2.2.2.2.1
      have x6 := fun nq os => (hcell nq os).seven.2.2.2.2.2.2
      have hbox : ∀ nq os, (grow (wr.drewN nq) os).heap[w.heap.size + 1]? = some (ItO y) := fun nq os => ((gwOf wr nq os).block (Array.getElem?_eq_some_iff.1 A.out.2.2).1).trans A.out.2.2
      have y0 := fun nq os => (box_here (hbox nq os)).1
      have y1 := fun nq os => (box_here (hbox nq os)).2.1
      have y2 := fun nq os => (box_here (hbox nq os)).2.2.1
      have y3 := fun nq os => (box_here (hbox nq os)).2.2.2.1
      have y4 := fun nq os => (box_here (hbox nq os)).2.2.2.2.1
      have y5 := fun nq os => (box_here (hbox nq os)).2.2.2.2.2.1
      have y6 := fun nq os => (box_here (hbox nq os)).2.2.2.2.2.2.1
      have HX := Lib.hid hx
      have HLT := Lib.hid hlt
      clear hcell hbox hx
      obtain ⟨q, hq⟩ : ∃ q, q = iCmp x y := ⟨_, rfl⟩
      have hl : decide (0 < q) = iLt y x := by rw [hq]; exact iCmp_pos x y
      have HQ := Lib.hid hq
      clear hq
      cases hyx : iLt y x with
      | true =>
        rw [hyx] at hl
        have HYX := Lib.hid hyx
        clear hyx
        go_wp2_with fail
        refine wp_region_gw (by kernel_rfl) (by kernel_rfl) ?_
        iterate 8 (refine WQ.step (fun K hK => ?_); go_simp; first | (refine hK _ ?_; clear hK K) | (apply Exists.intro; refine ⟨fun _ => ?_, hK _ ?_⟩; (first | (go_at_call 40; exact icmp_g HQ.out wr _ _)); clear hK K))
        refine WQ.nil ?_
        intro _ hw'
        obtain ⟨⟨nq, osq⟩, hw''⟩ := hw'
        subst hw''
        have gq : Gw wr (grow (wr.drewN nq) osq) := ⟨nq, osq, rfl⟩
        have A2 : Hid (Below w.heap.size w (grow (wr.drewN nq) osq) ∧ (grow (wr.drewN nq) osq).heap[w.heap.size]? = some (ItO itZ) ∧ (grow (wr.drewN nq) osq).heap[w.heap.size + 1]? = some (ItO y)) :=
          ⟨A.out.1.trans (gq.below.mono A.out.1.size), (gq.block (Array.getElem?_eq_some_iff.1 A.out.2.1).1).trans A.out.2.1, (gq.block (Array.getElem?_eq_some_iff.1 A.out.2.2).1).trans A.out.2.2⟩
        have hci : ItCell (grow (wr.drewN nq) osq) B (off + i * 7) x := by
          rw [HX.out]
          exact ((HC.out i HLT.out).same (A.out.1.block B hB)).same (gq.block (Nat.lt_of_lt_of_le hB A.out.1.size))
        clear x0 x1 x2 x3 x4 x5 x6 y0 y1 y2 y3 y4 y5 y6 gq
        generalize grow (wr.drewN nq) osq = w2 at A2 hci ⊢
        obtain ⟨x0, x1, x2, x3, x4, x5, x6⟩ := hci.seven
        obtain ⟨y0, y1, y2, y3, y4, y5, y6, f0, f1, f2, f3, f4, f5, f6⟩ := box_here A2.out.2.2
        clear hci
        go_wp2
        go_roundg (n - (i + 1))
        case measure => omega
        case rel =>
          have h1 := A2.out
          refine ⟨i + 1, x, by go_num, by omega, by omega, Nat.le_refl _, ⟨below_set7 h1.1 (by omega) _ _ _ _ _ _ _, (set7_other (by omega) x).trans h1.2.1, set7_box h1.2.2 x⟩, ⟨⟨i, HLT.out, HX.out⟩, fun j hj => ?_⟩⟩
          by_cases e : j = i
          · rw [e, ← HX.out]
            exact iLt_swo.irrefl _
          · have h2 := AY.out.2 j (by omega)
            cases h3 : iLt x (el j) with
            | false => rfl
            | true =>
              have := iLt_swo.trans _ _ _ HYX.out h3
              rw [this] at h2
              cases h2
      | false =>
        rw [hyx] at hl
        have HYX := Lib.hid hyx
        clear hyx
        go_wp2_with fail
        refine wp_region_gw (by kernel_rfl) (by kernel_rfl) ?_
        iterate 8 (refine WQ.step (fun K hK => ?_); go_simp; first | (refine hK _ ?_; clear hK K) | (apply Exists.intro; refine ⟨fun _ => ?_, hK _ ?_⟩; (first | (go_at_call 40; exact icmp_g HQ.out wr _ _)); clear hK K))
        refine WQ.nil ?_
        intro _ hw'
        obtain ⟨⟨nq, osq⟩, hw''⟩ := hw'
        subst hw''
        have gq : Gw wr (grow (wr.drewN nq) osq) := ⟨nq, osq, rfl⟩
        have A2 : Hid (Below w.heap.size w (grow (wr.drewN nq) osq) ∧ (grow (wr.drewN nq) osq).heap[w.heap.size]? = some (ItO itZ) ∧ (grow (wr.drewN nq) osq).heap[w.heap.size + 1]? = some (ItO y)) :=
          ⟨A.out.1.trans (gq.below.mono A.out.1.size), (gq.block (Array.getElem?_eq_some_iff.1 A.out.2.1).1).trans A.out.2.1, (gq.block (Array.getElem?_eq_some_iff.1 A.out.2.2).1).trans A.out.2.2⟩
        clear x0 x1 x2 x3 x4 x5 x6 y0 y1 y2 y3 y4 y5 y6 gq
        generalize grow (wr.drewN nq) osq = w2 at A2 ⊢
        go_wp2
        go_roundg (n - (i + 1))
        case measure => omega
        case rel =>
          refine ⟨i + 1, y, by go_num, by omega, by omega, Nat.le_refl _, A2.out, ⟨AY.out.1, fun j hj => ?_⟩⟩
          by_cases e : j = i
          · rw [e, ← HX.out]
            exact HYX.out
          · exact AY.out.2 j (by omega)
    · have hlz : decide ((i : Int) < (n : Int)) = false := by simp; omega
      obtain rfl : i = n := by omega
      obtain ⟨y0, y1, y2, y3, y4, y5, y6, -, -, -, -, -, -, -⟩ := box_here A.out.2.2
      obtain ⟨x0, x1, x2, x3, x4, x5, x6, f0, f1, f2, f3, f4, f5, f6⟩ := box_here A.out.2.1
      go_wp2
      refine bodyPost_ret (v := ItV y) (by simp [results, Try.results39, go_sem, x0, x1, x2, x3, x4, x5, x6]) rfl ?_
      exact ⟨y, rfl, AY.out.1, AY.out.2, below_set7 A.out.1 (Nat.le_refl _) _ _ _ _ _ _ _⟩
end Go.Proofs.Ytgfoagpmkbdciaa
