/-
  The walks of the document's key, and of EncodeResponse but for variables.
-/
import Derived.Test.YtnafeppljnjbeaaMU
import Derived.Test.YtnafeppljnjbeaaDA
import Derived.Test.YtnafeppljnjbeaaE5
namespace Go.Proofs.Ytnafeppljnjbeaa
open Go Go.RowKit Go.Sort Go.Proofs

theorem own_out (w : World) (k : Int) (B : Nat) (hB : B ≤ w.heap.size) : CB.Own 5 B (w.alloc (.cells #[.int .u8 (k % 256)] 5)) (.slice (some ⟨w.heap.size, 0, none⟩) 1 1) [byteI k] := by
  refine CB_own (l := [byteI k]) hB ?_ rfl (by decide)
  rw [show (cellsB [byteI k]).toArray = #[.int .u8 (k % 256)] by simp [byteI_val]]
  exact heap_alloc_new _ _
def keyB (t o s : Int) : List UInt8 := beR 8 t ++ [byteI o] ++ beR 8 s
theorem keyB_len (t o s : Int) : (keyB t o s).length = 17 := by simp [keyB, beR_len]
theorem lenK (t o s : Int) : (keyB t o s).length ≤ 1000000 := by rw [keyB_len]; decide
theorem U32_len {n : Nat} (h : n ≤ 8) : (n : Int) ≤ 255 := by omega
abbrev SKey (n0 : Nat) (x y z : Int) (w3 W : World) : Prop := W.cell? ⟨n0, 0, none⟩ = some (.int .i64 x) ∧ W.cell? ⟨n0, 1, none⟩ = some (.int .i64 y) ∧ W.cell? ⟨n0, 2, none⟩ = some (.int .i64 z) ∧ Hid (Below w3.heap.size w3 W)
theorem sKey_below {n0 : Nat} {x y z : Int} {w3 W w' : World} (h : SKey n0 x y z w3 W) (hb : Below W.heap.size W w') : SKey n0 x y z w3 w' := by
  obtain ⟨x0, x1, x2, z⟩ := h
  exact ⟨cell_below x0 hb, cell_below x1 hb, cell_below x2 hb, Lib.hid (z.out.trans (hb.mono z.out.size))⟩
theorem sKey_call {n0 : Nat} {x y z : Int} {w3 W : World} {f : FuncId} {args : Array Value} {l : List UInt8} (hc : Calls Try.prog f args W (CloneTo l W)) (h : SKey n0 x y z w3 W) : Calls Try.prog f args W (fun e w' => ∃ v, e = .returned v ∧ Hid (CB.Own 5 W.heap.size w' v l ∧ Below W.heap.size W w') ∧ SKey n0 x y z w3 w') :=
  hc.mono fun _ _ ⟨v, h1, h2, h3⟩ => ⟨v, h1, Lib.hid ⟨h2, h3⟩, sKey_below h h3⟩
set_option maxHeartbeats 4000000 in
set_option maxRecDepth 100000 in
theorem key_any (x y z : Int) (w : World) : Calls Try.prog 43 #[.agg #[.int .i64 x, .int .i64 y, .int .i64 z]] w (CloneTo (keyB x y z) w) := by
  have mixed : Try.prog.follows .mixedOrders = true := by kernel_rfl
  have hl : (keyB x y z).length ≤ 1000 := by rw [keyB_len]; decide
  obtain ⟨R, hR⟩ : ∃ R, R = keyB x y z := ⟨_, rfl⟩
  rw [← hR] at hl ⊢
  have HLL := Lib.hid hl
  clear hl
  have hall : R = allB ((Value.nilFunc, beR 8 x) :: [(Value.nilFunc, [byteI y]), (Value.nilFunc, beR 8 z)]) := by rw [hR]; simp [allB, keyB]
  have HALL := Lib.hid hall
  clear hall hR
  go_enter Try.func43, Try.ntmps43
  go_upto_region 1 with fail
  generalize hw3 : World.alloc _ _ = w3
  have hb3 : Below w.heap.size w w3 := by rw [← hw3]; exact (Below.refl _ _).alloc (Nat.le_refl _) _
  have hx3 : w3.heap[w.heap.size]? = some (.cells #[.int .i64 x, .int .i64 y, .int .i64 z] 26 (0, 0)) := by rw [← hw3]; exact heap_alloc_new _ _
  have d0 : w3.cell? ⟨w.heap.size, 0, none⟩ = some (.int .i64 x) := by rw [cell_of_row _ _ _ _ _ _ hx3]; rfl
  have d1 : w3.cell? ⟨w.heap.size, 1, none⟩ = some (.int .i64 y) := by rw [cell_of_row _ _ _ _ _ _ hx3]; rfl
  have d2 : w3.cell? ⟨w.heap.size, 2, none⟩ = some (.int .i64 z) := by rw [cell_of_row _ _ _ _ _ _ hx3]; rfl
  have H3 := Lib.hid hb3
  clear hb3 hx3 hw3
  have hst0 : SKey w.heap.size x y z w3 w3.drew := ⟨d0, d1, d2, Lib.hid (Below.refl _ _).drew⟩
  go_region_held3 (fun W => SKey w.heap.size x y z w3 W) (first | assumption | exact hst0 | exact sKey_below hstC ((Below.refl _ _).alloc (Nat.le_refl _) _))
    (first
    | (go_at_call_of 42 (Value.int IntKind.i64 x); ((with_reducible refine (sKey_call (n0 := w.heap.size) (x := x) (y := y) (z := z) (w3 := w3) (long_any x _) ?_).mono ?_)); (first | assumption | (refine ⟨?_, ?_, ?_, ?_⟩ <;> assumption) | (go_split_ands; refine ⟨?_, ?_, ?_, ?_⟩ <;> assumption)); rintro e wA ⟨vA, rfl, hoA, hstA⟩; obtain ⟨aA, nA, cA, rfl⟩ := hoA.out.1.shape)
    | (go_at_call_of 41 (Value.int IntKind.i64 y); ((with_reducible refine (sKey_call (n0 := w.heap.size) (x := x) (y := y) (z := z) (w3 := w3) (small_any y _) ?_).mono ?_)); (first | assumption | (refine ⟨?_, ?_, ?_, ?_⟩ <;> assumption) | (go_split_ands; refine ⟨?_, ?_, ?_, ?_⟩ <;> assumption)); rintro e wB ⟨vB, rfl, hoB, hstB⟩; obtain ⟨aB, nB, cB, rfl⟩ := hoB.out.1.shape)
    | (go_at_call_of 42 (Value.int IntKind.i64 z); ((with_reducible refine (sKey_call (n0 := w.heap.size) (x := x) (y := y) (z := z) (w3 := w3) (long_any z _) ?_).mono ?_)); (first | assumption | (refine ⟨?_, ?_, ?_, ?_⟩ <;> assumption) | (go_split_ands; refine ⟨?_, ?_, ?_, ?_⟩ <;> assumption)); rintro e wC ⟨vC, rfl, hoC, hstC⟩; obtain ⟨aC, nC, cC, rfl⟩ := hoC.out.1.shape)
    | (go_at_call 39; have hbj := (Below.refl wC.heap.size wC).alloc (Nat.le_refl _) (.cells #[.slice aA nA cA, .slice aB nB cB, .slice aC nC cC] 24); have hcl := join_any (wC.alloc (.cells #[.slice aA nA cA, .slice aB nB cB, .slice aC nC cC] 24)) wC.heap.size 3 [(.slice aA nA cA, beR 8 x), (.slice aB nB cB, [byteI y]), (.slice aC nC cC, beR 8 z)] 24 rfl (heap_alloc_new _ _) (Pcs.cons (Pcs.one ((hoA.out.1.below (hoB.out.2.trans (hoC.out.2.mono hoB.out.2.size))).below hbj) (by first | exact len1 _ | exact len4 _ | exact len8 _ | exact lenK _ _ _)) (Pcs.cons (Pcs.one ((hoB.out.1.below hoC.out.2).below hbj) (by first | exact len1 _ | exact len4 _ | exact len8 _ | exact lenK _ _ _)) (Pcs.cons (Pcs.one (hoC.out.1.below hbj) (by first | exact len1 _ | exact len4 _ | exact len8 _ | exact lenK _ _ _)) (Pcs.nil _)))) (by have := HLL.out; rw [HALL.out] at this; exact Nat.le_trans this (by decide)) (by decide); refine (sKey_call (n0 := w.heap.size) (x := x) (y := y) (z := z) (w3 := w3) hcl (sKey_below hstC hbj)).mono ?_; rintro e wJ ⟨vJ, rfl, hoJ, hstJ⟩))
  all_goals
    go_wp2
    go_ret
    rw [HALL.out]
    exact ⟨vJ, rfl, hoJ.out.1.mono (by have := H3.out.size; have := hstC.2.2.2.out.size; simp; omega), H3.out.trans (hstJ.2.2.2.out.mono H3.out.size)⟩
abbrev SE1 (n0 : Nat) (q : Rs) (w3 W : World) : Prop := W.cell? ⟨n0, 1, none⟩ = some (.int .u32 q.id) ∧ W.cell? ⟨n0, 2, none⟩ = some (.int .i64 q.err) ∧ W.cell? ⟨n0, 3, none⟩ = some (.int .i64 q.floor) ∧ Hid (Below w3.heap.size w3 W)
theorem sE1_below {n0 : Nat} {q : Rs} {w3 W w' : World} (h : SE1 n0 q w3 W) (hb : Below W.heap.size W w') : SE1 n0 q w3 w' := by
  obtain ⟨x0, x1, x2, z⟩ := h
  exact ⟨cell_below x0 hb, cell_below x1 hb, cell_below x2 hb, Lib.hid (z.out.trans (hb.mono z.out.size))⟩
theorem sE1_call {n0 : Nat} {q : Rs} {w3 W : World} {f : FuncId} {args : Array Value} {l : List UInt8} (hc : Calls Try.prog f args W (CloneTo l W)) (h : SE1 n0 q w3 W) : Calls Try.prog f args W (fun e w' => ∃ v, e = .returned v ∧ Hid (CB.Own 5 W.heap.size w' v l ∧ Below W.heap.size W w') ∧ SE1 n0 q w3 w') :=
  hc.mono fun _ _ ⟨v, h1, h2, h3⟩ => ⟨v, h1, Lib.hid ⟨h2, h3⟩, sE1_below h h3⟩
set_option maxHeartbeats 4000000 in
set_option maxRecDepth 100000 in
theorem rencS_1 (w : World) (q : Rs) (mv : Value) (h : WfS q) (hk : q.kind = 1) : Calls Try.prog 20 #[.agg (RsC q mv)] w (CloneTo (byteI q.kind :: askS q) w) := by
  have mixed : Try.prog.follows .mixedOrders = true := by kernel_rfl
  obtain ⟨R, hR⟩ : ∃ R, R = byteI q.kind :: askS q := ⟨_, rfl⟩
  rw [← hR]
  have hl : R.length ≤ 1000 := by rw [hR]; unfold askS; rw [hk]; simp [tabG, outsS, nID, nErr, nFloor, beR_len]
  have HLL := Lib.hid hl
  clear hl
  have hall : R = allB ((Value.nilFunc, [byteI 1]) :: [(Value.nilFunc, beR 4 q.id), (Value.nilFunc, [byteI q.err]), (Value.nilFunc, beR 8 q.floor)]) := by rw [hR]; unfold askS; rw [hk]; simp [tabG, outsS, allB, nID, nErr, nFloor]
  have HALL := Lib.hid hall
  clear hall
  clear hR
  have HW := Lib.hid h
  clear h
  obtain ⟨k, hkk⟩ : ∃ k, k = q.kind := ⟨_, rfl⟩
  have HKK := Lib.hid hkk
  have HK := Lib.hid hk
  clear hk
  go_enter Try.func20, Try.ntmps20
  go_upto_region 1 with fail
  generalize hw1 : World.alloc _ _ = w1
  have hb1 : Below w.heap.size w w1 := by rw [← hw1]; exact (Below.refl _ _).alloc (Nat.le_refl _) _
  have hx1 : w1.heap[w.heap.size]? = some (.cells (RsC q mv) 47 (0, 0)) := by rw [← hw1]; exact heap_alloc_new _ _
  obtain ⟨d0, d1, d2, d3, d4, d5, d6, d7, d8, d9, d10, d11, d12, d13, d14, d15, d16, d17⟩ := RsC_cells hx1
  rw [← hkk] at d0
  clear hkk
  have H1 := Lib.hid hb1
  clear hb1 hx1 hw1
  go_upto_region 2 with fail
  have hor := own_out w1 k w.heap.size H1.out.size
  have hbr : Below w1.heap.size w1 (w1.alloc (.cells #[.int .u8 (k % 256)] 5)) := (Below.refl _ _).alloc (Nat.le_refl _) _
  revert hor hbr
  generalize World.alloc w1 _ = w3
  intro hor hbr
  replace d0 := cell_below d0 hbr
  replace d1 := cell_below d1 hbr
  replace d2 := cell_below d2 hbr
  replace d3 := cell_below d3 hbr
  replace d4 := cell_below d4 hbr
  replace d5 := cell_below d5 hbr
  replace d6 := cell_below d6 hbr
  replace d7 := cell_below d7 hbr
  replace d8 := cell_below d8 hbr
  replace d9 := cell_below d9 hbr
  replace d10 := cell_below d10 hbr
  replace d11 := cell_below d11 hbr
  replace d12 := cell_below d12 hbr
  replace d13 := cell_below d13 hbr
  replace d14 := cell_below d14 hbr
  replace d15 := cell_below d15 hbr
  replace d16 := cell_below d16 hbr
  replace d17 := cell_below d17 hbr
  have H3 := Lib.hid (And.intro (H1.out.trans (hbr.mono H1.out.size)) hor)
  clear hbr hor
  obtain rfl : k = 1 := HKK.out.trans HK.out
  clear d4 d5 d6 d7 d8 d9 d10 d11 d12 d13 d14 d15 d16 d17
  go_wp2_with fail
  have hst0 : SE1 w.heap.size q w3 w3.drew := ⟨d1, d2, d3, Lib.hid (Below.refl _ _).drew⟩
  go_region_held3 (fun W => SE1 w.heap.size q w3 W) (first | assumption | exact hst0 | exact sE1_below hstC ((Below.refl _ _).alloc (Nat.le_refl _) _))
    (first
    | (go_at_call_of 40 (Value.int IntKind.u32 q.id); ((with_reducible refine (sE1_call (n0 := w.heap.size) (q := q) (w3 := w3) (word_any' q.id HW.out.id _) ?_).mono ?_)); (first | assumption | (refine ⟨?_, ?_, ?_, ?_⟩ <;> assumption) | (go_split_ands; refine ⟨?_, ?_, ?_, ?_⟩ <;> assumption)); rintro e wA ⟨vA, rfl, hoA, hstA⟩; obtain ⟨aA, nA, cA, rfl⟩ := hoA.out.1.shape)
    | (go_at_call_of 41 (Value.int IntKind.i64 q.err); ((with_reducible refine (sE1_call (n0 := w.heap.size) (q := q) (w3 := w3) (small_any q.err _) ?_).mono ?_)); (first | assumption | (refine ⟨?_, ?_, ?_, ?_⟩ <;> assumption) | (go_split_ands; refine ⟨?_, ?_, ?_, ?_⟩ <;> assumption)); rintro e wB ⟨vB, rfl, hoB, hstB⟩; obtain ⟨aB, nB, cB, rfl⟩ := hoB.out.1.shape)
    | (go_at_call_of 42 (Value.int IntKind.i64 q.floor); ((with_reducible refine (sE1_call (n0 := w.heap.size) (q := q) (w3 := w3) (long_any q.floor _) ?_).mono ?_)); (first | assumption | (refine ⟨?_, ?_, ?_, ?_⟩ <;> assumption) | (go_split_ands; refine ⟨?_, ?_, ?_, ?_⟩ <;> assumption)); rintro e wC ⟨vC, rfl, hoC, hstC⟩; obtain ⟨aC, nC, cC, rfl⟩ := hoC.out.1.shape)
    | (go_at_call 39; have hbj := (Below.refl wC.heap.size wC).alloc (Nat.le_refl _) (.cells #[.slice (some ⟨w1.heap.size, 0, none⟩) 1 1, .slice aA nA cA, .slice aB nB cB, .slice aC nC cC] 24); have hcl := join_any (wC.alloc (.cells #[.slice (some ⟨w1.heap.size, 0, none⟩) 1 1, .slice aA nA cA, .slice aB nB cB, .slice aC nC cC] 24)) wC.heap.size 4 [(.slice (some ⟨w1.heap.size, 0, none⟩) 1 1, [byteI 1]), (.slice aA nA cA, beR 4 q.id), (.slice aB nB cB, [byteI q.err]), (.slice aC nC cC, beR 8 q.floor)] 24 rfl (heap_alloc_new _ _) (Pcs.cons (Pcs.one ((H3.out.2.below hstC.2.2.2.out).below hbj) (by first | exact len1 _ | exact len4 _ | exact len8 _ | exact lenK _ _ _)) (Pcs.cons (Pcs.one ((hoA.out.1.below (hoB.out.2.trans (hoC.out.2.mono hoB.out.2.size))).below hbj) (by first | exact len1 _ | exact len4 _ | exact len8 _ | exact lenK _ _ _)) (Pcs.cons (Pcs.one ((hoB.out.1.below hoC.out.2).below hbj) (by first | exact len1 _ | exact len4 _ | exact len8 _ | exact lenK _ _ _)) (Pcs.cons (Pcs.one (hoC.out.1.below hbj) (by first | exact len1 _ | exact len4 _ | exact len8 _ | exact lenK _ _ _)) (Pcs.nil _))))) (by have := HLL.out; rw [HALL.out] at this; exact Nat.le_trans this (by decide)) (by decide); refine (sE1_call (n0 := w.heap.size) (q := q) (w3 := w3) hcl (sE1_below hstC hbj)).mono ?_; rintro e wJ ⟨vJ, rfl, hoJ, hstJ⟩))
  all_goals
    go_wp2
    go_ret
    rw [HALL.out]
    exact ⟨vJ, rfl, hoJ.out.1.mono (by have := H3.out.1.size; have := hstC.2.2.2.out.size; simp; omega), H3.out.1.trans (hstJ.2.2.2.out.mono H3.out.1.size)⟩
abbrev SE3 (n0 : Nat) (q : Rs) (w3 W : World) : Prop := W.cell? ⟨n0, 5, none⟩ = some (.int .i64 q.rt) ∧ W.cell? ⟨n0, 6, none⟩ = some (.int .i64 q.ro) ∧ W.cell? ⟨n0, 7, none⟩ = some (.int .i64 q.rs) ∧ W.cell? ⟨n0, 8, none⟩ = some (.int .i64 q.rp) ∧ W.cell? ⟨n0, 9, none⟩ = some (.int .i64 q.rn) ∧ W.cell? ⟨n0, 10, none⟩ = some (.int .i64 q.rv) ∧ Hid (Below w3.heap.size w3 W)
theorem sE3_below {n0 : Nat} {q : Rs} {w3 W w' : World} (h : SE3 n0 q w3 W) (hb : Below W.heap.size W w') : SE3 n0 q w3 w' := by
  obtain ⟨x0, x1, x2, x3, x4, x5, z⟩ := h
  exact ⟨cell_below x0 hb, cell_below x1 hb, cell_below x2 hb, cell_below x3 hb, cell_below x4 hb, cell_below x5 hb, Lib.hid (z.out.trans (hb.mono z.out.size))⟩
theorem sE3_call {n0 : Nat} {q : Rs} {w3 W : World} {f : FuncId} {args : Array Value} {l : List UInt8} (hc : Calls Try.prog f args W (CloneTo l W)) (h : SE3 n0 q w3 W) : Calls Try.prog f args W (fun e w' => ∃ v, e = .returned v ∧ Hid (CB.Own 5 W.heap.size w' v l ∧ Below W.heap.size W w') ∧ SE3 n0 q w3 w') :=
  hc.mono fun _ _ ⟨v, h1, h2, h3⟩ => ⟨v, h1, Lib.hid ⟨h2, h3⟩, sE3_below h h3⟩
set_option maxHeartbeats 4000000 in
set_option maxRecDepth 100000 in
theorem rencS_3 (w : World) (q : Rs) (mv : Value) (h : WfS q) (hk : q.kind = 3) : Calls Try.prog 20 #[.agg (RsC q mv)] w (CloneTo (byteI q.kind :: askS q) w) := by
  have mixed : Try.prog.follows .mixedOrders = true := by kernel_rfl
  obtain ⟨R, hR⟩ : ∃ R, R = byteI q.kind :: askS q := ⟨_, rfl⟩
  rw [← hR]
  have hl : R.length ≤ 1000 := by rw [hR]; unfold askS; rw [hk]; simp [tabG, outsS, nRecord, beR_len]
  have HLL := Lib.hid hl
  clear hl
  have hall : R = allB ((Value.nilFunc, [byteI 3]) :: [(Value.nilFunc, keyB q.rt q.ro q.rs), (Value.nilFunc, [byteI q.rp]), (Value.nilFunc, [byteI q.rn]), (Value.nilFunc, beR 8 q.rv)]) := by rw [hR]; unfold askS; rw [hk]; simp [tabG, outsS, allB, keyB, nRecord]
  have HALL := Lib.hid hall
  clear hall
  clear hR
  have HW := Lib.hid h
  clear h
  obtain ⟨k, hkk⟩ : ∃ k, k = q.kind := ⟨_, rfl⟩
  have HKK := Lib.hid hkk
  have HK := Lib.hid hk
  clear hk
  go_enter Try.func20, Try.ntmps20
  go_upto_region 1 with fail
  generalize hw1 : World.alloc _ _ = w1
  have hb1 : Below w.heap.size w w1 := by rw [← hw1]; exact (Below.refl _ _).alloc (Nat.le_refl _) _
  have hx1 : w1.heap[w.heap.size]? = some (.cells (RsC q mv) 47 (0, 0)) := by rw [← hw1]; exact heap_alloc_new _ _
  obtain ⟨d0, d1, d2, d3, d4, d5, d6, d7, d8, d9, d10, d11, d12, d13, d14, d15, d16, d17⟩ := RsC_cells hx1
  rw [← hkk] at d0
  clear hkk
  have H1 := Lib.hid hb1
  clear hb1 hx1 hw1
  go_upto_region 2 with fail
  have hor := own_out w1 k w.heap.size H1.out.size
  have hbr : Below w1.heap.size w1 (w1.alloc (.cells #[.int .u8 (k % 256)] 5)) := (Below.refl _ _).alloc (Nat.le_refl _) _
  revert hor hbr
  generalize World.alloc w1 _ = w3
  intro hor hbr
  replace d0 := cell_below d0 hbr
  replace d1 := cell_below d1 hbr
  replace d2 := cell_below d2 hbr
  replace d3 := cell_below d3 hbr
  replace d4 := cell_below d4 hbr
  replace d5 := cell_below d5 hbr
  replace d6 := cell_below d6 hbr
  replace d7 := cell_below d7 hbr
  replace d8 := cell_below d8 hbr
  replace d9 := cell_below d9 hbr
  replace d10 := cell_below d10 hbr
  replace d11 := cell_below d11 hbr
  replace d12 := cell_below d12 hbr
  replace d13 := cell_below d13 hbr
  replace d14 := cell_below d14 hbr
  replace d15 := cell_below d15 hbr
  replace d16 := cell_below d16 hbr
  replace d17 := cell_below d17 hbr
  have H3 := Lib.hid (And.intro (H1.out.trans (hbr.mono H1.out.size)) hor)
  clear hbr hor
  obtain rfl : k = 3 := HKK.out.trans HK.out
  clear d1 d2 d3 d4 d11 d12 d13 d14 d15 d16 d17
  go_wp2_with fail
  have hst0 : SE3 w.heap.size q w3 w3.drew := ⟨d5, d6, d7, d8, d9, d10, Lib.hid (Below.refl _ _).drew⟩
  go_region_held3 (fun W => SE3 w.heap.size q w3 W) (first | assumption | exact hst0 | exact sE3_below hstD ((Below.refl _ _).alloc (Nat.le_refl _) _))
    (first
    | (go_at_call 43; ((with_reducible refine (sE3_call (n0 := w.heap.size) (q := q) (w3 := w3) (key_any q.rt q.ro q.rs _) ?_).mono ?_)); (first | assumption | (refine ⟨?_, ?_, ?_, ?_, ?_, ?_, ?_⟩ <;> assumption) | (go_split_ands; refine ⟨?_, ?_, ?_, ?_, ?_, ?_, ?_⟩ <;> assumption)); rintro e wA ⟨vA, rfl, hoA, hstA⟩; obtain ⟨aA, nA, cA, rfl⟩ := hoA.out.1.shape)
    | (go_at_call_of 41 (Value.int IntKind.i64 q.rp); ((with_reducible refine (sE3_call (n0 := w.heap.size) (q := q) (w3 := w3) (small_any q.rp _) ?_).mono ?_)); (first | assumption | (refine ⟨?_, ?_, ?_, ?_, ?_, ?_, ?_⟩ <;> assumption) | (go_split_ands; refine ⟨?_, ?_, ?_, ?_, ?_, ?_, ?_⟩ <;> assumption)); rintro e wB ⟨vB, rfl, hoB, hstB⟩; obtain ⟨aB, nB, cB, rfl⟩ := hoB.out.1.shape)
    | (go_at_call_of 41 (Value.int IntKind.i64 q.rn); ((with_reducible refine (sE3_call (n0 := w.heap.size) (q := q) (w3 := w3) (small_any q.rn _) ?_).mono ?_)); (first | assumption | (refine ⟨?_, ?_, ?_, ?_, ?_, ?_, ?_⟩ <;> assumption) | (go_split_ands; refine ⟨?_, ?_, ?_, ?_, ?_, ?_, ?_⟩ <;> assumption)); rintro e wC ⟨vC, rfl, hoC, hstC⟩; obtain ⟨aC, nC, cC, rfl⟩ := hoC.out.1.shape)
    | (go_at_call_of 42 (Value.int IntKind.i64 q.rv); ((with_reducible refine (sE3_call (n0 := w.heap.size) (q := q) (w3 := w3) (long_any q.rv _) ?_).mono ?_)); (first | assumption | (refine ⟨?_, ?_, ?_, ?_, ?_, ?_, ?_⟩ <;> assumption) | (go_split_ands; refine ⟨?_, ?_, ?_, ?_, ?_, ?_, ?_⟩ <;> assumption)); rintro e wD ⟨vD, rfl, hoD, hstD⟩; obtain ⟨aD, nD, cD, rfl⟩ := hoD.out.1.shape)
    | (go_at_call 39; have hbj := (Below.refl wD.heap.size wD).alloc (Nat.le_refl _) (.cells #[.slice (some ⟨w1.heap.size, 0, none⟩) 1 1, .slice aA nA cA, .slice aB nB cB, .slice aC nC cC, .slice aD nD cD] 24); have hcl := join_any (wD.alloc (.cells #[.slice (some ⟨w1.heap.size, 0, none⟩) 1 1, .slice aA nA cA, .slice aB nB cB, .slice aC nC cC, .slice aD nD cD] 24)) wD.heap.size 5 [(.slice (some ⟨w1.heap.size, 0, none⟩) 1 1, [byteI 3]), (.slice aA nA cA, keyB q.rt q.ro q.rs), (.slice aB nB cB, [byteI q.rp]), (.slice aC nC cC, [byteI q.rn]), (.slice aD nD cD, beR 8 q.rv)] 24 rfl (heap_alloc_new _ _) (Pcs.cons (Pcs.one ((H3.out.2.below hstD.2.2.2.2.2.2.out).below hbj) (by first | exact len1 _ | exact len4 _ | exact len8 _ | exact lenK _ _ _)) (Pcs.cons (Pcs.one ((hoA.out.1.below ((hoB.out.2.trans (hoC.out.2.mono hoB.out.2.size)).trans (hoD.out.2.mono (hoB.out.2.trans (hoC.out.2.mono hoB.out.2.size)).size))).below hbj) (by first | exact len1 _ | exact len4 _ | exact len8 _ | exact lenK _ _ _)) (Pcs.cons (Pcs.one ((hoB.out.1.below (hoC.out.2.trans (hoD.out.2.mono hoC.out.2.size))).below hbj) (by first | exact len1 _ | exact len4 _ | exact len8 _ | exact lenK _ _ _)) (Pcs.cons (Pcs.one ((hoC.out.1.below hoD.out.2).below hbj) (by first | exact len1 _ | exact len4 _ | exact len8 _ | exact lenK _ _ _)) (Pcs.cons (Pcs.one (hoD.out.1.below hbj) (by first | exact len1 _ | exact len4 _ | exact len8 _ | exact lenK _ _ _)) (Pcs.nil _)))))) (by have := HLL.out; rw [HALL.out] at this; exact Nat.le_trans this (by decide)) (by decide); refine (sE3_call (n0 := w.heap.size) (q := q) (w3 := w3) hcl (sE3_below hstD hbj)).mono ?_; rintro e wJ ⟨vJ, rfl, hoJ, hstJ⟩))
  all_goals
    go_wp2
    go_ret
    rw [HALL.out]
    exact ⟨vJ, rfl, hoJ.out.1.mono (by have := H3.out.1.size; have := hstD.2.2.2.2.2.2.out.size; simp; omega), H3.out.1.trans (hstJ.2.2.2.2.2.2.out.mono H3.out.1.size)⟩
abbrev SE4 (n0 : Nat) (q : Rs) (w3 W : World) : Prop := W.cell? ⟨n0, 11, none⟩ = some (.int .u32 q.num) ∧ W.cell? ⟨n0, 12, none⟩ = some (.int .i64 q.time) ∧ W.cell? ⟨n0, 13, none⟩ = some (.int .i64 q.org) ∧ W.cell? ⟨n0, 14, none⟩ = some (.int .i64 q.seq) ∧ W.cell? ⟨n0, 15, none⟩ = some (.int .i64 q.pt) ∧ W.cell? ⟨n0, 16, none⟩ = some (.int .i64 q.ek) ∧ W.cell? ⟨n0, 17, none⟩ = some (.int .i64 q.dat) ∧ Hid (Below w3.heap.size w3 W)
theorem sE4_below {n0 : Nat} {q : Rs} {w3 W w' : World} (h : SE4 n0 q w3 W) (hb : Below W.heap.size W w') : SE4 n0 q w3 w' := by
  obtain ⟨x0, x1, x2, x3, x4, x5, x6, z⟩ := h
  exact ⟨cell_below x0 hb, cell_below x1 hb, cell_below x2 hb, cell_below x3 hb, cell_below x4 hb, cell_below x5 hb, cell_below x6 hb, Lib.hid (z.out.trans (hb.mono z.out.size))⟩
theorem sE4_call {n0 : Nat} {q : Rs} {w3 W : World} {f : FuncId} {args : Array Value} {l : List UInt8} (hc : Calls Try.prog f args W (CloneTo l W)) (h : SE4 n0 q w3 W) : Calls Try.prog f args W (fun e w' => ∃ v, e = .returned v ∧ Hid (CB.Own 5 W.heap.size w' v l ∧ Below W.heap.size W w') ∧ SE4 n0 q w3 w') :=
  hc.mono fun _ _ ⟨v, h1, h2, h3⟩ => ⟨v, h1, Lib.hid ⟨h2, h3⟩, sE4_below h h3⟩
set_option maxHeartbeats 4000000 in
set_option maxRecDepth 100000 in
theorem rencS_4 (w : World) (q : Rs) (mv : Value) (h : WfS q) (hk : q.kind = 4) : Calls Try.prog 20 #[.agg (RsC q mv)] w (CloneTo (byteI q.kind :: askS q) w) := by
  have mixed : Try.prog.follows .mixedOrders = true := by kernel_rfl
  obtain ⟨R, hR⟩ : ∃ R, R = byteI q.kind :: askS q := ⟨_, rfl⟩
  rw [← hR]
  have hl : R.length ≤ 1000 := by rw [hR]; unfold askS; rw [hk]; simp [tabG, outsS, nNum, nEvent, beR_len]
  have HLL := Lib.hid hl
  clear hl
  have hall : R = allB ((Value.nilFunc, [byteI 4]) :: [(Value.nilFunc, beR 4 q.num), (Value.nilFunc, keyB q.time q.org q.seq), (Value.nilFunc, [byteI q.pt]), (Value.nilFunc, [byteI q.ek]), (Value.nilFunc, beR 8 q.dat)]) := by rw [hR]; unfold askS; rw [hk]; simp [tabG, outsS, allB, keyB, nNum, nEvent]
  have HALL := Lib.hid hall
  clear hall
  clear hR
  have HW := Lib.hid h
  clear h
  obtain ⟨k, hkk⟩ : ∃ k, k = q.kind := ⟨_, rfl⟩
  have HKK := Lib.hid hkk
  have HK := Lib.hid hk
  clear hk
  go_enter Try.func20, Try.ntmps20
  go_upto_region 1 with fail
  generalize hw1 : World.alloc _ _ = w1
  have hb1 : Below w.heap.size w w1 := by rw [← hw1]; exact (Below.refl _ _).alloc (Nat.le_refl _) _
  have hx1 : w1.heap[w.heap.size]? = some (.cells (RsC q mv) 47 (0, 0)) := by rw [← hw1]; exact heap_alloc_new _ _
  obtain ⟨d0, d1, d2, d3, d4, d5, d6, d7, d8, d9, d10, d11, d12, d13, d14, d15, d16, d17⟩ := RsC_cells hx1
  rw [← hkk] at d0
  clear hkk
  have H1 := Lib.hid hb1
  clear hb1 hx1 hw1
  go_upto_region 2 with fail
  have hor := own_out w1 k w.heap.size H1.out.size
  have hbr : Below w1.heap.size w1 (w1.alloc (.cells #[.int .u8 (k % 256)] 5)) := (Below.refl _ _).alloc (Nat.le_refl _) _
  revert hor hbr
  generalize World.alloc w1 _ = w3
  intro hor hbr
  replace d0 := cell_below d0 hbr
  replace d1 := cell_below d1 hbr
  replace d2 := cell_below d2 hbr
  replace d3 := cell_below d3 hbr
  replace d4 := cell_below d4 hbr
  replace d5 := cell_below d5 hbr
  replace d6 := cell_below d6 hbr
  replace d7 := cell_below d7 hbr
  replace d8 := cell_below d8 hbr
  replace d9 := cell_below d9 hbr
  replace d10 := cell_below d10 hbr
  replace d11 := cell_below d11 hbr
  replace d12 := cell_below d12 hbr
  replace d13 := cell_below d13 hbr
  replace d14 := cell_below d14 hbr
  replace d15 := cell_below d15 hbr
  replace d16 := cell_below d16 hbr
  replace d17 := cell_below d17 hbr
  have H3 := Lib.hid (And.intro (H1.out.trans (hbr.mono H1.out.size)) hor)
  clear hbr hor
  obtain rfl : k = 4 := HKK.out.trans HK.out
  clear d1 d2 d3 d4 d5 d6 d7 d8 d9 d10
  go_wp2_with fail
  have hst0 : SE4 w.heap.size q w3 w3.drew := ⟨d11, d12, d13, d14, d15, d16, d17, Lib.hid (Below.refl _ _).drew⟩
  go_region_held3 (fun W => SE4 w.heap.size q w3 W) (first | assumption | exact hst0 | exact sE4_below hstE ((Below.refl _ _).alloc (Nat.le_refl _) _))
    (first
    | (go_at_call_of 40 (Value.int IntKind.u32 q.num); ((with_reducible refine (sE4_call (n0 := w.heap.size) (q := q) (w3 := w3) (word_any' q.num HW.out.num _) ?_).mono ?_)); (first | assumption | (refine ⟨?_, ?_, ?_, ?_, ?_, ?_, ?_, ?_⟩ <;> assumption) | (go_split_ands; refine ⟨?_, ?_, ?_, ?_, ?_, ?_, ?_, ?_⟩ <;> assumption)); rintro e wA ⟨vA, rfl, hoA, hstA⟩; obtain ⟨aA, nA, cA, rfl⟩ := hoA.out.1.shape)
    | (go_at_call 43; ((with_reducible refine (sE4_call (n0 := w.heap.size) (q := q) (w3 := w3) (key_any q.time q.org q.seq _) ?_).mono ?_)); (first | assumption | (refine ⟨?_, ?_, ?_, ?_, ?_, ?_, ?_, ?_⟩ <;> assumption) | (go_split_ands; refine ⟨?_, ?_, ?_, ?_, ?_, ?_, ?_, ?_⟩ <;> assumption)); rintro e wB ⟨vB, rfl, hoB, hstB⟩; obtain ⟨aB, nB, cB, rfl⟩ := hoB.out.1.shape)
    | (go_at_call_of 41 (Value.int IntKind.i64 q.pt); ((with_reducible refine (sE4_call (n0 := w.heap.size) (q := q) (w3 := w3) (small_any q.pt _) ?_).mono ?_)); (first | assumption | (refine ⟨?_, ?_, ?_, ?_, ?_, ?_, ?_, ?_⟩ <;> assumption) | (go_split_ands; refine ⟨?_, ?_, ?_, ?_, ?_, ?_, ?_, ?_⟩ <;> assumption)); rintro e wC ⟨vC, rfl, hoC, hstC⟩; obtain ⟨aC, nC, cC, rfl⟩ := hoC.out.1.shape)
    | (go_at_call_of 41 (Value.int IntKind.i64 q.ek); ((with_reducible refine (sE4_call (n0 := w.heap.size) (q := q) (w3 := w3) (small_any q.ek _) ?_).mono ?_)); (first | assumption | (refine ⟨?_, ?_, ?_, ?_, ?_, ?_, ?_, ?_⟩ <;> assumption) | (go_split_ands; refine ⟨?_, ?_, ?_, ?_, ?_, ?_, ?_, ?_⟩ <;> assumption)); rintro e wD ⟨vD, rfl, hoD, hstD⟩; obtain ⟨aD, nD, cD, rfl⟩ := hoD.out.1.shape)
    | (go_at_call_of 42 (Value.int IntKind.i64 q.dat); ((with_reducible refine (sE4_call (n0 := w.heap.size) (q := q) (w3 := w3) (long_any q.dat _) ?_).mono ?_)); (first | assumption | (refine ⟨?_, ?_, ?_, ?_, ?_, ?_, ?_, ?_⟩ <;> assumption) | (go_split_ands; refine ⟨?_, ?_, ?_, ?_, ?_, ?_, ?_, ?_⟩ <;> assumption)); rintro e wE ⟨vE, rfl, hoE, hstE⟩; obtain ⟨aE, nE, cE, rfl⟩ := hoE.out.1.shape)
    | (go_at_call 39; have hbj := (Below.refl wE.heap.size wE).alloc (Nat.le_refl _) (.cells #[.slice (some ⟨w1.heap.size, 0, none⟩) 1 1, .slice aA nA cA, .slice aB nB cB, .slice aC nC cC, .slice aD nD cD, .slice aE nE cE] 24); have hcl := join_any (wE.alloc (.cells #[.slice (some ⟨w1.heap.size, 0, none⟩) 1 1, .slice aA nA cA, .slice aB nB cB, .slice aC nC cC, .slice aD nD cD, .slice aE nE cE] 24)) wE.heap.size 6 [(.slice (some ⟨w1.heap.size, 0, none⟩) 1 1, [byteI 4]), (.slice aA nA cA, beR 4 q.num), (.slice aB nB cB, keyB q.time q.org q.seq), (.slice aC nC cC, [byteI q.pt]), (.slice aD nD cD, [byteI q.ek]), (.slice aE nE cE, beR 8 q.dat)] 24 rfl (heap_alloc_new _ _) (Pcs.cons (Pcs.one ((H3.out.2.below hstE.2.2.2.2.2.2.2.out).below hbj) (by first | exact len1 _ | exact len4 _ | exact len8 _ | exact lenK _ _ _)) (Pcs.cons (Pcs.one ((hoA.out.1.below (((hoB.out.2.trans (hoC.out.2.mono hoB.out.2.size)).trans (hoD.out.2.mono (hoB.out.2.trans (hoC.out.2.mono hoB.out.2.size)).size)).trans (hoE.out.2.mono ((hoB.out.2.trans (hoC.out.2.mono hoB.out.2.size)).trans (hoD.out.2.mono (hoB.out.2.trans (hoC.out.2.mono hoB.out.2.size)).size)).size))).below hbj) (by first | exact len1 _ | exact len4 _ | exact len8 _ | exact lenK _ _ _)) (Pcs.cons (Pcs.one ((hoB.out.1.below ((hoC.out.2.trans (hoD.out.2.mono hoC.out.2.size)).trans (hoE.out.2.mono (hoC.out.2.trans (hoD.out.2.mono hoC.out.2.size)).size))).below hbj) (by first | exact len1 _ | exact len4 _ | exact len8 _ | exact lenK _ _ _)) (Pcs.cons (Pcs.one ((hoC.out.1.below (hoD.out.2.trans (hoE.out.2.mono hoD.out.2.size))).below hbj) (by first | exact len1 _ | exact len4 _ | exact len8 _ | exact lenK _ _ _)) (Pcs.cons (Pcs.one ((hoD.out.1.below hoE.out.2).below hbj) (by first | exact len1 _ | exact len4 _ | exact len8 _ | exact lenK _ _ _)) (Pcs.cons (Pcs.one (hoE.out.1.below hbj) (by first | exact len1 _ | exact len4 _ | exact len8 _ | exact lenK _ _ _)) (Pcs.nil _))))))) (by have := HLL.out; rw [HALL.out] at this; exact Nat.le_trans this (by decide)) (by decide); refine (sE4_call (n0 := w.heap.size) (q := q) (w3 := w3) hcl (sE4_below hstE hbj)).mono ?_; rintro e wJ ⟨vJ, rfl, hoJ, hstJ⟩))
  all_goals
    go_wp2
    go_ret
    rw [HALL.out]
    exact ⟨vJ, rfl, hoJ.out.1.mono (by have := H3.out.1.size; have := hstE.2.2.2.2.2.2.2.out.size; simp; omega), H3.out.1.trans (hstJ.2.2.2.2.2.2.2.out.mono H3.out.1.size)⟩
end Go.Proofs.Ytnafeppljnjbeaa
