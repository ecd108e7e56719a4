/-
  The walks of the document's key, and of EncodeResponse but for variables.
-/
import Derived.Test.YtdpfmaikijilkaaMU
import Derived.Test.YtdpfmaikijilkaaDA
import Derived.Test.YtdpfmaikijilkaaE5
namespace Go.Proofs.Ytdpfmaikijilkaa
open Go Go.RowKit Go.Sort Go.Proofs

theorem own_out (w : World) (k : Int) (B : Nat) (hB : B ≤ w.heap.size) : CB.Own 5 B (w.alloc (.cells #[.int .u8 (k % 256)] 5)) (.slice (some ⟨w.heap.size, 0, none⟩) 1 1) [byteI k] := by
  refine CB_own (l := [byteI k]) hB ?_ rfl (by decide)
  rw [show (cellsB [byteI k]).toArray = #[.int .u8 (k % 256)] by simp [byteI_val]]
  exact heap_alloc_new _ _
def keyB (t o s : Int) : List UInt8 := beR 8 t ++ [byteI o] ++ beR 8 s
theorem keyB_len (t o s : Int) : (keyB t o s).length = 17 := by simp [keyB, beR_len]
theorem lenK (t o s : Int) : (keyB t o s).length ≤ 1000000 := by rw [keyB_len]; decide
theorem U32_len {n : Nat} (h : n ≤ 8) : (n : Int) ≤ 255 := by omega
abbrev SKey (n0 : Nat) (x y z : Int) (w3 W : World) : Prop := W.cell? ⟨n0, 0, none⟩ = some (.int .i64 x) ∧ W.cell? ⟨n0, 1, none⟩ = some (.int .i64 y) ∧ W.cell? ⟨n0, 2, none⟩ = some (.int .i64 z) ∧ Hid (Below w3.heap.size w3 W)
theorem sKey_below {n0 : Nat} {x y z : Int} {w3 W w' : World} (h : SKey n0 x y z w3 W) (hb : Below W.heap.size W w') : SKey n0 x y z w3 w' := by
  obtain ⟨x0, x1, x2, z⟩ := h
  exact ⟨cell_below x0 hb, cell_below x1 hb, cell_below x2 hb, Lib.hid (z.out.trans (hb.mono z.out.size))⟩
theorem sKey_call {n0 : Nat} {x y z : Int} {w3 W : World} {f : FuncId} {args : Array Value} {l : List UInt8} (hc : Calls Try.prog f args W (CloneTo l W)) (h : SKey n0 x y z w3 W) : Calls Try.prog f args W (fun e w' => ∃ v, e = .returned v ∧ Hid (CB.Own 5 W.heap.size w' v l ∧ Below W.heap.size W w') ∧ SKey n0 x y z w3 w') :=
  hc.mono fun _ _ ⟨v, h1, h2, h3⟩ => ⟨v, h1, Lib.hid ⟨h2, h3⟩, sKey_below h h3⟩
set_option maxHeartbeats 4000000 in
set_option maxRecDepth 100000 in
theorem key_any (x y z : Int) (w : World) : Calls Try.prog 43 #[.agg #[.int .i64 x, .int .i64 y, .int .i64 z]] w (CloneTo (keyB x y z) w) := by
  have mixed : Try.prog.follows .mixedOrders = true := by kernel_rfl
  have hl : (keyB x y z).length ≤ 1000 := by rw [keyB_len]; decide
  obtain ⟨R, hR⟩ : ∃ R, R = keyB x y z := ⟨_, rfl⟩
  rw [← hR] at hl ⊢
  have HLL := Lib.hid hl
  clear hl
  have hall : R = allB ((Value.nilFunc, beR 8 x) :: [(Value.nilFunc, [byteI y]), (Value.nilFunc, beR 8 z)]) := by rw [hR]; simp [allB, keyB]
  have HALL := Lib.hid hall
  clear hall hR
  go_enter Try.func43, Try.ntmps43
  go_upto_region 1 with fail
  generalize hw3 : World.alloc _ _ = w3
  have hb3 : Below w.heap.size w w3 := by rw [← hw3]; exact (Below.refl _ _).alloc (Nat.le_refl _) _
  have hx3 : w3.heap[w.heap.size]? = some (.cells #[.int .i64 x, .int .i64 y, .int .i64 z] 26 (0, 0)) := by rw [← hw3]; exact heap_alloc_new _ _
  have d0 : w3.cell? ⟨w.heap.size, 0, none⟩ = some (.int .i64 x) := by rw [cell_of_row _ _ _ _ _ _ hx3]; rfl
  have d1 : w3.cell? ⟨w.heap.size, 1, none⟩ = some (.int .i64 y) := by rw [cell_of_row _ _ _ _ _ _ hx3]; rfl
  have d2 : w3.cell? ⟨w.heap.size, 2, none⟩ = some (.int .i64 z) := by rw [cell_of_row _ _ _ _ _ _ hx3]; rfl
  have H3 := Lib.hid hb3
  clear hb3 hx3 hw3
  have hst0 : SKey w.heap.size x y z w3 w3.drew := ⟨d0, d1, d2, Lib.hid (Below.refl _ _).drew⟩
  go_region_held3 (fun W => SKey w.heap.size x y z w3 W) (first | assumption | exact hst0 | exact sKey_below hstC ((Below.refl _ _).alloc (Nat.le_refl _) _))
    (first
    | (go_at_call_of 42 (Value.int IntKind.i64 x); ((with_reducible refine (sKey_call (n0 := w.heap.size) (x := x) (y := y) (z := z) (w3 := w3) (long_any x _) ?_).mono ?_)); (first | assumption | (refine ⟨?_, ?_, ?_, ?_⟩ <;> assumption) | (go_split_ands; refine ⟨?_, ?_, ?_, ?_⟩ <;> assumption)); rintro e wA ⟨vA, rfl, hoA, hstA⟩; obtain ⟨aA, nA, cA, rfl⟩ := hoA.out.1.shape)
    | (go_at_call_of 41 (Value.int IntKind.i64 y); ((with_reducible refine (sKey_call (n0 := w.heap.size) (x := x) (y := y) (z := z) (w3 := w3) (small_any y _) ?_).mono ?_)); (first | assumption | (refine ⟨?_, ?_, ?_, ?_⟩ <;> assumption) | (go_split_ands; refine ⟨?_, ?_, ?_, ?_⟩ <;> assumption)); rintro e wB ⟨vB, rfl, hoB, hstB⟩; obtain ⟨aB, nB, cB, rfl⟩ := hoB.out.1.shape)
    | (go_at_call_of 42 (Value.int IntKind.i64 z); ((with_reducible refine (sKey_call (n0 := w.heap.size) (x := x) (y := y) (z := z) (w3 := w3) (long_any z _) ?_).mono ?_)); (first | assumption | (refine ⟨?_, ?_, ?_, ?_⟩ <;> assumption) | (go_split_ands; refine ⟨?_, ?_, ?_, ?_⟩ <;> assumption)); rintro e wC ⟨vC, rfl, hoC, hstC⟩; obtain ⟨aC, nC, cC, rfl⟩ := hoC.out.1.shape)
    | (go_at_call 39; have hbj := (Below.refl wC.heap.size wC).alloc (Nat.le_refl _) (.cells #[.slice aA nA cA, .slice aB nB cB, .slice aC nC cC] 24); have hcl := join_any (wC.alloc (.cells #[.slice aA nA cA, .slice aB nB cB, .slice aC nC cC] 24)) wC.heap.size 3 [(.slice aA nA cA, beR 8 x), (.slice aB nB cB, [byteI y]), (.slice aC nC cC, beR 8 z)] 24 rfl (heap_alloc_new _ _) (Pcs.cons (Pcs.one ((hoA.out.1.below (hoB.out.2.trans (hoC.out.2.mono hoB.out.2.size))).below hbj) (by first | exact len1 _ | exact len4 _ | exact len8 _ | exact lenK _ _ _)) (Pcs.cons (Pcs.one ((hoB.out.1.below hoC.out.2).below hbj) (by first | exact len1 _ | exact len4 _ | exact len8 _ | exact lenK _ _ _)) (Pcs.cons (Pcs.one (hoC.out.1.below hbj) (by first | exact len1 _ | exact len4 _ | exact len8 _ | exact lenK _ _ _)) (Pcs.nil _)))) (by have := HLL.out; rw [HALL.out] at this; exact Nat.le_trans this (by decide)) (by decide); refine (sKey_call (n0 := w.heap.size) (x := x) (y := y) (z := z) (w3 := w3) hcl (sKey_below hstC hbj)).mono ?_; rintro e wJ ⟨vJ, rfl, hoJ, hstJ⟩))
  all_goals
    go_wp2
    go_ret
    rw [HALL.out]
    exact ⟨vJ, rfl, hoJ.out.1.mono (by have := H3.out.size; have := hstC.2.2.2.out.size; simp; omega), H3.out.trans (hstJ.2.2.2.out.mono H3.out.size)⟩
abbrev SE1 (n0 : Nat) (q : Rs) (w3 W : World) : Prop := W.cell? ⟨n0, 1, none⟩ = some (.int .u32 q.id) ∧ W.cell? ⟨n0, 2, none⟩ = some (.int .i64 q.err) ∧ W.cell? ⟨n0, 3, none⟩ = some (.int .i64 q.floor) ∧ Hid (Below w3.heap.size w3 W)
theorem sE1_below {n0 : Nat} {q : Rs} {w3 W w' : World} (h : SE1 n0 q w3 W) (hb : Below W.heap.size W w') : SE1 n0 q w3 w' := by
  obtain ⟨x0, x1, x2, z⟩ := h
  exact ⟨cell_below x0 hb, cell_below x1 hb, cell_below x2 hb, Lib.hid (z.out.trans (hb.mono z.out.size))⟩
theorem sE1_call {n0 : Nat} {q : Rs} {w3 W : World} {f : FuncId} {args : Array Value} {l : List UInt8} (hc : Calls Try.prog f args W (CloneTo l W)) (h : SE1 n0 q w3 W) : Calls Try.prog f args W (fun e w' => ∃ v, e = .returned v ∧ Hid (CB.Own 5 W.heap.size w' v l ∧ Below W.heap.size W w') ∧ SE1 n0 q w3 w') :=
  hc.mono fun _ _ ⟨v, h1, h2, h3⟩ => ⟨v, h1, Lib.hid ⟨h2, h3⟩, sE1_below h h3⟩
set_option maxHeartbeats 4000000 in
set_option maxRecDepth 100000 in
theorem rencS_1 (w : World) (q : Rs) (mv : Value) (h : WfS q) (hk : q.kind = 1) : Calls Try.prog 20 #[.agg (RsC q mv)] w (CloneTo (byteI q.kind :: askS q) w) := by
  have mixed : Try.prog.follows .mixedOrders = true := by kernel_rfl
  obtain ⟨R, hR⟩ : ∃ R, R = byteI q.kind :: askS q := ⟨_, rfl⟩
  rw [← hR]
  have hl : R.length ≤ 1000 := by rw [hR]; unfold askS; rw [hk]; simp [tabG, outsS, nID, nErr, nFloor, beR_len]
  have HLL := Lib.hid hl
  clear hl
  have hall : R = allB ((Value.nilFunc, [byteI 1]) :: [(Value.nilFunc, beR 4 q.id), (Value.nilFunc, [byteI q.err]), (Value.nilFunc, beR 8 q.floor)]) := by rw [hR]; unfold askS; rw [hk]; simp [tabG, outsS, allB, nID, nErr, nFloor]
  have HALL := Lib.hid hall
  clear hall
  clear hR
  have HW := Lib.hid h
  clear h
  obtain ⟨k, hkk⟩ : ∃ k, k = q.kind := ⟨_, rfl⟩
  have HKK := Lib.hid hkk
  have HK := Lib.hid hk
  clear hk
  go_enter Try.func20, Try.ntmps20
  go_upto_region 1 with fail
  generalize hw1 : World.alloc _ _ = w1
  have hb1 : Below w.heap.size w w1 := by rw [← hw1]; exact (Below.refl _ _).alloc (Nat.le_refl _) _
  have hx1 : w1.heap[w.heap.size]? = some (.cells (RsC q mv) 47 (0, 0)) := by rw [← hw1]; exact heap_alloc_new _ _
  obtain ⟨d0, d1, d2, d3, d4, d5, d6, d7, d8, d9, d10, d11, d12, d13, d14, d15, d16, d17⟩ := RsC_cells hx1
  rw [← hkk] at d0
  clear hkk
  have H1 := Lib.hid hb1
  clear hb1 hx1 hw1
  go_upto_region 2 with fail
  have hor := own_out w1 k w.heap.size H1.out.size
  have hbr : Below w1.heap.size w1 (w1.alloc (.cells #[.int .u8 (k % 256)] 5)) := (Below.refl _ _).alloc (Nat.le_refl _) _
  revert hor hbr
  generalize World.alloc w1 _ = w3
  intro hor hbr
  replace d0 := cell_below d0 hbr
  replace d1 := cell_below d1 hbr
  replace d2 := cell_below d2 hbr
  replace d3 := cell_below d3 hbr
  replace d4 := cell_below d4 hbr
  replace d5 := cell_below d5 hbr
  replace d6 := cell_below d6 hbr
  replace d7 := cell_below d7 hbr
  replace d8 := cell_below d8 hbr
  replace d9 := cell_below d9 hbr
  replace d10 := cell_below d10 hbr
  replace d11 := cell_below d11 hbr
  replace d12 := cell_below d12 hbr
  replace d13 := cell_below d13 hbr
  replace d14 := cell_below d14 hbr
  replace d15 := cell_below d15 hbr
  replace d16 := cell_below d16 hbr
  replace d17 := cell_below d17 hbr
  have H3 := Lib.hid (And.intro (H1.out.trans (hbr.mono H1.out.size)) hor)
  clear hbr hor
  obtain rfl : k = 1 := HKK.out.trans HK.out
  clear d4 d5 d6 d7 d8 d9 d10 d11 d12 d13 d14 d15 d16 d17
  go_wp2_with fail
  have hst0 : SE1 w.heap.size q w3 w3.drew := ⟨d1, d2, d3, Lib.hid (Below.refl _ _).drew⟩
  go_region_held3 (fun W => SE1 w.heap.size q w3 W) (first | assumption | exact hst0 | exact sE1_below hstC ((Below.refl _ _).alloc (Nat.le_refl _) _))
    (first
    | (go_at_call_of 40 (Value.int IntKind.u32 q.id); ((with_reducible refine (sE1_call (n0 := w.heap.size) (q := q) (w3 := w3) (word_any' q.id HW.out.id _) ?_).mono ?_)); (first | assumption | (refine ⟨?_, ?_, ?_, ?_⟩ <;> assumption) | (go_split_ands; refine ⟨?_, ?_, ?_, ?_⟩ <;> assumption)); rintro e wA ⟨vA, rfl, hoA, hstA⟩; obtain ⟨aA, nA, cA, rfl⟩ := hoA.out.1.shape)
    | (go_at_call_of 41 (Value.int IntKind.i64 q.err); ((with_reducible refine (sE1_call (n0 := w.heap.size) (q := q) (w3 := w3) (small_any q.err _) ?_).mono ?_)); (first | assumption | (refine ⟨?_, ?_, ?_, ?_⟩ <;> assumption) | (go_split_ands; refine ⟨?_, ?_, ?_, ?_⟩ <;> assumption)); rintro e wB ⟨vB, rfl, hoB, hstB⟩; obtain ⟨aB, nB, cB, rfl⟩ := hoB.out.1.shape)
    | (go_at_call_of 42 (Value.int IntKind.i64 q.floor); ((with_reducible refine (sE1_call (n0 := w.heap.size) (q := q) (w3 := w3) (long_any q.floor _) ?_).mono ?_)); (first | assumption | (refine ⟨?_, ?_, ?_, ?_⟩ <;> assumption) | (go_split_ands; refine ⟨?_, ?_, ?_, ?_⟩ <;> assumption)); rintro e wC ⟨vC, rfl, hoC, hstC⟩; obtain ⟨aC, nC, cC, rfl⟩ := hoC.out.1.shape)
    | (go_at_call 39; have hbj := (Below.refl wC.heap.size wC).alloc (Nat.le_refl _) (.cells #[.slice (some ⟨w1.heap.size, 0, none⟩) 1 1, .slice aA nA cA, .slice aB nB cB, .slice aC nC cC] 24); have hcl := join_any (wC.alloc (.cells #[.slice (some ⟨w1.heap.size, 0, none⟩) 1 1, .slice aA nA cA, .slice aB nB cB, .slice aC nC cC] 24)) wC.heap.size 4 [(.slice (some ⟨w1.heap.size, 0, none⟩) 1 1, [byteI 1]), (.slice aA nA cA, beR 4 q.id), (.slice aB nB cB, [byteI q.err]), (.slice aC nC cC, beR 8 q.floor)] 24 rfl (heap_alloc_new _ _) (Pcs.cons (Pcs.one ((H3.out.2.below hstC.2.2.2.out).below hbj) (by first | exact len1 _ | exact len4 _ | exact len8 _ | exact lenK _ _ _)) (Pcs.cons (Pcs.one ((hoA.out.1.below (hoB.out.2.trans (hoC.out.2.mono hoB.out.2.size))).below hbj) (by first | exact len1 _ | exact len4 _ | exact len8 _ | exact lenK _ _ _)) (Pcs.cons (Pcs.one ((hoB.out.1.below hoC.out.2).below hbj) (by first | exact len1 _ | exact len4 _ | exact len8 _ | exact lenK _ _ _)) (Pcs.cons (Pcs.one (hoC.out.1.below hbj) (by first | exact len1 _ | exact len4 _ | exact len8 _ | exact lenK _ _ _)) (Pcs.nil _))))) (by have := HLL.out; rw [HALL.out] at this; exact Nat.le_trans this (by decide)) (by decide); refine (sE1_call (n0 := w.heap.size) (q := q) (w3 := w3) hcl (sE1_below hstC hbj)).mono ?_; rintro e wJ ⟨vJ, rfl, hoJ, hstJ⟩))
  all_goals
    go_wp2
    go_ret
    rw [HALL.out]
    exact ⟨vJ, rfl, hoJ.out.1.mono (by have := H3.out.1.size; have := hstC.2.2.2.out.size; simp; omega), H3.out.1.trans (hstJ.2.2.2.out.mono H3.out.1.size)⟩
abbrev SE3 (n0 : Nat) (q : Rs) (w3 W : World) : Prop := W.cell? ⟨n0, 5, none⟩ = some (.int .i64 q.rt) ∧ W.cell? ⟨n0, 6, none⟩ = some (.int .i64 q.ro) ∧ W.cell? ⟨n0, 7, none⟩ = some (.int .i64 q.rs) ∧ W.cell? ⟨n0, 8, none⟩ = some (.int .i64 q.rp) ∧ W.cell? ⟨n0, 9, none⟩ = some (.int .i64 q.rn) ∧ W.cell? ⟨n0, 10, none⟩ = some (.int .i64 q.rv) ∧ Hid (Below w3.heap.size w3 W)
theorem sE3_below {n0 : Nat} {q : Rs} {w3 W w' : World} (h : SE3 n0 q w3 W) (hb : Below W.heap.size W w') : SE3 n0 q w3 w' := by
  obtain ⟨x0, x1, x2, x3, x4, x5, z⟩ := h
  exact ⟨cell_below x0 hb, cell_below x1 hb, cell_below x2 hb, cell_below x3 hb, cell_below x4 hb, cell_below x5 hb, Lib.hid (z.out.trans (hb.mono z.out.size))⟩
theorem sE3_call {n0 : Nat} {q : Rs} {w3 W : World} {f : FuncId} {args : Array Value} {l : List UInt8} (hc : Calls Try.prog f args W (CloneTo l W)) (h : SE3 n0 q w3 W) : Calls Try.prog f args W (fun e w' => ∃ v, e = .returned v ∧ Hid (CB.Own 5 W.heap.size w' v l ∧ Below W.heap.size W w') ∧ SE3 n0 q w3 w') :=
  hc.mono fun _ _ ⟨v, h1, h2, h3⟩ => ⟨v, h1, Lib.hid ⟨h2, h3⟩, sE3_below h h3⟩
set_option maxHeartbeats 4000000 in
set_option maxRecDepth 100000 in
theorem rencS_3 (w : World) (q : Rs) (mv : Value) (h : WfS q) (hk : q.kind = 3) : Calls Try.prog 20 #[.agg (RsC q mv)] w (CloneTo (byteI q.kind :: askS q) w) := by
  have mixed : Try.prog.follows .mixedOrders = true := by kernel_rfl
  obtain ⟨R, hR⟩ : ∃ R, R = byteI q.kind :: askS q := ⟨_, rfl⟩
  rw [← hR]
  have hl : R.length ≤ 1000 := by rw [hR]; unfold askS; rw [hk]; simp [tabG, outsS, nRecord, beR_len]
  have HLL := Lib.hid hl
  clear hl
  have hall : R = allB ((Value.nilFunc, [byteI 3]) :: [(Value.nilFunc, keyB q.rt q.ro q.rs), (Value.nilFunc, [byteI q.rp]), (Value.nilFunc, [byteI q.rn]), (Value.nilFunc, beR 8 q.rv)]) := by rw [hR]; unfold askS; rw [hk]; simp [tabG, outsS, allB, keyB, nRecord]
  have HALL := Lib.hid hall
  clear hall
  clear hR
  have HW := Lib.hid h
  clear h
  obtain ⟨k, hkk⟩ : ∃ k, k = q.kind := ⟨_, rfl⟩
  have HKK := Lib.hid hkk
  have HK := Lib.hid hk
  clear hk
  go_enter Try.func20, Try.ntmps20
  go_upto_region 1 with fail
  generalize hw1 : World.alloc _ _ = w1
  have hb1 : Below w.heap.size w w1 := by rw [← hw1]; exact (Below.refl _ _).alloc (Nat.le_refl _) _
  have hx1 : w1.heap[w.heap.size]? = some (.cells (RsC q mv) 47 (0, 0)) := by rw [← hw1]; exact heap_alloc_new _ _
  obtain ⟨d0, d1, d2, d3, d4, d5, d6, d7, d8, d9, d10, d11, d12, d13, d14, d15, d16, d17⟩ := RsC_cells hx1
  rw [← hkk] at d0
  clear hkk
  have H1 := Lib.hid hb1
  clear hb1 hx1 hw1
  go_upto_region 2 with fail
  have hor := own_out w1 k w.heap.size H1.out.size
  have hbr : Below w1.heap.size w1 (w1.alloc (.cells #[.int .u8 (k % 256)] 5)) := (Below.refl _ _).alloc (Nat.le_refl _) _
  revert hor hbr
  generalize World.alloc w1 _ = w3
  intro hor hbr
  replace d0 := cell_below d0 hbr
  replace d1 := cell_below d1 hbr
  replace d2 := cell_below d2 hbr
  replace d3 := cell_below d3 hbr
  replace d4 := cell_below d4 hbr
  replace d5 := cell_below d5 hbr
  replace d6 := cell_below d6 hbr
  replace d7 := cell_below d7 hbr
  replace d8 := cell_below d8 hbr
  replace d9 := cell_below d9 hbr
  replace d10 := cell_below d10 hbr
  replace d11 := cell_below d11 hbr
  replace d12 := cell_below d12 hbr
  replace d13 := cell_below d13 hbr
  replace d14 := cell_below d14 hbr
  replace d15 := cell_below d15 hbr
  replace d16 := cell_below d16 hbr
  replace d17 := cell_below d17 hbr
  have H3 := Lib.hid (And.intro (H1.out.trans (hbr.mono H1.out.size)) hor)
  clear hbr hor
  obtain rfl : k = 3 := HKK.out.trans HK.out
  clear d1 d2 d3 d4 d11 d12 d13 d14 d15 d16 d17
  go_wp2_with fail
  have hst0 : SE3 w.heap.size q w3 w3.drew := ⟨d5, d6, d7, d8, d9, d10, Lib.hid (Below.refl _ _).drew⟩
  go_region_held3 (fun W => SE3 w.heap.size q w3 W) (first | assumption | exact hst0 | exact sE3_below hstD ((Below.refl _ _).alloc (Nat.le_refl _) _))
    (first
    | (go_at_call 43; ((with_reducible refine (sE3_call (n0 := w.heap.size) (q := q) (w3 := w3) (key_any q.rt q.ro q.rs _) ?_).mono ?_)); (first | assumption | (refine ⟨?_, ?_, ?_, ?_, ?_, ?_, ?_⟩ <;> assumption) | (go_split_ands; refine ⟨?_, ?_, ?_, ?_, ?_, ?_, ?_⟩ <;> assumption)); rintro e wA ⟨vA, rfl, hoA, hstA⟩; obtain ⟨aA, nA, cA, rfl⟩ := hoA.out.1.shape)
    | (go_at_call_of 41 (Value.int IntKind.i64 q.rp); ((with_reducible refine (sE3_call (n0 := w.heap.size) (q := q) (w3 := w3) (small_any q.rp _) ?_).mono ?_)); (first | assumption | (refine ⟨?_, ?_, ?_, ?_, ?_, ?_, ?_⟩ <;> assumption) | (go_split_ands; refine ⟨?_, ?_, ?_, ?_, ?_, ?_, ?_⟩ <;> assumption)); rintro e wB ⟨vB, rfl, hoB, hstB⟩; obtain ⟨aB, nB, cB, rfl⟩ := hoB.out.1.shape)
    | (go_at_call_of 41 (Value.int IntKind.i64 q.rn); ((with_reducible refine (sE3_call (n0 := w.heap.size) (q := q) (w3 := w3) (small_any q.rn _) ?_).mono ?_)); (first | assumption | (refine ⟨?_, ?_, ?_, ?_, ?_, ?_, ?_⟩ <;> assumption) | (go_split_ands; refine ⟨?_, ?_, ?_, ?_, ?_, ?_, ?_⟩ <;> assumption)); rintro e wC ⟨vC, rfl, hoC, hstC⟩; obtain ⟨aC, nC, cC, rfl⟩ := hoC.out.1.shape)
    | (go_at_call_of 42 (Value.int IntKind.i64 q.rv); ((with_reducible refine (sE3_call (n0 := w.heap.size) (q := q) (w3 := w3) (long_any q.rv _) ?_).mono ?_)); (first | assumption | (refine ⟨?_, ?_, ?_, ?_, ?_, ?_, ?_⟩ <;> assumption) | (go_split_ands; refine ⟨?_, ?_, ?_, ?_, ?_, ?_, ?_⟩ <;> assumption)); rintro e wD ⟨vD, rfl, hoD, hstD⟩; obtain ⟨aD, nD, cD, rfl⟩ := hoD.out.1.shape)
    | (go_at_call 39; have hbj := (Below.refl wD.heap.size wD).alloc (Nat.le_refl _) (.cells #[.slice (some ⟨w1.heap.size, 0, none⟩) 1 1, .slice aA nA cA, .slice aB nB cB, .slice aC nC cC, .slice aD nD cD] 24); have hcl := join_any (wD.alloc (.cells #[.slice (some ⟨w1.heap.size, 0, none⟩) 1 1, .slice aA nA cA, .slice aB nB cB, .slice aC nC cC, .slice aD nD cD] 24)) wD.heap.size 5 [(.slice (some ⟨w1.heap.size, 0, none⟩) 1 1, [byteI 3]), (.slice aA nA cA, keyB q.rt q.ro q.rs), (.slice aB nB cB, [byteI q.rp]), (.slice aC nC cC, [byteI q.rn]), (.slice aD nD cD, beR 8 q.rv)] 24 rfl (heap_alloc_new _ _) (Pcs.cons (Pcs.one ((H3.out.2.below hstD.2.2.2.2.2.2.out).below hbj) (by first | exact len1 _ | exact len4 _ | exact len8 _ | exact lenK _ _ _)) (Pcs.cons (Pcs.one ((hoA.out.1.below ((hoB.out.2.trans (hoC.out.2.mono hoB.out.2.size)).trans (hoD.out.2.mono (hoB.out.2.trans (hoC.out.2.mono hoB.out.2.size)).size))).below hbj) (by first | exact len1 _ | exact len4 _ | exact len8 _ | exact lenK _ _ _)) (Pcs.cons (Pcs.one ((hoB.out.1.below (hoC.out.2.trans (hoD.out.2.mono hoC.out.2.size))).below hbj) (by first | exact len1 _ | exact len4 _ | exact len8 _ | exact lenK _ _ _)) (Pcs.cons (Pcs.one ((hoC.out.1.below hoD.out.2).below hbj) (by first | exact len1 _ | exact len4 _ | exact len8 _ | exact lenK _ _ _)) (Pcs.cons (Pcs.one (hoD.out.1.below hbj) (by first | exact len1 _ | exact len4 _ | exact len8 _ | exact lenK _ _ _)) (Pcs.nil _)))))) (by have := HLL.out; rw [HALL.out] at this; exact Nat.le_trans this (by decide)) (by decide); refine (sE3_call (n0 := w.heap.size) (q := q) (w3 := w3) hcl (sE3_below hstD hbj)).mono ?_; rintro e wJ ⟨vJ, rfl, hoJ, hstJ⟩))
  all_goals
    go_wp2
    go_ret
    rw [HALL.out]
    exact ⟨vJ, rfl, hoJ.out.1.mono (by have := H3.out.1.size; have := hstD.2.2.2.2.2.2.out.size; simp; omega), H3.out.1.trans (hstJ.2.2.2.2.2.2.out.mono H3.out.1.size)⟩
abbrev SE4 (n0 : Nat) (q : Rs) (w3 W : World) : Prop := W.cell? ⟨n0, 11, none⟩ = some (.int .u32 q.num) ∧ W.cell? ⟨n0, 12, none⟩ = some (.int .i64 q.time) ∧ W.cell? ⟨n0, 13, none⟩ = some (.int .i64 q.org) ∧ W.cell? ⟨n0, 14, none⟩ = some (.int .i64 q.seq) ∧ W.cell? ⟨n0, 15, none⟩ = some (.int .i64 q.pt) ∧ W.cell? ⟨n0, 16, none⟩ = some (.int .i64 q.ek) ∧ W.cell? ⟨n0, 17, none⟩ = some (.int .i64 q.dat) ∧ Hid (Below w3.heap.size w3 W)
theorem sE4_below {n0 : Nat} {q : Rs} {w3 W w' : World} (h : SE4 n0 q w3 W) (hb : Below W.heap.size W w') : SE4 n0 q w3 w' := by
  obtain ⟨x0, x1, x2, x3, x4, x5, x6, z⟩ := h
  exact ⟨cell_below x0 hb, cell_below x1 hb, cell_below x2 hb, cell_below x3 hb, cell_below x4 hb, cell_below x5 hb, cell_below x6 hb, Lib.hid (z.out.trans (hb.mono z.out.size))⟩
theorem sE4_call {n0 : Nat} {q : Rs} {w3 W : World} {f : FuncId} {args : Array Value} {l : List UInt8} (hc : Calls Try.prog f args W (CloneTo l W)) (h : SE4 n0 q w3 W) : Calls Try.prog f args W (fun e w' => ∃ v, e = .returned v ∧ Hid (CB.Own 5 W.heap.size w' v l ∧ Below W.heap.size W w') ∧ SE4 n0 q w3 w') :=
  hc.mono fun _ _ ⟨v, h1, h2, h3⟩ => ⟨v, h1, Lib.hid ⟨h2, h3⟩, sE4_below h h3⟩
set_option maxHeartbeats 4000000 in
set_option maxRecDepth 100000 in
theorem rencS_4 (w : World) (q : Rs) (mv : Value) (h : WfS q) (hk : q.kind = 4) : Calls Try.prog 20 #[.agg (RsC q mv)] w (CloneTo (byteI q.kind :: askS q) w) := by
  have mixed : Try.prog.follows .mixedOrders = true := by kernel_rfl
  obtain ⟨R, hR⟩ : ∃ R, R = byteI q.kind :: askS q := ⟨_, rfl⟩
  rw [← hR]
  have hl : R.length ≤ 1000 := by rw [hR]; unfold askS; rw [hk]; simp [tabG, outsS, nNum, nEvent, beR_len]
  have HLL := Lib.hid hl
  clear hl
  have hall : R = allB ((Value.nilFunc, [byteI 4]) :: [(Value.nilFunc, beR 4 q.num), (Value.nilFunc, keyB q.time q.org q.seq), (Value.nilFunc, [byteI q.pt]), (Value.nilFunc, [byteI q.ek]), (Value.nilFunc, beR 8 q.dat)]) := by rw [hR]; unfold askS; rw [hk]; simp [tabG, outsS, allB, keyB, nNum, nEvent]
  have HALL := Lib.hid hall
  clear hall
  clear hR
  have HW := Lib.hid h
  clear h
  obtain ⟨k, hkk⟩ : ∃ k, k = q.kind := ⟨_, rfl⟩
  have HKK := Lib.hid hkk
  have HK := Lib.hid hk
  clear hk
  go_enter Try.func20, Try.ntmps20
  go_upto_region 1 with fail
  generalize hw1 : World.alloc _ _ = w1
  have hb1 : Below w.heap.size w w1 := by rw [← hw1]; exact (Below.refl _ _).alloc (Nat.le_refl _) _
  have hx1 : w1.heap[w.heap.size]? = some (.cells (RsC q mv) 47 (0, 0)) := by rw [← hw1]; exact heap_alloc_new _ _
  obtain ⟨d0, d1, d2, d3, d4, d5, d6, d7, d8, d9, d10, d11, d12, d13, d14, d15, d16, d17⟩ := RsC_cells hx1
  rw [← hkk] at d0
  clear hkk
  have H1 := Lib.hid hb1
  clear hb1 hx1 hw1
  go_upto_region 2 with fail
  have hor := own_out w1 k w.heap.size H1.out.size
  have hbr : Below w1.heap.size w1 (w1.alloc (.cells #[.int .u8 (k % 256)] 5)) := (Below.refl _ _).alloc (Nat.le_refl _) _
  revert hor hbr
  generalize World.alloc w1 _ = w3
  intro hor hbr
  replace d0 := cell_below d0 hbr
  replace d1 := cell_below d1 hbr
  replace d2 := cell_below d2 hbr
  replace d3 := cell_below d3 hbr
  replace d4 := cell_below d4 hbr
  replace d5 := cell_below d5 hbr
  replace d6 := cell_below d6 hbr
  replace d7 := cell_below d7 hbr
  replace d8 := cell_below d8 hbr
  replace d9 := cell_below d9 hbr
  replace d10 := cell_below d10 hbr
  replace d11 := cell_below d11 hbr
  replace d12 := cell_below d12 hbr
  replace d13 := cell_below d13 hbr
  replace d14 := cell_below d14 hbr
  replace d15 := cell_below d15 hbr
  replace d16 := cell_below d16 hbr
  replace d17 := cell_below d17 hbr
  have H3 := Lib.hid (And.intro (H1.out.trans (hbr.mono H1.out.size)) hor)
  clear hbr hor
  obtain rfl : k = 4 := HKK.out.trans HK.out
  clear d1 d2 d3 d4 d5 d6 d7 d8 d9 d10
  go_wp2_with fail
  have hst0 : SE4 w.heap.size q w3 w3.drew := ⟨d11, d12, d13, d14, d15, d16, d17, Lib.hid (Below.refl _ _).drew⟩
  go_region_held3 (fun W => SE4 w.heap.size q w3 W) (first | assumption | exact hst0 | exact sE4_below hstE ((Below.refl _ _).alloc (Nat.le_refl _) _))
    (first
    | (go_at_call_of 40 (Value.int IntKind.u32 q.num); ((with_reducible refine (sE4_call (n0 := w.heap.size) (q := q) (w3 := w3) (word_any' q.num HW.out.num _) ?_).mono ?_)); (first | assumption | (refine ⟨?_, ?_, ?_, ?_, ?_, ?_, ?_, ?_⟩ <;> assumption) | (go_split_ands; refine ⟨?_, ?_, ?_, ?_, ?_, ?_, ?_, ?_⟩ <;> assumption)); rintro e wA ⟨vA, rfl, hoA, hstA⟩; obtain ⟨aA, nA, cA, rfl⟩ := hoA.out.1.shape)
    | (go_at_call 43; ((with_reducible refine (sE4_call (n0 := w.heap.size) (q := q) (w3 := w3) (key_any q.time q.org q.seq _) ?_).mono ?_)); (first | assumption | (refine ⟨?_, ?_, ?_, ?_, ?_, ?_, ?_, ?_⟩ <;> assumption) | (go_split_ands; refine ⟨?_, ?_, ?_, ?_, ?_, ?_, ?_, ?_⟩ <;> assumption)); rintro e wB ⟨vB, rfl, hoB, hstB⟩; obtain ⟨aB, nB, cB, rfl⟩ := hoB.out.1.shape)
    | (go_at_call_of 41 (Value.int IntKind.i64 q.pt); ((with_reducible refine (sE4_call (n0 := w.heap.size) (q := q) (w3 := w3) (small_any q.pt _) ?_).mono ?_)); (first | assumption | (refine ⟨?_, ?_, ?_, ?_, ?_, ?_, ?_, ?_⟩ <;> assumption) | (go_split_ands; refine ⟨?_, ?_, ?_, ?_, ?_, ?_, ?_, ?_⟩ <;> assumption)); rintro e wC ⟨vC, rfl, hoC, hstC⟩; obtain ⟨aC, nC, cC, rfl⟩ := hoC.out.1.shape)
    | (go_at_call_of 41 (Value.int IntKind.i64 q.ek); ((with_reducible refine (sE4_call (n0 := w.heap.size) (q := q) (w3 := w3) (small_any q.ek _) ?_).mono ?_)); (first | assumption | (refine ⟨?_, ?_, ?_, ?_, ?_, ?_, ?_, ?_⟩ <;> assumption) | (go_split_ands; refine ⟨?_, ?_, ?_, ?_, ?_, ?_, ?_, ?_⟩ <;> assumption)); rintro e wD ⟨vD, rfl, hoD, hstD⟩; obtain ⟨aD, nD, cD, rfl⟩ := hoD.out.1.shape)
    | (go_at_call_of 42 (Value.int IntKind.i64 q.dat); ((with_reducible refine (sE4_call (n0 := w.heap.size) (q := q) (w3 := w3) (long_any q.dat _) ?_).mono ?_)); (first | assumption | (refine ⟨?_, ?_, ?_, ?_, ?_, ?_, ?_, ?_⟩ <;> assumption) | (go_split_ands; refine ⟨?_, ?_, ?_, ?_, ?_, ?_, ?_, ?_⟩ <;> assumption)); rintro e wE ⟨vE, rfl, hoE, hstE⟩; obtain ⟨aE, nE, cE, rfl⟩ := hoE.out.1.shape)
    | (go_at_call 39; have hbj := (Below.refl wE.heap.size wE).alloc (Nat.le_refl _) (.cells #[.slice (some ⟨w1.heap.size, 0, none⟩) 1 1, .slice aA nA cA, .slice aB nB cB, .slice aC nC cC, .slice aD nD cD, .slice aE nE cE] 24); have hcl := join_any (wE.alloc (.cells #[.slice (some ⟨w1.heap.size, 0, none⟩) 1 1, .slice aA nA cA, .slice aB nB cB, .slice aC nC cC, .slice aD nD cD, .slice aE nE cE] 24)) wE.heap.size 6 [(.slice (some ⟨w1.heap.size, 0, none⟩) 1 1, [byteI 4]), (.slice aA nA cA, beR 4 q.num), (.slice aB nB cB, keyB q.time q.org q.seq), (.slice aC nC cC, [byteI q.pt]), (.slice aD nD cD, [byteI q.ek]), (.slice aE nE cE, beR 8 q.dat)] 24 rfl (heap_alloc_new _ _) (Pcs.cons (Pcs.one ((H3.out.2.below hstE.2.2.2.2.2.2.2.out).below hbj) (by first | exact len1 _ | exact len4 _ | exact len8 _ | exact lenK _ _ _)) (Pcs.cons (Pcs.one ((hoA.out.1.below (((hoB.out.2.trans (hoC.out.2.mono hoB.out.2.size)).trans (hoD.out.2.mono (hoB.out.2.trans (hoC.out.2.mono hoB.out.2.size)).size)).trans (hoE.out.2.mono ((hoB.out.2.trans (hoC.out.2.mono hoB.out.2.size)).trans (hoD.out.2.mono (hoB.out.2.trans (hoC.out.2.mono hoB.out.2.size)).size)).size))).below hbj) (by first | exact len1 _ | exact len4 _ | exact len8 _ | exact lenK _ _ _)) (Pcs.cons (Pcs.one ((hoB.out.1.below ((hoC.out.2.trans (hoD.out.2.mono hoC.out.2.size)).trans (hoE.out.2.mono (hoC.out.2.trans (hoD.out.2.mono hoC.out.2.size)).size))).below hbj) (by first | exact len1 _ | exact len4 _ | exact len8 _ | exact lenK _ _ _)) (Pcs.cons (Pcs.one ((hoC.out.1.below (hoD.out.2.trans (hoE.out.2.mono hoD.out.2.size))).below hbj) (by first | exact len1 _ | exact len4 _ | exact len8 _ | exact lenK _ _ _)) (Pcs.cons (Pcs.one ((hoD.out.1.below hoE.out.2).below hbj) (by first | exact len1 _ | exact len4 _ | exact len8 _ | exact lenK _ _ _)) (Pcs.cons (Pcs.one (hoE.out.1.below hbj) (by first | exact len1 _ | exact len4 _ | exact len8 _ | exact lenK _ _ _)) (Pcs.nil _))))))) (by have := HLL.out; rw [HALL.out] at this; exact Nat.le_trans this (by decide)) (by decide); refine (sE4_call (n0 := w.heap.size) (q := q) (w3 := w3) hcl (sE4_below hstE hbj)).mono ?_; rintro e wJ ⟨vJ, rfl, hoJ, hstJ⟩))
  all_goals
    go_wp2
    go_ret
    rw [HALL.out]
    exact ⟨vJ, rfl, hoJ.out.1.mono (by have := H3.out.1.size; have := hstE.2.2.2.2.2.2.2.out.size; simp; omega), H3.out.1.trans (hstJ.2.2.2.2.2.2.2.out.mono H3.out.1.size)⟩
end Go.Proofs.Ytdpfmaikijilkaa
namespace Go.Proofs.Ytdpfmaikijilkaa
open Go Go.RowKit Go.Sort Go.Proofs

set_option maxHeartbeats 4000000 in
set_option maxRecDepth 100000 in
theorem rencS_0 (w : World) (q : Rs) (mv : Value) (h : WfS q) (hk : q.kind ≠ 1 ∧ q.kind ≠ 2 ∧ q.kind ≠ 3 ∧ q.kind ≠ 4) : Calls Try.prog 20 #[.agg (RsC q mv)] w (CloneTo (byteI q.kind :: askS q) w) := by
  have mixed : Try.prog.follows .mixedOrders = true := by kernel_rfl
  obtain ⟨R, hR⟩ : ∃ R, R = byteI q.kind :: askS q := ⟨_, rfl⟩
  rw [← hR]
  have hall : R = [byteI q.kind] ++ [byteI q.err] := by rw [hR]; unfold askS tabG; obtain ⟨k1, k2, k3, k4⟩ := hk; rw [if_neg k1, if_neg k2, if_neg k3, if_neg k4]; simp [outsS, nErr]
  have HALL := Lib.hid hall
  clear hall
  clear hR
  have HW := Lib.hid h
  clear h
  obtain ⟨k, hkk⟩ : ∃ k, k = q.kind := ⟨_, rfl⟩
  have HKK := Lib.hid hkk
  have HK := Lib.hid hk
  clear hk
  go_enter Try.func20, Try.ntmps20
  go_upto_region 1 with fail
  generalize hw1 : World.alloc _ _ = w1
  have hb1 : Below w.heap.size w w1 := by rw [← hw1]; exact (Below.refl _ _).alloc (Nat.le_refl _) _
  have hx1 : w1.heap[w.heap.size]? = some (.cells (RsC q mv) 47 (0, 0)) := by rw [← hw1]; exact heap_alloc_new _ _
  obtain ⟨d0, d1, d2, d3, d4, d5, d6, d7, d8, d9, d10, d11, d12, d13, d14, d15, d16, d17⟩ := RsC_cells hx1
  rw [← hkk] at d0
  clear hkk
  have H1 := Lib.hid hb1
  clear hb1 hx1 hw1
  go_upto_region 2 with fail
  have hor := own_out w1 k w.heap.size H1.out.size
  have hbr : Below w1.heap.size w1 (w1.alloc (.cells #[.int .u8 (k % 256)] 5)) := (Below.refl _ _).alloc (Nat.le_refl _) _
  revert hor hbr
  generalize World.alloc w1 _ = w3
  intro hor hbr
  replace d0 := cell_below d0 hbr
  replace d1 := cell_below d1 hbr
  replace d2 := cell_below d2 hbr
  replace d3 := cell_below d3 hbr
  replace d4 := cell_below d4 hbr
  replace d5 := cell_below d5 hbr
  replace d6 := cell_below d6 hbr
  replace d7 := cell_below d7 hbr
  replace d8 := cell_below d8 hbr
  replace d9 := cell_below d9 hbr
  replace d10 := cell_below d10 hbr
  replace d11 := cell_below d11 hbr
  replace d12 := cell_below d12 hbr
  replace d13 := cell_below d13 hbr
  replace d14 := cell_below d14 hbr
  replace d15 := cell_below d15 hbr
  replace d16 := cell_below d16 hbr
  replace d17 := cell_below d17 hbr
  have H3 := Lib.hid (And.intro (H1.out.trans (hbr.mono H1.out.size)) hor)
  clear hbr hor
  have hk := HK.out
  rw [← HKK.out] at hk
  obtain ⟨k1, k2, k3, k4⟩ := hk
  clear d1 d3 d4 d5 d6 d7 d8 d9 d10 d11 d12 d13 d14 d15 d16 d17
  obtain ⟨er, her⟩ : ∃ er, er = q.err := ⟨_, rfl⟩
  rw [← her] at d2
  have HER := Lib.hid her
  clear her
  have hbz := H3.out.1.size
  go_wp2_with (first
    | (at_builtin; have hor4 := own_out w3 er w.heap.size hbz; have hbr4 : Below w3.heap.size w3 (w3.alloc (.cells #[.int .u8 (er % 256)] 5)) := ((Below.refl _ _).alloc (Nat.le_refl _) _); obtain ⟨a9, c9, e9, -, hat9, -, -⟩ := hor4.at_ (by simp); injection e9 with e91 e92 e93; subst e91; refine rowB.list rfl _ _ rfl w.heap.size _ [byteI k] rfl (H3.out.2.below hbr4) ⟨w3.heap.size, 0, none⟩ 1 1 [byteI er] rfl rfl hat9.news (by simp) (by simp) (Nat.le_trans hbz hbr4.size) ?_; intro v6 w6 hown6 hgrow6 _; have H6 := Lib.hid (And.intro hown6 ((H3.out.1.trans (hbr4.mono hbz)).trans ((But.grown hgrow6).below (Nat.le_trans hbz hbr4.size) fun i e => ((H3.out.2.below hbr4).lt i e.symm).1))); clear hown6 hgrow6 e92 e93 hat9))
  go_ret
  rw [HALL.out, ← HKK.out, ← HER.out]
  exact ⟨v6, rfl, H6.out.1, H6.out.2⟩
abbrev SE2 (n0 : Nat) (q : Rs) (mv : Value) (w3 W : World) : Prop := W.cell? ⟨n0, 1, none⟩ = some (.int .u32 q.id) ∧ W.cell? ⟨n0, 3, none⟩ = some (.int .i64 q.floor) ∧ W.cell? ⟨n0, 4, none⟩ = some mv ∧ Hid (Below w3.heap.size w3 W)
theorem sE2_below {n0 : Nat} {q : Rs} {mv : Value} {w3 W w' : World} (h : SE2 n0 q mv w3 W) (hb : Below W.heap.size W w') : SE2 n0 q mv w3 w' := by
  obtain ⟨x0, x1, x2, z⟩ := h
  exact ⟨cell_below x0 hb, cell_below x1 hb, cell_below x2 hb, Lib.hid (z.out.trans (hb.mono z.out.size))⟩
theorem sE2_call {n0 : Nat} {q : Rs} {mv : Value} {w3 W : World} {f : FuncId} {args : Array Value} {l : List UInt8} (hc : Calls Try.prog f args W (CloneTo l W)) (h : SE2 n0 q mv w3 W) : Calls Try.prog f args W (fun e w' => ∃ v, e = .returned v ∧ Hid (CB.Own 5 W.heap.size w' v l ∧ Below W.heap.size W w') ∧ SE2 n0 q mv w3 w') :=
  hc.mono fun _ _ ⟨v, h1, h2, h3⟩ => ⟨v, h1, Lib.hid ⟨h2, h3⟩, sE2_below h h3⟩
def VarR (w : World) (B1 : Nat) (q : Rs) (mv : Value) (m : Nat) (v i : Value) (wr : World) : Prop :=
  ∃ (k j : Nat) (x : Value), k + j = m ∧ i = .int .i64 (k : Int) ∧ x = v ∧ CB.Own 5 B1 wr x (([byteI 2] ++ beR 4 q.id ++ beR 8 q.floor ++ [byteI m]) ++ bytesV (q.vars.take k)) ∧ Below w.heap.size w wr ∧ B1 ≤ wr.heap.size ∧ wr.heap[w.heap.size]? = some (.cells (RsC q mv) 47 (0, 0))
theorem bytesV_snoc (l : List Int) (k : Nat) (x : Int) (h : l[k]? = some x) : bytesV (l.take (k + 1)) = bytesV (l.take k) ++ beR 8 x := by
  rw [List.take_add_one, h]
  simp [bytesV]
theorem bytesV_take (l : List Int) (k : Nat) : (bytesV (l.take k)).length ≤ 8 * l.length := by
  rw [bytesV_len, List.length_take]
  omega
set_option maxHeartbeats 4000000 in
set_option maxRecDepth 100000 in
theorem rencS_2 (w : World) (q : Rs) (mv : Value) (h : WfS q) (hk : q.kind = 2) (a : Option Addr) (cap : Nat) (hmv : mv = .slice a q.vars.length cap) (ha : CV.At w a q.vars.length q.vars) (hlen : q.vars.length ≤ 100) : Calls Try.prog 20 #[.agg (RsC q mv)] w (CloneTo (byteI q.kind :: askS q) w) := by
  have mixed : Try.prog.follows .mixedOrders = true := by kernel_rfl
  obtain ⟨R, hR⟩ : ∃ R, R = byteI q.kind :: askS q := ⟨_, rfl⟩
  rw [← hR]
  have hall : R = ([byteI 2] ++ beR 4 q.id ++ beR 8 q.floor ++ [byteI q.vars.length]) ++ bytesV q.vars := by rw [hR]; unfold askS; rw [hk]; simp [tabG, outsS, nID, nFloor, nVars]
  have HALL := Lib.hid hall
  clear hall
  obtain ⟨m, hm⟩ : ∃ m, m = q.vars.length := ⟨_, rfl⟩
  have hJ : ([byteI 2] ++ beR 4 q.id ++ beR 8 q.floor ++ [byteI (m : Int)]).length ≤ 1000 ∧ ([byteI 2] ++ beR 4 q.id ++ beR 8 q.floor ++ [byteI (m : Int)]) = allB ((Value.nilFunc, [byteI 2]) :: [(Value.nilFunc, beR 4 q.id), (Value.nilFunc, beR 8 q.floor), (Value.nilFunc, [byteI (m : Int)])]) := ⟨by simp [beR_len], by simp [allB]⟩
  obtain ⟨J, hJe⟩ : ∃ J, J = ([byteI 2] ++ beR 4 q.id ++ beR 8 q.floor ++ [byteI (m : Int)]) := ⟨_, rfl⟩
  rw [← hJe] at hJ
  have HLJ := Lib.hid hJ.1
  have HAJ := Lib.hid hJ.2
  have HJE := Lib.hid hJe
  rw [← hm] at hmv hlen
  have HM := Lib.hid (And.intro hm ha)
  have HMV := Lib.hid hmv
  clear hJ hJe hm hmv ha
  clear hR
  have HW := Lib.hid h
  clear h
  obtain ⟨k, hkk⟩ : ∃ k, k = q.kind := ⟨_, rfl⟩
  have HKK := Lib.hid hkk
  have HK := Lib.hid hk
  clear hk
  go_enter Try.func20, Try.ntmps20
  go_upto_region 1 with fail
  generalize hw1 : World.alloc _ _ = w1
  have hb1 : Below w.heap.size w w1 := by rw [← hw1]; exact (Below.refl _ _).alloc (Nat.le_refl _) _
  have hx1 : w1.heap[w.heap.size]? = some (.cells (RsC q mv) 47 (0, 0)) := by rw [← hw1]; exact heap_alloc_new _ _
  obtain ⟨d0, d1, d2, d3, d4, d5, d6, d7, d8, d9, d10, d11, d12, d13, d14, d15, d16, d17⟩ := RsC_cells hx1
  rw [← hkk] at d0
  clear hkk
  have z1 : w.heap.size < w1.heap.size := (Array.getElem?_eq_some_iff.1 hx1).1
  have H1 := Lib.hid hb1
  clear hb1 hw1
  go_upto_region 2 with fail
  have hor := own_out w1 k w1.heap.size (Nat.le_refl _)
  have hbr : Below w1.heap.size w1 (w1.alloc (.cells #[.int .u8 (k % 256)] 5)) := (Below.refl _ _).alloc (Nat.le_refl _) _
  revert hor hbr
  generalize World.alloc w1 _ = w3
  intro hor hbr
  have HX3 := Lib.hid ((hbr.block _ (Array.getElem?_eq_some_iff.1 hx1).1).trans hx1)
  clear hx1
  replace d0 := cell_below d0 hbr
  replace d1 := cell_below d1 hbr
  replace d2 := cell_below d2 hbr
  replace d3 := cell_below d3 hbr
  replace d4 := cell_below d4 hbr
  replace d5 := cell_below d5 hbr
  replace d6 := cell_below d6 hbr
  replace d7 := cell_below d7 hbr
  replace d8 := cell_below d8 hbr
  replace d9 := cell_below d9 hbr
  replace d10 := cell_below d10 hbr
  replace d11 := cell_below d11 hbr
  replace d12 := cell_below d12 hbr
  replace d13 := cell_below d13 hbr
  replace d14 := cell_below d14 hbr
  replace d15 := cell_below d15 hbr
  replace d16 := cell_below d16 hbr
  replace d17 := cell_below d17 hbr
  have H3 := Lib.hid (And.intro (H1.out.trans (hbr.mono H1.out.size)) hor)
  clear hbr hor
  obtain rfl : k = 2 := HKK.out.trans HK.out
  rw [HMV.out] at d4
  clear d2 d5 d6 d7 d8 d9 d10 d11 d12 d13 d14 d15 d16 d17
  go_wp2_with fail
  have hst0 : SE2 w.heap.size q (.slice a m cap) w3 w3.drew := ⟨d1, d3, d4, Lib.hid (Below.refl _ _).drew⟩
  go_region_held3 (fun W => SE2 w.heap.size q (.slice a m cap) w3 W) (first | assumption | exact hst0 | exact sE2_below hstC ((Below.refl _ _).alloc (Nat.le_refl _) _))
    (first
    | (go_at_call_of 40 (Value.int IntKind.u32 q.id); ((with_reducible refine (sE2_call (n0 := w.heap.size) (q := q) (mv := .slice a m cap) (w3 := w3) (word_any' q.id HW.out.id _) ?_).mono ?_)); (first | assumption | (refine ⟨?_, ?_, ?_, ?_⟩ <;> assumption) | (go_split_ands; refine ⟨?_, ?_, ?_, ?_⟩ <;> assumption)); rintro e wA ⟨vA, rfl, hoA, hstA⟩; obtain ⟨aA, nA, cA, rfl⟩ := hoA.out.1.shape)
    | (go_at_call_of 42 (Value.int IntKind.i64 q.floor); ((with_reducible refine (sE2_call (n0 := w.heap.size) (q := q) (mv := .slice a m cap) (w3 := w3) (long_any q.floor _) ?_).mono ?_)); (first | assumption | (refine ⟨?_, ?_, ?_, ?_⟩ <;> assumption) | (go_split_ands; refine ⟨?_, ?_, ?_, ?_⟩ <;> assumption)); rintro e wB ⟨vB, rfl, hoB, hstB⟩; obtain ⟨aB, nB, cB, rfl⟩ := hoB.out.1.shape)
    | (go_at_call_of 41 (Value.int IntKind.i64 (m : Int)); ((with_reducible refine (sE2_call (n0 := w.heap.size) (q := q) (mv := .slice a m cap) (w3 := w3) (small_any (m : Int) _) ?_).mono ?_)); (first | assumption | (refine ⟨?_, ?_, ?_, ?_⟩ <;> assumption) | (go_split_ands; refine ⟨?_, ?_, ?_, ?_⟩ <;> assumption)); rintro e wC ⟨vC, rfl, hoC, hstC⟩; obtain ⟨aC, nC, cC, rfl⟩ := hoC.out.1.shape)
    | (go_at_call 39; have hbj := (Below.refl wC.heap.size wC).alloc (Nat.le_refl _) (.cells #[.slice (some ⟨w1.heap.size, 0, none⟩) 1 1, .slice aA nA cA, .slice aB nB cB, .slice aC nC cC] 24); have hcl := join_any (wC.alloc (.cells #[.slice (some ⟨w1.heap.size, 0, none⟩) 1 1, .slice aA nA cA, .slice aB nB cB, .slice aC nC cC] 24)) wC.heap.size 4 [(.slice (some ⟨w1.heap.size, 0, none⟩) 1 1, [byteI 2]), (.slice aA nA cA, beR 4 q.id), (.slice aB nB cB, beR 8 q.floor), (.slice aC nC cC, [byteI m])] 24 rfl (heap_alloc_new _ _) (Pcs.cons (Pcs.one ((H3.out.2.below hstC.2.2.2.out).below hbj) (by first | exact len1 _ | exact len4 _ | exact len8 _ | exact lenK _ _ _)) (Pcs.cons (Pcs.one ((hoA.out.1.below (hoB.out.2.trans (hoC.out.2.mono hoB.out.2.size))).below hbj) (by first | exact len1 _ | exact len4 _ | exact len8 _ | exact lenK _ _ _)) (Pcs.cons (Pcs.one ((hoB.out.1.below hoC.out.2).below hbj) (by first | exact len1 _ | exact len4 _ | exact len8 _ | exact lenK _ _ _)) (Pcs.cons (Pcs.one (hoC.out.1.below hbj) (by first | exact len1 _ | exact len4 _ | exact len8 _ | exact lenK _ _ _)) (Pcs.nil _))))) (by have := HLJ.out; rw [HAJ.out] at this; exact Nat.le_trans this (by decide)) (by decide); refine (sE2_call (n0 := w.heap.size) (q := q) (mv := .slice a m cap) (w3 := w3) hcl (sE2_below hstC hbj)).mono ?_; rintro e wJ ⟨vJ, rfl, hoJ, hstJ⟩))
  have hz3 : w1.heap.size ≤ w3.heap.size := by have := H3.out.2.lt w1.heap.size rfl; omega
  have HJ : Hid (CB.Own 5 w1.heap.size wJ vJ ([byteI 2] ++ beR 4 q.id ++ beR 8 q.floor ++ [byteI (m : Int)]) ∧ Below w.heap.size w wJ) := ⟨by rw [← HJE.out, HAJ.out]; exact hoJ.out.1.mono (by have := hstC.2.2.2.out.size; simp; omega), H3.out.1.trans (hstJ.2.2.2.out.mono H3.out.1.size)⟩
  have hxJ : wJ.heap[w.heap.size]? = some (.cells (RsC q (.slice a m cap)) 47 (0, 0)) := by rw [← HMV.out]; exact (hstJ.2.2.2.out.block _ (Array.getElem?_eq_some_iff.1 HX3.out).1).trans HX3.out
  have HZJ := Lib.hid hstJ.2.2.2.out.size
  clear hoJ hstJ hoA hstA hoB hstB hoC hstC hst0
  go_wp2
  go_loopw [3, 4] (fun v i wr => VarR w w1.heap.size q (.slice a m cap) m v i wr) (fun _ i _ => ((m : Int) - intOf i).toNat)
  case atStart => exact ⟨0, m, _, by omega, rfl, rfl, by rw [List.take_zero, show bytesV [] = [] from rfl, List.append_nil]; exact HJ.out.1, HJ.out.2, Nat.le_trans hz3 (HZJ.out), hxJ⟩
  case round =>
    obtain ⟨k, j, x, hkj, rfl, rfl, hown, hbel, hb1s, hxr⟩ := hrel
    have HB1 := Lib.hid hb1s
    clear hb1s
    have dv := (RsC_cells hxr).2.2.2.2.1
    have HXR := Lib.hid hxr
    clear hxr
    have HKJ := Lib.hid hkj
    have HOWN := Lib.hid hown
    have HBEL := Lib.hid hbel
    rcases j with _ | j
    · obtain rfl : k = m := by omega
      clear hown hbel
      go_wp2
      go_ret
      have h2 := HOWN.out
      rw [HM.out.1, List.take_of_length_le (Nat.le_refl _)] at h2
      exact ⟨_, rfl, by rw [HALL.out]; exact h2.mono (Nat.le_of_lt z1), HBEL.out⟩
    · have hkm : k < m := by omega
      obtain ⟨B, off, e1, xv, hx, hc⟩ := CV_cell (HM.out.2.below hbel) (i := k) (by rw [← HM.out.1]; exact hkm)
      have hbt := bytesV_take q.vars k
      have hL : ([byteI 2] ++ beR 4 q.id ++ beR 8 q.floor ++ [byteI (m : Int)] ++ bytesV (q.vars.take k)).length ≤ 1000 := by
        have := HM.out.1
        simp [beR_len]
        omega
      have HX := Lib.hid (And.intro hx hL)
      clear hown hbel hkj hx hL hbt
      subst e1
      go_wp2_with (first
        | (go_at_call 42; refine (long_any xv wr).mono ?_; rintro e w2 ⟨v2, rfl, ho2, hb2⟩; obtain ⟨ad2, c2, rfl, -, hat2, -, hsh2⟩ := ho2.at_ (len8 _); rcases hsh2 with ⟨_, h20, _⟩ | ⟨g2, rfl⟩; (exfalso; have := beR_len 8 xv; rw [h20] at this; cases this); rw [beR_len] at hat2 ⊢; have H2 := Lib.hid (And.intro hb2 hat2); clear hb2 hat2 ho2)
        | (at_builtin; refine rowB.list rfl _ _ rfl w1.heap.size x _ rfl (HOWN.out.below H2.out.1) ⟨g2, 0, none⟩ 8 c2 (beR 8 xv) rfl (beR_len 8 xv).symm H2.out.2.news (by have := HX.out.2; omega) (by have := HX.out.2; omega) (Nat.le_trans HB1.out H2.out.1.size) ?_; intro v4 w4 hown4 hgrow4 _; have H4 := Lib.hid (And.intro hown4 hgrow4); clear hown4 hgrow4))
      go_roundw
      case rel =>
        refine ⟨k + 1, j, _, by have := HKJ.out; omega, by simp, rfl, by rw [bytesV_snoc _ _ _ HX.out.1, ← List.append_assoc]; exact H4.out.1, ?_, Nat.le_trans (Nat.le_trans HB1.out H2.out.1.size) (But.grown H4.out.2).size, ?_⟩
        · exact (HBEL.out.trans (H2.out.1.mono HBEL.out.size)).trans ((But.grown H4.out.2).below (Nat.le_trans HBEL.out.size H2.out.1.size) fun i e => by have := ((HOWN.out.below H2.out.1).lt i e.symm).1; omega)
        · have h2 := (H2.out.1.block _ (Array.getElem?_eq_some_iff.1 HXR.out).1).trans HXR.out
          exact ((But.grown H4.out.2).block _ (Array.getElem?_eq_some_iff.1 h2).1 (fun e => by have := ((HOWN.out.below H2.out.1).lt _ e.symm).1; omega)).trans h2
      case measure => first | (simp [intOf]; done) | (simp [intOf]; omega)
theorem rEncodeResponse_any (w : World) (q : Rs) (a : Option Addr) (cap : Nat) (h : WfS q) (ha : CV.At w a q.vars.length q.vars) (hlen : q.vars.length ≤ 100) : Calls Try.prog 20 #[.agg (RsC q (.slice a q.vars.length cap))] w (CloneTo (byteI q.kind :: askS q) w) := by
  by_cases k1 : q.kind = 1
  · exact rencS_1 w q _ h k1
  by_cases k2 : q.kind = 2
  · exact rencS_2 w q _ h k2 a cap rfl ha hlen
  by_cases k3 : q.kind = 3
  · exact rencS_3 w q _ h k3
  by_cases k4 : q.kind = 4
  · exact rencS_4 w q _ h k4
  exact rencS_0 w q _ h ⟨k1, k2, k3, k4⟩
end Go.Proofs.Ytdpfmaikijilkaa
