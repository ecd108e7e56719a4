/-
  The walk of the document's Ask.
-/
import Derived.Test.YtdpfmaikijilkaaDH
import Derived.Test.YtdpfmaikijilkaaMQ
import Derived.Test.YtdpfmaikijilkaaWR
import Derived.Deep.CutRange
import Derived.Deep.RegionHeld3
namespace Go.Proofs.Ytdpfmaikijilkaa
open Go Go.RowKit Go.Sort Go.Proofs

/-- the fields that a kind names -/
def tabM (k : Int) : List Fm :=
  if k = 1 then [mID, mVer] else if k = 2 then [mID, mModel] else if k = 3 then [mID, mEvent] else if k = 4 then [mID, mNum, mBreak] else if k = 5 then [mID, mNum] else if k = 6 then [mID, mProc] else if k = 10 then [mID, mRate] else [mID]
def askQ (q : Rq) : List UInt8 := outs (tabM q.kind) q
/-- cells that stand, and what has been laid behind -/
def Cells (cs : List (Addr × Value)) (W : World) : Prop := ∀ p ∈ cs, W.cell? p.1 = some p.2
theorem cell_below {w w' : World} {p : Addr} {v : Value} (h : w.cell? p = some v) (hb : Below w.heap.size w w') : w'.cell? p = some v := by rw [hb.cell (World.block_lt_of_cell? w _ h)]; exact h
theorem clone_st {f : FuncId} {args : Array Value} {l : List UInt8} {w3 W : World} (hc : Calls Try.prog f args W (CloneTo l W)) (h : Hid (Below w3.heap.size w3 W)) : Calls Try.prog f args W (fun e w' => ∃ v, e = .returned v ∧ Hid (CB.Own 5 W.heap.size w' v l ∧ Below W.heap.size W w') ∧ Hid (Below w3.heap.size w3 w')) :=
  hc.mono fun _ _ ⟨v, h1, h2, h3⟩ => ⟨v, h1, Lib.hid ⟨h2, h3⟩, Lib.hid (h.out.trans (h3.mono h.out.size))⟩
theorem Pcs.one {w : World} {v : Value} {l : List UInt8} {B : Nat} (h : CB.Own 5 B w v l) (hl : l.length ≤ 1000000) : ∃ a c, v = .slice a l.length c ∧ CB.At w a l.length l ∧ (a = none → c = 0) := by
  obtain ⟨a, c, e, _, hat, _, hx⟩ := h.at_ hl
  exact ⟨a, c, e, hat, fun e => by
    rcases hx with ⟨_, _, h⟩ | ⟨g, h⟩
    · exact h
    · rw [h] at e; cases e⟩
theorem len1 (n : Int) : [byteI n].length ≤ 1000000 := by simp
theorem len4 (n : Int) : (beR 4 n).length ≤ 1000000 := by simp [beR_len]
theorem len8 (n : Int) : (beR 8 n).length ≤ 1000000 := by simp [beR_len]
theorem Pcs.nil (w : World) : Pcs w [] := fun p h => by cases h
theorem Pcs.cons {w : World} {v : Value} {l : List UInt8} {t : List (Value × List UInt8)} (h : ∃ a c, v = .slice a l.length c ∧ CB.At w a l.length l ∧ (a = none → c = 0)) (ht : Pcs w t) : Pcs w ((v, l) :: t) := fun p hp => by
  rcases List.mem_cons.1 hp with rfl | hp
  · exact h
  · exact ht p hp
set_option maxHeartbeats 4000000 in
set_option maxRecDepth 100000 in
theorem ask_1 (w : World) (q : Rq) (mv : Value) (h : Wf q) (hk : q.kind = 1) : Calls Try.prog 34 #[.agg (RqC q mv)] w (CloneTo (askQ q) w) := by
  have mixed : Try.prog.follows .mixedOrders = true := by kernel_rfl
  obtain ⟨R, hR⟩ : ∃ R, R = askQ q := ⟨_, rfl⟩
  rw [← hR]
  have hl : R.length ≤ 1000 := by rw [hR]; unfold askQ; rw [hk]; simp [tabM, outs, mID, mVer, beR_len]
  have HLL := Lib.hid hl
  clear hl
  have hall : R = allB ((Value.nilFunc, beR 4 q.id) :: [(Value.nilFunc, [byteI q.ver])]) := by rw [hR]; unfold askQ; rw [hk]; simp [tabM, outs, allB, mID, mVer]
  have HALL := Lib.hid hall
  clear hall
  have HR := Lib.hid hR
  clear hR
  obtain ⟨k, hkk⟩ : ∃ k, k = q.kind := ⟨_, rfl⟩
  go_enter Try.func34, Try.ntmps34
  go_upto_region 1 with fail
  generalize hw1 : World.alloc _ _ = w1
  have hb1 : Below w.heap.size w w1 := by rw [← hw1]; exact (Below.refl _ _).alloc (Nat.le_refl _) _
  have hx1 : w1.heap[w.heap.size]? = some (.cells (RqC q mv) 32 (0, 0)) := by rw [← hw1]; exact heap_alloc_new _ _
  obtain ⟨d0, d1, d2, d3, d4, d5, d6, d7, d8, d9, d10, d11, d12, d13, d14, d15, d16⟩ := RqC_cells hx1
  have H1 := Lib.hid (And.intro hb1 hx1)
  clear hb1 hx1 hw1
  have HW := Lib.hid h
  clear h
  go_upto_region 3 with (first
    | (go_at_call 40; refine (word_any' q.id HW.out.id _).mono ?_; rintro e w2 ⟨v2, rfl, ho2, hb2⟩; obtain ⟨a2, n2, c2, rfl⟩ := ho2.shape; clear d0 d1 d2 d3 d4 d5 d6 d7 d8 d9 d10 d11 d12 d13 d14 d15 d16; have hx2 := (hb2.block _ (Array.getElem?_eq_some_iff.1 H1.out.2).1).trans H1.out.2; obtain ⟨d0, d1, d2, d3, d4, d5, d6, d7, d8, d9, d10, d11, d12, d13, d14, d15, d16⟩ := RqC_cells hx2; have H2 := Lib.hid (And.intro (H1.out.1.trans (hb2.mono H1.out.1.size)) (And.intro hx2 (ho2.mono H1.out.1.size))); clear hx2 ho2 hb2))
  generalize hw3 : World.alloc _ _ = w3
  have hb3 : Below w2.heap.size w2 w3 := by rw [← hw3]; exact (Below.refl _ _).alloc (Nat.le_refl _) _
  have hx3 : w3.heap[w2.heap.size]? = some (.cells #[.int .i64 q.time, .int .i64 q.org, .int .i64 q.seq, .int .i64 q.pt, .int .i64 q.ek, .int .i64 q.dat] 28 (0, 0)) := by rw [← hw3]; exact heap_alloc_new _ _
  have e0 : w3.cell? ⟨w2.heap.size, 0, none⟩ = some (.int .i64 q.time) := by rw [cell_of_row _ _ _ _ _ _ hx3]; rfl
  have e3 : w3.cell? ⟨w2.heap.size, 3, none⟩ = some (.int .i64 q.pt) := by rw [cell_of_row _ _ _ _ _ _ hx3]; rfl
  have e4 : w3.cell? ⟨w2.heap.size, 4, none⟩ = some (.int .i64 q.ek) := by rw [cell_of_row _ _ _ _ _ _ hx3]; rfl
  have e5 : w3.cell? ⟨w2.heap.size, 5, none⟩ = some (.int .i64 q.dat) := by rw [cell_of_row _ _ _ _ _ _ hx3]; rfl
  replace d0 := cell_below d0 hb3
  replace d2 := cell_below d2 hb3
  replace d3 := cell_below d3 hb3
  replace d10 := cell_below d10 hb3
  replace d11 := cell_below d11 hb3
  replace d12 := cell_below d12 hb3
  replace d13 := cell_below d13 hb3
  replace d14 := cell_below d14 hb3
  replace d15 := cell_below d15 hb3
  replace d16 := cell_below d16 hb3
  have H3 := Lib.hid (And.intro (H2.out.1.trans (hb3.mono H2.out.1.size)) (H2.out.2.2.below hb3))
  clear d1 d4 d5 d6 d7 d8 d9 hb3 hx3 hw3
  rw [← hkk] at d0
  rw [hk] at hkk
  subst hkk
  go_wp2_with (first
    | (go_at_call 41; refine (small_any q.ver _).mono ?_; rintro e wA ⟨vA, rfl, hoA, hbA⟩; obtain ⟨aA, nA, cA, rfl⟩ := hoA.shape)
    | (go_at_call 39; have hbj := (Below.refl wA.heap.size wA).alloc (Nat.le_refl _) (.cells #[.slice a2 n2 c2, .slice aA nA cA] 24); refine (join_any _ wA.heap.size 2 [(.slice a2 n2 c2, beR 4 q.id), (.slice aA nA cA, [byteI q.ver])] 24 rfl (heap_alloc_new _ _) (Pcs.cons (Pcs.one ((H3.out.2.below hbA).below hbj) (by first | exact len1 _ | exact len4 _ | exact len8 _)) (Pcs.cons (Pcs.one (hoA.below hbj) (by first | exact len1 _ | exact len4 _ | exact len8 _)) (Pcs.nil _))) (by have := HALL.out; have := HLL.out; rw [HALL.out] at this; exact Nat.le_trans this (by decide)) (by decide)).mono ?_; rintro e wJ ⟨vJ, rfl, hoJ, hbJ⟩))
  go_ret
  have hx := hbA.trans ((((Below.refl wA.heap.size wA).alloc (Nat.le_refl _) (.cells #[.slice a2 n2 c2, .slice aA nA cA] 24)).trans (hbJ.mono (by simp))).mono hbA.size)
  rw [HALL.out]
  exact ⟨vJ, rfl, hoJ.mono (by have := H3.out.1.size; have := hbA.size; simp; omega), H3.out.1.trans (hx.mono H3.out.1.size)⟩
set_option maxHeartbeats 4000000 in
set_option maxRecDepth 100000 in
theorem ask_5 (w : World) (q : Rq) (mv : Value) (h : Wf q) (hk : q.kind = 5) : Calls Try.prog 34 #[.agg (RqC q mv)] w (CloneTo (askQ q) w) := by
  have mixed : Try.prog.follows .mixedOrders = true := by kernel_rfl
  obtain ⟨R, hR⟩ : ∃ R, R = askQ q := ⟨_, rfl⟩
  rw [← hR]
  have hl : R.length ≤ 1000 := by rw [hR]; unfold askQ; rw [hk]; simp [tabM, outs, mID, mNum, beR_len]
  have HLL := Lib.hid hl
  clear hl
  have hall : R = allB ((Value.nilFunc, beR 4 q.id) :: [(Value.nilFunc, beR 4 q.num)]) := by rw [hR]; unfold askQ; rw [hk]; simp [tabM, outs, allB, mID, mNum]
  have HALL := Lib.hid hall
  clear hall
  have HR := Lib.hid hR
  clear hR
  obtain ⟨k, hkk⟩ : ∃ k, k = q.kind := ⟨_, rfl⟩
  go_enter Try.func34, Try.ntmps34
  go_upto_region 1 with fail
  generalize hw1 : World.alloc _ _ = w1
  have hb1 : Below w.heap.size w w1 := by rw [← hw1]; exact (Below.refl _ _).alloc (Nat.le_refl _) _
  have hx1 : w1.heap[w.heap.size]? = some (.cells (RqC q mv) 32 (0, 0)) := by rw [← hw1]; exact heap_alloc_new _ _
  obtain ⟨d0, d1, d2, d3, d4, d5, d6, d7, d8, d9, d10, d11, d12, d13, d14, d15, d16⟩ := RqC_cells hx1
  have H1 := Lib.hid (And.intro hb1 hx1)
  clear hb1 hx1 hw1
  have HW := Lib.hid h
  clear h
  go_upto_region 3 with (first
    | (go_at_call 40; refine (word_any' q.id HW.out.id _).mono ?_; rintro e w2 ⟨v2, rfl, ho2, hb2⟩; obtain ⟨a2, n2, c2, rfl⟩ := ho2.shape; clear d0 d1 d2 d3 d4 d5 d6 d7 d8 d9 d10 d11 d12 d13 d14 d15 d16; have hx2 := (hb2.block _ (Array.getElem?_eq_some_iff.1 H1.out.2).1).trans H1.out.2; obtain ⟨d0, d1, d2, d3, d4, d5, d6, d7, d8, d9, d10, d11, d12, d13, d14, d15, d16⟩ := RqC_cells hx2; have H2 := Lib.hid (And.intro (H1.out.1.trans (hb2.mono H1.out.1.size)) (And.intro hx2 (ho2.mono H1.out.1.size))); clear hx2 ho2 hb2))
  generalize hw3 : World.alloc _ _ = w3
  have hb3 : Below w2.heap.size w2 w3 := by rw [← hw3]; exact (Below.refl _ _).alloc (Nat.le_refl _) _
  have hx3 : w3.heap[w2.heap.size]? = some (.cells #[.int .i64 q.time, .int .i64 q.org, .int .i64 q.seq, .int .i64 q.pt, .int .i64 q.ek, .int .i64 q.dat] 28 (0, 0)) := by rw [← hw3]; exact heap_alloc_new _ _
  have e0 : w3.cell? ⟨w2.heap.size, 0, none⟩ = some (.int .i64 q.time) := by rw [cell_of_row _ _ _ _ _ _ hx3]; rfl
  have e3 : w3.cell? ⟨w2.heap.size, 3, none⟩ = some (.int .i64 q.pt) := by rw [cell_of_row _ _ _ _ _ _ hx3]; rfl
  have e4 : w3.cell? ⟨w2.heap.size, 4, none⟩ = some (.int .i64 q.ek) := by rw [cell_of_row _ _ _ _ _ _ hx3]; rfl
  have e5 : w3.cell? ⟨w2.heap.size, 5, none⟩ = some (.int .i64 q.dat) := by rw [cell_of_row _ _ _ _ _ _ hx3]; rfl
  replace d0 := cell_below d0 hb3
  replace d2 := cell_below d2 hb3
  replace d3 := cell_below d3 hb3
  replace d10 := cell_below d10 hb3
  replace d11 := cell_below d11 hb3
  replace d12 := cell_below d12 hb3
  replace d13 := cell_below d13 hb3
  replace d14 := cell_below d14 hb3
  replace d15 := cell_below d15 hb3
  replace d16 := cell_below d16 hb3
  have H3 := Lib.hid (And.intro (H2.out.1.trans (hb3.mono H2.out.1.size)) (H2.out.2.2.below hb3))
  clear d1 d4 d5 d6 d7 d8 d9 hb3 hx3 hw3
  rw [← hkk] at d0
  rw [hk] at hkk
  subst hkk
  go_wp2_with (first
    | (go_at_call 40; refine (word_any' q.num HW.out.num _).mono ?_; rintro e wA ⟨vA, rfl, hoA, hbA⟩; obtain ⟨aA, nA, cA, rfl⟩ := hoA.shape)
    | (go_at_call 39; have hbj := (Below.refl wA.heap.size wA).alloc (Nat.le_refl _) (.cells #[.slice a2 n2 c2, .slice aA nA cA] 24); refine (join_any _ wA.heap.size 2 [(.slice a2 n2 c2, beR 4 q.id), (.slice aA nA cA, beR 4 q.num)] 24 rfl (heap_alloc_new _ _) (Pcs.cons (Pcs.one ((H3.out.2.below hbA).below hbj) (by first | exact len1 _ | exact len4 _ | exact len8 _)) (Pcs.cons (Pcs.one (hoA.below hbj) (by first | exact len1 _ | exact len4 _ | exact len8 _)) (Pcs.nil _))) (by have := HALL.out; have := HLL.out; rw [HALL.out] at this; exact Nat.le_trans this (by decide)) (by decide)).mono ?_; rintro e wJ ⟨vJ, rfl, hoJ, hbJ⟩))
  go_ret
  have hx := hbA.trans ((((Below.refl wA.heap.size wA).alloc (Nat.le_refl _) (.cells #[.slice a2 n2 c2, .slice aA nA cA] 24)).trans (hbJ.mono (by simp))).mono hbA.size)
  rw [HALL.out]
  exact ⟨vJ, rfl, hoJ.mono (by have := H3.out.1.size; have := hbA.size; simp; omega), H3.out.1.trans (hx.mono H3.out.1.size)⟩
set_option maxHeartbeats 4000000 in
set_option maxRecDepth 100000 in
theorem ask_6 (w : World) (q : Rq) (mv : Value) (h : Wf q) (hk : q.kind = 6) : Calls Try.prog 34 #[.agg (RqC q mv)] w (CloneTo (askQ q) w) := by
  have mixed : Try.prog.follows .mixedOrders = true := by kernel_rfl
  obtain ⟨R, hR⟩ : ∃ R, R = askQ q := ⟨_, rfl⟩
  rw [← hR]
  have hl : R.length ≤ 1000 := by rw [hR]; unfold askQ; rw [hk]; simp [tabM, outs, mID, mProc, beR_len]
  have HLL := Lib.hid hl
  clear hl
  have hall : R = allB ((Value.nilFunc, beR 4 q.id) :: [(Value.nilFunc, [byteI q.pr])]) := by rw [hR]; unfold askQ; rw [hk]; simp [tabM, outs, allB, mID, mProc]
  have HALL := Lib.hid hall
  clear hall
  have HR := Lib.hid hR
  clear hR
  obtain ⟨k, hkk⟩ : ∃ k, k = q.kind := ⟨_, rfl⟩
  go_enter Try.func34, Try.ntmps34
  go_upto_region 1 with fail
  generalize hw1 : World.alloc _ _ = w1
  have hb1 : Below w.heap.size w w1 := by rw [← hw1]; exact (Below.refl _ _).alloc (Nat.le_refl _) _
  have hx1 : w1.heap[w.heap.size]? = some (.cells (RqC q mv) 32 (0, 0)) := by rw [← hw1]; exact heap_alloc_new _ _
  obtain ⟨d0, d1, d2, d3, d4, d5, d6, d7, d8, d9, d10, d11, d12, d13, d14, d15, d16⟩ := RqC_cells hx1
  have H1 := Lib.hid (And.intro hb1 hx1)
  clear hb1 hx1 hw1
  have HW := Lib.hid h
  clear h
  go_upto_region 3 with (first
    | (go_at_call 40; refine (word_any' q.id HW.out.id _).mono ?_; rintro e w2 ⟨v2, rfl, ho2, hb2⟩; obtain ⟨a2, n2, c2, rfl⟩ := ho2.shape; clear d0 d1 d2 d3 d4 d5 d6 d7 d8 d9 d10 d11 d12 d13 d14 d15 d16; have hx2 := (hb2.block _ (Array.getElem?_eq_some_iff.1 H1.out.2).1).trans H1.out.2; obtain ⟨d0, d1, d2, d3, d4, d5, d6, d7, d8, d9, d10, d11, d12, d13, d14, d15, d16⟩ := RqC_cells hx2; have H2 := Lib.hid (And.intro (H1.out.1.trans (hb2.mono H1.out.1.size)) (And.intro hx2 (ho2.mono H1.out.1.size))); clear hx2 ho2 hb2))
  generalize hw3 : World.alloc _ _ = w3
  have hb3 : Below w2.heap.size w2 w3 := by rw [← hw3]; exact (Below.refl _ _).alloc (Nat.le_refl _) _
  have hx3 : w3.heap[w2.heap.size]? = some (.cells #[.int .i64 q.time, .int .i64 q.org, .int .i64 q.seq, .int .i64 q.pt, .int .i64 q.ek, .int .i64 q.dat] 28 (0, 0)) := by rw [← hw3]; exact heap_alloc_new _ _
  have e0 : w3.cell? ⟨w2.heap.size, 0, none⟩ = some (.int .i64 q.time) := by rw [cell_of_row _ _ _ _ _ _ hx3]; rfl
  have e3 : w3.cell? ⟨w2.heap.size, 3, none⟩ = some (.int .i64 q.pt) := by rw [cell_of_row _ _ _ _ _ _ hx3]; rfl
  have e4 : w3.cell? ⟨w2.heap.size, 4, none⟩ = some (.int .i64 q.ek) := by rw [cell_of_row _ _ _ _ _ _ hx3]; rfl
  have e5 : w3.cell? ⟨w2.heap.size, 5, none⟩ = some (.int .i64 q.dat) := by rw [cell_of_row _ _ _ _ _ _ hx3]; rfl
  replace d0 := cell_below d0 hb3
  replace d2 := cell_below d2 hb3
  replace d3 := cell_below d3 hb3
  replace d10 := cell_below d10 hb3
  replace d11 := cell_below d11 hb3
  replace d12 := cell_below d12 hb3
  replace d13 := cell_below d13 hb3
  replace d14 := cell_below d14 hb3
  replace d15 := cell_below d15 hb3
  replace d16 := cell_below d16 hb3
  have H3 := Lib.hid (And.intro (H2.out.1.trans (hb3.mono H2.out.1.size)) (H2.out.2.2.below hb3))
  clear d1 d4 d5 d6 d7 d8 d9 hb3 hx3 hw3
  rw [← hkk] at d0
  rw [hk] at hkk
  subst hkk
  go_wp2_with (first
    | (go_at_call 41; refine (small_any q.pr _).mono ?_; rintro e wA ⟨vA, rfl, hoA, hbA⟩; obtain ⟨aA, nA, cA, rfl⟩ := hoA.shape)
    | (go_at_call 39; have hbj := (Below.refl wA.heap.size wA).alloc (Nat.le_refl _) (.cells #[.slice a2 n2 c2, .slice aA nA cA] 24); refine (join_any _ wA.heap.size 2 [(.slice a2 n2 c2, beR 4 q.id), (.slice aA nA cA, [byteI q.pr])] 24 rfl (heap_alloc_new _ _) (Pcs.cons (Pcs.one ((H3.out.2.below hbA).below hbj) (by first | exact len1 _ | exact len4 _ | exact len8 _)) (Pcs.cons (Pcs.one (hoA.below hbj) (by first | exact len1 _ | exact len4 _ | exact len8 _)) (Pcs.nil _))) (by have := HALL.out; have := HLL.out; rw [HALL.out] at this; exact Nat.le_trans this (by decide)) (by decide)).mono ?_; rintro e wJ ⟨vJ, rfl, hoJ, hbJ⟩))
  go_ret
  have hx := hbA.trans ((((Below.refl wA.heap.size wA).alloc (Nat.le_refl _) (.cells #[.slice a2 n2 c2, .slice aA nA cA] 24)).trans (hbJ.mono (by simp))).mono hbA.size)
  rw [HALL.out]
  exact ⟨vJ, rfl, hoJ.mono (by have := H3.out.1.size; have := hbA.size; simp; omega), H3.out.1.trans (hx.mono H3.out.1.size)⟩
abbrev SA3 (e0 : Nat) (w3 : World) (q : Rq) (W : World) : Prop := W.cell? ⟨e0, 0, none⟩ = some (.int .i64 q.time) ∧ W.cell? ⟨e0, 3, none⟩ = some (.int .i64 q.pt) ∧ W.cell? ⟨e0, 4, none⟩ = some (.int .i64 q.ek) ∧ W.cell? ⟨e0, 5, none⟩ = some (.int .i64 q.dat) ∧ Hid (Below w3.heap.size w3 W)
theorem sa3_below {e0 : Nat} {w3 : World} {q : Rq} {W w' : World} (h : SA3 e0 w3 q W) (hb : Below W.heap.size W w') : SA3 e0 w3 q w' := by
  obtain ⟨a, b, c, d, z⟩ := h
  exact ⟨cell_below a hb, cell_below b hb, cell_below c hb, cell_below d hb, Lib.hid (z.out.trans (hb.mono z.out.size))⟩
theorem sa3_call {e0 : Nat} {w3 : World} {q : Rq} {W : World} {f : FuncId} {args : Array Value} {l : List UInt8} (hc : Calls Try.prog f args W (CloneTo l W)) (h : SA3 e0 w3 q W) : Calls Try.prog f args W (fun e w' => ∃ v, e = .returned v ∧ Hid (CB.Own 5 W.heap.size w' v l ∧ Below W.heap.size W w') ∧ SA3 e0 w3 q w') :=
  hc.mono fun _ _ ⟨v, h1, h2, h3⟩ => ⟨v, h1, Lib.hid ⟨h2, h3⟩, sa3_below h h3⟩
set_option maxHeartbeats 4000000 in
set_option maxRecDepth 100000 in
theorem ask_3 (w : World) (q : Rq) (mv : Value) (h : Wf q) (hk : q.kind = 3) : Calls Try.prog 34 #[.agg (RqC q mv)] w (CloneTo (askQ q) w) := by
  have mixed : Try.prog.follows .mixedOrders = true := by kernel_rfl
  obtain ⟨R, hR⟩ : ∃ R, R = askQ q := ⟨_, rfl⟩
  rw [← hR]
  have hl : R.length ≤ 1000 := by rw [hR]; unfold askQ; rw [hk]; simp [tabM, outs, mID, mEvent, beR_len]
  have HLL := Lib.hid hl
  clear hl
  have hall : R = allB ((Value.nilFunc, beR 4 q.id) :: [(Value.nilFunc, beR 8 q.time), (Value.nilFunc, [byteI q.pt]), (Value.nilFunc, [byteI q.ek]), (Value.nilFunc, beR 8 q.dat)]) := by rw [hR]; unfold askQ; rw [hk]; simp [tabM, outs, allB, mID, mEvent]
  have HALL := Lib.hid hall
  clear hall
  have HR := Lib.hid hR
  clear hR
  obtain ⟨k, hkk⟩ : ∃ k, k = q.kind := ⟨_, rfl⟩
  go_enter Try.func34, Try.ntmps34
  go_upto_region 1 with fail
  generalize hw1 : World.alloc _ _ = w1
  have hb1 : Below w.heap.size w w1 := by rw [← hw1]; exact (Below.refl _ _).alloc (Nat.le_refl _) _
  have hx1 : w1.heap[w.heap.size]? = some (.cells (RqC q mv) 32 (0, 0)) := by rw [← hw1]; exact heap_alloc_new _ _
  obtain ⟨d0, d1, d2, d3, d4, d5, d6, d7, d8, d9, d10, d11, d12, d13, d14, d15, d16⟩ := RqC_cells hx1
  have H1 := Lib.hid (And.intro hb1 hx1)
  clear hb1 hx1 hw1
  have HW := Lib.hid h
  clear h
  go_upto_region 3 with (first
    | (go_at_call 40; refine (word_any' q.id HW.out.id _).mono ?_; rintro e w2 ⟨v2, rfl, ho2, hb2⟩; obtain ⟨a2, n2, c2, rfl⟩ := ho2.shape; clear d0 d1 d2 d3 d4 d5 d6 d7 d8 d9 d10 d11 d12 d13 d14 d15 d16; have hx2 := (hb2.block _ (Array.getElem?_eq_some_iff.1 H1.out.2).1).trans H1.out.2; obtain ⟨d0, d1, d2, d3, d4, d5, d6, d7, d8, d9, d10, d11, d12, d13, d14, d15, d16⟩ := RqC_cells hx2; have H2 := Lib.hid (And.intro (H1.out.1.trans (hb2.mono H1.out.1.size)) (And.intro hx2 (ho2.mono H1.out.1.size))); clear hx2 ho2 hb2))
  generalize hw3 : World.alloc _ _ = w3
  have hb3 : Below w2.heap.size w2 w3 := by rw [← hw3]; exact (Below.refl _ _).alloc (Nat.le_refl _) _
  have hx3 : w3.heap[w2.heap.size]? = some (.cells #[.int .i64 q.time, .int .i64 q.org, .int .i64 q.seq, .int .i64 q.pt, .int .i64 q.ek, .int .i64 q.dat] 28 (0, 0)) := by rw [← hw3]; exact heap_alloc_new _ _
  have e0 : w3.cell? ⟨w2.heap.size, 0, none⟩ = some (.int .i64 q.time) := by rw [cell_of_row _ _ _ _ _ _ hx3]; rfl
  have e3 : w3.cell? ⟨w2.heap.size, 3, none⟩ = some (.int .i64 q.pt) := by rw [cell_of_row _ _ _ _ _ _ hx3]; rfl
  have e4 : w3.cell? ⟨w2.heap.size, 4, none⟩ = some (.int .i64 q.ek) := by rw [cell_of_row _ _ _ _ _ _ hx3]; rfl
  have e5 : w3.cell? ⟨w2.heap.size, 5, none⟩ = some (.int .i64 q.dat) := by rw [cell_of_row _ _ _ _ _ _ hx3]; rfl
  replace d0 := cell_below d0 hb3
  replace d2 := cell_below d2 hb3
  replace d3 := cell_below d3 hb3
  replace d10 := cell_below d10 hb3
  replace d11 := cell_below d11 hb3
  replace d12 := cell_below d12 hb3
  replace d13 := cell_below d13 hb3
  replace d14 := cell_below d14 hb3
  replace d15 := cell_below d15 hb3
  replace d16 := cell_below d16 hb3
  have H3 := Lib.hid (And.intro (H2.out.1.trans (hb3.mono H2.out.1.size)) (H2.out.2.2.below hb3))
  clear d1 d4 d5 d6 d7 d8 d9 hb3 hx3 hw3
  rw [← hkk] at d0
  rw [hk] at hkk
  subst hkk
  have hst0 : SA3 w2.heap.size w3 q w3.drew := ⟨e0, e3, e4, e5, Lib.hid (Below.refl _ _).drew⟩
  go_wp2_with fail
  go_region_held3 (fun W => SA3 w2.heap.size w3 q W) (first | assumption | exact hst0 | exact sa3_below hstD ((Below.refl _ _).alloc (Nat.le_refl _) _))
    (first
      | (go_at_call_of 42 (Value.int IntKind.i64 q.time); ((with_reducible refine (sa3_call (e0 := w2.heap.size) (w3 := w3) (q := q) (long_any q.time _) ?_).mono ?_)); (first | assumption | (refine ⟨?_, ?_, ?_, ?_, ?_⟩ <;> assumption) | (go_split_ands; refine ⟨?_, ?_, ?_, ?_, ?_⟩ <;> assumption)); rintro e wA ⟨vA, rfl, hoA, hstA⟩; obtain ⟨aA, nA, cA, rfl⟩ := hoA.out.1.shape)
      | (go_at_call_of 41 (Value.int IntKind.i64 q.pt); ((with_reducible refine (sa3_call (e0 := w2.heap.size) (w3 := w3) (q := q) (small_any q.pt _) ?_).mono ?_)); (first | assumption | (refine ⟨?_, ?_, ?_, ?_, ?_⟩ <;> assumption) | (go_split_ands; refine ⟨?_, ?_, ?_, ?_, ?_⟩ <;> assumption)); rintro e wB ⟨vB, rfl, hoB, hstB⟩; obtain ⟨aB, nB, cB, rfl⟩ := hoB.out.1.shape)
      | (go_at_call_of 41 (Value.int IntKind.i64 q.ek); ((with_reducible refine (sa3_call (e0 := w2.heap.size) (w3 := w3) (q := q) (small_any q.ek _) ?_).mono ?_)); (first | assumption | (refine ⟨?_, ?_, ?_, ?_, ?_⟩ <;> assumption) | (go_split_ands; refine ⟨?_, ?_, ?_, ?_, ?_⟩ <;> assumption)); rintro e wC ⟨vC, rfl, hoC, hstC⟩; obtain ⟨aC, nC, cC, rfl⟩ := hoC.out.1.shape)
      | (go_at_call_of 42 (Value.int IntKind.i64 q.dat); ((with_reducible refine (sa3_call (e0 := w2.heap.size) (w3 := w3) (q := q) (long_any q.dat _) ?_).mono ?_)); (first | assumption | (refine ⟨?_, ?_, ?_, ?_, ?_⟩ <;> assumption) | (go_split_ands; refine ⟨?_, ?_, ?_, ?_, ?_⟩ <;> assumption)); rintro e wD ⟨vD, rfl, hoD, hstD⟩; obtain ⟨aD, nD, cD, rfl⟩ := hoD.out.1.shape)
      | (go_at_call 39; have hbj := (Below.refl wD.heap.size wD).alloc (Nat.le_refl _) (.cells #[.slice a2 n2 c2, .slice aA nA cA, .slice aB nB cB, .slice aC nC cC, .slice aD nD cD] 24); have hcl := join_any (wD.alloc (.cells #[.slice a2 n2 c2, .slice aA nA cA, .slice aB nB cB, .slice aC nC cC, .slice aD nD cD] 24)) wD.heap.size 5 [(.slice a2 n2 c2, beR 4 q.id), (.slice aA nA cA, beR 8 q.time), (.slice aB nB cB, [byteI q.pt]), (.slice aC nC cC, [byteI q.ek]), (.slice aD nD cD, beR 8 q.dat)] 24 rfl (heap_alloc_new _ _) (Pcs.cons (Pcs.one ((H3.out.2.below hstD.2.2.2.2.out).below hbj) (by first | exact len1 _ | exact len4 _ | exact len8 _)) (Pcs.cons (Pcs.one ((hoA.out.1.below ((hoB.out.2.trans (hoC.out.2.mono hoB.out.2.size)).trans (hoD.out.2.mono (hoB.out.2.trans (hoC.out.2.mono hoB.out.2.size)).size))).below hbj) (by first | exact len1 _ | exact len4 _ | exact len8 _)) (Pcs.cons (Pcs.one ((hoB.out.1.below (hoC.out.2.trans (hoD.out.2.mono hoC.out.2.size))).below hbj) (by first | exact len1 _ | exact len4 _ | exact len8 _)) (Pcs.cons (Pcs.one ((hoC.out.1.below hoD.out.2).below hbj) (by first | exact len1 _ | exact len4 _ | exact len8 _)) (Pcs.cons (Pcs.one (hoD.out.1.below hbj) (by first | exact len1 _ | exact len4 _ | exact len8 _)) (Pcs.nil _)))))) (by have := HLL.out; rw [HALL.out] at this; exact Nat.le_trans this (by decide)) (by decide); refine (sa3_call (e0 := w2.heap.size) (w3 := w3) (q := q) hcl (sa3_below hstD hbj)).mono ?_; rintro e wJ ⟨vJ, rfl, hoJ, hstJ⟩))
  all_goals
    go_wp2
    go_ret
    rw [HALL.out]
    exact ⟨vJ, rfl, hoJ.out.1.mono (by have := H3.out.1.size; have := hstD.2.2.2.2.out.size; simp; omega), H3.out.1.trans (hstJ.2.2.2.2.out.mono H3.out.1.size)⟩
abbrev SA4 (n0 : Nat) (w3 : World) (q : Rq) (W : World) : Prop := W.cell? ⟨n0, 10, none⟩ = some (.int .u32 q.num) ∧ W.cell? ⟨n0, 11, none⟩ = some (.int .i64 q.bp) ∧ W.cell? ⟨n0, 12, none⟩ = some (.int .i64 q.bk) ∧ W.cell? ⟨n0, 13, none⟩ = some (.int .i64 q.bt) ∧ Hid (Below w3.heap.size w3 W)
theorem sa4_below {n0 : Nat} {w3 : World} {q : Rq} {W w' : World} (h : SA4 n0 w3 q W) (hb : Below W.heap.size W w') : SA4 n0 w3 q w' := by
  obtain ⟨a, b, c, d, z⟩ := h
  exact ⟨cell_below a hb, cell_below b hb, cell_below c hb, cell_below d hb, Lib.hid (z.out.trans (hb.mono z.out.size))⟩
theorem sa4_call {n0 : Nat} {w3 : World} {q : Rq} {W : World} {f : FuncId} {args : Array Value} {l : List UInt8} (hc : Calls Try.prog f args W (CloneTo l W)) (h : SA4 n0 w3 q W) : Calls Try.prog f args W (fun e w' => ∃ v, e = .returned v ∧ Hid (CB.Own 5 W.heap.size w' v l ∧ Below W.heap.size W w') ∧ SA4 n0 w3 q w') :=
  hc.mono fun _ _ ⟨v, h1, h2, h3⟩ => ⟨v, h1, Lib.hid ⟨h2, h3⟩, sa4_below h h3⟩
set_option maxHeartbeats 4000000 in
set_option maxRecDepth 100000 in
theorem ask_4 (w : World) (q : Rq) (mv : Value) (h : Wf q) (hk : q.kind = 4) : Calls Try.prog 34 #[.agg (RqC q mv)] w (CloneTo (askQ q) w) := by
  have mixed : Try.prog.follows .mixedOrders = true := by kernel_rfl
  obtain ⟨R, hR⟩ : ∃ R, R = askQ q := ⟨_, rfl⟩
  rw [← hR]
  have hl : R.length ≤ 1000 := by rw [hR]; unfold askQ; rw [hk]; simp [tabM, outs, mID, mNum, mBreak, beR_len]
  have HLL := Lib.hid hl
  clear hl
  have hall : R = allB ((Value.nilFunc, beR 4 q.id) :: [(Value.nilFunc, beR 4 q.num), (Value.nilFunc, [byteI q.bp]), (Value.nilFunc, [byteI q.bk]), (Value.nilFunc, beR 8 q.bt)]) := by rw [hR]; unfold askQ; rw [hk]; simp [tabM, outs, allB, mID, mNum, mBreak]
  have HALL := Lib.hid hall
  clear hall
  have HR := Lib.hid hR
  clear hR
  obtain ⟨k, hkk⟩ : ∃ k, k = q.kind := ⟨_, rfl⟩
  go_enter Try.func34, Try.ntmps34
  go_upto_region 1 with fail
  generalize hw1 : World.alloc _ _ = w1
  have hb1 : Below w.heap.size w w1 := by rw [← hw1]; exact (Below.refl _ _).alloc (Nat.le_refl _) _
  have hx1 : w1.heap[w.heap.size]? = some (.cells (RqC q mv) 32 (0, 0)) := by rw [← hw1]; exact heap_alloc_new _ _
  obtain ⟨d0, d1, d2, d3, d4, d5, d6, d7, d8, d9, d10, d11, d12, d13, d14, d15, d16⟩ := RqC_cells hx1
  have H1 := Lib.hid (And.intro hb1 hx1)
  clear hb1 hx1 hw1
  have HW := Lib.hid h
  clear h
  go_upto_region 3 with (first
    | (go_at_call 40; refine (word_any' q.id HW.out.id _).mono ?_; rintro e w2 ⟨v2, rfl, ho2, hb2⟩; obtain ⟨a2, n2, c2, rfl⟩ := ho2.shape; clear d0 d1 d2 d3 d4 d5 d6 d7 d8 d9 d10 d11 d12 d13 d14 d15 d16; have hx2 := (hb2.block _ (Array.getElem?_eq_some_iff.1 H1.out.2).1).trans H1.out.2; obtain ⟨d0, d1, d2, d3, d4, d5, d6, d7, d8, d9, d10, d11, d12, d13, d14, d15, d16⟩ := RqC_cells hx2; have H2 := Lib.hid (And.intro (H1.out.1.trans (hb2.mono H1.out.1.size)) (And.intro hx2 (ho2.mono H1.out.1.size))); clear hx2 ho2 hb2))
  generalize hw3 : World.alloc _ _ = w3
  have hb3 : Below w2.heap.size w2 w3 := by rw [← hw3]; exact (Below.refl _ _).alloc (Nat.le_refl _) _
  have hx3 : w3.heap[w2.heap.size]? = some (.cells #[.int .i64 q.time, .int .i64 q.org, .int .i64 q.seq, .int .i64 q.pt, .int .i64 q.ek, .int .i64 q.dat] 28 (0, 0)) := by rw [← hw3]; exact heap_alloc_new _ _
  have e0 : w3.cell? ⟨w2.heap.size, 0, none⟩ = some (.int .i64 q.time) := by rw [cell_of_row _ _ _ _ _ _ hx3]; rfl
  have e3 : w3.cell? ⟨w2.heap.size, 3, none⟩ = some (.int .i64 q.pt) := by rw [cell_of_row _ _ _ _ _ _ hx3]; rfl
  have e4 : w3.cell? ⟨w2.heap.size, 4, none⟩ = some (.int .i64 q.ek) := by rw [cell_of_row _ _ _ _ _ _ hx3]; rfl
  have e5 : w3.cell? ⟨w2.heap.size, 5, none⟩ = some (.int .i64 q.dat) := by rw [cell_of_row _ _ _ _ _ _ hx3]; rfl
  replace d0 := cell_below d0 hb3
  replace d2 := cell_below d2 hb3
  replace d3 := cell_below d3 hb3
  replace d10 := cell_below d10 hb3
  replace d11 := cell_below d11 hb3
  replace d12 := cell_below d12 hb3
  replace d13 := cell_below d13 hb3
  replace d14 := cell_below d14 hb3
  replace d15 := cell_below d15 hb3
  replace d16 := cell_below d16 hb3
  have H3 := Lib.hid (And.intro (H2.out.1.trans (hb3.mono H2.out.1.size)) (H2.out.2.2.below hb3))
  clear d1 d4 d5 d6 d7 d8 d9 hb3 hx3 hw3
  rw [← hkk] at d0
  rw [hk] at hkk
  subst hkk
  have hst0 : SA4 w.heap.size w3 q w3.drew := ⟨d10, d11, d12, d13, Lib.hid (Below.refl _ _).drew⟩
  go_wp2_with fail
  go_region_held3 (fun W => SA4 w.heap.size w3 q W) (first | assumption | exact hst0 | exact sa4_below hstD ((Below.refl _ _).alloc (Nat.le_refl _) _))
    (first
      | (go_at_call_of 40 (Value.int IntKind.u32 q.num); ((with_reducible refine (sa4_call (n0 := w.heap.size) (w3 := w3) (q := q) (word_any' q.num HW.out.num _) ?_).mono ?_)); (first | assumption | (refine ⟨?_, ?_, ?_, ?_, ?_⟩ <;> assumption) | (go_split_ands; refine ⟨?_, ?_, ?_, ?_, ?_⟩ <;> assumption)); rintro e wA ⟨vA, rfl, hoA, hstA⟩; obtain ⟨aA, nA, cA, rfl⟩ := hoA.out.1.shape)
      | (go_at_call_of 41 (Value.int IntKind.i64 q.bp); ((with_reducible refine (sa4_call (n0 := w.heap.size) (w3 := w3) (q := q) (small_any q.bp _) ?_).mono ?_)); (first | assumption | (refine ⟨?_, ?_, ?_, ?_, ?_⟩ <;> assumption) | (go_split_ands; refine ⟨?_, ?_, ?_, ?_, ?_⟩ <;> assumption)); rintro e wB ⟨vB, rfl, hoB, hstB⟩; obtain ⟨aB, nB, cB, rfl⟩ := hoB.out.1.shape)
      | (go_at_call_of 41 (Value.int IntKind.i64 q.bk); ((with_reducible refine (sa4_call (n0 := w.heap.size) (w3 := w3) (q := q) (small_any q.bk _) ?_).mono ?_)); (first | assumption | (refine ⟨?_, ?_, ?_, ?_, ?_⟩ <;> assumption) | (go_split_ands; refine ⟨?_, ?_, ?_, ?_, ?_⟩ <;> assumption)); rintro e wC ⟨vC, rfl, hoC, hstC⟩; obtain ⟨aC, nC, cC, rfl⟩ := hoC.out.1.shape)
      | (go_at_call_of 42 (Value.int IntKind.i64 q.bt); ((with_reducible refine (sa4_call (n0 := w.heap.size) (w3 := w3) (q := q) (long_any q.bt _) ?_).mono ?_)); (first | assumption | (refine ⟨?_, ?_, ?_, ?_, ?_⟩ <;> assumption) | (go_split_ands; refine ⟨?_, ?_, ?_, ?_, ?_⟩ <;> assumption)); rintro e wD ⟨vD, rfl, hoD, hstD⟩; obtain ⟨aD, nD, cD, rfl⟩ := hoD.out.1.shape)
      | (go_at_call 39; have hbj := (Below.refl wD.heap.size wD).alloc (Nat.le_refl _) (.cells #[.slice a2 n2 c2, .slice aA nA cA, .slice aB nB cB, .slice aC nC cC, .slice aD nD cD] 24); have hcl := join_any (wD.alloc (.cells #[.slice a2 n2 c2, .slice aA nA cA, .slice aB nB cB, .slice aC nC cC, .slice aD nD cD] 24)) wD.heap.size 5 [(.slice a2 n2 c2, beR 4 q.id), (.slice aA nA cA, beR 4 q.num), (.slice aB nB cB, [byteI q.bp]), (.slice aC nC cC, [byteI q.bk]), (.slice aD nD cD, beR 8 q.bt)] 24 rfl (heap_alloc_new _ _) (Pcs.cons (Pcs.one ((H3.out.2.below hstD.2.2.2.2.out).below hbj) (by first | exact len1 _ | exact len4 _ | exact len8 _)) (Pcs.cons (Pcs.one ((hoA.out.1.below ((hoB.out.2.trans (hoC.out.2.mono hoB.out.2.size)).trans (hoD.out.2.mono (hoB.out.2.trans (hoC.out.2.mono hoB.out.2.size)).size))).below hbj) (by first | exact len1 _ | exact len4 _ | exact len8 _)) (Pcs.cons (Pcs.one ((hoB.out.1.below (hoC.out.2.trans (hoD.out.2.mono hoC.out.2.size))).below hbj) (by first | exact len1 _ | exact len4 _ | exact len8 _)) (Pcs.cons (Pcs.one ((hoC.out.1.below hoD.out.2).below hbj) (by first | exact len1 _ | exact len4 _ | exact len8 _)) (Pcs.cons (Pcs.one (hoD.out.1.below hbj) (by first | exact len1 _ | exact len4 _ | exact len8 _)) (Pcs.nil _)))))) (by have := HLL.out; rw [HALL.out] at this; exact Nat.le_trans this (by decide)) (by decide); refine (sa4_call (n0 := w.heap.size) (w3 := w3) (q := q) hcl (sa4_below hstD hbj)).mono ?_; rintro e wJ ⟨vJ, rfl, hoJ, hstJ⟩))
  all_goals
    go_wp2
    go_ret
    rw [HALL.out]
    exact ⟨vJ, rfl, hoJ.out.1.mono (by have := H3.out.1.size; have := hstD.2.2.2.2.out.size; simp; omega), H3.out.1.trans (hstJ.2.2.2.2.out.mono H3.out.1.size)⟩
abbrev SA10 (n0 : Nat) (w3 : World) (q : Rq) (W : World) : Prop := W.cell? ⟨n0, 15, none⟩ = some (.int .i64 q.nm) ∧ W.cell? ⟨n0, 16, none⟩ = some (.int .i64 q.dn) ∧ Hid (Below w3.heap.size w3 W)
theorem sa10_below {n0 : Nat} {w3 : World} {q : Rq} {W w' : World} (h : SA10 n0 w3 q W) (hb : Below W.heap.size W w') : SA10 n0 w3 q w' := by
  obtain ⟨a, b, z⟩ := h
  exact ⟨cell_below a hb, cell_below b hb, Lib.hid (z.out.trans (hb.mono z.out.size))⟩
theorem sa10_call {n0 : Nat} {w3 : World} {q : Rq} {W : World} {f : FuncId} {args : Array Value} {l : List UInt8} (hc : Calls Try.prog f args W (CloneTo l W)) (h : SA10 n0 w3 q W) : Calls Try.prog f args W (fun e w' => ∃ v, e = .returned v ∧ Hid (CB.Own 5 W.heap.size w' v l ∧ Below W.heap.size W w') ∧ SA10 n0 w3 q w') :=
  hc.mono fun _ _ ⟨v, h1, h2, h3⟩ => ⟨v, h1, Lib.hid ⟨h2, h3⟩, sa10_below h h3⟩
set_option maxHeartbeats 4000000 in
set_option maxRecDepth 100000 in
theorem ask_10 (w : World) (q : Rq) (mv : Value) (h : Wf q) (hk : q.kind = 10) : Calls Try.prog 34 #[.agg (RqC q mv)] w (CloneTo (askQ q) w) := by
  have mixed : Try.prog.follows .mixedOrders = true := by kernel_rfl
  obtain ⟨R, hR⟩ : ∃ R, R = askQ q := ⟨_, rfl⟩
  rw [← hR]
  have hl : R.length ≤ 1000 := by rw [hR]; unfold askQ; rw [hk]; simp [tabM, outs, mID, mRate, beR_len]
  have HLL := Lib.hid hl
  clear hl
  have hall : R = allB ((Value.nilFunc, beR 4 q.id) :: [(Value.nilFunc, beR 8 q.nm), (Value.nilFunc, beR 8 q.dn)]) := by rw [hR]; unfold askQ; rw [hk]; simp [tabM, outs, allB, mID, mRate]
  have HALL := Lib.hid hall
  clear hall
  have HR := Lib.hid hR
  clear hR
  obtain ⟨k, hkk⟩ : ∃ k, k = q.kind := ⟨_, rfl⟩
  go_enter Try.func34, Try.ntmps34
  go_upto_region 1 with fail
  generalize hw1 : World.alloc _ _ = w1
  have hb1 : Below w.heap.size w w1 := by rw [← hw1]; exact (Below.refl _ _).alloc (Nat.le_refl _) _
  have hx1 : w1.heap[w.heap.size]? = some (.cells (RqC q mv) 32 (0, 0)) := by rw [← hw1]; exact heap_alloc_new _ _
  obtain ⟨d0, d1, d2, d3, d4, d5, d6, d7, d8, d9, d10, d11, d12, d13, d14, d15, d16⟩ := RqC_cells hx1
  have H1 := Lib.hid (And.intro hb1 hx1)
  clear hb1 hx1 hw1
  have HW := Lib.hid h
  clear h
  go_upto_region 3 with (first
    | (go_at_call 40; refine (word_any' q.id HW.out.id _).mono ?_; rintro e w2 ⟨v2, rfl, ho2, hb2⟩; obtain ⟨a2, n2, c2, rfl⟩ := ho2.shape; clear d0 d1 d2 d3 d4 d5 d6 d7 d8 d9 d10 d11 d12 d13 d14 d15 d16; have hx2 := (hb2.block _ (Array.getElem?_eq_some_iff.1 H1.out.2).1).trans H1.out.2; obtain ⟨d0, d1, d2, d3, d4, d5, d6, d7, d8, d9, d10, d11, d12, d13, d14, d15, d16⟩ := RqC_cells hx2; have H2 := Lib.hid (And.intro (H1.out.1.trans (hb2.mono H1.out.1.size)) (And.intro hx2 (ho2.mono H1.out.1.size))); clear hx2 ho2 hb2))
  generalize hw3 : World.alloc _ _ = w3
  have hb3 : Below w2.heap.size w2 w3 := by rw [← hw3]; exact (Below.refl _ _).alloc (Nat.le_refl _) _
  have hx3 : w3.heap[w2.heap.size]? = some (.cells #[.int .i64 q.time, .int .i64 q.org, .int .i64 q.seq, .int .i64 q.pt, .int .i64 q.ek, .int .i64 q.dat] 28 (0, 0)) := by rw [← hw3]; exact heap_alloc_new _ _
  have e0 : w3.cell? ⟨w2.heap.size, 0, none⟩ = some (.int .i64 q.time) := by rw [cell_of_row _ _ _ _ _ _ hx3]; rfl
  have e3 : w3.cell? ⟨w2.heap.size, 3, none⟩ = some (.int .i64 q.pt) := by rw [cell_of_row _ _ _ _ _ _ hx3]; rfl
  have e4 : w3.cell? ⟨w2.heap.size, 4, none⟩ = some (.int .i64 q.ek) := by rw [cell_of_row _ _ _ _ _ _ hx3]; rfl
  have e5 : w3.cell? ⟨w2.heap.size, 5, none⟩ = some (.int .i64 q.dat) := by rw [cell_of_row _ _ _ _ _ _ hx3]; rfl
  replace d0 := cell_below d0 hb3
  replace d2 := cell_below d2 hb3
  replace d3 := cell_below d3 hb3
  replace d10 := cell_below d10 hb3
  replace d11 := cell_below d11 hb3
  replace d12 := cell_below d12 hb3
  replace d13 := cell_below d13 hb3
  replace d14 := cell_below d14 hb3
  replace d15 := cell_below d15 hb3
  replace d16 := cell_below d16 hb3
  have H3 := Lib.hid (And.intro (H2.out.1.trans (hb3.mono H2.out.1.size)) (H2.out.2.2.below hb3))
  clear d1 d4 d5 d6 d7 d8 d9 hb3 hx3 hw3
  rw [← hkk] at d0
  rw [hk] at hkk
  subst hkk
  have hst0 : SA10 w.heap.size w3 q w3.drew := ⟨d15, d16, Lib.hid (Below.refl _ _).drew⟩
  go_wp2_with fail
  go_region_held3 (fun W => SA10 w.heap.size w3 q W) (first | assumption | exact hst0 | exact sa10_below hstB ((Below.refl _ _).alloc (Nat.le_refl _) _))
    (first
      | (go_at_call_of 42 (Value.int IntKind.i64 q.nm); ((with_reducible refine (sa10_call (n0 := w.heap.size) (w3 := w3) (q := q) (long_any q.nm _) ?_).mono ?_)); (first | assumption | (refine ⟨?_, ?_, ?_⟩ <;> assumption) | (go_split_ands; refine ⟨?_, ?_, ?_⟩ <;> assumption)); rintro e wA ⟨vA, rfl, hoA, hstA⟩; obtain ⟨aA, nA, cA, rfl⟩ := hoA.out.1.shape)
      | (go_at_call_of 42 (Value.int IntKind.i64 q.dn); ((with_reducible refine (sa10_call (n0 := w.heap.size) (w3 := w3) (q := q) (long_any q.dn _) ?_).mono ?_)); (first | assumption | (refine ⟨?_, ?_, ?_⟩ <;> assumption) | (go_split_ands; refine ⟨?_, ?_, ?_⟩ <;> assumption)); rintro e wB ⟨vB, rfl, hoB, hstB⟩; obtain ⟨aB, nB, cB, rfl⟩ := hoB.out.1.shape)
      | (go_at_call 39; have hbj := (Below.refl wB.heap.size wB).alloc (Nat.le_refl _) (.cells #[.slice a2 n2 c2, .slice aA nA cA, .slice aB nB cB] 24); have hcl := join_any (wB.alloc (.cells #[.slice a2 n2 c2, .slice aA nA cA, .slice aB nB cB] 24)) wB.heap.size 3 [(.slice a2 n2 c2, beR 4 q.id), (.slice aA nA cA, beR 8 q.nm), (.slice aB nB cB, beR 8 q.dn)] 24 rfl (heap_alloc_new _ _) (Pcs.cons (Pcs.one ((H3.out.2.below hstB.2.2.out).below hbj) (by first | exact len1 _ | exact len4 _ | exact len8 _)) (Pcs.cons (Pcs.one ((hoA.out.1.below hoB.out.2).below hbj) (by first | exact len1 _ | exact len4 _ | exact len8 _)) (Pcs.cons (Pcs.one (hoB.out.1.below hbj) (by first | exact len1 _ | exact len4 _ | exact len8 _)) (Pcs.nil _)))) (by have := HLL.out; rw [HALL.out] at this; exact Nat.le_trans this (by decide)) (by decide); refine (sa10_call (n0 := w.heap.size) (w3 := w3) (q := q) hcl (sa10_below hstB hbj)).mono ?_; rintro e wJ ⟨vJ, rfl, hoJ, hstJ⟩))
  all_goals
    go_wp2
    go_ret
    rw [HALL.out]
    exact ⟨vJ, rfl, hoJ.out.1.mono (by have := H3.out.1.size; have := hstB.2.2.out.size; simp; omega), H3.out.1.trans (hstJ.2.2.out.mono H3.out.1.size)⟩
end Go.Proofs.Ytdpfmaikijilkaa
