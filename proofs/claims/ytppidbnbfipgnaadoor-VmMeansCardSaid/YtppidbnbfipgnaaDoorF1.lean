/-
  The walk of the document's instr.
-/
import Derived.Test.YtppidbnbfipgnaaDoorC3
namespace Go.Proofs.YtppidbnbfipgnaaDoor
open Go.RowKit CodM
set_option linter.unusedVariables false

theorem word_is {o : Int} {l : List UInt8} (h : word o = l) (k : Nat) (hl : l ≠ []) (hk : ∀ j : Fin 17, wordAt j.1 = l → j.1 = k) : o = (k : Int) + 1 := by
  by_cases ho : 1 ≤ o ∧ o ≤ 17
  · obtain ⟨j, hj, rfl⟩ := op_cases o ho
    rw [word_in j hj] at h
    have := hk ⟨j, hj⟩ h
    simp at this
    omega
  · rw [word_out o (by omega)] at h
    exact absurd h.symm hl
theorem word_beq (o : Int) (l : List UInt8) (k : Nat) (hk17 : k < 17) (hl : l ≠ []) (he : wordAt k = l) (hk : ∀ j : Fin 17, wordAt j.1 = l → j.1 = k) : (word o == l) = (o == (k : Int) + 1) := by
  by_cases h : o = (k : Int) + 1
  · rw [h, word_in k hk17, he]; simp
  · have h1 : (o == (k : Int) + 1) = false := by simpa using h
    rw [h1]
    rw [beq_eq_false_iff_ne]
    exact fun e => h (word_is e k hl hk)
theorem word_isE (o : Int) : (word o).isEmpty = !decide (1 ≤ o ∧ o ≤ 17) := by
  by_cases h : 1 ≤ o ∧ o ≤ 17
  · obtain ⟨j, hj, rfl⟩ := op_cases o h
    rw [word_in j hj, decide_eq_true h]
    simpa using wordAt_ne j hj
  · rw [word_out o (by omega), decide_eq_false h]; rfl
theorem wb_push (o : Int) : (word o == [112, 117, 115, 104]) = (o == 1) := word_beq o _ 0 (by decide) (by decide) rfl (by decide)
theorem wb_load (o : Int) : (word o == [108, 111, 97, 100]) = (o == 2) := word_beq o _ 1 (by decide) (by decide) rfl (by decide)
theorem wb_store (o : Int) : (word o == [115, 116, 111, 114, 101]) = (o == 3) := word_beq o _ 2 (by decide) (by decide) rfl (by decide)
theorem wb_jump (o : Int) : (word o == [106, 117, 109, 112]) = (o == 13) := word_beq o _ 12 (by decide) (by decide) rfl (by decide)
theorem wb_zero (o : Int) : (word o == [122, 101, 114, 111]) = (o == 14) := word_beq o _ 13 (by decide) (by decide) rfl (by decide)
theorem wb_send (o : Int) : (word o == [115, 101, 110, 100]) = (o == 15) := word_beq o _ 14 (by decide) (by decide) rfl (by decide)

/-- the walk, once the word's tests are known -/
def Tests (s : ByteArray) (e p l t j z d : Bool) : Prop :=
  s.toList.isEmpty = e ∧ (s.toList == [112, 117, 115, 104]) = p ∧ (s.toList == [108, 111, 97, 100]) = l ∧ (s.toList == [115, 116, 111, 114, 101]) = t ∧ (s.toList == [106, 117, 109, 112]) = j ∧ (s.toList == [122, 101, 114, 111]) = z ∧ (s.toList == [115, 101, 110, 100]) = d
theorem tests_of (o : Int) : Tests (strU (word o)) (!decide (1 ≤ o ∧ o ≤ 17)) (o == 1) (o == 2) (o == 3) (o == 13) (o == 14) (o == 15) := by
  unfold Tests
  rw [strU_toList]
  exact ⟨word_isE o, wb_push o, wb_load o, wb_store o, wb_jump o, wb_zero o, wb_send o⟩
theorem tests_at (o : Int) (e p l t j z d : Bool) (he : (!decide (1 ≤ o ∧ o ≤ 17)) = e) (hp : (o == 1) = p) (hl : (o == 2) = l) (ht : (o == 3) = t) (hj : (o == 13) = j) (hz : (o == 14) = z) (hd : (o == 15) = d) : Tests (strU (word o)) e p l t j z d := by
  subst he; subst hp; subst hl; subst ht; subst hj; subst hz; subst hd
  exact tests_of o

section
variable (w : World) (a : Option Addr) (nk c : Nat) (vars o n : Int) (many : Nat)
set_option maxHeartbeats 2000000 in
set_option maxRecDepth 100000 in
theorem rinstr_out (t : Bool) (hv : I64 vars) (hn : I64 n) (hk : nk ≤ 9223372036854775807) (hm : many ≤ 9223372036854775806) (hT : Tests (strU (word o)) true false false false false false false) (htt : t = false) :
    Calls Tryd.prog 36 #[.agg #[.int .i64 vars, .slice a nk c], .agg #[.int .i64 o, .int .i64 n], .int .i64 many] w (TellsBB t w) := by
  obtain ⟨n0, n1⟩ := hn
  obtain ⟨v0, v1⟩ := hv
  obtain ⟨s, hs⟩ : ∃ s, s = strU (word o) := ⟨_, rfl⟩
  rw [← hs] at hT
  obtain ⟨t0, t1, t2, t3, t4, t5, t6⟩ := hT
  have HS := Lib.hid hs
  obtain ⟨wb, hwb⟩ : ∃ wb, wb = (w.alloc (.cells #[.int .i64 vars, .slice a nk c] 24)).alloc (.cells #[.int .i64 o, .int .i64 n] 62) := ⟨_, rfl⟩
  have hb0 : Below w.heap.size w wb := by rw [hwb]; exact ((Below.refl _ _).alloc (Nat.le_refl _) _).alloc (by simp) _
  have hb1 : wb.heap[w.heap.size]? = some (.cells #[.int .i64 vars, .slice a nk c] 24) := by rw [hwb]; exact (heap_alloc_old _ _ (by simp)).trans (heap_alloc_new _ _)
  have hb2 : wb.heap[w.heap.size + 1]? = some (.cells #[.int .i64 o, .int .i64 n] 62) := by
    rw [hwb]
    have := heap_alloc_new (w.alloc (.cells #[.int .i64 vars, .slice a nk c] 24)) (.cells #[.int .i64 o, .int .i64 n] 62)
    simpa using this
  have hsz : wb.heap.size = w.heap.size + 2 := by rw [hwb]; simp
  have HB0 := Lib.hid hb0
  have H1 := Lib.hid hb1
  have H2 := Lib.hid hb2
  have HSZ := Lib.hid hsz
  have HWB := Lib.hid hwb
  have HTT := Lib.hid htt
  clear hs hwb hb0 hb1 hb2 hsz htt
  go_enter Tryd.func36, Tryd.ntmps36
  go_wp2_with (first
    | (go_at_call 45; rw [← HWB.out]; refine (rword_any _ _).mono ?_; rintro e w1 ⟨rfl, hb⟩; rw [← HS.out]; refine Hid.out ?_))
  have g1 := (hb.block w.heap.size (by have := HSZ.out; omega)).trans H1.out
  have g2 := (hb.block (w.heap.size + 1) (by have := HSZ.out; omega)).trans H2.out
  have p0 : w1.cell? ⟨w.heap.size, 0, none⟩ = some (.int .i64 vars) := by rw [cell_of_row _ _ _ _ _ _ g1]; rfl
  have p1 : w1.cell? ⟨w.heap.size, 1, none⟩ = some (.slice a nk c) := by rw [cell_of_row _ _ _ _ _ _ g1]; rfl
  have p2 : w1.cell? ⟨w.heap.size + 1, 1, none⟩ = some (.int .i64 n) := by rw [cell_of_row _ _ _ _ _ _ g2]; rfl
  have HB := Lib.hid (HB0.out.trans (hb.mono HB0.out.size))
  clear hb g1 g2
  refine Lib.hid ?_
  go_wp2
  all_goals (go_ret; refine ⟨?_, HB.out⟩; rw [HTT.out]; simp; try omega)
set_option maxHeartbeats 2000000 in
set_option maxRecDepth 100000 in
theorem rinstr_push (t : Bool) (hv : I64 vars) (hn : I64 n) (hk : nk ≤ 9223372036854775807) (hm : many ≤ 9223372036854775806) (hT : Tests (strU (word o)) false true false false false false false) (htt : t = true) :
    Calls Tryd.prog 36 #[.agg #[.int .i64 vars, .slice a nk c], .agg #[.int .i64 o, .int .i64 n], .int .i64 many] w (TellsBB t w) := by
  obtain ⟨n0, n1⟩ := hn
  obtain ⟨v0, v1⟩ := hv
  obtain ⟨s, hs⟩ : ∃ s, s = strU (word o) := ⟨_, rfl⟩
  rw [← hs] at hT
  obtain ⟨t0, t1, t2, t3, t4, t5, t6⟩ := hT
  have HS := Lib.hid hs
  obtain ⟨wb, hwb⟩ : ∃ wb, wb = (w.alloc (.cells #[.int .i64 vars, .slice a nk c] 24)).alloc (.cells #[.int .i64 o, .int .i64 n] 62) := ⟨_, rfl⟩
  have hb0 : Below w.heap.size w wb := by rw [hwb]; exact ((Below.refl _ _).alloc (Nat.le_refl _) _).alloc (by simp) _
  have hb1 : wb.heap[w.heap.size]? = some (.cells #[.int .i64 vars, .slice a nk c] 24) := by rw [hwb]; exact (heap_alloc_old _ _ (by simp)).trans (heap_alloc_new _ _)
  have hb2 : wb.heap[w.heap.size + 1]? = some (.cells #[.int .i64 o, .int .i64 n] 62) := by
    rw [hwb]
    have := heap_alloc_new (w.alloc (.cells #[.int .i64 vars, .slice a nk c] 24)) (.cells #[.int .i64 o, .int .i64 n] 62)
    simpa using this
  have hsz : wb.heap.size = w.heap.size + 2 := by rw [hwb]; simp
  have HB0 := Lib.hid hb0
  have H1 := Lib.hid hb1
  have H2 := Lib.hid hb2
  have HSZ := Lib.hid hsz
  have HWB := Lib.hid hwb
  have HTT := Lib.hid htt
  clear hs hwb hb0 hb1 hb2 hsz htt
  go_enter Tryd.func36, Tryd.ntmps36
  go_wp2_with (first
    | (go_at_call 45; rw [← HWB.out]; refine (rword_any _ _).mono ?_; rintro e w1 ⟨rfl, hb⟩; rw [← HS.out]; refine Hid.out ?_))
  have g1 := (hb.block w.heap.size (by have := HSZ.out; omega)).trans H1.out
  have g2 := (hb.block (w.heap.size + 1) (by have := HSZ.out; omega)).trans H2.out
  have p0 : w1.cell? ⟨w.heap.size, 0, none⟩ = some (.int .i64 vars) := by rw [cell_of_row _ _ _ _ _ _ g1]; rfl
  have p1 : w1.cell? ⟨w.heap.size, 1, none⟩ = some (.slice a nk c) := by rw [cell_of_row _ _ _ _ _ _ g1]; rfl
  have p2 : w1.cell? ⟨w.heap.size + 1, 1, none⟩ = some (.int .i64 n) := by rw [cell_of_row _ _ _ _ _ _ g2]; rfl
  have HB := Lib.hid (HB0.out.trans (hb.mono HB0.out.size))
  clear hb g1 g2
  refine Lib.hid ?_
  go_wp2
  all_goals (go_ret; refine ⟨?_, HB.out⟩; rw [HTT.out]; simp; try omega)
set_option maxHeartbeats 2000000 in
set_option maxRecDepth 100000 in
theorem rinstr_load (t : Bool) (hv : I64 vars) (hn : I64 n) (hk : nk ≤ 9223372036854775807) (hm : many ≤ 9223372036854775806) (hT : Tests (strU (word o)) false false true false false false false) (htt : t = (decide (0 ≤ n) && decide (n < vars))) :
    Calls Tryd.prog 36 #[.agg #[.int .i64 vars, .slice a nk c], .agg #[.int .i64 o, .int .i64 n], .int .i64 many] w (TellsBB t w) := by
  obtain ⟨n0, n1⟩ := hn
  obtain ⟨v0, v1⟩ := hv
  obtain ⟨s, hs⟩ : ∃ s, s = strU (word o) := ⟨_, rfl⟩
  rw [← hs] at hT
  obtain ⟨t0, t1, t2, t3, t4, t5, t6⟩ := hT
  have HS := Lib.hid hs
  obtain ⟨wb, hwb⟩ : ∃ wb, wb = (w.alloc (.cells #[.int .i64 vars, .slice a nk c] 24)).alloc (.cells #[.int .i64 o, .int .i64 n] 62) := ⟨_, rfl⟩
  have hb0 : Below w.heap.size w wb := by rw [hwb]; exact ((Below.refl _ _).alloc (Nat.le_refl _) _).alloc (by simp) _
  have hb1 : wb.heap[w.heap.size]? = some (.cells #[.int .i64 vars, .slice a nk c] 24) := by rw [hwb]; exact (heap_alloc_old _ _ (by simp)).trans (heap_alloc_new _ _)
  have hb2 : wb.heap[w.heap.size + 1]? = some (.cells #[.int .i64 o, .int .i64 n] 62) := by
    rw [hwb]
    have := heap_alloc_new (w.alloc (.cells #[.int .i64 vars, .slice a nk c] 24)) (.cells #[.int .i64 o, .int .i64 n] 62)
    simpa using this
  have hsz : wb.heap.size = w.heap.size + 2 := by rw [hwb]; simp
  have HB0 := Lib.hid hb0
  have H1 := Lib.hid hb1
  have H2 := Lib.hid hb2
  have HSZ := Lib.hid hsz
  have HWB := Lib.hid hwb
  have HTT := Lib.hid htt
  clear hs hwb hb0 hb1 hb2 hsz htt
  go_enter Tryd.func36, Tryd.ntmps36
  go_wp2_with (first
    | (go_at_call 45; rw [← HWB.out]; refine (rword_any _ _).mono ?_; rintro e w1 ⟨rfl, hb⟩; rw [← HS.out]; refine Hid.out ?_))
  have g1 := (hb.block w.heap.size (by have := HSZ.out; omega)).trans H1.out
  have g2 := (hb.block (w.heap.size + 1) (by have := HSZ.out; omega)).trans H2.out
  have p0 : w1.cell? ⟨w.heap.size, 0, none⟩ = some (.int .i64 vars) := by rw [cell_of_row _ _ _ _ _ _ g1]; rfl
  have p1 : w1.cell? ⟨w.heap.size, 1, none⟩ = some (.slice a nk c) := by rw [cell_of_row _ _ _ _ _ _ g1]; rfl
  have p2 : w1.cell? ⟨w.heap.size + 1, 1, none⟩ = some (.int .i64 n) := by rw [cell_of_row _ _ _ _ _ _ g2]; rfl
  have HB := Lib.hid (HB0.out.trans (hb.mono HB0.out.size))
  clear hb g1 g2
  refine Lib.hid ?_
  go_wp2
  all_goals (go_ret; refine ⟨?_, HB.out⟩; rw [HTT.out]; simp; try omega)
set_option maxHeartbeats 2000000 in
set_option maxRecDepth 100000 in
theorem rinstr_store (t : Bool) (hv : I64 vars) (hn : I64 n) (hk : nk ≤ 9223372036854775807) (hm : many ≤ 9223372036854775806) (hT : Tests (strU (word o)) false false false true false false false) (htt : t = (decide (0 ≤ n) && decide (n < vars))) :
    Calls Tryd.prog 36 #[.agg #[.int .i64 vars, .slice a nk c], .agg #[.int .i64 o, .int .i64 n], .int .i64 many] w (TellsBB t w) := by
  obtain ⟨n0, n1⟩ := hn
  obtain ⟨v0, v1⟩ := hv
  obtain ⟨s, hs⟩ : ∃ s, s = strU (word o) := ⟨_, rfl⟩
  rw [← hs] at hT
  obtain ⟨t0, t1, t2, t3, t4, t5, t6⟩ := hT
  have HS := Lib.hid hs
  obtain ⟨wb, hwb⟩ : ∃ wb, wb = (w.alloc (.cells #[.int .i64 vars, .slice a nk c] 24)).alloc (.cells #[.int .i64 o, .int .i64 n] 62) := ⟨_, rfl⟩
  have hb0 : Below w.heap.size w wb := by rw [hwb]; exact ((Below.refl _ _).alloc (Nat.le_refl _) _).alloc (by simp) _
  have hb1 : wb.heap[w.heap.size]? = some (.cells #[.int .i64 vars, .slice a nk c] 24) := by rw [hwb]; exact (heap_alloc_old _ _ (by simp)).trans (heap_alloc_new _ _)
  have hb2 : wb.heap[w.heap.size + 1]? = some (.cells #[.int .i64 o, .int .i64 n] 62) := by
    rw [hwb]
    have := heap_alloc_new (w.alloc (.cells #[.int .i64 vars, .slice a nk c] 24)) (.cells #[.int .i64 o, .int .i64 n] 62)
    simpa using this
  have hsz : wb.heap.size = w.heap.size + 2 := by rw [hwb]; simp
  have HB0 := Lib.hid hb0
  have H1 := Lib.hid hb1
  have H2 := Lib.hid hb2
  have HSZ := Lib.hid hsz
  have HWB := Lib.hid hwb
  have HTT := Lib.hid htt
  clear hs hwb hb0 hb1 hb2 hsz htt
  go_enter Tryd.func36, Tryd.ntmps36
  go_wp2_with (first
    | (go_at_call 45; rw [← HWB.out]; refine (rword_any _ _).mono ?_; rintro e w1 ⟨rfl, hb⟩; rw [← HS.out]; refine Hid.out ?_))
  have g1 := (hb.block w.heap.size (by have := HSZ.out; omega)).trans H1.out
  have g2 := (hb.block (w.heap.size + 1) (by have := HSZ.out; omega)).trans H2.out
  have p0 : w1.cell? ⟨w.heap.size, 0, none⟩ = some (.int .i64 vars) := by rw [cell_of_row _ _ _ _ _ _ g1]; rfl
  have p1 : w1.cell? ⟨w.heap.size, 1, none⟩ = some (.slice a nk c) := by rw [cell_of_row _ _ _ _ _ _ g1]; rfl
  have p2 : w1.cell? ⟨w.heap.size + 1, 1, none⟩ = some (.int .i64 n) := by rw [cell_of_row _ _ _ _ _ _ g2]; rfl
  have HB := Lib.hid (HB0.out.trans (hb.mono HB0.out.size))
  clear hb g1 g2
  refine Lib.hid ?_
  go_wp2
  all_goals (go_ret; refine ⟨?_, HB.out⟩; rw [HTT.out]; simp; try omega)
set_option maxHeartbeats 2000000 in
set_option maxRecDepth 100000 in
theorem rinstr_jump (t : Bool) (hv : I64 vars) (hn : I64 n) (hk : nk ≤ 9223372036854775807) (hm : many ≤ 9223372036854775806) (hT : Tests (strU (word o)) false false false false true false false) (htt : t = (decide (0 ≤ n) && decide (n ≤ (many : Int)))) :
    Calls Tryd.prog 36 #[.agg #[.int .i64 vars, .slice a nk c], .agg #[.int .i64 o, .int .i64 n], .int .i64 many] w (TellsBB t w) := by
  obtain ⟨n0, n1⟩ := hn
  obtain ⟨v0, v1⟩ := hv
  obtain ⟨s, hs⟩ : ∃ s, s = strU (word o) := ⟨_, rfl⟩
  rw [← hs] at hT
  obtain ⟨t0, t1, t2, t3, t4, t5, t6⟩ := hT
  have HS := Lib.hid hs
  obtain ⟨wb, hwb⟩ : ∃ wb, wb = (w.alloc (.cells #[.int .i64 vars, .slice a nk c] 24)).alloc (.cells #[.int .i64 o, .int .i64 n] 62) := ⟨_, rfl⟩
  have hb0 : Below w.heap.size w wb := by rw [hwb]; exact ((Below.refl _ _).alloc (Nat.le_refl _) _).alloc (by simp) _
  have hb1 : wb.heap[w.heap.size]? = some (.cells #[.int .i64 vars, .slice a nk c] 24) := by rw [hwb]; exact (heap_alloc_old _ _ (by simp)).trans (heap_alloc_new _ _)
  have hb2 : wb.heap[w.heap.size + 1]? = some (.cells #[.int .i64 o, .int .i64 n] 62) := by
    rw [hwb]
    have := heap_alloc_new (w.alloc (.cells #[.int .i64 vars, .slice a nk c] 24)) (.cells #[.int .i64 o, .int .i64 n] 62)
    simpa using this
  have hsz : wb.heap.size = w.heap.size + 2 := by rw [hwb]; simp
  have HB0 := Lib.hid hb0
  have H1 := Lib.hid hb1
  have H2 := Lib.hid hb2
  have HSZ := Lib.hid hsz
  have HWB := Lib.hid hwb
  have HTT := Lib.hid htt
  clear hs hwb hb0 hb1 hb2 hsz htt
  go_enter Tryd.func36, Tryd.ntmps36
  go_wp2_with (first
    | (go_at_call 45; rw [← HWB.out]; refine (rword_any _ _).mono ?_; rintro e w1 ⟨rfl, hb⟩; rw [← HS.out]; refine Hid.out ?_))
  have g1 := (hb.block w.heap.size (by have := HSZ.out; omega)).trans H1.out
  have g2 := (hb.block (w.heap.size + 1) (by have := HSZ.out; omega)).trans H2.out
  have p0 : w1.cell? ⟨w.heap.size, 0, none⟩ = some (.int .i64 vars) := by rw [cell_of_row _ _ _ _ _ _ g1]; rfl
  have p1 : w1.cell? ⟨w.heap.size, 1, none⟩ = some (.slice a nk c) := by rw [cell_of_row _ _ _ _ _ _ g1]; rfl
  have p2 : w1.cell? ⟨w.heap.size + 1, 1, none⟩ = some (.int .i64 n) := by rw [cell_of_row _ _ _ _ _ _ g2]; rfl
  have HB := Lib.hid (HB0.out.trans (hb.mono HB0.out.size))
  clear hb g1 g2
  refine Lib.hid ?_
  go_wp2
  all_goals (go_ret; refine ⟨?_, HB.out⟩; rw [HTT.out]; simp; try omega)
set_option maxHeartbeats 2000000 in
set_option maxRecDepth 100000 in
theorem rinstr_zero (t : Bool) (hv : I64 vars) (hn : I64 n) (hk : nk ≤ 9223372036854775807) (hm : many ≤ 9223372036854775806) (hT : Tests (strU (word o)) false false false false false true false) (htt : t = (decide (0 ≤ n) && decide (n ≤ (many : Int)))) :
    Calls Tryd.prog 36 #[.agg #[.int .i64 vars, .slice a nk c], .agg #[.int .i64 o, .int .i64 n], .int .i64 many] w (TellsBB t w) := by
  obtain ⟨n0, n1⟩ := hn
  obtain ⟨v0, v1⟩ := hv
  obtain ⟨s, hs⟩ : ∃ s, s = strU (word o) := ⟨_, rfl⟩
  rw [← hs] at hT
  obtain ⟨t0, t1, t2, t3, t4, t5, t6⟩ := hT
  have HS := Lib.hid hs
  obtain ⟨wb, hwb⟩ : ∃ wb, wb = (w.alloc (.cells #[.int .i64 vars, .slice a nk c] 24)).alloc (.cells #[.int .i64 o, .int .i64 n] 62) := ⟨_, rfl⟩
  have hb0 : Below w.heap.size w wb := by rw [hwb]; exact ((Below.refl _ _).alloc (Nat.le_refl _) _).alloc (by simp) _
  have hb1 : wb.heap[w.heap.size]? = some (.cells #[.int .i64 vars, .slice a nk c] 24) := by rw [hwb]; exact (heap_alloc_old _ _ (by simp)).trans (heap_alloc_new _ _)
  have hb2 : wb.heap[w.heap.size + 1]? = some (.cells #[.int .i64 o, .int .i64 n] 62) := by
    rw [hwb]
    have := heap_alloc_new (w.alloc (.cells #[.int .i64 vars, .slice a nk c] 24)) (.cells #[.int .i64 o, .int .i64 n] 62)
    simpa using this
  have hsz : wb.heap.size = w.heap.size + 2 := by rw [hwb]; simp
  have HB0 := Lib.hid hb0
  have H1 := Lib.hid hb1
  have H2 := Lib.hid hb2
  have HSZ := Lib.hid hsz
  have HWB := Lib.hid hwb
  have HTT := Lib.hid htt
  clear hs hwb hb0 hb1 hb2 hsz htt
  go_enter Tryd.func36, Tryd.ntmps36
  go_wp2_with (first
    | (go_at_call 45; rw [← HWB.out]; refine (rword_any _ _).mono ?_; rintro e w1 ⟨rfl, hb⟩; rw [← HS.out]; refine Hid.out ?_))
  have g1 := (hb.block w.heap.size (by have := HSZ.out; omega)).trans H1.out
  have g2 := (hb.block (w.heap.size + 1) (by have := HSZ.out; omega)).trans H2.out
  have p0 : w1.cell? ⟨w.heap.size, 0, none⟩ = some (.int .i64 vars) := by rw [cell_of_row _ _ _ _ _ _ g1]; rfl
  have p1 : w1.cell? ⟨w.heap.size, 1, none⟩ = some (.slice a nk c) := by rw [cell_of_row _ _ _ _ _ _ g1]; rfl
  have p2 : w1.cell? ⟨w.heap.size + 1, 1, none⟩ = some (.int .i64 n) := by rw [cell_of_row _ _ _ _ _ _ g2]; rfl
  have HB := Lib.hid (HB0.out.trans (hb.mono HB0.out.size))
  clear hb g1 g2
  refine Lib.hid ?_
  go_wp2
  all_goals (go_ret; refine ⟨?_, HB.out⟩; rw [HTT.out]; simp; try omega)
set_option maxHeartbeats 2000000 in
set_option maxRecDepth 100000 in
theorem rinstr_send (t : Bool) (hv : I64 vars) (hn : I64 n) (hk : nk ≤ 9223372036854775807) (hm : many ≤ 9223372036854775806) (hT : Tests (strU (word o)) false false false false false false true) (htt : t = (decide (0 ≤ n) && decide (n < (nk : Int)))) :
    Calls Tryd.prog 36 #[.agg #[.int .i64 vars, .slice a nk c], .agg #[.int .i64 o, .int .i64 n], .int .i64 many] w (TellsBB t w) := by
  obtain ⟨n0, n1⟩ := hn
  obtain ⟨v0, v1⟩ := hv
  obtain ⟨s, hs⟩ : ∃ s, s = strU (word o) := ⟨_, rfl⟩
  rw [← hs] at hT
  obtain ⟨t0, t1, t2, t3, t4, t5, t6⟩ := hT
  have HS := Lib.hid hs
  obtain ⟨wb, hwb⟩ : ∃ wb, wb = (w.alloc (.cells #[.int .i64 vars, .slice a nk c] 24)).alloc (.cells #[.int .i64 o, .int .i64 n] 62) := ⟨_, rfl⟩
  have hb0 : Below w.heap.size w wb := by rw [hwb]; exact ((Below.refl _ _).alloc (Nat.le_refl _) _).alloc (by simp) _
  have hb1 : wb.heap[w.heap.size]? = some (.cells #[.int .i64 vars, .slice a nk c] 24) := by rw [hwb]; exact (heap_alloc_old _ _ (by simp)).trans (heap_alloc_new _ _)
  have hb2 : wb.heap[w.heap.size + 1]? = some (.cells #[.int .i64 o, .int .i64 n] 62) := by
    rw [hwb]
    have := heap_alloc_new (w.alloc (.cells #[.int .i64 vars, .slice a nk c] 24)) (.cells #[.int .i64 o, .int .i64 n] 62)
    simpa using this
  have hsz : wb.heap.size = w.heap.size + 2 := by rw [hwb]; simp
  have HB0 := Lib.hid hb0
  have H1 := Lib.hid hb1
  have H2 := Lib.hid hb2
  have HSZ := Lib.hid hsz
  have HWB := Lib.hid hwb
  have HTT := Lib.hid htt
  clear hs hwb hb0 hb1 hb2 hsz htt
  go_enter Tryd.func36, Tryd.ntmps36
  go_wp2_with (first
    | (go_at_call 45; rw [← HWB.out]; refine (rword_any _ _).mono ?_; rintro e w1 ⟨rfl, hb⟩; rw [← HS.out]; refine Hid.out ?_))
  have g1 := (hb.block w.heap.size (by have := HSZ.out; omega)).trans H1.out
  have g2 := (hb.block (w.heap.size + 1) (by have := HSZ.out; omega)).trans H2.out
  have p0 : w1.cell? ⟨w.heap.size, 0, none⟩ = some (.int .i64 vars) := by rw [cell_of_row _ _ _ _ _ _ g1]; rfl
  have p1 : w1.cell? ⟨w.heap.size, 1, none⟩ = some (.slice a nk c) := by rw [cell_of_row _ _ _ _ _ _ g1]; rfl
  have p2 : w1.cell? ⟨w.heap.size + 1, 1, none⟩ = some (.int .i64 n) := by rw [cell_of_row _ _ _ _ _ _ g2]; rfl
  have HB := Lib.hid (HB0.out.trans (hb.mono HB0.out.size))
  clear hb g1 g2
  refine Lib.hid ?_
  go_wp2
  all_goals (go_ret; refine ⟨?_, HB.out⟩; rw [HTT.out]; simp; try omega)
set_option maxHeartbeats 2000000 in
set_option maxRecDepth 100000 in
theorem rinstr_plain (t : Bool) (hv : I64 vars) (hn : I64 n) (hk : nk ≤ 9223372036854775807) (hm : many ≤ 9223372036854775806) (hT : Tests (strU (word o)) false false false false false false false) (htt : t = (n == 0)) :
    Calls Tryd.prog 36 #[.agg #[.int .i64 vars, .slice a nk c], .agg #[.int .i64 o, .int .i64 n], .int .i64 many] w (TellsBB t w) := by
  obtain ⟨n0, n1⟩ := hn
  obtain ⟨v0, v1⟩ := hv
  obtain ⟨s, hs⟩ : ∃ s, s = strU (word o) := ⟨_, rfl⟩
  rw [← hs] at hT
  obtain ⟨t0, t1, t2, t3, t4, t5, t6⟩ := hT
  have HS := Lib.hid hs
  obtain ⟨wb, hwb⟩ : ∃ wb, wb = (w.alloc (.cells #[.int .i64 vars, .slice a nk c] 24)).alloc (.cells #[.int .i64 o, .int .i64 n] 62) := ⟨_, rfl⟩
  have hb0 : Below w.heap.size w wb := by rw [hwb]; exact ((Below.refl _ _).alloc (Nat.le_refl _) _).alloc (by simp) _
  have hb1 : wb.heap[w.heap.size]? = some (.cells #[.int .i64 vars, .slice a nk c] 24) := by rw [hwb]; exact (heap_alloc_old _ _ (by simp)).trans (heap_alloc_new _ _)
  have hb2 : wb.heap[w.heap.size + 1]? = some (.cells #[.int .i64 o, .int .i64 n] 62) := by
    rw [hwb]
    have := heap_alloc_new (w.alloc (.cells #[.int .i64 vars, .slice a nk c] 24)) (.cells #[.int .i64 o, .int .i64 n] 62)
    simpa using this
  have hsz : wb.heap.size = w.heap.size + 2 := by rw [hwb]; simp
  have HB0 := Lib.hid hb0
  have H1 := Lib.hid hb1
  have H2 := Lib.hid hb2
  have HSZ := Lib.hid hsz
  have HWB := Lib.hid hwb
  have HTT := Lib.hid htt
  clear hs hwb hb0 hb1 hb2 hsz htt
  go_enter Tryd.func36, Tryd.ntmps36
  go_wp2_with (first
    | (go_at_call 45; rw [← HWB.out]; refine (rword_any _ _).mono ?_; rintro e w1 ⟨rfl, hb⟩; rw [← HS.out]; refine Hid.out ?_))
  have g1 := (hb.block w.heap.size (by have := HSZ.out; omega)).trans H1.out
  have g2 := (hb.block (w.heap.size + 1) (by have := HSZ.out; omega)).trans H2.out
  have p0 : w1.cell? ⟨w.heap.size, 0, none⟩ = some (.int .i64 vars) := by rw [cell_of_row _ _ _ _ _ _ g1]; rfl
  have p1 : w1.cell? ⟨w.heap.size, 1, none⟩ = some (.slice a nk c) := by rw [cell_of_row _ _ _ _ _ _ g1]; rfl
  have p2 : w1.cell? ⟨w.heap.size + 1, 1, none⟩ = some (.int .i64 n) := by rw [cell_of_row _ _ _ _ _ _ g2]; rfl
  have HB := Lib.hid (HB0.out.trans (hb.mono HB0.out.size))
  clear hb g1 g2
  refine Lib.hid ?_
  go_wp2
  all_goals (go_ret; refine ⟨?_, HB.out⟩; rw [HTT.out]; simp; try omega)
theorem rinstr_any (hv : I64 vars) (hn : I64 n) (hk : nk ≤ 9223372036854775807) (hm : many ≤ 9223372036854775806) :
    Calls Tryd.prog 36 #[.agg #[.int .i64 vars, .slice a nk c], .agg #[.int .i64 o, .int .i64 n], .int .i64 many] w (TellsBB (mayIns nk vars many (o, n)) w) := by
  by_cases hr : 1 ≤ o ∧ o ≤ 17
  · have hrd : (!decide (1 ≤ o ∧ o ≤ 17)) = false := by simpa using hr
    have hmi : mayIns nk vars many (o, n) = mayNum nk vars many (o, n) := by unfold mayIns; rw [decide_eq_true hr]; rfl
    rw [hmi]
    by_cases h1 : o = 1
    · exact rinstr_push w a nk c vars o n many _ hv hn hk hm (tests_at o _ _ _ _ _ _ _ hrd (by subst h1; rfl) (by subst h1; rfl) (by subst h1; rfl) (by subst h1; rfl) (by subst h1; rfl) (by subst h1; rfl)) (by subst h1; rfl)
    by_cases h2 : o = 2
    · exact rinstr_load w a nk c vars o n many _ hv hn hk hm (tests_at o _ _ _ _ _ _ _ hrd (by subst h2; rfl) (by subst h2; rfl) (by subst h2; rfl) (by subst h2; rfl) (by subst h2; rfl) (by subst h2; rfl)) (by subst h2; simp [mayNum, CodM.many])
    by_cases h3 : o = 3
    · exact rinstr_store w a nk c vars o n many _ hv hn hk hm (tests_at o _ _ _ _ _ _ _ hrd (by subst h3; rfl) (by subst h3; rfl) (by subst h3; rfl) (by subst h3; rfl) (by subst h3; rfl) (by subst h3; rfl)) (by subst h3; simp [mayNum, CodM.many])
    by_cases h4 : o = 13
    · exact rinstr_jump w a nk c vars o n many _ hv hn hk hm (tests_at o _ _ _ _ _ _ _ hrd (by subst h4; rfl) (by subst h4; rfl) (by subst h4; rfl) (by subst h4; rfl) (by subst h4; rfl) (by subst h4; rfl)) (by subst h4; simp [mayNum, CodM.many, Int.lt_add_one_iff])
    by_cases h5 : o = 14
    · exact rinstr_zero w a nk c vars o n many _ hv hn hk hm (tests_at o _ _ _ _ _ _ _ hrd (by subst h5; rfl) (by subst h5; rfl) (by subst h5; rfl) (by subst h5; rfl) (by subst h5; rfl) (by subst h5; rfl)) (by subst h5; simp [mayNum, CodM.many, Int.lt_add_one_iff])
    by_cases h6 : o = 15
    · exact rinstr_send w a nk c vars o n many _ hv hn hk hm (tests_at o _ _ _ _ _ _ _ hrd (by subst h6; rfl) (by subst h6; rfl) (by subst h6; rfl) (by subst h6; rfl) (by subst h6; rfl) (by subst h6; rfl)) (by subst h6; simp [mayNum, CodM.many])
    · refine rinstr_plain w a nk c vars o n many _ hv hn hk hm (tests_at o _ _ _ _ _ _ _ hrd (by simpa using h1) (by simpa using h2) (by simpa using h3) (by simpa using h4) (by simpa using h5) (by simpa using h6)) ?_
      simp only [mayNum, CodM.many, h1, h2, h3, h4, h5, h6, decide_false, Bool.false_or, if_false, or_self]
      by_cases h0 : n = 0
      · subst h0; rfl
      · rw [show (n == 0) = false from by simpa using h0]
        by_cases hp : 0 ≤ n
        · rw [decide_eq_true hp, decide_eq_false (by omega)]; rfl
        · rw [decide_eq_false hp]; rfl
  · have hrd : (!decide (1 ≤ o ∧ o ≤ 17)) = true := by rw [decide_eq_false hr]; rfl
    refine rinstr_out w a nk c vars o n many _ hv hn hk hm (tests_at o _ _ _ _ _ _ _ hrd ?_ ?_ ?_ ?_ ?_ ?_) (by unfold mayIns; rw [decide_eq_false hr]; rfl)
    all_goals (rw [beq_eq_false_iff_ne]; omega)
end
end Go.Proofs.YtppidbnbfipgnaaDoor
