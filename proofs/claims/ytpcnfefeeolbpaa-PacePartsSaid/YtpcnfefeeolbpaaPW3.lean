/-
  The walks of New, Copy, Same, Wait.
-/
import Derived.Test.YtpcnfefeeolbpaaPW2
import Derived.Laws.StructEq
namespace Go.Proofs.Ytpcnfefeeolbpaa
open Go Go.Shelf Go.RowKit Go.Lib Go.Proofs

theorem pcEq (a b c d e x y z u v : Int) (w : World) : (binOp .eql 27 (.agg #[.int .i64 a, .int .i64 b, .int .i64 c, .int .i64 d, .int .i64 e]) (.agg #[.int .i64 x, .int .i64 y, .int .i64 z, .int .i64 u, .int .i64 v])).run Try.prog w = .ok (.bool (decide (Pc.mk a b c d e = Pc.mk x y z u v))) w := by
  have u2 := Try.underlying2
  have a2 := Try.isAgg2
  have z2 := Try.sizeOf2
  have hS : Try.prog.underlying 27 = some (.struct (Try.prog.fieldsOf 27)) := by kernel_rfl
  have hp : Try.prog.stoodInHeld 27 = false := by kernel_rfl
  rw [run_eql_struct, show (10000 : Nat) = 9999 + 1 from rfl, run_equalIn_agg w 9999 27 _ _ hS hp]
  simp only [Program.fieldsOf, Try.underlying27]
  go_simp
  by_cases h1 : a = x <;> by_cases h2 : b = y <;> by_cases h3 : c = z <;> by_cases h4 : d = u <;> by_cases h5 : e = v <;> simp [h1, h2, h3, h4, h5]
theorem pcNe (a b c d e x y z u v : Int) (w : World) : (binOp .neq 27 (.agg #[.int .i64 a, .int .i64 b, .int .i64 c, .int .i64 d, .int .i64 e]) (.agg #[.int .i64 x, .int .i64 y, .int .i64 z, .int .i64 u, .int .i64 v])).run Try.prog w = .ok (.bool (!decide (Pc.mk a b c d e = Pc.mk x y z u v))) w := by
  have u2 := Try.underlying2
  have a2 := Try.isAgg2
  have z2 := Try.sizeOf2
  have hS : Try.prog.underlying 27 = some (.struct (Try.prog.fieldsOf 27)) := by kernel_rfl
  have hp : Try.prog.stoodInHeld 27 = false := by kernel_rfl
  rw [run_neq_struct, show (10000 : Nat) = 9999 + 1 from rfl, run_equalIn_agg w 9999 27 _ _ hS hp]
  simp only [Program.fieldsOf, Try.underlying27]
  go_simp
  by_cases h1 : a = x <;> by_cases h2 : b = y <;> by_cases h3 : c = z <;> by_cases h4 : d = u <;> by_cases h5 : e = v <;> simp [h1, h2, h3, h4, h5]

theorem New_any (w : World) : Calls Try.prog 7 #[] w (fun e w' => ∃ M, e = .returned (.pointer (some ⟨M, 0, none⟩)) ∧ PAt w' M pc0 0 ∧ w.heap.size ≤ M ∧ Below w.heap.size w w') := by
  go_enter Try.func7, Try.ntmps7
  go_wp2
  go_ret
  exact ⟨w.heap.size, rfl, ⟨heap_alloc_new _ _, .inr ⟨rfl, rfl, rfl⟩, pc0_ok⟩, Nat.le_refl _, (Below.refl _ _).alloc (Nat.le_refl _) _⟩
set_option maxHeartbeats 1000000 in
theorem Copy_any (w : World) (M : Nat) (p : Pc) (d : Int) (h : PAt w M p d) : Calls Try.prog 16 #[.pointer (some ⟨M, 0, none⟩)] w (fun e w' => ∃ M', e = .returned (.pointer (some ⟨M', 0, none⟩)) ∧ PAt w' M' p d ∧ w.heap.size ≤ M' ∧ Below w.heap.size w w') := by
  obtain ⟨c0, c1, c2, c3, c4⟩ := h.cells
  have H := Lib.hid h
  clear h
  go_enter Try.func16, Try.ntmps16
  go_wp2
  go_ret
  exact ⟨w.heap.size, rfl, ⟨heap_alloc_new _ _, H.out.den, H.out.ok⟩, Nat.le_refl _, (Below.refl _ _).alloc (Nat.le_refl _) _⟩
set_option maxHeartbeats 1000000 in
theorem Same_any (w : World) (M N : Nat) (p q : Pc) (d d' : Int) (h : PAt w M p d) (h' : PAt w N q d') : Calls Try.prog 17 #[.pointer (some ⟨M, 0, none⟩), .pointer (some ⟨N, 0, none⟩)] w (fun e w' => e = .returned (.bool (decide (p = q))) ∧ Below w.heap.size w w') := by
  have HS : Hid (∀ W, Below w.heap.size w W → Calls Try.prog 18 #[.pointer (some ⟨M, 0, none⟩)] W (fun e w' => e = .returned (.agg (pcV p)) ∧ Below W.heap.size W w')) := Lib.hid fun W hb => State_any W M p d (h.below hb)
  have HT : Hid (∀ W, Below w.heap.size w W → Calls Try.prog 18 #[.pointer (some ⟨N, 0, none⟩)] W (fun e w' => e = .returned (.agg (pcV q)) ∧ Below W.heap.size W w')) := Lib.hid fun W hb => State_any W N q d' (h'.below hb)
  clear h h'
  obtain ⟨t, ht⟩ : ∃ t, t = decide (p = q) := ⟨_, rfl⟩
  rw [← ht]
  obtain ⟨st, ba, nu, de, cl⟩ := p
  obtain ⟨st', ba', nu', de', cl'⟩ := q
  dsimp only [pcV] at HS HT
  have hE := fun W => pcEq st ba nu de cl st' ba' nu' de' cl' W
  rw [← ht] at hE
  clear ht
  go_enter Try.func17, Try.ntmps17
  go_wp2_with (first
    | (go_at_call 18; ((with_reducible refine (HT.out _ HB1.out).mono ?_)); rintro e w2 ⟨rfl, hb2⟩; have HB2 := Lib.hid (HB1.out.trans (hb2.mono HB1.out.size)); clear hb2)
    | (go_at_call 18; ((with_reducible refine (HS.out _ (Below.refl _ _)).mono ?_)); rintro e w1 ⟨rfl, hb1⟩; have HB1 := Lib.hid hb1; clear hb1))
  go_ret
  exact ⟨rfl, HB2.out⟩

theorem after_nn {p : Pc} (h : p.Ok) (t : Int) (hz : p.hz < t) (hn : 1 ≤ p.nu) : 0 ≤ p.after t :=
  Int.ediv_nonneg (by have := h.hz_bd; have : 0 < (t - p.st) * p.de := Int.mul_pos (by omega) (by have := h.de0; omega); omega) (by omega)

set_option maxHeartbeats 2000000 in
set_option maxRecDepth 100000 in
theorem Wait_any (w : World) (M : Nat) (p : Pc) (d : Int) (h : PAt w M p d) (t : Int) : Calls Try.prog 14 #[.pointer (some ⟨M, 0, none⟩), .int .i64 t] w (fun e w' => e = .returned (.tuple #[.int .i64 (p.wait t).1, .bool (p.wait t).2]) ∧ Below w.heap.size w w') := by
  have HH : Hid (∀ W, Below w.heap.size w W → Calls Try.prog 9 #[.pointer (some ⟨M, 0, none⟩)] W (fun e w' => e = .returned (.int .i64 p.hz) ∧ Below W.heap.size W w')) := Lib.hid fun W hb => Horizon_any W M p d (h.below hb)
  obtain ⟨r, hr⟩ : ∃ r, r = p.wait t := ⟨_, rfl⟩
  rw [← hr]
  by_cases h1 : 1099511627776 < t
  · have HR := Lib.hid (show r = (0, false) by rw [hr]; unfold Pc.wait; rw [if_pos h1])
    clear hr h HH
    go_enter Try.func14, Try.ntmps14
    go_wp2
    go_ret2
    exact ⟨by rw [HR.out]; rfl, Below.refl _ _⟩
  obtain ⟨z, hz⟩ : ∃ z, z = p.hz := ⟨_, rfl⟩
  rw [← hz] at HH
  have d1 : decide (1099511627776 < t) = false := decide_eq_false h1
  by_cases h2 : t ≤ z
  · have HR := Lib.hid (show r = (p.cl, true) by rw [hr]; unfold Pc.wait; rw [if_neg h1, if_pos (by rw [← hz]; exact h2)])
    have HC := Lib.hid h
    clear hr h hz h1
    go_enter Try.func14, Try.ntmps14
    go_wp2_with (go_at_call 9; ((with_reducible refine (HH.out _ (Below.refl _ _)).mono ?_)); rintro e w1 ⟨rfl, hb1⟩; have c4 := (HC.out.below hb1).cells.2.2.2.2; have HB1 := Lib.hid hb1; clear hb1)
    go_ret2
    exact ⟨by rw [HR.out]; rfl, HB1.out⟩
  have d2 : decide (t ≤ z) = false := decide_eq_false h2
  by_cases h3 : p.nu = 0
  · have HR := Lib.hid (show r = (0, false) by rw [hr]; unfold Pc.wait; rw [if_neg h1, if_neg (by rw [← hz]; exact h2), if_pos h3])
    have HC := Lib.hid h
    have H3 := Lib.hid h3
    clear hr h hz h1 h2 h3
    go_enter Try.func14, Try.ntmps14
    go_wp2_with (go_at_call 9; ((with_reducible refine (HH.out _ (Below.refl _ _)).mono ?_)); rintro e w1 ⟨rfl, hb1⟩; have c2 := (HC.out.below hb1).cells.2.2.1; rw [H3.out] at c2; have HB1 := Lib.hid hb1; clear hb1)
    go_ret2
    exact ⟨by rw [HR.out]; rfl, HB1.out⟩
  have hok := h.ok
  have hn0 := hok.nu0
  have hn1 : 1 ≤ p.nu := by omega
  have hdd : d = p.de := by
    rcases h.den with h4 | ⟨_, _, h4⟩
    · exact h4
    · exact absurd h4 h3
  have hst := hok.hz_bd
  have hs0 := hok.st0
  have hd0 := hok.de0
  have hd1 := hok.de1
  have hnn := hok.nu1
  have hb0 := hok.ba0
  have hb1 := hok.ba1
  have hcl := hok.cl1
  have haf := after_nn hok t (by omega) hn1
  have hlo : 0 < (t - p.st) * p.de := Int.mul_pos (by omega) (by omega)
  have hhi : (t - p.st) * p.de ≤ 1099511627776 * 1048576 := Int.mul_le_mul (by omega) hd1 (by omega) (by omega)
  obtain ⟨af, haf'⟩ : ∃ x, x = p.after t := ⟨_, rfl⟩
  have hq : af = ((t - p.st) * p.de + p.nu - 1) / p.nu := haf'
  have HC : Hid (∀ W, Below w.heap.size w W → W.cell? ⟨M, 0, none⟩ = some (.int .i64 p.st) ∧ W.cell? ⟨M, 1, none⟩ = some (.int .i64 p.ba) ∧ W.cell? ⟨M, 2, none⟩ = some (.int .i64 p.nu) ∧ W.cell? ⟨M, 3, none⟩ = some (.int .i64 p.de)) := Lib.hid fun W hb => by
    obtain ⟨c0, c1, c2, c3, _⟩ := (h.below hb).cells
    exact ⟨c0, c1, c2, hdd ▸ c3⟩
  rw [← haf'] at haf
  have hr2 : r = if 9223372036854775807 - p.ba < af then (0, false) else (p.ba + af, true) := by
    rw [hr]
    unfold Pc.wait
    rw [if_neg h1, if_neg (show ¬ t ≤ p.hz by rw [← hz]; exact h2), if_neg h3, ← haf']
  have hgap : 0 ≤ t - p.st ∧ t - p.st ≤ 1099511627776 := by omega
  clear hr haf' hok hst h3
  obtain ⟨x1, hx1⟩ : ∃ x, x = t - p.st := ⟨_, rfl⟩
  rw [← hx1] at hlo hhi hq hgap
  have e1 : IntKind.i64.wrap (t - p.st) = x1 := by rw [← hx1]; exact IntWalk.i64_in _ (by omega)
  obtain ⟨a, ha⟩ : ∃ a, a = x1 * p.de := ⟨_, rfl⟩
  rw [← ha] at hlo hhi hq
  have e2 : IntKind.i64.wrap (x1 * p.de) = a := by rw [← ha]; exact IntWalk.i64_in _ (by omega)
  obtain ⟨b1, hb1'⟩ : ∃ b, b = a + p.nu := ⟨_, rfl⟩
  have e3 : IntKind.i64.wrap (a + p.nu) = b1 := by rw [← hb1']; exact IntWalk.i64_in _ (by omega)
  obtain ⟨b2, hb2⟩ : ∃ b, b = b1 - 1 := ⟨_, rfl⟩
  have e4 : IntKind.i64.wrap (b1 - 1) = b2 := by rw [← hb2]; exact IntWalk.i64_in _ (by omega)
  have hq' : af = b2 / p.nu := by rw [hq, hb2, hb1']
  have hafb : af ≤ b2 := by rw [hq']; exact Int.ediv_le_self _ (by omega)
  have e5 : IntKind.i64.wrap (b2 / p.nu) = af := by rw [← hq']; exact IntWalk.i64_in _ (by omega)
  have e6 : IntKind.i64.wrap (b2.tdiv p.nu) = af := by rw [Int.tdiv_eq_ediv_of_nonneg (by omega)]; exact e5
  have e7 : IntKind.i64.wrap (9223372036854775807 - p.ba) = 9223372036854775807 - p.ba := IntWalk.i64_in _ (by omega)
  have f1 : (p.nu == 0) = false := by simp; omega
  have f2 : ¬ p.nu = 0 := by omega
  have g1 : 0 ≤ b2 := by omega
  clear h hz hdd hx1 ha hb1' hb2 hq hq' hgap hlo hhi hb1 hcl h1 h2
  generalize p.nu = nu at *
  generalize p.de = de at *
  generalize p.st = st at *
  generalize p.ba = ba at *
  by_cases h4 : 9223372036854775807 - ba < af
  · rw [if_pos h4] at hr2
    have HR := Lib.hid hr2
    have d4 : decide (9223372036854775807 - ba < af) = true := decide_eq_true h4
    clear hr2 h4
    go_enter Try.func14, Try.ntmps14
    go_upto_region 7 with (go_at_call 9; ((with_reducible refine (HH.out _ (Below.refl _ _)).mono ?_)); rintro e w1 ⟨rfl, hb1⟩; obtain ⟨c0, c1, c2, c3⟩ := HC.out _ hb1; have HB1 := Lib.hid hb1; clear hb1)
    go_quiet (fail)
    go_upto_region 8 with fail
    go_quiet (fail)
    go_wp2
    go_ret2
    exact ⟨by rw [HR.out]; rfl, below_drewN HB1.out _⟩
  · rw [if_neg h4] at hr2
    have HR := Lib.hid hr2
    have d4 : decide (9223372036854775807 - ba < af) = false := decide_eq_false h4
    have e8 : IntKind.i64.wrap (ba + af) = ba + af := IntWalk.i64_in _ (by omega)
    clear hr2 h4
    go_enter Try.func14, Try.ntmps14
    go_upto_region 7 with (go_at_call 9; ((with_reducible refine (HH.out _ (Below.refl _ _)).mono ?_)); rintro e w1 ⟨rfl, hb1⟩; obtain ⟨c0, c1, c2, c3⟩ := HC.out _ hb1; have HB1 := Lib.hid hb1; clear hb1)
    go_quiet (fail)
    go_upto_region 8 with fail
    go_quiet (fail)
    go_wp2
    go_ret2
    exact ⟨by rw [HR.out]; rfl, below_drewN HB1.out _⟩
end Go.Proofs.Ytpcnfefeeolbpaa
