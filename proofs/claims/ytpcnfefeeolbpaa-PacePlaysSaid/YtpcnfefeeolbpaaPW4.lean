/-
  The walks of the document's pace: New, Scaled, Horizon, Tick, Rate, Wait.
-/
import Derived.Test.YtpcnfefeeolbpaaPW3
namespace Go.Proofs.Ytpcnfefeeolbpaa
open Go Go.Shelf Go.RowKit Go.Lib Go.Proofs

theorem rNew_any (w : World) : Calls Try.prog 8 #[] w (fun e w' => e = .returned (.agg (pcV pc0)) ∧ Below w.heap.size w w') := by
  go_enter Try.func8, Try.ntmps8
  go_wp2
  exact bodyPost_ret (v := .agg #[.int .i64 0, .int .i64 0, .int .i64 0, .int .i64 1, .int .i64 0]) (by simp [results, Try.results8, go_sem]) rfl ⟨rfl, (Below.refl _ _).alloc (Nat.le_refl _) _⟩

theorem ret_int {k : IntKind} {a b : Int} (h : a = b) : Ending.returned (.int k a) = .returned (.int k b) := by rw [h]
/-- so many bits of it -/
def upto (n : Int) (i : Nat) : Int := n / 2 ^ i
theorem upto_succ (n : Int) (i : Nat) : upto n i = 2 * upto n (i + 1) + n / 2 ^ i % 2 := by
  unfold upto
  have e : n / 2 ^ (i + 1) = n / 2 ^ i / 2 := by rw [Int.pow_succ, ← Int.ediv_ediv_of_nonneg (Int.le_of_lt (Int.pow_pos (by omega)))]
  rw [e]
  omega
theorem upto_top (n : Int) (n0 : 0 ≤ n) (n1 : n ≤ 9223372036854775807) : upto n 63 = 0 := by
  unfold upto
  rw [show (2 : Int) ^ 63 = 9223372036854775808 from by decide]
  omega

set_option maxHeartbeats 2000000 in
set_option maxRecDepth 100000 in
theorem Scaled_any (w : World) (n nu de most : Int) (n0 : 0 ≤ n) (n1 : n ≤ 9223372036854775807) (h0 : 0 ≤ nu) (h1 : nu ≤ 1048576) (d0 : 1 ≤ de) (d1 : de ≤ 1048576) (m0 : 0 ≤ most) (m1 : most ≤ 1099511627776) :
    Calls Try.prog 21 #[.int .i64 n, .int .i64 nu, .int .i64 de, .int .i64 most] w (fun e w' => e = .returned (.int .i64 (scal n nu de most)) ∧ w = w') := by
  have z1 : ¬ de = 0 := by omega
  have z2 : (de == 0) = false := by simpa using z1
  go_enter Try.func21, Try.ntmps21
  go_wp2
  go_loop [9, 10, 11] (fun a r i => ∃ (k : Nat) (j : Int), k ≤ 63 ∧ j = (k : Int) - 1 ∧ a = .int .i64 (capd (upto n k * nu / de) most) ∧ r = .int .i64 (upto n k * nu % de) ∧ i = .int .i64 j) (fun _ _ i => (intOf i + 1).toNat)
  case atStart =>
    refine ⟨63, 62, by omega, by omega, ?_, ?_, rfl⟩
    · rw [upto_top n n0 n1, Int.zero_mul, Int.zero_ediv]
      unfold capd
      rw [if_neg (by omega)]
    · rw [upto_top n n0 n1, Int.zero_mul, Int.zero_emod]
  case round =>
    obtain ⟨k, j, hk, hj, rfl, rfl, rfl⟩ := hrel
    cases k with
    | zero =>
      obtain rfl : j = -1 := by omega
      have HF : Hid (min (capd (upto n 0 * nu / de) most) most = scal n nu de most) := Lib.hid (by
        rw [capd_min]
        show min (n / 2 ^ 0 * nu / de) most = _
        rw [show (2 : Int) ^ 0 = 1 from rfl, Int.ediv_one]
        rfl)
      clear hj
      go_wp2
      go_ret
      exact ⟨ret_int HF.out, rfl⟩
    | succ m =>
      obtain rfl : j = (m : Int) := by omega
      obtain ⟨v, hv⟩ : ∃ v, v = upto n (m + 1) * nu / de := ⟨_, rfl⟩
      obtain ⟨R, hR⟩ : ∃ R, R = upto n (m + 1) * nu % de := ⟨_, rfl⟩
      obtain ⟨b, hb⟩ : ∃ b, b = n / 2 ^ m % 2 := ⟨_, rfl⟩
      have hup : 0 ≤ upto n (m + 1) := Int.ediv_nonneg n0 (Int.le_of_lt (Int.pow_pos (by omega)))
      have v0 : 0 ≤ v := by rw [hv]; exact Int.ediv_nonneg (Int.mul_nonneg hup h0) (by omega)
      have R0 : 0 ≤ R := by rw [hR]; exact Int.emod_nonneg _ (by omega)
      have R1 : R < de := by rw [hR]; exact Int.emod_lt_of_pos _ (by omega)
      obtain ⟨s1, s2⟩ := bit_step (upto n (m + 1)) nu de b d0
      rw [← hv, ← hR] at s1
      rw [← hR] at s2
      rw [hb, ← upto_succ, ← hb] at s1 s2
      rw [← hv, ← hR]
      obtain ⟨cv, hcv⟩ : ∃ c, c = capd v most := ⟨_, rfl⟩
      have hcb := capd_bd v most v0 m0
      rw [← hcv] at hcb ⊢
      obtain ⟨nb, hnb⟩ : ∃ x, x = n / 2 ^ m := ⟨_, rfl⟩
      have nb0 : 0 ≤ nb := by rw [hnb]; exact Int.ediv_nonneg n0 (Int.le_of_lt (Int.pow_pos (by omega)))
      rw [← hnb] at hb
      have hb01 : b = 0 ∨ b = 1 := by omega
      obtain ⟨r3, hr3⟩ : ∃ r, r = 2 * R + b * nu := ⟨_, rfl⟩
      rw [← hr3] at s1 s2
      have hbn : 0 ≤ b * nu ∧ b * nu ≤ 1048576 := by rcases hb01 with e | e <;> rw [e] <;> omega
      have r30 : 0 ≤ r3 ∧ r3 ≤ 4194304 := by omega
      obtain ⟨Q1, hQ1⟩ : ∃ q, q = r3 / de := ⟨_, rfl⟩
      obtain ⟨R2, hR2⟩ : ∃ q, q = r3 % de := ⟨_, rfl⟩
      have Q10 : 0 ≤ Q1 ∧ Q1 ≤ 4194304 := by
        rw [hQ1]
        exact ⟨Int.ediv_nonneg r30.1 (by omega), Int.le_trans (Int.ediv_le_self _ r30.1) r30.2⟩
      rw [← hQ1] at s1
      rw [← hR2] at s2
      have hcs := capd_step v most Q1 m0 Q10.1
      rw [← hcv, ← s1] at hcs
      obtain ⟨X, hX⟩ : ∃ x, x = 2 * cv + Q1 := ⟨_, rfl⟩
      rw [← hX] at hcs
      have HC : Hid (capd X most = capd (upto n m * nu / de) most) := Lib.hid hcs
      have HR : Hid (upto n m * nu % de = R2) := Lib.hid s2
      have e0 : min m 64 = m := by omega
      have e1 : n / 2 ^ m = nb := hnb.symm
      have e2 : nb % 2 = b := hb.symm
      have e2' : nb.tmod 2 = b := by rw [Int.tmod_eq_emod_of_nonneg nb0]; exact e2
      obtain ⟨c2, hc2⟩ : ∃ x, x = 2 * cv := ⟨_, rfl⟩
      obtain ⟨r2, hr2⟩ : ∃ x, x = 2 * R := ⟨_, rfl⟩
      have e3 : 2 * cv = c2 := hc2.symm
      have e4 : 2 * R = r2 := hr2.symm
      have e6 : r3 / de = Q1 := hQ1.symm
      have e6' : r3.tdiv de = Q1 := by rw [Int.tdiv_eq_ediv_of_nonneg r30.1]; exact e6
      have e7 : r3 % de = R2 := hR2.symm
      have e7' : r3.tmod de = R2 := by rw [Int.tmod_eq_emod_of_nonneg r30.1]; exact e7
      have e8 : c2 + Q1 = X := by rw [hX, hc2]
      have HM := Lib.hid hk
      obtain ⟨b1, b2⟩ := hcb
      obtain ⟨b3, b4⟩ := r30
      obtain ⟨b5, b6⟩ := Q10
      have b7 : 0 ≤ c2 := by omega
      have b8 : c2 ≤ 2199023255554 := by omega
      have b9 : 0 ≤ r2 := by omega
      have b10 : r2 ≤ 2097152 := by omega
      have b11 : 0 ≤ X := by omega
      have b12 : X ≤ 4398046511104 := by omega
      rcases hb01 with hb0 | hb0
      · have e5 : r2 = r3 := by rw [hr3, hr2, hb0, Int.zero_mul]; omega
        rw [e5] at e4 b9 b10
        rw [hb0] at e2 e2'
        clear hj hv hR hb hup v0 s1 s2 hcv hcs hnb hr3 hbn hQ1 hR2 hX hc2 hr2 hb0 e5 hk
        go_wp2
        all_goals
          go_round
          case rel => exact ⟨m, (m : Int) - 1, by have := HM.out; omega, rfl, by rw [← HC.out]; unfold capd; first | rw [if_pos (by assumption)] | rw [if_neg (by omega)], by rw [HR.out], rfl⟩
          case measure => simp [intOf]
      · have e5 : r2 + nu = r3 := by rw [hr3, hr2, hb0, Int.one_mul]
        rw [hb0] at e2 e2'
        clear hj hv hR hb hup v0 s1 s2 hcv hcs hnb hr3 hbn hQ1 hR2 hX hc2 hr2 hb0 hk
        go_wp2
        all_goals
          go_round
          case rel => exact ⟨m, (m : Int) - 1, by have := HM.out; omega, rfl, by rw [← HC.out]; unfold capd; first | rw [if_pos (by assumption)] | rw [if_neg (by omega)], by rw [HR.out], rfl⟩
          case measure => simp [intOf]

set_option maxHeartbeats 1000000 in
set_option maxRecDepth 100000 in
theorem rHorizon_any (w : World) (p : Pc) (ok : p.Ok) : Calls Try.prog 19 #[.agg (pcV p)] w (fun e w' => e = .returned (.int .i64 p.hz) ∧ Below w.heap.size w w') := by
  have HS : Hid (∀ W, Calls Try.prog 21 #[.int .i64 (p.cl - p.ba), .int .i64 p.nu, .int .i64 p.de, .int .i64 (1099511627776 - p.st)] W (fun e w' => e = .returned (.int .i64 p.gone) ∧ W = w')) := Lib.hid fun W => Scaled_any W _ _ _ _ (by have := ok.ba1; omega) (by have := ok.cl1; have := ok.ba0; omega) ok.nu0 ok.nu1 ok.de0 ok.de1 (by have := ok.st1; omega) (by have := ok.st0; omega)
  have hg := ok.gone_bd
  have hs0 := ok.st0
  have hs1 := ok.st1
  have HZ := Lib.hid (show p.hz = p.st + p.gone from rfl)
  have e1 : IntKind.i64.wrap (p.cl - p.ba) = p.cl - p.ba := IntWalk.i64_in _ (by have := ok.ba1; have := ok.cl1; have := ok.ba0; omega)
  have e2 : IntKind.i64.wrap (1099511627776 - p.st) = 1099511627776 - p.st := IntWalk.i64_in _ (by omega)
  have e3 : IntKind.i64.wrap (p.st + p.gone) = p.st + p.gone := IntWalk.i64_in _ (by omega)
  clear ok hg
  generalize p.gone = g at *
  generalize p.hz = z at *
  obtain ⟨st, ba, nu, de, cl⟩ := p
  dsimp only [pcV] at *
  obtain ⟨w1, hw1⟩ : ∃ w1, w1 = w.alloc (.cells #[.int .i64 st, .int .i64 ba, .int .i64 nu, .int .i64 de, .int .i64 cl] 27) := ⟨_, rfl⟩
  have hb1 : Below w.heap.size w w1 := by rw [hw1]; exact (Below.refl _ _).alloc (Nat.le_refl _) _
  have hx1 : w1.heap[w.heap.size]? = some (.cells #[.int .i64 st, .int .i64 ba, .int .i64 nu, .int .i64 de, .int .i64 cl] 27 (0, 0)) := by rw [hw1]; exact heap_alloc_new _ _
  obtain ⟨b, hbz⟩ : ∃ b, b = w.heap.size := ⟨_, rfl⟩
  rw [← hbz] at hx1
  have q0 : ∀ p : InB w1, p.w.cell? ⟨b, 0, none⟩ = some (.int .i64 st) := fun p => cell_keep p (by rw [cell_of_row _ _ _ _ _ _ hx1]; rfl)
  have q1 : ∀ p : InB w1, p.w.cell? ⟨b, 1, none⟩ = some (.int .i64 ba) := fun p => cell_keep p (by rw [cell_of_row _ _ _ _ _ _ hx1]; rfl)
  have q2 : ∀ p : InB w1, p.w.cell? ⟨b, 2, none⟩ = some (.int .i64 nu) := fun p => cell_keep p (by rw [cell_of_row _ _ _ _ _ _ hx1]; rfl)
  have q3 : ∀ p : InB w1, p.w.cell? ⟨b, 3, none⟩ = some (.int .i64 de) := fun p => cell_keep p (by rw [cell_of_row _ _ _ _ _ _ hx1]; rfl)
  have q4 : ∀ p : InB w1, p.w.cell? ⟨b, 4, none⟩ = some (.int .i64 cl) := fun p => cell_keep p (by rw [cell_of_row _ _ _ _ _ _ hx1]; rfl)
  have HS2 : Hid (∀ q : InB w1, Calls Try.prog 21 #[.int .i64 (cl - ba), .int .i64 nu, .int .i64 de, .int .i64 (1099511627776 - st)] q.w (fun e w' => e = .returned (.int .i64 g) ∧ Below q.w.heap.size q.w w')) := Lib.hid fun q => (HS.out q.w).mono fun e w' ⟨h1, h2⟩ => ⟨h1, h2 ▸ Below.refl _ _⟩
  have HB := Lib.hid hb1
  have HW := Lib.hid hw1
  have HBZ := Lib.hid hbz
  clear hb1 hx1 hw1 hbz HS
  go_enter Try.func19, Try.ntmps19
  go_wp2_with fail
  rw [← HW.out, ← HBZ.out]
  refine wp_region_below (by kernel_rfl) (by kernel_rfl) ?_
  repeat (refine WQ.step (fun K hK => ?_); go_simp; first | (refine hK _ ?_; clear hK K) | (apply Exists.intro; refine ⟨fun _ => ?_, hK _ ?_⟩; (go_at_call 21; exact Calls.inb (HS2.out _)); clear hK K))
  refine WQ.nil ?_
  intro w8 hw'
  obtain ⟨pq, hpq⟩ := hw'
  have HP := Lib.hid (HB.out.trans (pq.h.mono HB.out.size))
  rw [← hpq] at HP
  clear hpq pq q0 q1 q2 q3 q4 HS2
  go_wp2
  go_ret
  exact ⟨by rw [HZ.out]; rfl, HP.out⟩
set_option maxHeartbeats 1000000 in
set_option maxRecDepth 100000 in
theorem rTick_any (w : World) (p : Pc) (c : Int) : Calls Try.prog 11 #[.agg (pcV p), .int .i64 c] w (fun e w' => e = .returned (.agg (pcV (p.tick c))) ∧ Below w.heap.size w w') := by
  obtain ⟨st, ba, nu, de, cl⟩ := p
  dsimp only [pcV, Pc.tick]
  obtain ⟨m, hm⟩ : ∃ m, m = max cl c := ⟨_, rfl⟩
  rw [← hm]
  by_cases h : cl < c
  · obtain rfl : m = c := by omega
    clear hm
    go_enter Try.func11, Try.ntmps11
    go_wp2
    exact bodyPost_ret (v := .agg #[.int .i64 st, .int .i64 ba, .int .i64 nu, .int .i64 de, .int .i64 m]) (by simp [results, Try.results11, go_sem]) rfl ⟨rfl, ((Below.refl _ _).alloc (Nat.le_refl _) _).alloc (by simp) _⟩
  · obtain rfl : m = cl := by omega
    clear hm
    go_enter Try.func11, Try.ntmps11
    go_wp2
    exact bodyPost_ret (v := .agg #[.int .i64 st, .int .i64 ba, .int .i64 nu, .int .i64 de, .int .i64 m]) (by simp [results, Try.results11, go_sem]) rfl ⟨rfl, ((Below.refl _ _).alloc (Nat.le_refl _) _).alloc (by simp) _⟩
end Go.Proofs.Ytpcnfefeeolbpaa
