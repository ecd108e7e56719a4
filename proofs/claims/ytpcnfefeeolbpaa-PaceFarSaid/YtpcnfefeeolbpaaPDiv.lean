/-
  The mathematics under a division of 128 bits by a number of at most 21 bits: no step of the two half divisions has anything to mend. No program is named.
-/
import Derived.Lib.BitFns
namespace Go.Proofs.Ytpcnfefeeolbpaa.Dv

theorem bitLen_ne {x : Nat} (h : 1 ≤ x) (hx : x < 2 ^ 64) : 1 ≤ Go.Lib.bitLen x := by
  rw [Go.Lib.bitLen_half x (by omega) hx]; omega

theorem bitLen_lt : ∀ (k x : Nat), k ≤ 64 → x < 2 ^ k → Go.Lib.bitLen x ≤ k
  | 0, x, _, h => by
    have : x = 0 := by simpa using h
    subst this; decide
  | k + 1, x, hk, h => by
    by_cases h0 : x = 0
    · subst h0; exact Nat.le_trans (by decide : Go.Lib.bitLen 0 ≤ 0) (Nat.zero_le _)
    · have hx : x < 2 ^ 64 := Nat.lt_of_lt_of_le h (Nat.pow_le_pow_right (by omega) hk)
      rw [Go.Lib.bitLen_half x h0 hx]
      have := bitLen_lt k (x / 2) (by omega) (by rw [Nat.pow_succ] at h; omega)
      omega

theorem lt_bitLen : ∀ (k x : Nat), k ≤ 64 → x < 2 ^ k → x < 2 ^ Go.Lib.bitLen x
  | 0, x, _, h => by
    have : x = 0 := by simpa using h
    subst this; decide
  | k + 1, x, hk, h => by
    by_cases h0 : x = 0
    · subst h0; exact Nat.pow_pos (by omega)
    · have hx : x < 2 ^ 64 := Nat.lt_of_lt_of_le h (Nat.pow_le_pow_right (by omega) hk)
      rw [Go.Lib.bitLen_half x h0 hx, Nat.add_comm, Nat.pow_succ]
      have := lt_bitLen k (x / 2) (by omega) (by rw [Nat.pow_succ] at h; omega)
      omega

/-- what is known of the numbers on the way -/
structure Way (hi lo y s : Nat) where
  Y : Nat
  n1 : Nat
  u : Nat
  l : Nat
  u1 : Nat
  u0 : Nat
  q1 : Nat
  r1 : Nat
  v : Nat
  q0 : Nat
  hY : Y = y * 2 ^ s
  hYlt : Y < 18446744073709551616
  hn1 : Y / 4294967296 = n1
  hn1' : n1 * 4294967296 = Y
  hn0 : Y % 4294967296 = 0
  n1pos : 1 ≤ n1
  n1lt : n1 < 4294967296
  hA : hi * 2 ^ s < 18446744073709551616
  hB : (hi * 2 ^ s) ||| (lo / 2 ^ (64 - s)) = u
  hu : u < Y
  hl : lo * 2 ^ s % 18446744073709551616 = l
  llt : l < 18446744073709551616
  hu1 : l / 4294967296 = u1
  hu0 : l % 4294967296 = u0
  u1lt : u1 < 4294967296
  u0lt : u0 < 4294967296
  hq1 : u / n1 = q1
  q1lt : q1 < 4294967296
  hr1 : u = q1 * n1 + r1
  r1lt : r1 < n1
  hv : v = r1 * 4294967296 + u1
  vlt : v < 18446744073709551616
  hq1Y : q1 * Y = q1 * n1 * 4294967296
  hq0 : v / n1 = q0
  q0lt : q0 < 4294967296
  hq0n : q0 * n1 ≤ v
  quo : q1 * 4294967296 + q0 = (hi * 18446744073709551616 + lo) / y

theorem way (hi lo y s : Nat) (hs : 32 ≤ s) (hs2 : s ≤ 64) (hy : 1 ≤ y) (hY : y * 2 ^ s < 18446744073709551616) (hhi : hi < y) (hlo : lo < 18446744073709551616) : Nonempty (Way hi lo y s) := by
  obtain ⟨P, hP⟩ : ∃ P, P = 2 ^ s := ⟨_, rfl⟩
  obtain ⟨Q, hQ⟩ : ∃ Q, Q = 2 ^ (64 - s) := ⟨_, rfl⟩
  obtain ⟨P', hP'⟩ : ∃ P', P' = 2 ^ (s - 32) := ⟨_, rfl⟩
  have hPQ : P * Q = 18446744073709551616 := by rw [hP, hQ, ← Nat.pow_add, show s + (64 - s) = 64 by omega]
  have hPP : P = P' * 4294967296 := by rw [hP, hP', show (4294967296 : Nat) = 2 ^ 32 from rfl, ← Nat.pow_add, show s - 32 + 32 = s by omega]
  have hQ0 : 0 < Q := by rw [hQ]; exact Nat.pow_pos (by omega)
  have hP0 : 0 < P := by rw [hP]; exact Nat.pow_pos (by omega)
  have hP'0 : 0 < P' := by rw [hP']; exact Nat.pow_pos (by omega)
  have hlq : lo / Q < P := by rw [Nat.div_lt_iff_lt_mul hQ0, hPQ]; exact hlo
  have hy1 : hi * P + P ≤ y * P := by rw [← Nat.succ_mul]; exact Nat.mul_le_mul_right _ hhi
  rw [← hP] at hY
  have hor : (hi * P) ||| (lo / Q) = hi * P + lo / Q := by
    rw [hP] at hlq ⊢
    rw [Nat.mul_comm hi]
    exact (Nat.two_pow_add_eq_or_of_lt hlq hi).symm
  have hYn : y * P = y * P' * 4294967296 := by rw [hPP, Nat.mul_assoc]
  have n1pos : 1 ≤ y * P' := Nat.mul_pos hy hP'0
  obtain ⟨n1, hn1⟩ : ∃ n1, n1 = y * P' := ⟨_, rfl⟩
  rw [← hn1] at hYn n1pos
  obtain ⟨Y, hYe⟩ : ∃ Y, Y = y * P := ⟨_, rfl⟩
  rw [← hYe] at hYn hY hy1
  obtain ⟨U, hU⟩ : ∃ U, U = hi * P + lo / Q := ⟨_, rfl⟩
  have hUY : U < Y := by omega
  obtain ⟨l, hl⟩ : ∃ l, l = lo % Q * P := ⟨_, rfl⟩
  have hlow : lo * P = lo / Q * 18446744073709551616 + l := by
    rw [hl, ← hPQ, Nat.mul_comm P Q, ← Nat.mul_assoc, ← Nat.add_mul, Nat.div_add_mod']
  have hllt : l < 18446744073709551616 := by
    rw [hl, ← hPQ, Nat.mul_comm P Q]; exact Nat.mul_lt_mul_of_pos_right (Nat.mod_lt _ hQ0) hP0
  have hr := Nat.mod_lt U (show n1 > 0 from n1pos)
  have hq := Nat.div_add_mod' U n1
  have hq1 : U / n1 < 4294967296 := by rw [Nat.div_lt_iff_lt_mul n1pos, Nat.mul_comm]; omega
  obtain ⟨r1, hr1⟩ : ∃ r1, r1 = U % n1 := ⟨_, rfl⟩
  obtain ⟨q1, hq1e⟩ : ∃ q1, q1 = U / n1 := ⟨_, rfl⟩
  rw [← hr1] at hr hq
  rw [← hq1e] at hq1 hq
  obtain ⟨v, hv⟩ : ∃ v, v = r1 * 4294967296 + l / 4294967296 := ⟨_, rfl⟩
  have hvY : v < Y := by omega
  have hr' := Nat.mod_lt v (show n1 > 0 from n1pos)
  have hq' := Nat.div_add_mod' v n1
  have hq0 : v / n1 < 4294967296 := by rw [Nat.div_lt_iff_lt_mul n1pos, Nat.mul_comm]; omega
  obtain ⟨q0, hq0e⟩ : ∃ q0, q0 = v / n1 := ⟨_, rfl⟩
  rw [← hq0e] at hq0 hq'
  have hq1Y : q1 * Y = q1 * n1 * 4294967296 := by rw [hYn, Nat.mul_assoc]
  have hq0Y : q0 * Y = q0 * n1 * 4294967296 := by rw [hYn, Nat.mul_assoc]
  have quo : q1 * 4294967296 + q0 = (hi * 18446744073709551616 + lo) / y := by
    have e1 : (hi * 18446744073709551616 + lo) * P = U * 18446744073709551616 + l := by
      rw [Nat.add_mul, hlow, hU, Nat.add_mul, Nat.mul_right_comm]; omega
    have e2 : (hi * 18446744073709551616 + lo) * P = (q1 * 4294967296 + q0) * Y + (v % n1 * 4294967296 + l % 4294967296) := by
      rw [e1, Nat.add_mul, Nat.mul_right_comm, hq1Y, hq0Y]
      generalize q1 * n1 = a at *
      generalize q0 * n1 = b at *
      omega
    rw [← Nat.mul_div_mul_right _ _ hP0, ← hYe, e2, Nat.mul_comm _ Y, Nat.mul_add_div (by omega), Nat.div_eq_of_lt (by omega), Nat.add_zero]
  exact ⟨⟨Y, n1, U, l, l / 4294967296, l % 4294967296, q1, r1, v, q0, by rw [hYe, hP], hY, by omega, hYn.symm, by omega, n1pos, by omega, by rw [← hP]; omega, by rw [← hP, ← hQ, hor, hU], hUY, by rw [← hP, hlow]; omega, hllt, rfl, rfl, by omega, by omega,
    hq1e.symm, hq1, hq.symm, hr, hv, by omega, hq1Y, hq0e.symm, hq0, by omega, quo⟩⟩

/-- how far a number is moved up -/
theorem shift_ok {y : Nat} (h1 : 1 ≤ y) (h2 : y ≤ 1048576) : 32 ≤ 64 - Go.Lib.bitLen y ∧ 64 - Go.Lib.bitLen y ≤ 64 ∧ y * 2 ^ (64 - Go.Lib.bitLen y) < 18446744073709551616 := by
  have a := bitLen_lt 21 y (by omega) (by omega)
  have b := lt_bitLen 21 y (by omega) (by omega)
  refine ⟨by omega, by omega, ?_⟩
  have : y * 2 ^ (64 - Go.Lib.bitLen y) < 2 ^ Go.Lib.bitLen y * 2 ^ (64 - Go.Lib.bitLen y) := Nat.mul_lt_mul_of_pos_right b (Nat.pow_pos (by omega))
  rw [← Nat.pow_add, show Go.Lib.bitLen y + (64 - Go.Lib.bitLen y) = 64 by omega] at this
  exact this
end Go.Proofs.Ytpcnfefeeolbpaa.Dv
