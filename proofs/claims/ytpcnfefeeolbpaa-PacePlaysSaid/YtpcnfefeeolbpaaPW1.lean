/-
  The walk of math/bits.Div64, by a number of at most 21 bits.
-/
import Derived.Test.YtpcnfefeeolbpaaShelf
import Derived.Test.YtpcnfefeeolbpaaPDiv
import Derived.Test.YtpcnfefeeolbpaaRows
import Derived.WalkKit
import Derived.LoopTactic
import Derived.Laws.Bits64b
import Derived.ProofKit
import Derived.Below
import Derived.Lib.Hide
import Derived.Deep.QuietTactic
import Derived.BigQuiet
import Derived.Deep.CutRange
import Derived.Deep.RegionHeld3
namespace Go.Proofs.Ytpcnfefeeolbpaa
open Go Go.Shelf Go.RowKit Go.Lib Go.Proofs

theorem wrapN (n : Nat) (h : n < 18446744073709551616) : IntKind.u64.wrap (n : Int) = n := by rw [IntKind.wrap_u64]; omega

set_option maxHeartbeats 4000000 in
set_option maxRecDepth 100000 in
theorem div_zero (lo y : Nat) (h1 : 1 ≤ y) (h2 : y ≤ 1048576) (hl : lo < 18446744073709551616) (w : World) :
    Calls Try.prog 23 #[.int .u64 0, .int .u64 lo, .int .u64 y] w (fun e w' => (∃ r : Int, e = .returned (.tuple #[.int .u64 ((lo / y : Nat) : Int), .int .u64 r])) ∧ ∃ n, w' = w.drewN n) := by
  have hq : IntKind.u64.wrap ((lo : Int) / (y : Int)) = ((lo / y : Nat) : Int) := wrapN (lo / y) (Nat.lt_of_le_of_lt (Nat.div_le_self _ _) hl)
  obtain ⟨q, hqe⟩ : ∃ q, q = lo / y := ⟨_, rfl⟩
  rw [← hqe] at hq ⊢
  clear hqe
  go_enter Try.func23, Try.ntmps23
  go_wp2
  go_quiet (fail)
  go_wp2
  go_ret2
  exact ⟨⟨_, rfl⟩, _, rfl⟩

theorem wrapM (a : Nat) : IntKind.u64.wrap (a : Int) = ((a % 18446744073709551616 : Nat) : Int) := by rw [IntKind.wrap_u64]; omega
theorem maskN (a : Nat) (ha : a < 18446744073709551616) : bits .and .u64 (a : Int) 4294967295 = ((a % 4294967296 : Nat) : Int) := by
  have h := bits_and_u64_nat a 4294967295 ha (by omega)
  have e : a &&& 4294967295 = a % 4294967296 := Nat.and_two_pow_sub_one_eq_mod a 32
  rw [e] at h
  exact h
theorem mulN (a b : Nat) (h : a * b < 18446744073709551616) : IntKind.u64.wrap ((a : Int) * (b : Int)) = ((a * b : Nat) : Int) := by rw [← Int.natCast_mul]; exact wrapN _ h
theorem mulM (a b : Nat) : IntKind.u64.wrap ((a : Int) * (b : Int)) = ((a * b % 18446744073709551616 : Nat) : Int) := by rw [← Int.natCast_mul]; exact wrapM _
theorem shlN (a s : Nat) (h : a * 2 ^ s < 18446744073709551616) : IntKind.u64.wrap ((a : Int) * 2 ^ s) = ((a * 2 ^ s : Nat) : Int) := by
  have e : (a : Int) * 2 ^ s = ((a * 2 ^ s : Nat) : Int) := by simp
  rw [e]; exact wrapN _ h
theorem shlM (a s : Nat) : IntKind.u64.wrap ((a : Int) * 2 ^ s) = ((a * 2 ^ s % 18446744073709551616 : Nat) : Int) := by
  have e : (a : Int) * 2 ^ s = ((a * 2 ^ s : Nat) : Int) := by simp
  rw [e]; exact wrapM _
theorem divN (a b : Nat) (h : a < 18446744073709551616) : IntKind.u64.wrap ((a : Int) / (b : Int)) = ((a / b : Nat) : Int) := wrapN (a / b) (Nat.lt_of_le_of_lt (Nat.div_le_self _ _) h)

set_option maxHeartbeats 4000000 in
set_option maxRecDepth 100000 in
theorem div_way (hi lo y : Nat) (h0 : 1 ≤ hi) (h1 : hi < y) (h2 : y ≤ 1048576) (hl : lo < 18446744073709551616) (w : World) (W : Dv.Way hi lo y (64 - Lib.bitLen y)) :
    Calls Try.prog 23 #[.int .u64 hi, .int .u64 lo, .int .u64 y] w (fun e w' => (∃ r : Int, e = .returned (.tuple #[.int .u64 (((hi * 18446744073709551616 + lo) / y : Nat) : Int), .int .u64 r])) ∧ w = w') := by
  obtain ⟨hs1, hs2, _⟩ := Dv.shift_ok (y := y) (by omega) h2
  obtain ⟨s, hs⟩ : ∃ s, s = 64 - Lib.bitLen y := ⟨_, rfl⟩
  rw [← hs] at W hs1 hs2
  obtain ⟨Y, n1, u, l, u1, u0, q1, r1, v, q0, hY, hYlt, hn1, hn1', hn0, n1pos, n1lt, hA, hB, hu, hl', llt, hu1, hu0, u1lt, u0lt, hq1, q1lt, hr1, r1lt, hv, vlt, hq1Y, hq0, q0lt, hq0n, quo⟩ := W
  rw [← quo]
  obtain ⟨t, ht⟩ : ∃ t, t = 64 - s := ⟨_, rfl⟩
  rw [← ht] at hB
  obtain ⟨H, hH⟩ : ∃ H, H = hi * 2 ^ s := ⟨_, rfl⟩
  obtain ⟨L, hL⟩ : ∃ L, L = lo / 2 ^ t := ⟨_, rfl⟩
  rw [← hH, ← hL] at hB
  have Llt : L < 18446744073709551616 := by rw [hL]; exact Nat.lt_of_le_of_lt (Nat.div_le_self _ _) hl
  have e1 : IntKind.u64.wrap (64 - (Lib.bitLen y : Int)) = (s : Int) := by rw [show (64 - (Lib.bitLen y : Int)) = ((s : Nat) : Int) by omega]; exact wrapN _ (by omega)
  have e2 : min s 64 = s := by omega
  have e3 : IntKind.u64.wrap ((y : Int) * 2 ^ s) = (Y : Int) := by rw [shlN _ _ (by rw [← hY]; exact hYlt), hY]
  have e4 : (Y : Int) / 4294967296 = (n1 : Int) := by omega
  have e5 : bits .and .u64 (Y : Int) 4294967295 = 0 := by rw [maskN _ hYlt, hn0]; rfl
  have e6 : IntKind.u64.wrap ((hi : Int) * 2 ^ s) = (H : Int) := by rw [shlN _ _ hA, hH]
  have e7 : IntKind.u64.wrap (64 - (s : Int)) = (t : Int) := by rw [show (64 - (s : Int)) = ((t : Nat) : Int) by omega]; exact wrapN _ (by omega)
  have e8 : min t 64 = t := by omega
  have e9 : (lo : Int) / 2 ^ t = (L : Int) := by rw [hL]; simp
  have e10 : bits .or .u64 (H : Int) (L : Int) = (u : Int) := by rw [bits_or_u64_nat _ _ (by omega) Llt, hB]
  have e11 : IntKind.u64.wrap ((lo : Int) * 2 ^ s) = (l : Int) := by rw [shlM, hl']
  have e12 : (l : Int) / 4294967296 = (u1 : Int) := by omega
  have e13 : bits .and .u64 (l : Int) 4294967295 = (u0 : Int) := by rw [maskN _ llt, hu0]
  have e14 : IntKind.u64.wrap ((u : Int) / (n1 : Int)) = (q1 : Int) := by rw [divN _ _ (by omega), hq1]
  have e14' : IntKind.u64.wrap ((u : Int).tdiv (n1 : Int)) = (q1 : Int) := by rw [show (u : Int).tdiv (n1 : Int) = ((u / n1 : Nat) : Int) from rfl, ← hq1]; exact wrapN _ (by omega)
  obtain ⟨m1, hm1⟩ : ∃ m1, m1 = q1 * n1 := ⟨_, rfl⟩
  rw [← hm1] at hr1 hq1Y
  have e15 : IntKind.u64.wrap ((q1 : Int) * (n1 : Int)) = (m1 : Int) := by rw [mulN _ _ (by rw [← hm1]; omega), hm1]
  have e16 : IntKind.u64.wrap ((u : Int) - (m1 : Int)) = (r1 : Int) := by rw [show ((u : Int) - (m1 : Int)) = ((r1 : Nat) : Int) by omega]; exact wrapN _ (by omega)
  obtain ⟨R, hR⟩ : ∃ R, R = 4294967296 * r1 := ⟨_, rfl⟩
  have e17 : IntKind.u64.wrap (4294967296 * (r1 : Int)) = (R : Int) := by rw [show (4294967296 * (r1 : Int)) = ((R : Nat) : Int) by omega]; exact wrapN _ (by omega)
  have e18 : IntKind.u64.wrap ((R : Int) + (u1 : Int)) = (v : Int) := by rw [show ((R : Int) + (u1 : Int)) = ((v : Nat) : Int) by omega]; exact wrapN _ (by omega)
  have d1 : decide ((4294967296 : Int) ≤ (q1 : Int)) = false := decide_eq_false (by omega)
  obtain ⟨a1, ha1⟩ : ∃ a1, a1 = u * 4294967296 % 18446744073709551616 := ⟨_, rfl⟩
  have e19 : IntKind.u64.wrap ((u : Int) * 4294967296) = (a1 : Int) := by rw [ha1]; exact mulM u 4294967296
  obtain ⟨a2, ha2⟩ : ∃ a2, a2 = (a1 + u1) % 18446744073709551616 := ⟨_, rfl⟩
  have e20 : IntKind.u64.wrap ((a1 : Int) + (u1 : Int)) = (a2 : Int) := by rw [ha2, ← Int.natCast_add]; exact wrapM _
  obtain ⟨a3, ha3⟩ : ∃ a3, a3 = q1 * Y % 18446744073709551616 := ⟨_, rfl⟩
  have e21 : IntKind.u64.wrap ((q1 : Int) * (Y : Int)) = (a3 : Int) := by rw [ha3]; exact mulM _ _
  rw [hq1Y] at ha3
  have e22 : IntKind.u64.wrap ((a2 : Int) - (a3 : Int)) = (v : Int) := by rw [IntKind.wrap_u64]; omega
  have e23 : IntKind.u64.wrap ((v : Int) / (n1 : Int)) = (q0 : Int) := by rw [divN _ _ vlt, hq0]
  have e23' : IntKind.u64.wrap ((v : Int).tdiv (n1 : Int)) = (q0 : Int) := by rw [show (v : Int).tdiv (n1 : Int) = ((v / n1 : Nat) : Int) from rfl, ← hq0]; exact wrapN _ (by omega)
  obtain ⟨m0, hm0⟩ : ∃ m0, m0 = q0 * n1 := ⟨_, rfl⟩
  rw [← hm0] at hq0n
  have e24 : IntKind.u64.wrap ((q0 : Int) * (n1 : Int)) = (m0 : Int) := by rw [mulN _ _ (by rw [← hm0]; omega), hm0]
  obtain ⟨c0, hc0⟩ : ∃ c0, c0 = v - m0 := ⟨_, rfl⟩
  have e25 : IntKind.u64.wrap ((v : Int) - (m0 : Int)) = (c0 : Int) := by rw [show ((v : Int) - (m0 : Int)) = ((c0 : Nat) : Int) by omega]; exact wrapN _ (by omega)
  obtain ⟨R2, hR2⟩ : ∃ R, R = 4294967296 * c0 % 18446744073709551616 := ⟨_, rfl⟩
  have e26 : IntKind.u64.wrap (4294967296 * (c0 : Int)) = (R2 : Int) := by rw [hR2]; exact mulM 4294967296 c0
  obtain ⟨R3, hR3⟩ : ∃ R, R = (R2 + u0) % 18446744073709551616 := ⟨_, rfl⟩
  have e27 : IntKind.u64.wrap ((R2 : Int) + (u0 : Int)) = (R3 : Int) := by rw [hR3, ← Int.natCast_add]; exact wrapM _
  have d2 : decide ((4294967296 : Int) ≤ (q0 : Int)) = false := decide_eq_false (by omega)
  obtain ⟨f1, hf1⟩ : ∃ f1, f1 = q1 * 4294967296 := ⟨_, rfl⟩
  have e28 : IntKind.u64.wrap ((q1 : Int) * 4294967296) = (f1 : Int) := by rw [show ((q1 : Int) * 4294967296) = ((f1 : Nat) : Int) by omega]; exact wrapN _ (by omega)
  rw [← hf1]
  obtain ⟨f2, hf2⟩ : ∃ f2, f2 = f1 + q0 := ⟨_, rfl⟩
  rw [← hf2]
  have e29 : IntKind.u64.wrap ((f1 : Int) + (q0 : Int)) = (f2 : Int) := by rw [show ((f1 : Int) + (q0 : Int)) = ((f2 : Nat) : Int) by omega]; exact wrapN _ (by omega)
  have e30 : IntKind.u64.wrap 0 = 0 := rfl
  have hy0 : 1 ≤ y := by omega
  have g1 : decide ((v : Int) < 0) = false := decide_eq_false (by omega)
  have g2 : decide ((R3 : Int) < 0) = false := decide_eq_false (by omega)
  have g3 : ((n1 : Int) == 0) = false := by simp; omega
  have g4 : ¬ (n1 : Int) = 0 := by omega
  have p1 : (0 : Int) ≤ u := by omega
  have p2 : (0 : Int) ≤ v := by omega
  have p3 : (0 : Int) ≤ n1 := by omega
  have p4 : (0 : Int) ≤ l := by omega
  have p5 : (0 : Int) ≤ Y := by omega
  clear hs hY hn1 hn1' hn0 hA hB hl' hu1 hu0 hq1 hr1 hv hq1Y hq0 quo ht hH hL hm1 hR ha1 ha2 ha3 hm0 hc0 hR2 hR3 hf1 hf2 hYlt n1pos n1lt hu llt u1lt u0lt q1lt r1lt vlt q0lt hq0n Llt
  generalize ((Y : Nat) : Int) = Y at *
  generalize ((n1 : Nat) : Int) = n1 at *
  generalize ((u : Nat) : Int) = u at *
  generalize ((l : Nat) : Int) = l at *
  generalize ((u1 : Nat) : Int) = u1 at *
  generalize ((u0 : Nat) : Int) = u0 at *
  generalize ((q1 : Nat) : Int) = q1 at *
  generalize ((r1 : Nat) : Int) = r1 at *
  generalize ((v : Nat) : Int) = v at *
  generalize ((q0 : Nat) : Int) = q0 at *
  generalize ((H : Nat) : Int) = H at *
  generalize ((L : Nat) : Int) = L at *
  generalize ((m1 : Nat) : Int) = m1 at *
  generalize ((R : Nat) : Int) = R at *
  generalize ((a1 : Nat) : Int) = a1 at *
  generalize ((a2 : Nat) : Int) = a2 at *
  generalize ((a3 : Nat) : Int) = a3 at *
  generalize ((m0 : Nat) : Int) = m0 at *
  generalize ((c0 : Nat) : Int) = c0 at *
  generalize ((R2 : Nat) : Int) = R2 at *
  generalize ((R3 : Nat) : Int) = R3 at *
  generalize ((f1 : Nat) : Int) = f1 at *
  generalize ((f2 : Nat) : Int) = f2 at *
  go_enter Try.func23, Try.ntmps23
  go_upto_region 17 with (go_at_call 24; refine (Try.bits_LeadingZeros64 _ _ (by omega) (by omega)).mono ?_; rintro e w' ⟨rfl, rfl⟩)
  go_loop [15, 16] (fun q r => q = .int .u64 q1 ∧ r = .int .u64 r1) (fun _ _ => 0)
  case atStart => exact ⟨rfl, rfl⟩
  case round =>
    obtain ⟨rfl, rfl⟩ := hrel
    go_wp2
    go_loop [18, 16] (fun q r => q = .int .u64 q0 ∧ r = .int .u64 c0) (fun _ _ => 0)
    case atStart => exact ⟨rfl, rfl⟩
    case round =>
      obtain ⟨rfl, rfl⟩ := hrel
      go_wp2
      go_ret2
      exact ⟨⟨_, rfl⟩, rfl⟩

/-- the quotient alone is told -/
theorem div64_any (hi lo y : Nat) (h1 : hi < y) (h2 : y ≤ 1048576) (hl : lo < 18446744073709551616) (w : World) :
    Calls Try.prog 23 #[.int .u64 hi, .int .u64 lo, .int .u64 y] w (fun e w' => (∃ r : Int, e = .returned (.tuple #[.int .u64 (((hi * 18446744073709551616 + lo) / y : Nat) : Int), .int .u64 r])) ∧ Below w.heap.size w w') := by
  by_cases h0 : hi = 0
  · subst h0
    refine (div_zero lo y (by omega) h2 hl w).mono ?_
    rintro e w' ⟨⟨r, rfl⟩, n, rfl⟩
    exact ⟨⟨r, by rw [Nat.zero_mul, Nat.zero_add]⟩, ⟨rfl, rfl, rfl, Nat.le_refl _, fun _ _ => rfl⟩⟩
  · obtain ⟨h3, h4, h5⟩ := Dv.shift_ok (y := y) (by omega) h2
    obtain ⟨W⟩ := Dv.way hi lo y _ h3 h4 (by omega) h5 h1 hl
    refine (div_way hi lo y (by omega) h1 h2 hl w W).mono ?_
    rintro e w' ⟨⟨r, rfl⟩, rfl⟩
    exact ⟨⟨r, rfl⟩, Below.refl _ _⟩
end Go.Proofs.Ytpcnfefeeolbpaa
