/-
  The walk of the law on noughts of any number: from the contracts of the calls.
-/
import Derived.Test.YtcgajgjkalhdhaaMat2
import Derived.Deep.RegionWith
namespace Go.Proofs.Ytcgajgjkalhdhaa
open Go.RowKit CrcM

set_option maxHeartbeats 400000 in
theorem far_out (c n m : Int) (w : World) (h : n < 0 ∨ m < 0 ∨ 2305843009213693952 < n ∨ 2305843009213693952 < m) :
    Calls Try.prog 5 #[.int .u32 c, .int .i64 n, .int .i64 m] w (TellsTrue w) := by
  by_cases h1 : n < 0
  · clear h
    go_enter Try.func5, Try.ntmps5
    go_wp2_with (go_at_call 6; refine (known_any _).mono ?_; rintro e w1 ⟨rfl, hbel⟩; have HW := Lib.hid hbel; clear hbel)
    go_ret
    exact ⟨rfl, HW.out⟩
  · by_cases h2 : m < 0
    · clear h
      go_enter Try.func5, Try.ntmps5
      go_wp2_with (go_at_call 6; refine (known_any _).mono ?_; rintro e w1 ⟨rfl, hbel⟩; have HW := Lib.hid hbel; clear hbel)
      go_ret
      exact ⟨rfl, HW.out⟩
    · by_cases h3 : 2305843009213693952 < n
      · clear h
        go_enter Try.func5, Try.ntmps5
        go_wp2_with (go_at_call 6; refine (known_any _).mono ?_; rintro e w1 ⟨rfl, hbel⟩; have HW := Lib.hid hbel; clear hbel)
        go_ret
        exact ⟨rfl, HW.out⟩
      · have h4 : 2305843009213693952 < m := by omega
        clear h
        go_enter Try.func5, Try.ntmps5
        go_wp2_with (go_at_call 6; refine (known_any _).mono ?_; rintro e w1 ⟨rfl, hbel⟩; have HW := Lib.hid hbel; clear hbel)
        go_ret
        exact ⟨rfl, HW.out⟩

theorem far_sum (m a b : Nat) : nt (it (8 * b) (nt (nt (it (8 * a) (nt m))))) = nt (it (8 * (a + b)) (nt m)) := by
  rw [nt_nt, ← it_add, Nat.mul_add]
theorem far_one (m : Nat) : nt (it (8 * 1) (nt m)) = byte m 0 := by
  unfold byte
  rw [Nat.xor_zero, s8_eq]

set_option maxHeartbeats 400000 in
theorem far_in (c n m : Int) (k : Nat) (w : World) (hc : U c k) (hn0 : 0 ≤ n) (hm0 : 0 ≤ m) (hn1 : n ≤ 2305843009213693952) (hm1 : m ≤ 2305843009213693952) :
    Calls Try.prog 5 #[.int .u32 c, .int .i64 n, .int .i64 m] w (TellsTrue w) := by
  have HC := Lib.hid hc
  have h0 := hc.lo
  have h1 := hc.hi
  clear hc
  go_enter Try.func5, Try.ntmps5
  go_wp2_with (first
    | (go_at_call_of 12 (Value.int IntKind.i64 n); refine (noughts_any _ _ _ n.toNat _ HC.out rfl (by omega) (by omega)).mono ?_; rintro e w1 ⟨r1, rfl, hu1, hbel1⟩; have HU1 := Lib.hid hu1; have HB1 := Lib.hid hbel1; have q1 := hu1.lo; have q2 := hu1.hi; clear hu1 hbel1)
    | (go_at_call_of 12 (Value.int IntKind.u32 r1); refine (noughts_any _ _ _ m.toNat _ HU1.out rfl (by omega) (by omega)).mono ?_; rintro e w2 ⟨r2, rfl, hu2, hbel2⟩; have HU2 := Lib.hid (hu2.eq (far_sum k n.toNat m.toNat)); have HB2 := Lib.hid hbel2; have q3 := hu2.lo; have q4 := hu2.hi; clear hu2 hbel2)
    | (go_at_call_of 12 (Value.int IntKind.i64 (n + m)); refine (noughts_any _ _ _ (n.toNat + m.toNat) _ HC.out (by omega) (by omega) (by omega)).mono ?_; rintro e w3 ⟨r3, rfl, hu3, hbel3⟩; have he : (r2 == r3) = true := (by rw [HU2.out.same hu3]; simp); have HB3 := Lib.hid hbel3; clear hu3 hbel3)
    | (go_at_call_of 12 (Value.int IntKind.i64 1); refine (noughts_any _ _ _ 1 _ HC.out rfl (by omega) (by omega)).mono ?_; rintro e w4 ⟨r4, rfl, hu4, hbel4⟩; have HU4 := Lib.hid (hu4.eq (far_one k)); have HB4 := Lib.hid hbel4; have q5 := hu4.lo; have q6 := hu4.hi; clear hu4 hbel4)
    | (go_at_call 13; refine (byte_any _ _ _ 0 _ HC.out rfl (by omega)).mono ?_; rintro e w4' ⟨r5, rfl, hu5, rfl⟩; have he2 : (r4 == r5) = true := (by rw [HU4.out.same hu5]; simp); clear hu5)
    | (go_at_call 6; refine (known_any _).mono ?_; rintro e w6 ⟨rfl, hbel6⟩; have HB6 := Lib.hid hbel6; clear hbel6))
  go_ret
  refine ⟨rfl, ?_⟩
  have k1 := HB1.out
  have k2 := HB2.out
  have k3 := HB3.out
  have k4 := HB4.out
  have k6 := HB6.out
  have s1 := k1.size
  have s2 := k2.size
  have s3 := k3.size
  have s4 := k4.size
  exact k1.trans ((k2.mono s1).trans ((k3.mono (by omega)).trans ((k4.mono (by omega)).trans (k6.mono (by omega)))))
end Go.Proofs.Ytcgajgjkalhdhaa
