/-
  The walk of the law on two texts: from the contracts of the calls.
-/
import Derived.Test.YtcgajgjkalhdhaaMat2
import Derived.Test.YtcgajgjkalhdhaaLaw1
import Derived.Deep.RegionWith
import Derived.Laws.OwnMore
namespace Go.Proofs.Ytcgajgjkalhdhaa
open Go.RowKit CrcM

set_option maxHeartbeats 400000 in
theorem joins_out (a b : Option Addr) (la ca lb cb : Nat) (n : Int) (w : World) (hla : la ≤ 9223372036854775807) (hlb : lb ≤ 9223372036854775807) (h : 2000 < la ∨ 2000 < lb ∨ n < -5 ∨ 3000 < n) :
    Calls Try.prog 4 #[.slice a la ca, .slice b lb cb, .int .i64 n] w (TellsTrue w) := by
  by_cases h1 : 2000 < la
  · have h1' : (2000 : Int) < (la : Int) := by omega
    clear h h1
    go_enter Try.func4, Try.ntmps4
    go_wp2_with (go_at_call 6; refine (known_any _).mono ?_; rintro e w1 ⟨rfl, hbel⟩; have HW := Lib.hid hbel; clear hbel)
    go_ret
    exact ⟨rfl, HW.out⟩
  · have h1' : ¬ (2000 : Int) < (la : Int) := by omega
    by_cases h2 : 2000 < lb
    · have h2' : (2000 : Int) < (lb : Int) := by omega
      clear h h1 h2
      go_enter Try.func4, Try.ntmps4
      go_wp2_with (go_at_call 6; refine (known_any _).mono ?_; rintro e w1 ⟨rfl, hbel⟩; have HW := Lib.hid hbel; clear hbel)
      go_ret
      exact ⟨rfl, HW.out⟩
    · have h2' : ¬ (2000 : Int) < (lb : Int) := by omega
      by_cases h3 : n < -5
      · clear h h1 h2
        go_enter Try.func4, Try.ntmps4
        go_wp2_with (go_at_call 6; refine (known_any _).mono ?_; rintro e w1 ⟨rfl, hbel⟩; have HW := Lib.hid hbel; clear hbel)
        go_ret
        exact ⟨rfl, HW.out⟩
      · have h4 : 3000 < n := by omega
        clear h h1 h2
        go_enter Try.func4, Try.ntmps4
        go_wp2_with (go_at_call 6; refine (known_any _).mono ?_; rintro e w1 ⟨rfl, hbel⟩; have HW := Lib.hid hbel; clear hbel)
        go_ret
        exact ⟨rfl, HW.out⟩

theorem Bts.alloc {w : World} {a : Option Addr} {len : Nat} {l : List Nat} (h : Bts w a len l) (o : Obj) : Bts (w.alloc o) a len l :=
  h.below ((Below.refl _ _).alloc (Nat.le_refl _) _)

theorem below_of_drew {B : Nat} {a b : World} (h : Below B a.drew b) : Below B a b := ⟨h.os, h.tape, h.output, h.size, h.block⟩

theorem made_bts (w : World) (k : Nat) (t : TypeId) (hk : k ≤ 3000) : Bts (w.alloc (.cells (madeCells #[.int .u8 0] k) t)) (some ⟨w.heap.size, 0, none⟩) k (List.replicate k 0) := by
  refine ⟨by simp, by intro b hb; rw [List.mem_replicate] at hb; omega, by omega, .inr ⟨w.heap.size, 0, rfl, by simp, fun i hi => ?_⟩⟩
  rw [cell_of_row _ _ _ _ _ _ (heap_alloc_new _ _), Nat.zero_add]
  simp [madeCells, hi, List.getD, Nat.mod_one]

theorem joins_eq (l : List Nat) (m : List Nat) (k : Nat) (h : m.length = k) : it (8 * k) (more 0 l) ^^^ more 0 m = more (more 0 l) m := by
  rw [← h]; exact join _ _
theorem noughts_eq (c k : Nat) : nt (it (8 * k) (nt c)) = more c (List.replicate k 0) := by
  unfold more; rw [reg_noughts]

set_option maxRecDepth 100000 in
set_option maxHeartbeats 2000000 in
theorem joins_in (a b : Option Addr) (la ca lb cb : Nat) (l m : List Nat) (n : Int) (k : Nat) (w : World) (ha : Bts w a la l) (hb : Bts w b lb m) (hla : la ≤ 2000) (hlb : lb ≤ 2000) (hn : n = (k : Int)) (hk3 : k ≤ 3000) :
    Calls Try.prog 4 #[.slice a la ca, .slice b lb cb, .int .i64 n] w (TellsTrue w) := by
  subst hn
  have h1 : ¬ (2000 : Int) < (la : Int) := by omega
  have h2 : ¬ (2000 : Int) < (lb : Int) := by omega
  have h3 : ¬ (k : Int) < -5 := by omega
  have h4 : ¬ 3000 < (k : Int) := by omega
  have h5 : (0 : Int) ≤ (k : Int) := by omega
  have HA := Lib.hid ha
  have HB := Lib.hid hb
  have HM := Lib.hid ha.1
  have HM2 := Lib.hid hb.1
  obtain ⟨i0, hi, hz0, hz1, hz2⟩ := info_parts info5
  have hmk : ∀ w : World, (Instr.makeSlice 22 (.int .i64 (k : Int)) (.int .i64 (k : Int))).run Try.prog w = .ok (.slice (some ⟨w.heap.size, 0, none⟩) k k) (w.alloc (.cells (madeCells #[.int .u8 0] k) 5)) := by
    intro w
    have := run_make (P := Try.prog) w 22 5 i0 (.int .u8 0) Try.underlying22 hi hz0 .i64 .i64 (k : Int) (k : Int) (by omega) (Int.le_refl _) (by rw [hz2]; omega) (by omega)
    rw [hz1] at this
    simpa [Value.cells] using this
  clear ha hb hi hz0 hz1 hz2
  go_enter Try.func4, Try.ntmps4
  go_wp2_with (first
    | (go_at_call_of 7 (Value.slice a la ca); refine (sum_any _ _ _ l _ ?_).mono ?_; exact HA.out; rintro e w1 ⟨r1, rfl, hu1, hbel1⟩; have HU1 := Lib.hid hu1; have HB1 := Lib.hid hbel1; have HA1 := Lib.hid (HA.out.below hbel1); have HM1 := Lib.hid (HB.out.below hbel1); clear hu1 hbel1)
    | (go_at_call_of 7 (Value.slice b lb cb); refine (sum_any _ _ _ m _ ?_).mono ?_; exact HM1.out; rintro e w2 ⟨r2, rfl, hu2, hbel2⟩; have HU2 := Lib.hid hu2; have HB2 := Lib.hid hbel2; have HAx := Lib.hid (HA1.out.below hbel2); have HMx := Lib.hid (HM1.out.below hbel2); clear hu2 hbel2)
    | (go_at_call 11; refine (join_any _ _ _ _ _ lb _ HU1.out HU2.out (by simp) (by omega) (by omega)).mono ?_; rintro e w3 ⟨r3, rfl, hu3, hbel3⟩; have HU3 := Lib.hid (hu3.eq (joins_eq l m lb HM2.out)); have HB3 := Lib.hid hbel3; have HA3 := Lib.hid (HAx.out.below hbel3); have HM3 := Lib.hid (HMx.out.below hbel3); clear hu3 hbel3)
    | (go_at_call 8; refine (rsum_any _ _ _ _ _ HA3.out).mono ?_; rintro e w3' ⟨r4, rfl, hu4, rfl⟩; have HU4 := Lib.hid hu4; clear hu4)
    | (go_at_call 10; refine (rmore_any _ _ _ _ _ _ _ HU4.out HM3.out).mono ?_; rintro e w3' ⟨r5, rfl, hu5, rfl⟩; have he : (r3 != r5) = false := (by rw [HU3.out.same hu5]; simp); clear hu5))
  clear he
  go_region_with (first
    | (go_at_call 8; refine (rsum_any _ _ _ l _ ?_).mono ?_; (first | exact HA3.out | exact HA3.out.alloc _ | exact HA4.out | exact HA4.out.alloc _); rintro e w3' ⟨r6, rfl, hu6, rfl⟩; have HU6 := Lib.hid hu6; clear hu6)
    | (go_at_call 12; refine (noughts_any _ _ _ k _ HU6.out (by simp) (by omega) (by omega)).mono ?_; rintro e w4 ⟨r7, rfl, hu7, hbel4⟩; have HU7 := Lib.hid (hu7.eq (noughts_eq _ k)); have HB4 := Lib.hid hbel4; have HA4 : Hid (Bts w4 a la l) := (by exact Bts.below (by first | exact HA3.out | exact HA3.out.alloc _) hbel4); clear hu7 hbel4)
    | (go_at_call 10; refine (rmore_any _ _ _ _ _ (List.replicate k 0) _ HU6.out ?_).mono ?_; (first | exact made_bts _ k 5 hk3 | exact (made_bts w3 k 5 hk3).below (below_of_drew HB4.out) | exact (made_bts w3 k 5 hk3).below HB4.out); rintro e w5 ⟨r8, rfl, hu8, rfl⟩; have he2 : (r7 == r8) = true := (by rw [HU7.out.same hu8]; simp); clear hu8)
    | (go_at_call 6; refine (known_any _).mono ?_; rintro e w6 ⟨rfl, hbel6⟩; have HB6 := Lib.hid hbel6; clear hbel6))
  all_goals
    go_wp2
    go_ret
    refine ⟨rfl, ?_⟩
    have k1 := HB1.out
    have k2 := HB2.out
    have k3 := HB3.out
    have k4 : Below w3.heap.size w3 w4 := by
      first
      | exact below_of_drew HB4.out
      | exact ((Below.refl _ _).alloc (Nat.le_refl _) _).trans ((below_of_drew HB4.out).mono (by simp))
    have k6 : Below w4.heap.size w4 w6 := by
      first
      | exact HB6.out
      | exact ((Below.refl _ _).alloc (Nat.le_refl _) _).trans (HB6.out.mono (by simp))
    have s1 := k1.size
    have s2 := k2.size
    have s3 := k3.size
    have s4 := k4.size
    exact k1.trans ((k2.mono s1).trans ((k3.mono (by omega)).trans ((k4.mono (by omega)).trans (k6.mono (by omega)))))
end Go.Proofs.Ytcgajgjkalhdhaa
