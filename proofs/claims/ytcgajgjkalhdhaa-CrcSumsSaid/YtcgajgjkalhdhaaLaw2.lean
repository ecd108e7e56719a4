/-
  The walk of the law on sums, its edges: a cut at the end, a slice that is nil.
-/
import Derived.Test.YtcgajgjkalhdhaaLaw1
namespace Go.Proofs.Ytcgajgjkalhdhaa
open Go.RowKit CrcM

set_option maxRecDepth 100000 in
set_option maxHeartbeats 400000 in
theorem sums_end1 (x : Addr) (cap k : Nat) (l : List Nat) (c : Int) (m : Nat) (w : World) (hc : U c m) (h : Bts w (some x) k l) (hat : ∀ j u, (l.map fun (n : Nat) => Value.int .u8 (n : Int))[j]? = some u → w.cell? (x.add j) = some u) (hlen : k ≤ 3000) (hcap : k ≤ cap) (hck : ¬ cap = k) :
    Calls Try.prog 3 #[.slice (some x) k cap, .int .u32 c, .int .i64 (k : Int)] w (TellsTrue w) := by
  have h1 : ¬ (3000 : Int) < (k : Int) := by omega
  have h2 : ¬ (k : Int) < 0 := by omega
  have h3 : ¬ (k : Int) < (k : Int) := by omega
  have h4 := hc.lo
  have h5 := hc.hi
  have HC := Lib.hid hc
  have H := Lib.hid h
  obtain ⟨i0, hi, hz0, hz1, hz2⟩ := info_parts info5
  clear hc h
  go_enter Try.func3, Try.ntmps3
  have HL1 : Hid ((l.map fun (n : Nat) => Value.int .u8 (n : Int)).length = k * 1) := by have := H.out.1; show _ = _; rw [List.length_map]; omega
  have HAT := Lib.hid hat
  clear hat
  have HONE : Hid (∀ u ∈ (l.map fun (n : Nat) => Value.int .u8 (n : Int)), u.oneCell' = true) := by
    intro u hu; obtain ⟨n, _, rfl⟩ := List.mem_map.1 hu; rfl
  go_wp2_with (at_builtin; refine wpList_append_own _ rfl _ _ 22 rfl w.heap.size 5 i0 (.int .u8 0) 1 1 Try.underlying22 hi hz0 hz1 hz2 rfl (by decide) _ _ _ rfl (World.ownsRow_nil _ _ _ _) x k cap (l.map fun (n : Nat) => Value.int .u8 (n : Int)) rfl HL1.out HAT.out HONE.out (by unfold maxLen; omega) (by omega) (Nat.le_refl _) ?_; intro v' w1 hown hgrow _; rw [Nat.zero_add, List.nil_append] at hown; obtain ⟨a1, cap1, rfl, hb1⟩ := own_bts hown H.out.1 H.out.2.1 H.out.2.2.1; have hbel1 : Below w.heap.size w w1 := (Below.refl _ _).grown hgrow (Nat.le_refl _) (fun k hk => by cases hk); have HO := Lib.hid hb1; have HA := Lib.hid (H.out.below hbel1); have HB := Lib.hid hbel1; clear hown hgrow hb1 hbel1)
  clear hi hz0 hz1 hz2 HL1 HAT HONE
  go_wp2_with (first
    | (go_at_call 7; refine (sum_any _ _ _ _ _ HO.out).mono ?_; rintro e w2 ⟨r1, rfl, hu1, hbel2⟩; have HU1 := Lib.hid hu1; have HB2 := Lib.hid hbel2; have HO2 := Lib.hid (HO.out.below hbel2); have HA2 := Lib.hid (HA.out.below hbel2); clear hu1 hbel2)
    | (go_at_call 8; refine (rsum_any _ _ _ _ _ HA2.out).mono ?_; rintro e w2' ⟨r2, rfl, hu2, rfl⟩; have he : (r1 != r2) = false := (by rw [HU1.out.same hu2]; simp); clear hu2)
    | (go_at_call 9; refine (more_any _ _ _ _ _ _ _ HC.out HO2.out).mono ?_; rintro e w3 ⟨r3, rfl, hu3, hbel3⟩; have HU3 := Lib.hid hu3; have HB3 := Lib.hid hbel3; have HO3 := Lib.hid (HO2.out.below hbel3); have HA3 := Lib.hid (HA2.out.below hbel3); clear hu3 hbel3)
    | (go_at_call 10; refine (rmore_any _ _ _ _ _ _ _ HC.out HA3.out).mono ?_; rintro e w3' ⟨r4, rfl, hu4, rfl⟩; have he2 : (r3 != r4) = false := (by rw [HU3.out.same hu4]; simp); have hs1 := HO3.out.str cap1; have hs2 := HA3.out.str cap; clear hu4))
  clear he he2 hs1 hs2
  have hkc : (k : Int) ≤ (cap : Int) := by omega
  have hk0 : (0 : Int) ≤ (k : Int) := by omega
  have hkl : (k : Int) ≤ (k : Int) := by omega
  go_region_with (first
    | (go_at_call_of 9 (Value.int IntKind.u32 c); refine (more_any _ _ _ _ _ l _ HC.out ?_).mono ?_; exact HA3.out.drew; rintro e w4 ⟨r5, rfl, hu5, hbel4⟩; have HU5 := Lib.hid hu5; have HB4 := Lib.hid hbel4; have HA4 := Lib.hid (HA3.out.drew.below hbel4); clear hu5 hbel4)
    | (go_at_call_of 9 (Value.int IntKind.u32 r5); refine (more_any _ _ _ _ _ [] _ HU5.out ?_).mono ?_; exact (Bts.nought _ _); rintro e w5 ⟨r6, rfl, hu6, hbel5⟩; have HU6 := Lib.hid (hu6.eq (more_nil _)); have HB5 := Lib.hid hbel5; have HA5 := Lib.hid (HA4.out.below hbel5); clear hu6 hbel5)
    | (go_at_call 10; refine (rmore_any _ _ _ _ _ l _ HC.out HA5.out).mono ?_; rintro e w5' ⟨r7, rfl, hu7, rfl⟩; have he3 : (r6 == r7) = true := (by rw [HU6.out.same hu7]; simp); clear hu7)
    | (go_at_call 6; refine (known_any _).mono ?_; rintro e w6 ⟨rfl, hbel6⟩; have HB6 := Lib.hid hbel6; clear hbel6))
  go_wp2
  go_ret
  refine ⟨rfl, ?_⟩
  have k1 := HB.out
  have k2 := HB2.out
  have k3 := HB3.out
  have k4 := HB4.out
  have k5 := HB5.out
  have k6 := HB6.out
  have s1 := k1.size
  have s2 := k2.size
  have s3 := k3.size
  have s4 : w3.heap.size ≤ w4.heap.size := k4.size
  have s5 := k5.size
  have k4' : Below w3.heap.size w3 w4 := ⟨k4.os, k4.tape, k4.output, k4.size, k4.block⟩
  exact k1.trans ((k2.mono s1).trans ((k3.mono (by omega)).trans ((k4'.mono (by omega)).trans ((k5.mono (by omega)).trans (k6.mono (by omega))))))

set_option maxRecDepth 100000 in
set_option maxHeartbeats 400000 in
theorem sums_end2 (x : Addr) (k : Nat) (l : List Nat) (c : Int) (m : Nat) (w : World) (hc : U c m) (h : Bts w (some x) k l) (hat : ∀ j u, (l.map fun (n : Nat) => Value.int .u8 (n : Int))[j]? = some u → w.cell? (x.add j) = some u) (hlen : k ≤ 3000) :
    Calls Try.prog 3 #[.slice (some x) k k, .int .u32 c, .int .i64 (k : Int)] w (TellsTrue w) := by
  have h1 : ¬ (3000 : Int) < (k : Int) := by omega
  have h2 : ¬ (k : Int) < 0 := by omega
  have h3 : ¬ (k : Int) < (k : Int) := by omega
  have h4 := hc.lo
  have h5 := hc.hi
  have HC := Lib.hid hc
  have H := Lib.hid h
  obtain ⟨i0, hi, hz0, hz1, hz2⟩ := info_parts info5
  clear hc h
  go_enter Try.func3, Try.ntmps3
  have HL1 : Hid ((l.map fun (n : Nat) => Value.int .u8 (n : Int)).length = k * 1) := by have := H.out.1; show _ = _; rw [List.length_map]; omega
  have HAT := Lib.hid hat
  clear hat
  have HONE : Hid (∀ u ∈ (l.map fun (n : Nat) => Value.int .u8 (n : Int)), u.oneCell' = true) := by
    intro u hu; obtain ⟨n, _, rfl⟩ := List.mem_map.1 hu; rfl
  go_wp2_with (at_builtin; refine wpList_append_own _ rfl _ _ 22 rfl w.heap.size 5 i0 (.int .u8 0) 1 1 Try.underlying22 hi hz0 hz1 hz2 rfl (by decide) _ _ _ rfl (World.ownsRow_nil _ _ _ _) x k k (l.map fun (n : Nat) => Value.int .u8 (n : Int)) rfl HL1.out HAT.out HONE.out (by unfold maxLen; omega) (by omega) (Nat.le_refl _) ?_; intro v' w1 hown hgrow _; rw [Nat.zero_add, List.nil_append] at hown; obtain ⟨a1, cap1, rfl, hb1⟩ := own_bts hown H.out.1 H.out.2.1 H.out.2.2.1; have hbel1 : Below w.heap.size w w1 := (Below.refl _ _).grown hgrow (Nat.le_refl _) (fun k hk => by cases hk); have HO := Lib.hid hb1; have HA := Lib.hid (H.out.below hbel1); have HB := Lib.hid hbel1; clear hown hgrow hb1 hbel1)
  clear hi hz0 hz1 hz2 HL1 HAT HONE
  go_wp2_with (first
    | (go_at_call 7; refine (sum_any _ _ _ _ _ HO.out).mono ?_; rintro e w2 ⟨r1, rfl, hu1, hbel2⟩; have HU1 := Lib.hid hu1; have HB2 := Lib.hid hbel2; have HO2 := Lib.hid (HO.out.below hbel2); have HA2 := Lib.hid (HA.out.below hbel2); clear hu1 hbel2)
    | (go_at_call 8; refine (rsum_any _ _ _ _ _ HA2.out).mono ?_; rintro e w2' ⟨r2, rfl, hu2, rfl⟩; have he : (r1 != r2) = false := (by rw [HU1.out.same hu2]; simp); clear hu2)
    | (go_at_call 9; refine (more_any _ _ _ _ _ _ _ HC.out HO2.out).mono ?_; rintro e w3 ⟨r3, rfl, hu3, hbel3⟩; have HU3 := Lib.hid hu3; have HB3 := Lib.hid hbel3; have HO3 := Lib.hid (HO2.out.below hbel3); have HA3 := Lib.hid (HA2.out.below hbel3); clear hu3 hbel3)
    | (go_at_call 10; refine (rmore_any _ _ _ _ _ _ _ HC.out HA3.out).mono ?_; rintro e w3' ⟨r4, rfl, hu4, rfl⟩; have he2 : (r3 != r4) = false := (by rw [HU3.out.same hu4]; simp); have hs1 := HO3.out.str cap1; have hs2 := HA3.out.str k; clear hu4))
  clear he he2 hs1 hs2
  have hkc : (k : Int) ≤ (k : Int) := by omega
  have hk0 : (0 : Int) ≤ (k : Int) := by omega
  have hkl : (k : Int) ≤ (k : Int) := by omega
  go_region_with (first
    | (go_at_call_of 9 (Value.int IntKind.u32 c); refine (more_any _ _ _ _ _ l _ HC.out ?_).mono ?_; exact HA3.out.drew; rintro e w4 ⟨r5, rfl, hu5, hbel4⟩; have HU5 := Lib.hid hu5; have HB4 := Lib.hid hbel4; have HA4 := Lib.hid (HA3.out.drew.below hbel4); clear hu5 hbel4)
    | (go_at_call_of 9 (Value.int IntKind.u32 r5); refine (more_any _ _ _ _ _ [] _ HU5.out ?_).mono ?_; exact (Bts.nought _ _); rintro e w5 ⟨r6, rfl, hu6, hbel5⟩; have HU6 := Lib.hid (hu6.eq (more_nil _)); have HB5 := Lib.hid hbel5; have HA5 := Lib.hid (HA4.out.below hbel5); clear hu6 hbel5)
    | (go_at_call 10; refine (rmore_any _ _ _ _ _ l _ HC.out HA5.out).mono ?_; rintro e w5' ⟨r7, rfl, hu7, rfl⟩; have he3 : (r6 == r7) = true := (by rw [HU6.out.same hu7]; simp); clear hu7)
    | (go_at_call 6; refine (known_any _).mono ?_; rintro e w6 ⟨rfl, hbel6⟩; have HB6 := Lib.hid hbel6; clear hbel6))
  go_wp2
  go_ret
  refine ⟨rfl, ?_⟩
  have k1 := HB.out
  have k2 := HB2.out
  have k3 := HB3.out
  have k4 := HB4.out
  have k5 := HB5.out
  have k6 := HB6.out
  have s1 := k1.size
  have s2 := k2.size
  have s3 := k3.size
  have s4 : w3.heap.size ≤ w4.heap.size := k4.size
  have s5 := k5.size
  have k4' : Below w3.heap.size w3 w4 := ⟨k4.os, k4.tape, k4.output, k4.size, k4.block⟩
  exact k1.trans ((k2.mono s1).trans ((k3.mono (by omega)).trans ((k4'.mono (by omega)).trans ((k5.mono (by omega)).trans (k6.mono (by omega))))))

set_option maxRecDepth 100000 in
set_option maxHeartbeats 400000 in
theorem sums_nil (c : Int) (m : Nat) (w : World) (hc : U c m) :
    Calls Try.prog 3 #[.slice none 0 0, .int .u32 c, .int .i64 0] w (TellsTrue w) := by
  have h4 := hc.lo
  have h5 := hc.hi
  have HC := Lib.hid hc
  obtain ⟨i0, hi, hz0, hz1, hz2⟩ := info_parts info5
  clear hc
  go_enter Try.func3, Try.ntmps3
  go_wp2_with (at_builtin; refine wpList_append_own_none rfl _ _ 22 rfl w.heap.size 5 i0 1 Try.underlying22 hi _ 0 [] rfl (World.ownsRow_nil _ _ _ _) rfl ?_)
  clear hi hz0 hz1 hz2
  go_wp2_with (first
    | (go_at_call 7; refine (sum_any _ _ _ _ _ (Bts.nought _ _)).mono ?_; rintro e w2 ⟨r1, rfl, hu1, hbel2⟩; have HU1 := Lib.hid hu1; have HB2 := Lib.hid hbel2; have HO2 := Lib.hid (Bts.nought w2 none); have HA2 := Lib.hid (Bts.nought w2 none); clear hu1 hbel2)
    | (go_at_call 8; refine (rsum_any _ _ _ _ _ HA2.out).mono ?_; rintro e w2' ⟨r2, rfl, hu2, rfl⟩; have he : (r1 != r2) = false := (by rw [HU1.out.same hu2]; simp); clear hu2)
    | (go_at_call 9; refine (more_any _ _ _ _ _ _ _ HC.out HO2.out).mono ?_; rintro e w3 ⟨r3, rfl, hu3, hbel3⟩; have HU3 := Lib.hid hu3; have HB3 := Lib.hid hbel3; have HO3 := Lib.hid (HO2.out.below hbel3); have HA3 := Lib.hid (HA2.out.below hbel3); clear hu3 hbel3)
    | (go_at_call 10; refine (rmore_any _ _ _ _ _ _ _ HC.out HA3.out).mono ?_; rintro e w3' ⟨r4, rfl, hu4, rfl⟩; have he2 : (r3 != r4) = false := (by rw [HU3.out.same hu4]; simp); have hs1 := HO3.out.str 0; have hs2 := HA3.out.str 0; clear hu4))
  clear he he2 hs1 hs2
  go_region_with (first
    | (go_at_call_of 9 (Value.int IntKind.u32 c); refine (more_any _ _ _ _ _ [] _ HC.out ?_).mono ?_; exact (Bts.nought _ _); rintro e w4 ⟨r5, rfl, hu5, hbel4⟩; have HU5 := Lib.hid hu5; have HB4 := Lib.hid hbel4; have HA4 := Lib.hid (HA3.out.drew.below hbel4); clear hu5 hbel4)
    | (go_at_call_of 9 (Value.int IntKind.u32 r5); refine (more_any _ _ _ _ _ [] _ HU5.out ?_).mono ?_; exact (Bts.nought _ _); rintro e w5 ⟨r6, rfl, hu6, hbel5⟩; have HU6 := Lib.hid (hu6.eq (more_nil _)); have HB5 := Lib.hid hbel5; have HA5 := Lib.hid (HA4.out.below hbel5); clear hu6 hbel5)
    | (go_at_call 10; refine (rmore_any _ _ _ _ _ [] _ HC.out HA5.out).mono ?_; rintro e w5' ⟨r7, rfl, hu7, rfl⟩; have he3 : (r6 == r7) = true := (by rw [HU6.out.same hu7]; simp); clear hu7)
    | (go_at_call 6; refine (known_any _).mono ?_; rintro e w6 ⟨rfl, hbel6⟩; have HB6 := Lib.hid hbel6; clear hbel6))
  go_wp2
  go_ret
  refine ⟨rfl, ?_⟩
  have k2 := HB2.out
  have k3 := HB3.out
  have k4 := HB4.out
  have k5 := HB5.out
  have k6 := HB6.out
  have s2 := k2.size
  have s3 := k3.size
  have s4 : w3.heap.size ≤ w4.heap.size := k4.size
  have s5 := k5.size
  have k4' : Below w3.heap.size w3 w4 := ⟨k4.os, k4.tape, k4.output, k4.size, k4.block⟩
  exact k2.trans ((k3.mono (by omega)).trans ((k4'.mono (by omega)).trans ((k5.mono (by omega)).trans (k6.mono (by omega)))))

end Go.Proofs.Ytcgajgjkalhdhaa
