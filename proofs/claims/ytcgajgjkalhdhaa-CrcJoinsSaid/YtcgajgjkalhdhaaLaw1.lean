/-
  The walk of the law on sums: from the contracts of the calls.
-/
import Derived.Test.YtcgajgjkalhdhaaMore
import Derived.Laws.BytesArg
import Derived.Laws.AppendOwnNone
import Derived.Deep.RegionWith
namespace Go.Proofs.Ytcgajgjkalhdhaa
open Go.RowKit CrcM

theorem Bts.below {w w' : World} {a : Option Addr} {len : Nat} {l : List Nat} (h : Bts w a len l) (hb : Below w.heap.size w w') : Bts w' a len l := by
  obtain ⟨h1, h2, h3, h4⟩ := h
  refine ⟨h1, h2, h3, ?_⟩
  rcases h4 with h4 | ⟨B, off, rfl, hB, hc⟩
  · exact .inl h4
  · exact .inr ⟨B, off, rfl, Nat.lt_of_lt_of_le hB hb.size, fun i hi => (hb.cell (p := ⟨B, off + i, none⟩) hB).trans (hc i hi)⟩
theorem Bts.drew {w : World} {a : Option Addr} {len : Nat} {l : List Nat} (h : Bts w a len l) : Bts w.drew a len l := h
theorem Bts.take {w : World} {a : Option Addr} {len : Nat} {l : List Nat} (h : Bts w a len l) (k : Nat) (hk : k ≤ len) : Bts w a k (l.take k) := by
  obtain ⟨h1, h2, h3, h4⟩ := h
  refine ⟨by rw [List.length_take]; omega, fun b hb => h2 b (List.mem_of_mem_take hb), by omega, ?_⟩
  rcases h4 with h4 | ⟨B, off, rfl, hB, hc⟩
  · exact .inl (by omega)
  · refine .inr ⟨B, off, rfl, hB, fun i hi => ?_⟩
    rw [hc i (by omega)]
    simp [List.getD, hi]
theorem Bts.drop {w : World} {B off : Nat} {len : Nat} {l : List Nat} (h : Bts w (some ⟨B, off, none⟩) len l) (k : Nat) (hk : k ≤ len) : Bts w (some ⟨B, off + k, none⟩) (len - k) (l.drop k) := by
  obtain ⟨h1, h2, h3, h4⟩ := h
  refine ⟨by rw [List.length_drop]; omega, fun b hb => h2 b (List.mem_of_mem_drop hb), by omega, ?_⟩
  rcases h4 with h4 | ⟨B', off', he, hB, hc⟩
  · exact .inl (by omega)
  · cases he
    refine .inr ⟨B, off + k, rfl, hB, fun i hi => ?_⟩
    rw [show off + k + i = off + (k + i) from by omega, hc (k + i) (by omega)]
    simp [List.getD, List.getElem?_drop]
theorem Bts.nought (w : World) (a : Option Addr) : Bts w a 0 [] := ⟨rfl, by simp, by omega, .inl rfl⟩

theorem Bts.at_ {w : World} {B off len : Nat} {l : List Nat} (h : Bts w (some ⟨B, off, none⟩) len l) :
    ∀ j u, (l.map fun (n : Nat) => Value.int .u8 (n : Int))[j]? = some u → w.cell? ((⟨B, off, none⟩ : Addr).add j) = some u := by
  intro j u hu
  obtain ⟨h1, h2, h3, h4⟩ := h
  have hj : j < l.length := by
    rcases Nat.lt_or_ge j l.length with h | h
    · exact h
    · simp [h] at hu
  rcases h4 with h4 | ⟨B', off', he, hB, hc⟩
  · omega
  · cases he
    have hadd : (⟨B, off, none⟩ : Addr).add j = ⟨B, off + j, none⟩ := by unfold Addr.add; split <;> simp_all
    rw [hadd, hc j (by omega)]
    simp [hj] at hu
    subst hu
    simp [List.getD, hj]

def strOf (l : List Nat) : ByteArray := strOfNums (l.map fun (n : Nat) => (n : Int))
theorem Bts.str {w : World} {a : Option Addr} {len : Nat} {l : List Nat} (h : Bts w a len l) (cap : Nat) :
    (convert 22 9 (.slice a len cap)).run Try.prog w = .ok (.string (strOf l)) w := by
  obtain ⟨h1, h2, h3, rfl | ⟨B, off, rfl, hB, hc⟩⟩ := h
  · obtain rfl : l = [] := List.length_eq_zero_iff.1 h1
    rw [run_convert_bytes_string w 22 9 5 _ 0 cap Try.underlying22 Try.underlying5 Try.underlying9]
    cases a with
    | none => simp [Conv.bytesToString]; rfl
    | some x =>
      rw [run_bytesToString w x 0 cap [] (by simp [loadCells, loadCellsFrom])]
      rfl
  · refine run_convert_bytes_arg w 22 5 Try.underlying22 Try.underlying5 B off len cap _ (by simpa using h1) (fun i hi => ?_) 9 Try.underlying9
    rw [hc i hi]
    simp [List.getD, show i < l.length from by omega]

set_option maxHeartbeats 400000 in
theorem sums_out (a : Option Addr) (len cap : Nat) (c at_ : Int) (w : World) (hl : len ≤ 9223372036854775807) (h : 3000 < len ∨ at_ < 0 ∨ (len : Int) < at_) :
    Calls Try.prog 3 #[.slice a len cap, .int .u32 c, .int .i64 at_] w (TellsTrue w) := by
  by_cases h1 : 3000 < len
  · have h1' : (3000 : Int) < (len : Int) := by omega
    clear h h1
    go_enter Try.func3, Try.ntmps3
    go_wp2_with (go_at_call 6; refine (known_any _).mono ?_; rintro e w1 ⟨rfl, hbel⟩; have HW := Lib.hid hbel; clear hbel)
    go_ret
    exact ⟨rfl, HW.out⟩
  · have h1' : ¬ (3000 : Int) < (len : Int) := by omega
    by_cases h2 : at_ < 0
    · clear h h1
      go_enter Try.func3, Try.ntmps3
      go_wp2_with (go_at_call 6; refine (known_any _).mono ?_; rintro e w1 ⟨rfl, hbel⟩; have HW := Lib.hid hbel; clear hbel)
      go_ret
      exact ⟨rfl, HW.out⟩
    · have h3 : (len : Int) < at_ := by omega
      clear h h1
      go_enter Try.func3, Try.ntmps3
      go_wp2_with (go_at_call 6; refine (known_any _).mono ?_; rintro e w1 ⟨rfl, hbel⟩; have HW := Lib.hid hbel; clear hbel)
      go_ret
      exact ⟨rfl, HW.out⟩

theorem cut_eq (m : Nat) (l : List Nat) (k : Nat) : more (more m (l.take k)) (l.drop k) = more m l := by
  rw [← more_append, List.take_append_drop]

theorem info5 : (Try.prog.info? 5).map (fun i => (i.zero, i.size, i.bytes)) = some (some (.int .u8 0), 1, 1) := by kernel_rfl

theorem own_bts {w : World} {base : Nat} {v : Value} {len : Nat} {l : List Nat} (h : w.ownsRow base 5 1 v len (l.map fun (n : Nat) => Value.int .u8 (n : Int))) (hl : l.length = len) (hb : ∀ b ∈ l, b < 256) (hlen : len ≤ 9223372036854775807) :
    ∃ a cap, v = .slice a len cap ∧ Bts w a len l := by
  obtain ⟨h1, ⟨rfl, rfl⟩ | ⟨g, cap, cur, rfl, _, hg, _, _, _, ht⟩⟩ := h
  · exact ⟨none, 0, rfl, hl, hb, hlen, .inl rfl⟩
  · refine ⟨_, cap, rfl, hl, hb, hlen, .inr ⟨g, 0, rfl, lt_of_block hg, fun i hi => ?_⟩⟩
    rw [cell_of_row _ _ _ _ _ _ hg, Nat.zero_add]
    have e : (cur.toList.take (len * 1))[i]? = (l.map fun (n : Nat) => Value.int .u8 (n : Int))[i]? := by rw [ht]
    rw [List.getElem?_take, if_pos (by omega)] at e
    simp [show i < l.length from by omega] at e
    simp [e, List.getD, show i < l.length from by omega]

set_option maxRecDepth 100000 in
set_option maxHeartbeats 400000 in
theorem sums_in (B off len cap k : Nat) (l : List Nat) (c : Int) (m : Nat) (w : World) (hc : U c m) (h : Bts w (some ⟨B, off, none⟩) len l) (hlen : len ≤ 3000) (hcap : len ≤ cap) (hk : k ≤ len) (hck : ¬ cap = k) :
    Calls Try.prog 3 #[.slice (some ⟨B, off, none⟩) len cap, .int .u32 c, .int .i64 (k : Int)] w (TellsTrue w) := by
  have h1 : ¬ (3000 : Int) < (len : Int) := by omega
  have h2 : ¬ (k : Int) < 0 := by omega
  have h3 : ¬ (len : Int) < (k : Int) := by omega
  have h4 := hc.lo
  have h5 := hc.hi
  have HC := Lib.hid hc
  have H := Lib.hid h
  obtain ⟨i0, hi, hz0, hz1, hz2⟩ := info_parts info5
  clear hc h
  go_enter Try.func3, Try.ntmps3
  have HL1 : Hid ((l.map fun (n : Nat) => Value.int .u8 (n : Int)).length = len * 1) := by have := H.out.1; show _ = _; rw [List.length_map]; omega
  have HAT := Lib.hid H.out.at_
  have HONE : Hid (∀ u ∈ (l.map fun (n : Nat) => Value.int .u8 (n : Int)), u.oneCell' = true) := by
    intro u hu; obtain ⟨n, _, rfl⟩ := List.mem_map.1 hu; rfl
  go_wp2_with (at_builtin; refine wpList_append_own _ rfl _ _ 22 rfl w.heap.size 5 i0 (.int .u8 0) 1 1 Try.underlying22 hi hz0 hz1 hz2 rfl (by decide) _ _ _ rfl (World.ownsRow_nil _ _ _ _) ⟨B, off, none⟩ len cap (l.map fun (n : Nat) => Value.int .u8 (n : Int)) rfl HL1.out HAT.out HONE.out (by unfold maxLen; omega) (by omega) (Nat.le_refl _) ?_; intro v' w1 hown hgrow _; rw [Nat.zero_add, List.nil_append] at hown; obtain ⟨a1, cap1, rfl, hb1⟩ := own_bts hown H.out.1 H.out.2.1 H.out.2.2.1; have hbel1 : Below w.heap.size w w1 := (Below.refl _ _).grown hgrow (Nat.le_refl _) (fun k hk => by cases hk); have HO := Lib.hid hb1; have HA := Lib.hid (H.out.below hbel1); have HB := Lib.hid hbel1; clear hown hgrow hb1 hbel1)
  clear hi hz0 hz1 hz2 HL1 HAT HONE
  go_wp2_with (first
    | (go_at_call 7; refine (sum_any _ _ _ _ _ HO.out).mono ?_; rintro e w2 ⟨r1, rfl, hu1, hbel2⟩; have HU1 := Lib.hid hu1; have HB2 := Lib.hid hbel2; have HO2 := Lib.hid (HO.out.below hbel2); have HA2 := Lib.hid (HA.out.below hbel2); clear hu1 hbel2)
    | (go_at_call 8; refine (rsum_any _ _ _ _ _ HA2.out).mono ?_; rintro e w2' ⟨r2, rfl, hu2, rfl⟩; have he : (r1 != r2) = false := (by rw [HU1.out.same hu2]; simp); clear hu2)
    | (go_at_call 9; refine (more_any _ _ _ _ _ _ _ HC.out HO2.out).mono ?_; rintro e w3 ⟨r3, rfl, hu3, hbel3⟩; have HU3 := Lib.hid hu3; have HB3 := Lib.hid hbel3; have HO3 := Lib.hid (HO2.out.below hbel3); have HA3 := Lib.hid (HA2.out.below hbel3); clear hu3 hbel3)
    | (go_at_call 10; refine (rmore_any _ _ _ _ _ _ _ HC.out HA3.out).mono ?_; rintro e w3' ⟨r4, rfl, hu4, rfl⟩; have he2 : (r3 != r4) = false := (by rw [HU3.out.same hu4]; simp); have hs1 := HO3.out.str cap1; have hs2 := HA3.out.str cap; clear hu4))
  clear he he2 hs1 hs2
  have hkc : (k : Int) ≤ (cap : Int) := by omega
  have hk0 : (0 : Int) ≤ (k : Int) := by omega
  have hkl : (k : Int) ≤ (len : Int) := by omega
  have hck2 : ¬ cap ≤ k := by omega
  have hck3 : ¬ k = cap := by omega
  go_region_with (first
    | (go_at_call_of 9 (Value.int IntKind.u32 c); refine (more_any _ _ _ _ _ (l.take k) _ HC.out ?_).mono ?_; exact (HA3.out.drew.take k hk); rintro e w4 ⟨r5, rfl, hu5, hbel4⟩; have HU5 := Lib.hid hu5; have HB4 := Lib.hid hbel4; have HA4 := Lib.hid (HA3.out.drew.below hbel4); clear hu5 hbel4)
    | (go_at_call_of 9 (Value.int IntKind.u32 r5); refine (more_any _ _ _ _ _ (l.drop k) _ HU5.out ?_).mono ?_; exact (HA4.out.drop k hk); rintro e w5 ⟨r6, rfl, hu6, hbel5⟩; have HU6 := Lib.hid (hu6.eq (cut_eq m l k)); have HB5 := Lib.hid hbel5; have HA5 := Lib.hid (HA4.out.below hbel5); clear hu6 hbel5)
    | (go_at_call 10; refine (rmore_any _ _ _ _ _ l _ HC.out HA5.out).mono ?_; rintro e w5' ⟨r7, rfl, hu7, rfl⟩; have he3 : (r6 == r7) = true := (by rw [HU6.out.same hu7]; simp); clear hu7)
    | (go_at_call 6; refine (known_any _).mono ?_; rintro e w6 ⟨rfl, hbel6⟩; have HB6 := Lib.hid hbel6; clear hbel6))
  go_wp2
  go_ret
  refine ⟨rfl, ?_⟩
  have k1 := HB.out
  have k2 := HB2.out
  have k3 := HB3.out
  have k4 := HB4.out
  have k5 := HB5.out
  have k6 := HB6.out
  have s1 := k1.size
  have s2 := k2.size
  have s3 := k3.size
  have s4 : w3.heap.size ≤ w4.heap.size := k4.size
  have s5 := k5.size
  have k4' : Below w3.heap.size w3 w4 := ⟨k4.os, k4.tape, k4.output, k4.size, k4.block⟩
  exact k1.trans ((k2.mono s1).trans ((k3.mono (by omega)).trans ((k4'.mono (by omega)).trans ((k5.mono (by omega)).trans (k6.mono (by omega))))))
end Go.Proofs.Ytcgajgjkalhdhaa
