/-
  The walks of crc's More and Sum, and of the document's.
-/
import Derived.Test.YthlmjadknklafaaDoorTable
import Derived.Lib.SlBytesConst
namespace Go.Proofs.YthlmjadknklafaaDoor
open Go.RowKit CrcM

/-- the slice at a, of so many bytes, reads as l -/
def Bts (w : World) (a : Option Addr) (len : Nat) (l : List Nat) : Prop :=
  l.length = len ∧ (∀ b ∈ l, b < 256) ∧ len ≤ 9223372036854775807 ∧
  (len = 0 ∨ ∃ B off, a = some ⟨B, off, none⟩ ∧ B < w.heap.size ∧ ∀ i, i < len → w.cell? ⟨B, off + i, none⟩ = some (.int .u8 (l.getD i 0 : Nat)))

/-- it answers the number n, and writes nothing that was there -/
def TellsN (n : Nat) (w : World) (e : Ending) (w' : World) : Prop := ∃ r : Int, e = .returned (.int .u32 r) ∧ U r n ∧ Below w.heap.size w w'

theorem take_step (l : List Nat) (k : Nat) (h : k < l.length) : l.take (k + 1) = l.take k ++ [l.getD k 0] := by
  rw [List.take_succ_eq_append_getElem h]; simp [List.getD, h]

theorem getD_mem (l : List Nat) (k : Nat) (h : k < l.length) : l.getD k 0 ∈ l := by
  simp [List.getD, h]

theorem step_byte {rv xv : Int} {n b : Nat} (hu : U rv n) (hv : (b : Int) = xv) (hb : b < 256) :
    ∃ tv : Int, 0 ≤ bits .xor .u8 (rv % 256) xv ∧ bits .xor .u8 (rv % 256) xv < 256 ∧ (cellsU tab)[(bits .xor .u8 (rv % 256) xv).toNat]? = some (.int .u32 tv) ∧ 0 ≤ tv ∧ tv < 4294967296 ∧
      U (bits .xor .u32 (rv / 256) tv) (s8 (n ^^^ b)) := by
  obtain ⟨rfl, hn⟩ := hu
  subst hv
  have e : bits .xor .u8 ((n : Int) % 256) (b : Int) = (((n % 256) ^^^ b : Nat) : Int) := u8_xor_nat (n % 256) b (by omega) hb
  have hlt : (n % 256) ^^^ b < 256 := Nat.xor_lt_two_pow (n := 8) (by omega) hb
  have ht : s8 ((n % 256) ^^^ b) < top := s8_lt _ (by unfold top; omega)
  refine ⟨((s8 ((n % 256) ^^^ b) : Nat) : Int), ?_, ?_, ?_, ?_, ?_, ?_⟩
  · rw [e]; exact Int.natCast_nonneg _
  · rw [e]; omega
  · rw [e, Int.toNat_natCast, cellsU_get _ _ (by rw [tab_length]; exact hlt), tab_get _ hlt]
  · exact Int.natCast_nonneg _
  · unfold top at ht; omega
  · have hq : U ((n : Int) / 256) (n / 256) := ⟨rfl, by unfold top at *; omega⟩
    exact (hq.xor (U.mk _ ht)).eq (s8_byte n b)

theorem reg_next {m : Nat} {l : List Nat} {k : Nat} {r : Int} (h : U r (s8 (reg (nt m) (l.take k) ^^^ l.getD k 0))) (hk : k < l.length) : U r (reg (nt m) (l.take (k + 1))) := by
  refine h.eq ?_
  rw [take_step l k hk, reg_append]
  rfl

set_option maxRecDepth 100000 in
set_option maxHeartbeats 400000 in
theorem more_some (c : Int) (m : Nat) (B off len cap : Nat) (l : List Nat) (w : World) (hc : U c m) (hl : l.length = len) (hb : ∀ b ∈ l, b < 256) (hlen : len ≤ 9223372036854775807)
    (hB : B < w.heap.size) (hcell : ∀ i, i < len → w.cell? ⟨B, off + i, none⟩ = some (.int .u8 (l.getD i 0 : Nat))) :
    Calls Tryd.prog 33 #[.int .u32 c, .slice (some ⟨B, off, none⟩) len cap] w (TellsN (more m l) w) := by
  have hz35 := (zero_of_info info35).1
  have h0 := hc.lo
  have h1 := hc.hi
  have HC := Lib.hid hc
  have HL := Lib.hid hl
  have HB := Lib.hid hb
  have HX := Lib.hid hcell
  clear hc hl hb hcell
  go_enter Tryd.func33, Tryd.ntmps33
  go_wp2_with (first
    | (go_at_call 38; refine (newTable_any _).mono ?_; rintro e w1 ⟨rfl, hbel⟩; have HW := Lib.hid hbel; clear hbel)
    | (refine wpList_store_row rfl 97 (.tmp 5) (.tmp 9) rfl _ (cellsU tab) rfl rfl 97 (cellsU (List.replicate 256 0)) (heap_alloc_new _ _) (by rw [info35s, cellsU_size, tab_length]) (by rw [cellsU_size, cellsU_size, tab_length, List.length_replicate]) (cellsU_one _) ?_; rw [World.setRow_alloc_new]))
  go_loop [6, 8, 14] (fun r x i => ∃ (k : Nat) (rv : Int), k ≤ len ∧ i = .int .i64 k ∧ r = .int .u32 rv ∧ U rv (reg (nt m) (l.take k))) (fun _ _ i => len - (intOf i).toNat)
  case atStart => exact ⟨0, _, by omega, rfl, rfl, HC.out.not⟩
  case round =>
    obtain ⟨k, rv, hk, rfl, rfl, hu⟩ := hrel
    have hr0 := hu.lo
    have hr1 := hu.hi
    by_cases hlt : k < len
    · have hx := HX.out k hlt
      have hB1 : B < w1.heap.size := by have := HW.out.size; omega
      have hx1 : w1.cell? ⟨B, off + k, none⟩ = some (.int .u8 (l.getD k 0 : Nat)) := by rw [HW.out.cell hB]; exact hx
      have hbk := HB.out _ (getD_mem l k (by rw [HL.out]; exact hlt))
      generalize hv : ((l.getD k 0 : Nat) : Int) = xv at hx hx1
      have hb0 : 0 ≤ xv := by omega
      have hb1 : xv < 256 := by omega
      obtain ⟨tv, hi0, hi1, ht, ht0, ht1, hun⟩ := step_byte hu hv hbk
      have HN := Lib.hid (reg_next hun (by rw [HL.out]; exact hlt))
      clear hu hv hx hbk hun
      go_wp2
      go_round
      case rel => exact ⟨k + 1, _, by omega, by go_num, rfl, HN.out⟩
      case measure => simp [intOf]; omega
    · have hge : ¬ ((k : Int) < (len : Int)) := by omega
      have HF := Lib.hid (hu.not.eq (show nt (reg (nt m) (l.take k)) = more m l from by rw [List.take_of_length_le (by rw [HL.out]; omega)]; rfl))
      clear hu hlt
      go_wp2
      go_ret
      exact ⟨_, rfl, HF.out, HW.out.alloc HW.out.size _⟩

set_option maxRecDepth 100000 in
set_option maxHeartbeats 400000 in
theorem more_none (c : Int) (m : Nat) (a : Option Addr) (cap : Nat) (w : World) (hc : U c m) :
    Calls Tryd.prog 33 #[.int .u32 c, .slice a 0 cap] w (TellsN m w) := by
  have hz35 := (zero_of_info info35).1
  have h0 := hc.lo
  have h1 := hc.hi
  have HC := Lib.hid (hc.not.not.eq (nt_nt m))
  clear hc
  go_enter Tryd.func33, Tryd.ntmps33
  go_wp2_with (first
    | (go_at_call 38; refine (newTable_any _).mono ?_; rintro e w1 ⟨rfl, hbel⟩; have HW := Lib.hid hbel; clear hbel)
    | (refine wpList_store_row rfl 97 (.tmp 5) (.tmp 9) rfl _ (cellsU tab) rfl rfl 97 (cellsU (List.replicate 256 0)) (heap_alloc_new _ _) (by rw [info35s, cellsU_size, tab_length]) (by rw [cellsU_size, cellsU_size, tab_length, List.length_replicate]) (cellsU_one _) ?_; rw [World.setRow_alloc_new]))
  refine wp_loop_rounds 1 ?_
  rw [rounds_succ]
  go_wp2
  go_ret
  exact ⟨_, rfl, HC.out, HW.out.alloc HW.out.size _⟩

theorem more_any (c : Int) (m : Nat) (a : Option Addr) (len cap : Nat) (l : List Nat) (w : World) (hc : U c m) (h : Bts w a len l) :
    Calls Tryd.prog 33 #[.int .u32 c, .slice a len cap] w (TellsN (more m l) w) := by
  obtain ⟨hl, hb, hlen, rfl | ⟨B, off, rfl, hB, hcell⟩⟩ := h
  · obtain rfl : l = [] := List.length_eq_zero_iff.1 hl
    rw [more_nil]
    exact more_none c m a cap w hc
  · exact more_some c m B off len cap l w hc hl hb hlen hB hcell

set_option maxHeartbeats 400000 in
theorem sum_any (a : Option Addr) (len cap : Nat) (l : List Nat) (w : World) (h : Bts w a len l) :
    Calls Tryd.prog 22 #[.slice a len cap] w (TellsN (more 0 l) w) := by
  have H := Lib.hid h
  clear h
  go_enter Tryd.func22, Tryd.ntmps22
  go_wp2_with (go_at_call 33; refine (more_any 0 0 _ _ _ _ _ ⟨rfl, by decide⟩ H.out).mono ?_; rintro e w1 ⟨r, rfl, hu, hbel⟩; have HU := Lib.hid hu; have HW := Lib.hid hbel; clear hu hbel)
  go_ret
  exact ⟨_, rfl, HU.out, HW.out⟩

set_option maxRecDepth 100000 in
set_option maxHeartbeats 400000 in
theorem rmore_some (c : Int) (m : Nat) (B off len cap : Nat) (l : List Nat) (w : World) (hc : U c m) (hl : l.length = len) (hb : ∀ b ∈ l, b < 256) (hlen : len ≤ 9223372036854775807)
    (hcell : ∀ i, i < len → w.cell? ⟨B, off + i, none⟩ = some (.int .u8 (l.getD i 0 : Nat))) :
    Calls Tryd.prog 34 #[.int .u32 c, .slice (some ⟨B, off, none⟩) len cap] w (TellsU (more m l) w) := by
  have h0 := hc.lo
  have h1 := hc.hi
  have HC := Lib.hid hc
  have HL := Lib.hid hl
  have HB := Lib.hid hb
  have HX := Lib.hid hcell
  clear hc hl hb hcell
  go_enter Tryd.func34, Tryd.ntmps34
  go_wp2
  go_loop [0, 5] (fun r i => ∃ (k : Nat) (rv : Int), k ≤ len ∧ i = .int .i64 k ∧ r = .int .u32 rv ∧ U rv (more m (l.take k))) (fun _ i => len - (intOf i).toNat)
  case atStart => exact ⟨0, _, by omega, rfl, rfl, HC.out.eq (by rw [List.take_zero, more_nil])⟩
  case round =>
    obtain ⟨k, rv, hk, rfl, rfl, hu⟩ := hrel
    have hr0 := hu.lo
    have hr1 := hu.hi
    by_cases hlt : k < len
    · have hx := HX.out k hlt
      have hbk := HB.out _ (getD_mem l k (by rw [HL.out]; exact hlt))
      have hs : Hid (byte (more m (l.take k)) (l.getD k 0) = more m (l.take (k + 1))) := by
        rw [take_step l k (by rw [HL.out]; exact hlt), more_snoc]; exact rfl
      generalize hv : ((l.getD k 0 : Nat) : Int) = xv at hx
      have hb0 : 0 ≤ xv := by omega
      have hb1 : xv < 256 := by omega
      have HU := Lib.hid hu
      have HV := Lib.hid hv
      have HK := Lib.hid hbk
      clear hu hv hbk
      go_wp2_with (go_at_call 39; refine (byte_any _ _ _ _ _ HU.out HV.out.symm HK.out).mono ?_; rintro e w1 ⟨r, rfl, hu, rfl⟩; have HN := Lib.hid hu; clear hu)
      go_round
      case rel => exact ⟨k + 1, _, by omega, by go_num, rfl, HN.out.eq hs.out⟩
      case measure => simp [intOf]; omega
    · have hge : ¬ ((k : Int) < (len : Int)) := by omega
      have HF := Lib.hid (hu.eq (show more m (l.take k) = more m l from by rw [List.take_of_length_le (by rw [HL.out]; omega)]))
      clear hu hlt
      go_wp2
      go_ret
      exact ⟨_, rfl, HF.out, rfl⟩

set_option maxHeartbeats 400000 in
theorem rmore_none (c : Int) (m : Nat) (a : Option Addr) (cap : Nat) (w : World) (hc : U c m) :
    Calls Tryd.prog 34 #[.int .u32 c, .slice a 0 cap] w (TellsU m w) := by
  have h0 := hc.lo
  have h1 := hc.hi
  have HC := Lib.hid hc
  clear hc
  go_enter Tryd.func34, Tryd.ntmps34
  go_wp2
  refine wp_loop_rounds 1 ?_
  rw [rounds_succ]
  go_wp2
  go_ret
  exact ⟨_, rfl, HC.out, rfl⟩

theorem rmore_any (c : Int) (m : Nat) (a : Option Addr) (len cap : Nat) (l : List Nat) (w : World) (hc : U c m) (h : Bts w a len l) :
    Calls Tryd.prog 34 #[.int .u32 c, .slice a len cap] w (TellsU (more m l) w) := by
  obtain ⟨hl, hb, hlen, rfl | ⟨B, off, rfl, _, hcell⟩⟩ := h
  · obtain rfl : l = [] := List.length_eq_zero_iff.1 hl
    rw [more_nil]
    exact rmore_none c m a cap w hc
  · exact rmore_some c m B off len cap l w hc hl hb hlen hcell

set_option maxHeartbeats 400000 in
theorem rsum_any (a : Option Addr) (len cap : Nat) (l : List Nat) (w : World) (h : Bts w a len l) :
    Calls Tryd.prog 23 #[.slice a len cap] w (TellsU (more 0 l) w) := by
  have H := Lib.hid h
  clear h
  go_enter Tryd.func23, Tryd.ntmps23
  go_wp2_with (go_at_call 34; refine (rmore_any 0 0 _ _ _ _ _ ⟨rfl, by decide⟩ H.out).mono ?_; rintro e w1 ⟨r, rfl, hu, rfl⟩; have HU := Lib.hid hu; clear hu)
  go_ret
  exact ⟨_, rfl, HU.out, rfl⟩

/-- it answers true, and writes nothing that was there -/
def TellsTrue (w : World) (e : Ending) (w' : World) : Prop := e = .returned (.bool true) ∧ Below w.heap.size w w'

end Go.Proofs.YthlmjadknklafaaDoor
