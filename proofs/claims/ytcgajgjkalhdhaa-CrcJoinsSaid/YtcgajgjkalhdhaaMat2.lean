/-
  The walks of crc's squared, afterNoughts, Noughts and Join.
-/
import Derived.Test.YtcgajgjkalhdhaaMat
import Derived.RegionTactic
namespace Go.Proofs.Ytcgajgjkalhdhaa
open Go.RowKit CrcM

set_option maxRecDepth 100000 in
set_option maxHeartbeats 400000 in
theorem squared_any (g n : Nat) (fr : Nat × Nat) (w : World) (hg : w.heap[g]? = some (.cells (cellsU (mat n)) 40 fr)) :
    Calls Try.prog 19 #[.pointer (some ⟨g, 0, none⟩)] w (TellsMat (n + n) w) := by
  have hz40 := (zero_of_info info40).1
  have hgl := lt_of_block hg
  obtain ⟨Z, hZ⟩ : ∃ Z, Z = cellsU (List.replicate 32 0) := ⟨_, rfl⟩
  rw [← hZ] at hz40
  have HZ := Lib.hid hZ
  have HG := Lib.hid hg
  clear hZ hg
  go_enter Try.func19, Try.ntmps19
  go_wp2
  go_loopw [4, 5, 7] (fun a b i wr => ∃ (k : Nat) (ms : List Nat), k ≤ 32 ∧ i = .int .i64 k ∧ Part (fun i => it (n + n) (2 ^ i)) k ms ∧ wr.heap[w.heap.size]? = some (.cells Z 40 (0, 0)) ∧ wr.heap[w.heap.size + 1]? = some (.cells (cellsU ms) 40 (0, 0)) ∧ Below w.heap.size w wr) (fun _ _ i _ => 32 - (intOf i).toNat)
  case atStart =>
    exact ⟨0, List.replicate 32 0, by omega, rfl, ⟨by rw [List.length_replicate], fun i hi => by omega⟩, heap_alloc2_old _ _ _, by rw [← HZ.out]; exact heap_alloc2_new _ _ _, ((Below.refl _ _).alloc (Nat.le_refl _) _).alloc (by simp) _⟩
  case round =>
    obtain ⟨k, ms, hk, rfl, hp, hg0, hg1, hbel⟩ := hrel
    have J1 := Lib.hid hp
    have J2 := Lib.hid hg0
    have J4 := Lib.hid hg1
    have J5 := Lib.hid hbel
    have JG := Lib.hid ((hbel.block g hgl).trans HG.out)
    clear hp hg0 hg1 hbel
    by_cases hlt : k < 32
    · have hA : wr.cell? ⟨g, k, none⟩ = some (.int .u32 ((mat n).getD k 0 : Nat)) := by
        rw [cell_of_row _ _ _ _ _ _ JG.out]; exact cellsU_get _ _ (by rw [mat_length]; exact hlt)
      have hx : U ((mat n).getD k 0 : Nat) ((mat n).getD k 0) := U.mk _ (mat_lt n k hlt)
      generalize hv : (((mat n).getD k 0 : Nat) : Int) = v at hA hx
      have hB : wr.cell? ⟨w.heap.size + 1, k, none⟩ = some (.int .u32 (ms.getD k 0 : Nat)) := by
        rw [cell_of_row _ _ _ _ _ _ J4.out]; exact cellsU_get _ _ (by have := J1.out.1; omega)
      generalize ((ms.getD k 0 : Nat) : Int) = v2 at hB
      have hF : wr.frozen? ⟨w.heap.size + 1, k, none⟩ = false := frozen_of_row _ _ _ _ _ J4.out
      have hk0 : (0 : Int) ≤ (k : Int) := by omega
      have hk1 : (k : Int) < 32 := by omega
      have HX := Lib.hid hx
      clear hx hv
      go_wp2
      go_region
      go_wp2_with (go_at_call 18; refine (times_any g (mat n) fr 40 _ _ _ ?_ (mat_length n) (fun i hi => mat_lt n i hi) HX.out).mono ?_; exact JG.out; rintro e w2 ⟨r, rfl, hu, rfl⟩; have HU := Lib.hid hu; clear hu)
      go_roundw
      case rel =>
        obtain ⟨ms2, e2, h2⟩ := J1.out.put hlt (HU.out.eq ((mat_sq n k hlt).trans (mat_get (n + n) k hlt)))
        exact ⟨k + 1, ms2, by omega, by go_num, h2, (heap_setCell_other wr _ _ _ (by simp)).trans J2.out, (heap_setCell_same wr _ _ _ _ _ J4.out).trans (by rw [e2]), (J5.out.setCell (by simp) _).drew⟩
      case measure => simp [intOf]; omega
    · obtain rfl : k = 32 := by omega
      have HT := Lib.hid J1.out.all
      go_wp2_with (first
        | (refine wpList_load_row rfl 40 (.tmp 3) rfl (w.heap.size + 1) rfl 40 (cellsU ms) (0, 0) _ J4.out Try.underlying40 rfl (by rw [info40s, HT.out, cellsU_size, mat_length]) ?_)
        | (refine wpList_store_row rfl 40 (.tmp 2) (.tmp 19) rfl w.heap.size (cellsU ms) rfl rfl 40 Z J2.out (by rw [info40s, HT.out, cellsU_size, mat_length]) (by rw [HZ.out, HT.out, cellsU_size, cellsU_size, mat_length, List.length_replicate]) (cellsU_one _) ?_))
      refine bodyPost_ret (v := .agg (cellsU (mat (n + n)))) ?_ rfl ⟨rfl, below_setRow J5.out (Nat.le_refl _) _⟩
      rw [HT.out]
      exact results_cell_row rfl _ _ w.heap.size 40 (cellsU (mat (n + n))) (0, 0) _ rfl (setRow_heap _ _ _ _ _ _ J2.out) Try.underlying40 rfl (by rw [info40s, cellsU_size, mat_length])

/-- how far 'afterNoughts' is: the number that is left, the matrix of p shifts, the register -/
def Far (p n r t : Nat) : Prop := it (p * n) r = t
theorem Far.odd {p n r t : Nat} (h : Far p n r t) (ho : n % 2 = 1) : Far (p + p) (n / 2) (it p r) t := by
  unfold Far at *
  rw [← h, ← it_add]
  congr 1
  have e : n = 2 * (n / 2) + 1 := by omega
  generalize n / 2 = q at *
  subst e
  rw [Nat.mul_add, Nat.mul_one, Nat.add_mul, ← Nat.mul_assoc, Nat.mul_comm p 2, Nat.mul_assoc]
  omega
theorem Far.even {p n r t : Nat} (h : Far p n r t) (ho : ¬ n % 2 = 1) : Far (p + p) (n / 2) r t := by
  unfold Far at *
  rw [← h]
  congr 1
  have e : n = 2 * (n / 2) := by omega
  generalize n / 2 = q at *
  subst e
  rw [Nat.add_mul, ← Nat.mul_assoc, Nat.mul_comm p 2, Nat.mul_assoc]
  omega
theorem Far.stop {p r t : Nat} (h : Far p 0 r t) : r = t := by
  unfold Far at h
  rwa [Nat.mul_zero, it_0] at h

set_option maxRecDepth 100000 in
set_option maxHeartbeats 400000 in
theorem after_any (r nn : Int) (m n : Nat) (w : World) (hr : U r m) (hn : n = nn.toNat) (hlo : -9223372036854775808 ≤ nn) (hhi : nn ≤ 9223372036854775807) :
    Calls Try.prog 15 #[.int .u32 r, .int .i64 nn] w (TellsN (it (8 * n) m) w) := by
  have hz40 := (zero_of_info info40).1
  have h0 := hr.lo
  have h1 := hr.hi
  have HR := Lib.hid hr
  have HN := Lib.hid hn
  clear hr hn
  go_enter Try.func15, Try.ntmps15
  go_wp2_with (first
    | (go_at_call 17; refine (oneNought_any _).mono ?_; rintro e w1 ⟨rfl, hbel⟩; have HW := Lib.hid hbel; clear hbel)
    | (refine wpList_store_row rfl 40 (.tmp 5) (.tmp 6) rfl _ (cellsU (mat 8)) rfl rfl 40 (cellsU (List.replicate 32 0)) (heap_alloc_new _ _) (by rw [info40s, cellsU_size, mat_length]) (by rw [cellsU_size, cellsU_size, mat_length, List.length_replicate]) (cellsU_one _) ?_; rw [World.setRow_alloc_new]))
  have HS : Hid (w.heap.size ≤ w1.heap.size) := HW.out.size
  go_frame
  go_loopw [0, 1] (fun a b wr => ∃ (p : Nat) (rv nv : Int) (m' n' : Nat), a = .int .u32 rv ∧ b = .int .i64 nv ∧ U rv m' ∧ n' = nv.toNat ∧ nv ≤ 9223372036854775807 ∧ -9223372036854775808 ≤ nv ∧ Far p n' m' (it (8 * n) m) ∧ wr.heap[w1.heap.size]? = some (.cells (cellsU (mat p)) 40 (0, 0)) ∧ Below w.heap.size w wr) (fun _ b _ => (intOf b).toNat)
  case atStart => exact ⟨8, _, _, m, n, rfl, rfl, HR.out, HN.out, hhi, hlo, rfl, heap_alloc_new _ _, HW.out.alloc HS.out _⟩
  case round =>
    obtain ⟨p, rv, nv, m', n', rfl, rfl, hu, hn', hv1, hv0, hf, hg, hbel⟩ := hrel
    have hr0 := hu.lo
    have hr1 := hu.hi
    have J1 := Lib.hid hu
    have J2 := Lib.hid hn'
    have J3 := Lib.hid hf
    have J4 := Lib.hid hg
    have J5 := Lib.hid hbel
    clear hu hn' hf hg hbel
    by_cases hpos : 0 < nv
    · by_cases ho : nv % 2 = 1
      · have ht : (nv % 2 == 1) = true := by simp; exact ho
        have H3 := Lib.hid (J3.out.odd (by have := J2.out; omega))
        have H2 : Hid (n' / 2 = (nv / 2).toNat) := by have := J2.out; show _ = _; omega
        have hs := HS.out
        clear ho
        go_wp2_with (first
          | (go_at_call 18; refine (times_any _ (mat p) _ _ _ _ _ J4.out (mat_length p) (fun i hi => mat_lt p i hi) J1.out).mono ?_; rintro e w2 ⟨r2, rfl, hu, rfl⟩; have HU := Lib.hid (hu.eq (tm_mat p m' J1.out.2)); have hr20 := hu.lo; have hr21 := hu.hi; clear hu)
          | (go_at_call 19; refine (squared_any _ p _ _ J4.out).mono ?_; rintro e w3 ⟨rfl, hbel3⟩; have HB3 := Lib.hid hbel3; have J43 := Lib.hid ((hbel3.block _ (lt_of_block J4.out)).trans J4.out); clear hbel3)
          | (refine wpList_store_row rfl 40 (.tmp 5) (.tmp 16) rfl _ (cellsU (mat (p + p))) rfl rfl 40 (cellsU (mat p)) J43.out (by rw [info40s, cellsU_size, mat_length]) (by rw [cellsU_size, cellsU_size, mat_length, mat_length]) (cellsU_one _) ?_))
        go_roundw
        case rel => exact ⟨p + p, _, _, _, _, rfl, rfl, HU.out, H2.out, by omega, by omega, H3.out, setRow_heap _ _ _ _ _ _ J43.out, below_setRow (J5.out.trans (HB3.out.mono J5.out.size)) hs _⟩
        case measure => simp [intOf]; omega
      · have ht : (nv % 2 == 1) = false := by simp; exact ho
        have H3 := Lib.hid (J3.out.even (by have := J2.out; omega))
        have H2 : Hid (n' / 2 = (nv / 2).toNat) := by have := J2.out; show _ = _; omega
        have hs := HS.out
        clear ho
        go_wp2_with (first
          | (go_at_call 19; refine (squared_any _ p _ _ J4.out).mono ?_; rintro e w3 ⟨rfl, hbel3⟩; have HB3 := Lib.hid hbel3; have J43 := Lib.hid ((hbel3.block _ (lt_of_block J4.out)).trans J4.out); clear hbel3)
          | (refine wpList_store_row rfl 40 (.tmp 5) (.tmp 16) rfl _ (cellsU (mat (p + p))) rfl rfl 40 (cellsU (mat p)) J43.out (by rw [info40s, cellsU_size, mat_length]) (by rw [cellsU_size, cellsU_size, mat_length, mat_length]) (cellsU_one _) ?_))
        go_roundw
        case rel => exact ⟨p + p, _, _, _, _, rfl, rfl, J1.out, H2.out, by omega, by omega, H3.out, setRow_heap _ _ _ _ _ _ J43.out, below_setRow (J5.out.trans (HB3.out.mono J5.out.size)) hs _⟩
        case measure => simp [intOf]; omega
    · have HT := Lib.hid (J1.out.eq (Far.stop (p := p) (by have := J2.out; have h := J3.out; rw [show n' = 0 from by omega] at h; exact h)))
      go_wp2
      go_ret
      exact ⟨_, rfl, HT.out, J5.out⟩

set_option maxHeartbeats 400000 in
theorem noughts_any (c nn : Int) (m n : Nat) (w : World) (hc : U c m) (hn : n = nn.toNat) (hlo : -9223372036854775808 ≤ nn) (hhi : nn ≤ 9223372036854775807) :
    Calls Try.prog 12 #[.int .u32 c, .int .i64 nn] w (TellsN (nt (it (8 * n) (nt m))) w) := by
  have HC := Lib.hid hc
  have HN := Lib.hid hn
  have h0 := hc.lo
  have h1 := hc.hi
  clear hc hn
  go_enter Try.func12, Try.ntmps12
  go_wp2_with (go_at_call 15; refine (after_any _ _ _ n _ HC.out.not HN.out hlo hhi).mono ?_; rintro e w1 ⟨r, rfl, hu, hbel⟩; have HU := Lib.hid hu.not; have HW := Lib.hid hbel; have hr0 := hu.lo; have hr1 := hu.hi; clear hu hbel)
  go_ret
  exact ⟨_, rfl, HU.out, HW.out⟩

set_option maxHeartbeats 400000 in
theorem join_any (a b nn : Int) (p q n : Nat) (w : World) (ha : U a p) (hb : U b q) (hn : n = nn.toNat) (hlo : -9223372036854775808 ≤ nn) (hhi : nn ≤ 9223372036854775807) :
    Calls Try.prog 11 #[.int .u32 a, .int .u32 b, .int .i64 nn] w (TellsN (it (8 * n) p ^^^ q) w) := by
  have HA := Lib.hid ha
  have HB := Lib.hid hb
  have HN := Lib.hid hn
  have h0 := ha.lo
  have h1 := ha.hi
  have h2 := hb.lo
  have h3 := hb.hi
  clear ha hb hn
  go_enter Try.func11, Try.ntmps11
  go_wp2_with (go_at_call 15; refine (after_any _ _ _ n _ HA.out HN.out hlo hhi).mono ?_; rintro e w1 ⟨r, rfl, hu, hbel⟩; have HU := Lib.hid (hu.xor HB.out); have HW := Lib.hid hbel; have hr0 := hu.lo; have hr1 := hu.hi; clear hu hbel)
  go_ret
  exact ⟨_, rfl, HU.out, HW.out⟩
end Go.Proofs.Ytcgajgjkalhdhaa
