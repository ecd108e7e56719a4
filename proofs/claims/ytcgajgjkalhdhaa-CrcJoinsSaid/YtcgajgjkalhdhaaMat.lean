/-
  The walks of crc's matrices: oneNought, times, squared, afterNoughts; and of Noughts and Join.
-/
import Derived.Test.YtcgajgjkalhdhaaMore
import Derived.Deep.QuietTactic
import Derived.BigQuiet
namespace Go.Proofs.Ytcgajgjkalhdhaa
open Go.RowKit CrcM

theorem info40 : (Try.prog.info? 40).map (fun i => (i.zero, i.size)) = some (some (.agg (cellsU (List.replicate 32 0))), 32) := by kernel_rfl
theorem info40s : (Try.prog.info? 40).map (·.size) = some 32 := (zero_of_info info40).2

/-- the rows of the first k bits are right -/
def Part (f : Nat → Nat) (k : Nat) (ms : List Nat) : Prop := ms.length = 32 ∧ ∀ i, i < k → ms.getD i 0 = f i
theorem Part.put {f : Nat → Nat} {k : Nat} {ms : List Nat} (h : Part f k ms) (hk : k < 32) {r : Int} (hr : U r (f k)) :
    ∃ ms', (cellsU ms).setIfInBounds k (.int .u32 r) = cellsU ms' ∧ Part f (k + 1) ms' := by
  refine ⟨ms.set k (f k), cellsU_set _ _ _ _ hr.1, by rw [List.length_set]; exact h.1, fun i hi => ?_⟩
  rw [List.getD_eq_getElem?_getD, List.getElem?_set]
  split
  · rename_i e
    subst e
    simp [h.1, hk]
  · rw [← List.getD_eq_getElem?_getD]; exact h.2 i (by omega)
theorem Part.all {n : Nat} {ms : List Nat} (h : Part (fun i => it n (2 ^ i)) 32 ms) : ms = mat n := by
  apply List.ext_getElem
  · rw [h.1, mat_length]
  · intro i h1 h2
    have a : ms.getD i 0 = it n (2 ^ i) := h.2 i (by rw [h.1] at h1; exact h1)
    have b := mat_get n i (by rw [h.1] at h1; exact h1)
    rw [← b] at a
    simpa [List.getD, h1, h2] using a

/-- it answers the matrix of n shifts, and writes nothing that was there -/
def TellsMat (n : Nat) (w : World) (e : Ending) (w' : World) : Prop := e = .returned (.agg (cellsU (mat n))) ∧ Below w.heap.size w w'

theorem bit_in {rv : Int} {n : Nat} (hu : U rv n) :
    ∃ tv : Int, 0 ≤ rv % 256 ∧ rv % 256 < 256 ∧ (cellsU tab)[(rv % 256).toNat]? = some (.int .u32 tv) ∧ 0 ≤ tv ∧ tv < 4294967296 ∧ U (bits .xor .u32 (rv / 256) tv) (s8 n) := by
  obtain ⟨rfl, hn⟩ := hu
  have hlt : n % 256 < 256 := by omega
  have ht : s8 (n % 256) < top := s8_lt _ (by unfold top; omega)
  refine ⟨((s8 (n % 256) : Nat) : Int), by omega, by omega, ?_, ?_, ?_, ?_⟩
  · rw [show ((n : Int) % 256).toNat = n % 256 from by omega, cellsU_get _ _ (by rw [tab_length]; exact hlt), tab_get _ hlt]
  · exact Int.natCast_nonneg _
  · unfold top at ht; omega
  · have hq : U ((n : Int) / 256) (n / 256) := ⟨rfl, by unfold top at *; omega⟩
    exact (hq.xor (U.mk _ ht)).eq (s8_split n)

set_option maxRecDepth 100000 in
set_option maxHeartbeats 400000 in
theorem oneNought_any (w : World) : Calls Try.prog 17 #[] w (TellsMat 8 w) := by
  have hz35 := (zero_of_info info35).1
  have hz40 := (zero_of_info info40).1
  obtain ⟨Z, hZ⟩ : ∃ Z, Z = cellsU (List.replicate 32 0) := ⟨_, rfl⟩
  rw [← hZ] at hz40
  have HZ := Lib.hid hZ
  clear hZ
  go_enter Try.func17, Try.ntmps17
  go_wp2_with (first
    | (go_at_call 14; refine (newTable_any _).mono ?_; rintro e w1 ⟨rfl, hbel⟩; have HW := Lib.hid hbel; clear hbel)
    | (refine wpList_store_row rfl 35 (.tmp 1) (.tmp 5) rfl _ (cellsU tab) rfl rfl 35 (cellsU (List.replicate 256 0)) (heap_alloc_new _ _) (by rw [info35s, cellsU_size, tab_length]) (by rw [cellsU_size, cellsU_size, tab_length, List.length_replicate]) (cellsU_one _) ?_; rw [World.setRow_alloc_new]))
  have HG0 : Hid (w1.heap[w.heap.size]? = some (.cells Z 40 (0, 0))) := by
    show _ = _
    rw [HW.out.block w.heap.size (by simp)]; exact heap_alloc_new _ _
  have HS : Hid (w.heap.size + 1 ≤ w1.heap.size) := by have := HW.out.size; show _ ≤ _; simp at this; omega
  have HBW : Hid (Below w.heap.size w w1) := ((Below.refl _ _).alloc (Nat.le_refl _) _).trans (HW.out.mono (by simp))
  go_loopw [3, 4, 6] (fun a b i wr => ∃ (k : Nat) (ms : List Nat), k ≤ 32 ∧ i = .int .i64 k ∧ Part (fun i => it 8 (2 ^ i)) k ms ∧ wr.heap[w.heap.size]? = some (.cells Z 40 (0, 0)) ∧ wr.heap[w1.heap.size]? = some (.cells (cellsU tab) 35 (0, 0)) ∧ wr.heap[w1.heap.size + 1]? = some (.cells (cellsU ms) 40 (0, 0)) ∧ Below w.heap.size w wr) (fun _ _ i _ => 32 - (intOf i).toNat)
  case atStart =>
    have hs := HS.out
    refine ⟨0, List.replicate 32 0, by omega, rfl, ⟨by rw [List.length_replicate], fun i hi => by omega⟩, ?_, heap_alloc2_old _ _ _, by rw [← HZ.out]; exact heap_alloc2_new _ _ _, ?_⟩
    · rw [Go.heap_alloc_old _ _ (by simp; omega), Go.heap_alloc_old _ _ (by omega)]; exact HG0.out
    · exact (HBW.out.alloc (by omega) _).alloc (by simp; omega) _
  case round =>
    obtain ⟨k, ms, hk, rfl, hp, hg0, hg1, hg2, hbel⟩ := hrel
    have J1 := Lib.hid hp
    have J2 := Lib.hid hg0
    have J3 := Lib.hid hg1
    have J4 := Lib.hid hg2
    have J5 := Lib.hid hbel
    clear hp hg0 hg1 hg2 hbel
    by_cases hlt : k < 32
    · have hu : U ((2 : Int) ^ k) (2 ^ k) := ⟨by simp, two_lt k hlt⟩
      obtain ⟨tv, q0, q1, q2, q3, q4, hun⟩ := bit_in hu
      have hA : wr.cell? ⟨w1.heap.size, ((2 : Int) ^ k % 256).toNat, none⟩ = some (.int .u32 tv) := by
        rw [cell_of_row _ _ _ _ _ _ J3.out]; exact q2
      have hB : wr.cell? ⟨w1.heap.size + 1, k, none⟩ = some (.int .u32 (ms.getD k 0 : Nat)) := by
        rw [cell_of_row _ _ _ _ _ _ J4.out]; exact cellsU_get _ _ (by have := J1.out.1; omega)
      generalize ((ms.getD k 0 : Nat) : Int) = v2 at hB
      have hF : wr.frozen? ⟨w1.heap.size + 1, k, none⟩ = false := frozen_of_row _ _ _ _ _ J4.out
      obtain ⟨ms2, e2, h2⟩ := J1.out.put hlt (hun.eq (s8_eq (2 ^ k)))
      have HMOD := Lib.hid (show (2 : Int) ^ k % 4294967296 = 2 ^ k from Int.emod_eq_of_lt hu.lo hu.hi)
      have HE := Lib.hid e2
      have HP := Lib.hid h2
      have hs := HS.out
      clear hu hun q2 q3 q4 e2 h2
      go_wp2
      go_roundw
      case rel => exact ⟨k + 1, ms2, by omega, by go_num, HP.out, by rw [heap_setCell_other _ _ _ _ (by simp; omega)]; exact J2.out, by rw [heap_setCell_other _ _ _ _ (by simp)]; exact J3.out, by rw [HMOD.out, heap_setCell_same _ _ _ _ _ _ J4.out, HE.out], J5.out.setCell (by simp; omega) _⟩
      case measure => simp [intOf]; omega
    · obtain rfl : k = 32 := by omega
      have HT := Lib.hid J1.out.all
      go_wp2_with (first
        | (refine wpList_load_row rfl 40 (.tmp 2) rfl (w1.heap.size + 1) rfl 40 (cellsU ms) (0, 0) _ J4.out Try.underlying40 rfl (by rw [info40s, HT.out, cellsU_size, mat_length]) ?_)
        | (refine wpList_store_row rfl 40 (.tmp 0) (.tmp 21) rfl w.heap.size (cellsU ms) rfl rfl 40 Z J2.out (by rw [info40s, HT.out, cellsU_size, mat_length]) (by rw [HZ.out, HT.out, cellsU_size, cellsU_size, mat_length, List.length_replicate]) (cellsU_one _) ?_))
      refine bodyPost_ret (v := .agg (cellsU (mat 8))) ?_ rfl ⟨rfl, below_setRow J5.out (Nat.le_refl _) _⟩
      rw [HT.out]
      exact results_cell_row rfl _ _ w.heap.size 40 (cellsU (mat 8)) (0, 0) _ rfl (setRow_heap _ _ _ _ _ _ J2.out) Try.underlying40 rfl (by rw [info40s, cellsU_size, mat_length])

theorem tm_step (ms : List Nat) (i n : Nat) (h : i < ms.length) : tm (ms.drop i) n = (if n % 2 = 1 then ms.getD i 0 else 0) ^^^ tm (ms.drop (i + 1)) (n / 2) := by
  rw [List.drop_eq_getElem_cons h]
  simp [tm, List.getD, h]

/-- how far 'times' is: the rows behind i are left, and the bits n -/
def Way (ms : List Nat) (i s n t : Nat) : Prop := i ≤ 32 ∧ n < 2 ^ (32 - i) ∧ s ^^^ tm (ms.drop i) n = t
theorem Way.start (ms : List Nat) (n : Nat) (h : n < top) : Way ms 0 0 n (tm ms n) := ⟨by omega, h, by rw [Nat.zero_xor, List.drop_zero]⟩
theorem Way.room {ms : List Nat} {i s n t : Nat} (h : Way ms i s n t) (hn : n ≠ 0) : i < 32 := by
  rcases Nat.lt_or_ge i 32 with h' | h'
  · exact h'
  · have := h.2.1
    rw [show 32 - i = 0 from by omega] at this
    omega
theorem Way.odd {ms : List Nat} {i s n t : Nat} (h : Way ms i s n t) (hl : ms.length = 32) (hn : n ≠ 0) (ho : n % 2 = 1) : Way ms (i + 1) (s ^^^ ms.getD i 0) (n / 2) t := by
  have hi := h.room hn
  obtain ⟨h1, h2, h3⟩ := h
  refine ⟨by omega, ?_, ?_⟩
  · rw [show 32 - i = (32 - (i + 1)) + 1 from by omega, Nat.pow_succ] at h2; omega
  · rw [tm_step ms i n (by omega), if_pos ho, ← Nat.xor_assoc] at h3; exact h3
theorem Way.even {ms : List Nat} {i s n t : Nat} (h : Way ms i s n t) (hl : ms.length = 32) (hn : n ≠ 0) (ho : ¬ n % 2 = 1) : Way ms (i + 1) s (n / 2) t := by
  have hi := h.room hn
  obtain ⟨h1, h2, h3⟩ := h
  refine ⟨by omega, ?_, ?_⟩
  · rw [show 32 - i = (32 - (i + 1)) + 1 from by omega, Nat.pow_succ] at h2; omega
  · rw [tm_step ms i n (by omega), if_neg ho, Nat.zero_xor] at h3; exact h3
theorem Way.stop {ms : List Nat} {i s t : Nat} (h : Way ms i s 0 t) : s = t := by
  have := h.2.2
  rwa [tm_zero, Nat.xor_zero] at this

set_option maxRecDepth 100000 in
set_option maxHeartbeats 400000 in
theorem times_any (g : Nat) (ms : List Nat) (fr : Nat × Nat) (t : TypeId) (r : Int) (n : Nat) (w : World) (hg : w.heap[g]? = some (.cells (cellsU ms) t fr)) (hl : ms.length = 32) (hm : ∀ i, i < 32 → ms.getD i 0 < top) (hr : U r n) :
    Calls Try.prog 18 #[.pointer (some ⟨g, 0, none⟩), .int .u32 r] w (TellsU (tm ms n) w) := by
  have h0 := hr.lo
  have h1 := hr.hi
  have HG := Lib.hid hg
  have HL := Lib.hid hl
  have HM := Lib.hid hm
  have HR := Lib.hid hr
  clear hg hl hm hr
  go_enter Try.func18, Try.ntmps18
  go_wp2
  go_loop [1, 5, 6] (fun a b i => ∃ (k : Nat) (rv sv : Int) (n' s' : Nat), k ≤ 32 ∧ i = .int .i64 k ∧ a = .int .u32 rv ∧ b = .int .u32 sv ∧ U rv n' ∧ U sv s' ∧ Way ms k s' n' (tm ms n)) (fun a _ _ => (intOf a).toNat)
  case atStart => exact ⟨0, _, _, n, 0, by omega, rfl, rfl, rfl, HR.out, ⟨rfl, by decide⟩, Way.start ms n HR.out.2⟩
  case round =>
    obtain ⟨k, rv, sv, n', s', hk, rfl, rfl, rfl, hu, hs, hw⟩ := hrel
    have hr0 := hu.lo
    have hr1 := hu.hi
    have hs0 := hs.lo
    have hs1 := hs.hi
    by_cases hz : n' = 0
    · have hrz : rv = 0 := by rw [hu.1, hz]; rfl
      subst hz
      have HT := Lib.hid (hs.eq hw.stop)
      subst hrz
      clear hu hs hw
      go_wp2
      go_ret
      exact ⟨_, rfl, HT.out, rfl⟩
    · have hne : (rv != 0) = true := by rw [hu.1]; simp; exact hz
      have hne2 : (rv == 0) = false := by rw [hu.1]; simp; exact hz
      have hpos : 0 < rv := by rw [hu.1]; omega
      have hki := hw.room hz
      by_cases ho : n' % 2 = 1
      · have ht : (bits .and .u32 rv 1 == 1) = true := by rw [hu.odd, ho]; rfl
        have hcell : w.cell? ⟨g, k, none⟩ = some (.int .u32 (ms.getD k 0 : Nat)) := by
          rw [cell_of_row _ _ _ _ _ _ HG.out]; exact cellsU_get _ _ (by rw [HL.out]; exact hki)
        have hx : U (ms.getD k 0 : Nat) (ms.getD k 0) := U.mk _ (HM.out k hki)
        generalize hv : ((ms.getD k 0 : Nat) : Int) = v at hcell hx
        have hv0 := hx.lo
        have hv1 := hx.hi
        have HN := Lib.hid (hw.odd HL.out hz ho)
        have H1 := Lib.hid hu.half
        have H2 := Lib.hid (hs.xor hx)
        clear hu hs hw ho hz hx hv
        go_wp2
        go_round
        case rel => exact ⟨k + 1, _, _, _, _, by omega, by go_num, rfl, rfl, H1.out, H2.out, HN.out⟩
        case measure => simp [intOf]; omega
      · have ht : (bits .and .u32 rv 1 == 1) = false := by rw [hu.odd]; simp; omega
        have HN := Lib.hid (hw.even HL.out hz ho)
        have H1 := Lib.hid hu.half
        have H2 := Lib.hid hs
        clear hu hs hw ho hz
        go_wp2
        go_round
        case rel => exact ⟨k + 1, _, _, _, _, by omega, by go_num, rfl, rfl, H1.out, H2.out, HN.out⟩
        case measure => simp [intOf]; omega
end Go.Proofs.Ytcgajgjkalhdhaa
