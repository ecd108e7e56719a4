/-
  The walk of crc's newTable: it answers the table of what each byte does, and writes nothing that was there.
-/
import Derived.Test.YthlmjadknklafaaDoorLeaf
import Derived.Deep.WholeRow
import Derived.Deep.LoopGhost
namespace Go.Proofs.YthlmjadknklafaaDoor
open Go.RowKit CrcM

def cellsU (ts : List Nat) : Array Value := (ts.map fun (n : Nat) => Value.int .u32 ((n : Nat) : Int)).toArray
theorem cellsU_size (ts : List Nat) : (cellsU ts).size = ts.length := by simp [cellsU]
theorem cellsU_get (ts : List Nat) (i : Nat) (h : i < ts.length) : (cellsU ts)[i]? = some (.int .u32 (ts.getD i 0 : Nat)) := by
  simp [cellsU, h, List.getD]
theorem cellsU_set (ts : List Nat) (i n : Nat) (r : Int) (hr : r = (n : Int)) : (cellsU ts).setIfInBounds i (.int .u32 r) = cellsU (ts.set i n) := by
  subst hr
  simp [cellsU, List.map_set]
theorem cellsU_one (ts : List Nat) : (cellsU ts).all (·.oneCell') = true := by
  simp [cellsU, Value.oneCell']

theorem below_setRow {B : Nat} {a w : World} (h : Below B a w) {g : Nat} (hg : B ≤ g) (cs : Array Value) : Below B a (w.setRow g cs) :=
  ⟨h.os, h.tape, h.output, by rw [setRow_size]; exact h.size, fun k hk => (setRow_other w g k cs (by omega)).trans (h.block k hk)⟩

theorem info35 : (Tryd.prog.info? 97).map (fun i => (i.zero, i.size)) = some (some (.agg (cellsU (List.replicate 256 0))), 256) := by kernel_rfl

/-- how far the doublings are: the bit that comes next -/
def Bit (k : Nat) (b : Int) : Prop := (k < 8 ∧ b = ((2 ^ (7 - k) : Nat) : Int)) ∨ (k = 8 ∧ b = 0)
theorem Bit.lo {k : Nat} {b : Int} (h : Bit k b) : 0 ≤ b := by
  rcases h with ⟨_, rfl⟩ | ⟨_, rfl⟩
  · exact Int.natCast_nonneg _
  · omega
theorem Bit.hi {k : Nat} {b : Int} (h : Bit k b) : b ≤ 128 := by
  rcases h with ⟨_, rfl⟩ | ⟨_, rfl⟩
  · have : 2 ^ (7 - k) ≤ 2 ^ 7 := Nat.pow_le_pow_right (by omega) (by omega)
    omega
  · omega
theorem Bit.pos {k : Nat} {b : Int} (h : Bit k b) (hk : k < 8) : 0 < b := by
  rcases h with ⟨_, rfl⟩ | ⟨_, rfl⟩
  · have := Nat.two_pow_pos (7 - k); omega
  · omega
theorem Bit.none {k : Nat} {b : Int} (h : Bit k b) (hk : ¬ k < 8) : b = 0 ∧ k = 8 := by
  rcases h with ⟨_, rfl⟩ | ⟨_, rfl⟩
  · omega
  · omega
theorem Bit.first : Bit 0 128 := .inl ⟨by omega, rfl⟩
theorem Bit.next {k : Nat} {b : Int} (h : Bit k b) (hk : k < 8) : Bit (k + 1) (b / 2) := by
  rcases h with ⟨_, rfl⟩ | ⟨_, rfl⟩
  · by_cases h7 : k = 7
    · subst h7; exact .inr ⟨rfl, rfl⟩
    · refine .inl ⟨by omega, ?_⟩
      rw [show 7 - k = (7 - (k + 1)) + 1 from by omega, Nat.pow_succ]
      omega
  · omega
/-- the place of the inner loop -/
def Ix (k j : Nat) (i : Int) : Prop := j ≤ 2 ^ k ∧ i = ((2 ^ (8 - k) * j : Nat) : Int)
theorem Ix.first (k : Nat) : Ix k 0 0 := ⟨Nat.zero_le _, by simp⟩
theorem Ix.lo {k j : Nat} {i : Int} (h : Ix k j i) : 0 ≤ i := by rw [h.2]; omega
theorem Ix.hi {k j : Nat} {i : Int} (h : Ix k j i) (hk : k < 8) : i ≤ 256 := by
  rw [h.2]
  have : 2 ^ (8 - k) * j ≤ 2 ^ (8 - k) * 2 ^ k := Nat.mul_le_mul_left _ h.1
  rw [← Nat.pow_add, show 8 - k + k = 8 from by omega] at this
  omega
theorem Ix.on {k j : Nat} {i : Int} (h : Ix k j i) (hk : k < 8) : i < 256 ↔ j < 2 ^ k := by
  have e : 2 ^ (8 - k) * 2 ^ k = 256 := by rw [← Nat.pow_add, show 8 - k + k = 8 from by omega]
  have hp := Nat.two_pow_pos (8 - k)
  rw [h.2]
  constructor
  · intro hi
    have h2 : 2 ^ (8 - k) * j < 2 ^ (8 - k) * 2 ^ k := by omega
    exact Nat.lt_of_mul_lt_mul_left h2
  · intro hj
    have h2 := Nat.mul_lt_mul_of_pos_left hj hp
    omega
theorem Ix.room {k j : Nat} {i b : Int} (h : Ix k j i) (hb : Bit k b) (hk : k < 8) (hj : j < 2 ^ k) : i + b < 256 := by
  have e : 2 ^ (8 - k) * 2 ^ k = 256 := by rw [← Nat.pow_add, show 8 - k + k = 8 from by omega]
  have e8 : 2 ^ (8 - k) = 2 * 2 ^ (7 - k) := by rw [show 8 - k = (7 - k) + 1 from by omega, Nat.pow_succ, Nat.mul_comm]
  have h2 := Nat.mul_le_mul_left (2 ^ (8 - k)) hj
  rw [Nat.mul_succ] at h2
  have hp := Nat.two_pow_pos (7 - k)
  rcases hb with ⟨_, rfl⟩ | ⟨_, rfl⟩
  · rw [h.2]; omega
  · omega
theorem Ix.next {k j : Nat} {i b : Int} (h : Ix k j i) (hb : Bit k b) (hk : k < 8) (hj : j < 2 ^ k) : Ix k (j + 1) (i + 2 * b) := by
  have e8 : 2 ^ (8 - k) = 2 * 2 ^ (7 - k) := by rw [show 8 - k = (7 - k) + 1 from by omega, Nat.pow_succ, Nat.mul_comm]
  refine ⟨by omega, ?_⟩
  rcases hb with ⟨_, rfl⟩ | ⟨_, rfl⟩
  · rw [h.2, Nat.mul_succ]; omega
  · omega

theorem half_at {k j : Nat} {i : Int} {ts : List Nat} (h : half k j ts) (hi : Ix k j i) (hlt : i < 256) : ts.getD i.toNat 0 = s8 i.toNat := by
  have e : i.toNat = 2 ^ (8 - k) * j := by rw [hi.2]; exact Int.toNat_natCast _
  exact h.2.1 i.toNat (by omega) (by rw [e]; exact Nat.mul_mod_right _ _)

theorem half_put {k j : Nat} {i b r : Int} {ts : List Nat} (h : half k j ts) (hi : Ix k j i) (hb : Bit k b) (hk : k < 8) (hj : j < 2 ^ k) (hr : U r (sh (it k 1))) (v : Int) (hv : U v (ts.getD i.toNat 0)) :
    ∃ ts', (cellsU ts).setIfInBounds (i + b).toNat (.int .u32 (bits .xor .u32 v r)) = cellsU ts' ∧ half k (j + 1) ts' := by
  have e : i.toNat = 2 ^ (8 - k) * j := by rw [hi.2]; exact Int.toNat_natCast _
  have eb : (i + b).toNat = 2 ^ (8 - k) * j + 2 ^ (7 - k) := by
    rcases hb with ⟨_, rfl⟩ | ⟨_, rfl⟩
    · rw [hi.2, ← Int.natCast_add]; exact Int.toNat_natCast _
    · omega
  have hs := half_step k j hk hj ts h
  refine ⟨_, ?_, hs⟩
  rw [eb]
  refine cellsU_set _ _ _ _ ?_
  have := (hv.xor hr).1
  rw [this, e, it_succ]

theorem info35s : (Tryd.prog.info? 97).map (·.size) = some 256 := (zero_of_info info35).2

/-- it answers the table, and writes nothing that was there -/
def TellsTable (w : World) (e : Ending) (w' : World) : Prop := e = .returned (.agg (cellsU tab)) ∧ Below w.heap.size w w'

set_option maxRecDepth 100000 in
set_option maxHeartbeats 400000 in
theorem newTable_any (w : World) :
    Calls Tryd.prog 38 #[] w (TellsTable w) := by
  have hz35 := (zero_of_info info35).1
  obtain ⟨Z, hZ⟩ : ∃ Z, Z = cellsU (List.replicate 256 0) := ⟨_, rfl⟩
  rw [← hZ] at hz35
  have HZ := Lib.hid hZ
  clear hZ
  go_enter Tryd.func38, Tryd.ntmps38
  go_wp2
  go_loopw [2, 3, 4] (fun r b i wr => ∃ (k : Nat) (rv bv : Int) (ts : List Nat), r = .int .u32 rv ∧ b = .int .i64 bv ∧ U rv (it k 1) ∧ Bit k bv ∧ half k 0 ts ∧ wr.heap[w.heap.size]? = some (.cells Z 97 (0, 0)) ∧ wr.heap[w.heap.size + 1]? = some (.cells (cellsU ts) 97 (0, 0)) ∧ Below w.heap.size w wr) (fun _ b _ _ => (intOf b).toNat)
  case atStart => exact ⟨0, 1, 128, List.replicate 256 0, rfl, rfl, ⟨by rw [it_0]; rfl, by rw [it_0]; decide⟩, Bit.first, half_start, heap_alloc2_old _ _ _, by rw [← HZ.out]; exact heap_alloc2_new _ _ _, ((Below.refl _ _).alloc (Nat.le_refl _) _).alloc (by simp) _⟩
  case round =>
    obtain ⟨k, rv, bv, ts, rfl, rfl, hu, hbit, hhalf, hg0, hg1, hbel⟩ := hrel
    have hb0 := hbit.lo
    have hb1 := hbit.hi
    have H1 := Lib.hid hbit
    have H2 := Lib.hid hhalf
    have H3 := Lib.hid hg0
    have H4 := Lib.hid hg1
    have H5 := Lib.hid hbel
    have H6 := Lib.hid hu
    have hr0 := hu.lo
    have hr1 := hu.hi
    clear hbit hhalf hg0 hg1 hbel hu
    by_cases hk : k < 8
    · have hpos := H1.out.pos hk
      go_wp2_with ((go_at_call 40; refine (shifted_any _ _ _ H6.out).mono ?_; rintro e w' ⟨r, rfl, hu, rfl⟩; have H7 := Lib.hid hu; clear hu))
      obtain ⟨wo, rfl⟩ : ∃ wo : World, wo = wr := ⟨_, rfl⟩
      have hq0 := H7.out.lo
      have hq1 := H7.out.hi
      go_loopw [4] (fun i wi => ∃ (j : Nat) (iv : Int) (ts' : List Nat), i = .int .i64 iv ∧ Ix k j iv ∧ half k j ts' ∧ wi.heap[w.heap.size]? = some (.cells Z 97 (0, 0)) ∧ wi.heap[w.heap.size + 1]? = some (.cells (cellsU ts') 97 (0, 0)) ∧ Below w.heap.size w wi) (fun i _ => (256 - intOf i).toNat)
      case atStart => exact ⟨0, 0, ts, rfl, Ix.first k, H2.out, H3.out, H4.out, H5.out⟩
      case round =>
        obtain ⟨j, iv, ts', rfl, hix, hhalf, hg0, hg1, hbel⟩ := hrel
        have hi0 := hix.lo
        have hi1 := hix.hi hk
        have J1 := Lib.hid hix
        have J2 := Lib.hid hhalf
        have J3 := Lib.hid hg0
        have J4 := Lib.hid hg1
        have J5 := Lib.hid hbel
        clear hix hhalf hg0 hg1 hbel
        by_cases hlt : iv < 256
        · have hj := (J1.out.on hk).1 hlt
          have hroom := J1.out.room H1.out hk hj
          have hlen := J2.out.1
          have hA : wr.cell? ⟨w.heap.size + 1, iv.toNat, none⟩ = some (.int .u32 (ts'.getD iv.toNat 0 : Nat)) := by
            rw [cell_of_row _ _ _ _ _ _ J4.out]; exact cellsU_get _ _ (by omega)
          have hB : wr.cell? ⟨w.heap.size + 1, (iv + bv).toNat, none⟩ = some (.int .u32 (ts'.getD (iv + bv).toNat 0 : Nat)) := by
            rw [cell_of_row _ _ _ _ _ _ J4.out]; exact cellsU_get _ _ (by omega)
          have hF : wr.frozen? ⟨w.heap.size + 1, (iv + bv).toNat, none⟩ = false := frozen_of_row _ _ _ _ _ J4.out
          have hU : U (ts'.getD iv.toNat 0 : Nat) (ts'.getD iv.toNat 0) := ⟨rfl, by rw [half_at J2.out J1.out hlt]; exact s8_lt _ (by unfold top; omega)⟩
          generalize hv : ((ts'.getD iv.toNat 0 : Nat) : Int) = v at hA hU
          generalize ((ts'.getD (iv + bv).toNat 0 : Nat) : Int) = v2 at hB
          have hv0 := hU.lo
          have hv1 := hU.hi
          obtain ⟨ts2, e2, h2⟩ := half_put J2.out J1.out H1.out hk hj H7.out v hU
          have HN := Lib.hid (J1.out.next H1.out hk hj)
          have HE := Lib.hid e2
          have HH := Lib.hid h2
          clear hj hlen hU hv e2 h2
          go_wp2
          go_roundw
          case rel => exact ⟨j + 1, _, ts2, rfl, HN.out, HH.out, by rw [heap_setCell_other _ _ _ _ (by simp)]; exact J3.out, by rw [heap_setCell_same _ _ _ _ _ _ J4.out, HE.out], J5.out.setCell (by simp) _⟩
          case measure => simp [intOf]; omega
        · have hge : (256 : Int) ≤ iv := by omega
          have HHn : Hid (half (k + 1) 0 ts') := by
            have hj : ¬ j < 2 ^ k := fun h => hlt ((J1.out.on hk).2 h)
            have hj2 : j = 2 ^ k := by have := J1.out.1; omega
            exact half_next k hk ts' (hj2 ▸ J2.out)
          have HB := Lib.hid (H1.out.next hk)
          have HU := Lib.hid (H7.out.eq (it_succ k 1).symm)
          clear hlt
          go_wp2
          go_roundw
          case rel => exact ⟨k + 1, _, _, ts', rfl, rfl, HU.out, HB.out, HHn.out, J3.out, J4.out, J5.out⟩
          case measure => simp [intOf]; omega
    · obtain ⟨rfl, rfl⟩ := H1.out.none hk
      have HT := Lib.hid (half_end ts H2.out)
      have HS := Lib.hid info35s
      go_wp2_with (first
        | (refine wpList_load_row rfl 97 (.tmp 1) rfl (w.heap.size + 1) rfl 97 (cellsU ts) (0, 0) _ H4.out Tryd.underlying97 rfl (by rw [info35s, HT.out, cellsU_size, tab_length]) ?_)
        | (refine wpList_store_row rfl 97 (.tmp 0) (.tmp 26) rfl w.heap.size (cellsU ts) rfl rfl 97 Z H3.out (by rw [info35s, HT.out, cellsU_size, tab_length]) (by rw [HZ.out, HT.out, cellsU_size, cellsU_size, tab_length, List.length_replicate]) (cellsU_one _) ?_))
      refine bodyPost_ret (v := .agg (cellsU tab)) ?_ rfl ⟨rfl, below_setRow H5.out (Nat.le_refl _) _⟩
      rw [HT.out]
      exact results_cell_row rfl _ _ w.heap.size 97 (cellsU tab) (0, 0) _ rfl (setRow_heap _ _ _ _ _ _ H3.out) Tryd.underlying97 rfl (by rw [info35s, cellsU_size, tab_length])
end Go.Proofs.YthlmjadknklafaaDoor
