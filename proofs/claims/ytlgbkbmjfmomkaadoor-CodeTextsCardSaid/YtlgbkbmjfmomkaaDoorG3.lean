/-
  The walk of the document's High.
-/
import Derived.Test.YtlgbkbmjfmomkaaDoorG1
import Derived.Laws.Rows
namespace Go.Proofs.YtlgbkbmjfmomkaaDoor
open Go.RowKit CodM

theorem make8 (w : World) : (Instr.makeSlice 25 (.int .i64 8) (.int .i64 8)).run Tryd.prog w = .ok (.slice (some ⟨w.heap.size, 0, none⟩) 8 8) (w.alloc (.cells #[.int .u8 0, .int .u8 0, .int .u8 0, .int .u8 0, .int .u8 0, .int .u8 0, .int .u8 0, .int .u8 0] 5)) := by kernel_rfl

def HighRel (w : World) (u : Int) (nv iv : Value) (wr : World) : Prop :=
  ∃ (k : Nat) (cur : Array Value), k ≤ 8 ∧ nv = .int .u64 (u / 256 ^ k) ∧ iv = .int .i64 (7 - (k : Int)) ∧ wr.heap[w.heap.size]? = some (.cells cur 5 (0, 0)) ∧ cur.size = 8 ∧ (∀ j, j < k → cur[7 - j]? = some (.int .u8 (u / 256 ^ j % 256))) ∧ Below w.heap.size w wr
def HighTo (z : Int) (w : World) (e : Ending) (w' : World) : Prop := ∃ cur, e = .returned (.slice (some ⟨w.heap.size, 0, none⟩) 8 8) ∧ w'.heap[w.heap.size]? = some (.cells cur 5 (0, 0)) ∧ (∀ j, j < 8 → cur[j]? = some (.int .u8 ((beAt z j).toNat : Int))) ∧ Below w.heap.size w w'

theorem be_of (z u : Int) (hu : u = z % 18446744073709551616) (j : Nat) (hj : j < 8) : u / 256 ^ (7 - j) % 256 = ((beAt z j).toNat : Int) := by
  unfold beAt
  rw [byteI_val, hu]
  have : ∀ j : Fin 8, ∀ z : Int, z % 18446744073709551616 / 256 ^ (7 - j.1) % 256 = z / 2 ^ (56 - 8 * j.1) % 256 := by
    intro j z
    match j with
    | 0 => show z % 18446744073709551616 / 72057594037927936 % 256 = z / 72057594037927936 % 256; omega
    | 1 => show z % 18446744073709551616 / 281474976710656 % 256 = z / 281474976710656 % 256; omega
    | 2 => show z % 18446744073709551616 / 1099511627776 % 256 = z / 1099511627776 % 256; omega
    | 3 => show z % 18446744073709551616 / 4294967296 % 256 = z / 4294967296 % 256; omega
    | 4 => show z % 18446744073709551616 / 16777216 % 256 = z / 16777216 % 256; omega
    | 5 => show z % 18446744073709551616 / 65536 % 256 = z / 65536 % 256; omega
    | 6 => show z % 18446744073709551616 / 256 % 256 = z / 256 % 256; omega
    | 7 => show z % 18446744073709551616 / 1 % 256 = z / 1 % 256; omega
  exact this ⟨j, hj⟩ z

set_option maxHeartbeats 2000000 in
set_option maxRecDepth 100000 in
theorem rhigh_any (z u : Int) (w : World) (h0 : 0 ≤ u) (h1 : u < 18446744073709551616) (hu : u = z % 18446744073709551616) :
    Calls Tryd.prog 34 #[.int .u64 u, .int .i64 8] w (HighTo z w) := by
  have HU := Lib.hid hu
  clear hu
  have hmk := make8
  go_enter Tryd.func34, Tryd.ntmps34
  go_wp2
  clear hmk
  go_loopw [0, 6] (fun n i wr => HighRel w u n i wr) (fun _ i _ => (intOf i + 1).toNat)
  case atStart => exact ⟨0, _, by omega, by simp, rfl, heap_alloc_new _ _, rfl, fun j hj => by omega, (Below.refl _ _).alloc (Nat.le_refl _) _⟩
  case round =>
    obtain ⟨k, cur, hk, rfl, rfl, hh, hsz, hcur, hbel⟩ := hrel
    obtain ⟨q, hq⟩ : ∃ q, q = u / 256 ^ k := ⟨_, rfl⟩
    have hq0 : 0 ≤ q := by rw [hq]; exact Int.ediv_nonneg h0 (by exact Int.le_of_lt (Int.pow_pos (by decide)))
    have hq1 : q < 18446744073709551616 := by
      rw [hq]
      exact Int.lt_of_le_of_lt (Int.ediv_le_self _ h0) h1
    rw [← hq]
    have HQ := Lib.hid hq
    have HH := Lib.hid hh
    have HSZ := Lib.hid hsz
    have HCUR := Lib.hid hcur
    have HBEL := Lib.hid hbel
    by_cases hlt : k < 8
    · have hc : ∃ x, wr.cell? ⟨w.heap.size, 7 - k, none⟩ = some x := by
        rw [cell_of_row _ _ _ _ _ _ hh]
        exact ⟨cur[7 - k], by simp [show 7 - k < cur.size from by omega]⟩
      obtain ⟨x, hc⟩ := hc
      have hf : wr.frozen? ⟨w.heap.size, 7 - k, none⟩ = false := frozen_of_row _ _ _ _ _ hh
      clear hq hh hsz hcur hbel
      go_wp2
      go_roundw
      case rel =>
        refine ⟨k + 1, cur.setIfInBounds (7 - k) (.int .u8 (q % 256)), by omega, ?_, by congr 1; omega, heap_setCell_same wr w.heap.size (7 - k) cur _ _ HH.out, by simpa using HSZ.out, fun j hj => ?_, HBEL.out.setCell (Nat.le_refl _) _⟩
        · rw [HQ.out, Int.ediv_ediv_of_nonneg (Int.le_of_lt (Int.pow_pos (by decide))), Int.pow_succ]
        · by_cases hjk : j = k
          · subst hjk
            have hs := HSZ.out
            simp [show 7 - j < cur.size from by omega, HQ.out]
          · rw [Array.getElem?_setIfInBounds_ne (by omega)]
            exact HCUR.out j (by omega)
      case measure => simp [intOf]; omega
    · obtain rfl : k = 8 := by omega
      clear hq hh hsz hcur hbel
      go_wp2
      go_ret
      refine ⟨cur, rfl, HH.out, fun j hj => ?_, HBEL.out⟩
      have h := HCUR.out (7 - j) (by omega)
      rw [show 7 - (7 - j) = j from by omega] at h
      rw [h, be_of z u HU.out j hj]
end Go.Proofs.YtlgbkbmjfmomkaaDoor
