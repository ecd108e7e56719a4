/-
  The walk of the document's Num.
-/
import Derived.Test.YtlgbkbmjfmomkaaDoorH1
import Derived.Test.YtlgbkbmjfmomkaaDoorG4
namespace Go.Proofs.YtlgbkbmjfmomkaaDoor
open Go.RowKit CodM

def RNumRel (w : World) (l : List UInt8) (n i : Value) (wr : World) : Prop :=
  ∃ k : Nat, k ≤ l.length ∧ i = .int .i64 k ∧ n = .int .u64 (numOf (l.take k) % 18446744073709551616) ∧ w = wr
def RNumTo (l : List UInt8) (w : World) (e : Ending) (w' : World) : Prop := e = .returned (.int .u64 (numOf l % 18446744073709551616)) ∧ w = w'

set_option maxHeartbeats 2000000 in
set_option maxRecDepth 100000 in
theorem rnum_any (l : List UInt8) (B off c : Nat) (w : World) (h8 : l.length = 8) (hcell : ∀ i (h : i < l.length), w.cell? ⟨B, off + i, none⟩ = some (.int .u8 (l[i].toNat : Int))) :
    Calls Tryd.prog 41 #[.slice (some ⟨B, off, none⟩) 8 c] w (RNumTo l w) := by
  have HCELL := Lib.hid hcell
  clear hcell
  go_enter Tryd.func41, Tryd.ntmps41
  go_wp2
  go_loopw [3, 4] (fun n i wr => RNumRel w l n i wr) (fun _ i _ => 8 - (intOf i).toNat)
  case atStart => exact ⟨0, Nat.zero_le _, rfl, by simp [numOf], rfl⟩
  case round =>
    obtain ⟨k, hk, rfl, rfl, rfl⟩ := hrel
    obtain ⟨V, hV⟩ : ∃ V, V = numOf (l.take k) % 18446744073709551616 := ⟨_, rfl⟩
    have hV0 : 0 ≤ V := by omega
    have hV1 : V < 18446744073709551616 := by omega
    rw [← hV]
    have HV := Lib.hid hV
    have H8 := Lib.hid h8
    clear hV
    by_cases hlt : k < 8
    · have hkl : k < l.length := by omega
      have d1 := HCELL.out k hkl
      obtain ⟨x, hx⟩ : ∃ x : Int, x = (l[k].toNat : Int) := ⟨_, rfl⟩
      have hx0 : 0 ≤ x := by omega
      have hx1 : x < 256 := by have := l[k].toNat_lt; omega
      rw [← hx] at d1
      have HX := Lib.hid hx
      clear hx
      go_wp2
      go_roundw
      case rel =>
        refine ⟨k + 1, by omega, by go_num, ?_, rfl⟩
        rw [List.take_succ_eq_append_getElem hkl, numOf_snoc, ← HX.out]
        have := HV.out
        congr 1
        rw [wrapU, wrapU]
        omega
      case measure => simp [intOf]; omega
    · obtain rfl : k = 8 := by omega
      go_wp2
      go_ret
      refine ⟨?_, rfl⟩
      rw [HV.out, ← H8.out, List.take_length]
      rfl
end Go.Proofs.YtlgbkbmjfmomkaaDoor
