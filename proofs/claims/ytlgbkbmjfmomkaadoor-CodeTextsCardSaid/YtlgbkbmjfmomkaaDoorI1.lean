/-
  The walk of operationOf, in the text reader.
-/
import Derived.Test.YtlgbkbmjfmomkaaDoorH1
import Derived.Test.YtlgbkbmjfmomkaaDoorC2
namespace Go.Proofs.YtlgbkbmjfmomkaaDoor
open Go.RowKit CodM

theorem words_index (w : World) : ∀ k : Nat, k < 17 → (Instr.index 77 (.agg wordCells) (.int .i64 k)).run Tryd.prog w = .ok (.string (strU (wordAt k))) w
  | 0, _ => by kernel_rfl
  | 1, _ => by kernel_rfl
  | 2, _ => by kernel_rfl
  | 3, _ => by kernel_rfl
  | 4, _ => by kernel_rfl
  | 5, _ => by kernel_rfl
  | 6, _ => by kernel_rfl
  | 7, _ => by kernel_rfl
  | 8, _ => by kernel_rfl
  | 9, _ => by kernel_rfl
  | 10, _ => by kernel_rfl
  | 11, _ => by kernel_rfl
  | 12, _ => by kernel_rfl
  | 13, _ => by kernel_rfl
  | 14, _ => by kernel_rfl
  | 15, _ => by kernel_rfl
  | 16, _ => by kernel_rfl
  | k + 17, h => absurd h (by omega)

theorem neq_bytes {a b : ByteArray} (h : ¬ a = b) : (a.toList == b.toList) = false := by
  rw [beq_eq_false_iff_ne]
  intro e
  rw [ByteArray.toList_eq, ByteArray.toList_eq] at e
  exact h (ByteArray.ext (Array.toList_inj.1 e))
def OpRel (w : World) (s : ByteArray) (vi : Value) (wr : World) : Prop :=
  ∃ k : Nat, k ≤ 17 ∧ vi = .int .i64 k ∧ (∀ j, j < k → strU (wordAt j) ≠ s) ∧ w = wr
def OpTo (s : ByteArray) (w : World) (e : Ending) (w' : World) : Prop :=
  ((∃ j, j < 17 ∧ s = strU (wordAt j) ∧ e = .returned (.int .i64 ((j : Int) + 1))) ∨ ((∀ j, j < 17 → strU (wordAt j) ≠ s) ∧ e = .panicked codePanic)) ∧ w = w'

set_option maxHeartbeats 4000000 in
set_option maxRecDepth 100000 in
theorem operationOf_any (s : ByteArray) (w : World) (hW : Wds w) :
    Calls Tryd.prog 73 #[.string s] w (OpTo s w) := by
  have c0 := hW 0 (by decide)
  have c1 := hW 1 (by decide)
  have c2 := hW 2 (by decide)
  have c3 := hW 3 (by decide)
  have c4 := hW 4 (by decide)
  have c5 := hW 5 (by decide)
  have c6 := hW 6 (by decide)
  have c7 := hW 7 (by decide)
  have c8 := hW 8 (by decide)
  have c9 := hW 9 (by decide)
  have c10 := hW 10 (by decide)
  have c11 := hW 11 (by decide)
  have c12 := hW 12 (by decide)
  have c13 := hW 13 (by decide)
  have c14 := hW 14 (by decide)
  have c15 := hW 15 (by decide)
  have c16 := hW 16 (by decide)
  clear hW
  obtain ⟨s0, hs0⟩ : ∃ x, x = strU (wordAt 0) := ⟨_, rfl⟩
  rw [← hs0] at c0
  have S0 := Lib.hid hs0
  clear hs0
  obtain ⟨s1, hs1⟩ : ∃ x, x = strU (wordAt 1) := ⟨_, rfl⟩
  rw [← hs1] at c1
  have S1 := Lib.hid hs1
  clear hs1
  obtain ⟨s2, hs2⟩ : ∃ x, x = strU (wordAt 2) := ⟨_, rfl⟩
  rw [← hs2] at c2
  have S2 := Lib.hid hs2
  clear hs2
  obtain ⟨s3, hs3⟩ : ∃ x, x = strU (wordAt 3) := ⟨_, rfl⟩
  rw [← hs3] at c3
  have S3 := Lib.hid hs3
  clear hs3
  obtain ⟨s4, hs4⟩ : ∃ x, x = strU (wordAt 4) := ⟨_, rfl⟩
  rw [← hs4] at c4
  have S4 := Lib.hid hs4
  clear hs4
  obtain ⟨s5, hs5⟩ : ∃ x, x = strU (wordAt 5) := ⟨_, rfl⟩
  rw [← hs5] at c5
  have S5 := Lib.hid hs5
  clear hs5
  obtain ⟨s6, hs6⟩ : ∃ x, x = strU (wordAt 6) := ⟨_, rfl⟩
  rw [← hs6] at c6
  have S6 := Lib.hid hs6
  clear hs6
  obtain ⟨s7, hs7⟩ : ∃ x, x = strU (wordAt 7) := ⟨_, rfl⟩
  rw [← hs7] at c7
  have S7 := Lib.hid hs7
  clear hs7
  obtain ⟨s8, hs8⟩ : ∃ x, x = strU (wordAt 8) := ⟨_, rfl⟩
  rw [← hs8] at c8
  have S8 := Lib.hid hs8
  clear hs8
  obtain ⟨s9, hs9⟩ : ∃ x, x = strU (wordAt 9) := ⟨_, rfl⟩
  rw [← hs9] at c9
  have S9 := Lib.hid hs9
  clear hs9
  obtain ⟨s10, hs10⟩ : ∃ x, x = strU (wordAt 10) := ⟨_, rfl⟩
  rw [← hs10] at c10
  have S10 := Lib.hid hs10
  clear hs10
  obtain ⟨s11, hs11⟩ : ∃ x, x = strU (wordAt 11) := ⟨_, rfl⟩
  rw [← hs11] at c11
  have S11 := Lib.hid hs11
  clear hs11
  obtain ⟨s12, hs12⟩ : ∃ x, x = strU (wordAt 12) := ⟨_, rfl⟩
  rw [← hs12] at c12
  have S12 := Lib.hid hs12
  clear hs12
  obtain ⟨s13, hs13⟩ : ∃ x, x = strU (wordAt 13) := ⟨_, rfl⟩
  rw [← hs13] at c13
  have S13 := Lib.hid hs13
  clear hs13
  obtain ⟨s14, hs14⟩ : ∃ x, x = strU (wordAt 14) := ⟨_, rfl⟩
  rw [← hs14] at c14
  have S14 := Lib.hid hs14
  clear hs14
  obtain ⟨s15, hs15⟩ : ∃ x, x = strU (wordAt 15) := ⟨_, rfl⟩
  rw [← hs15] at c15
  have S15 := Lib.hid hs15
  clear hs15
  obtain ⟨s16, hs16⟩ : ∃ x, x = strU (wordAt 16) := ⟨_, rfl⟩
  rw [← hs16] at c16
  have S16 := Lib.hid hs16
  clear hs16
  obtain ⟨V, hV⟩ : ∃ V, V = Value.agg #[.string s0, .string s1, .string s2, .string s3, .string s4, .string s5, .string s6, .string s7, .string s8, .string s9, .string s10, .string s11, .string s12, .string s13, .string s14, .string s15, .string s16] := ⟨_, rfl⟩
  have hix : ∀ (w : World) (k : Nat), k < 17 → (Instr.index 77 V (.int .i64 k)).run Tryd.prog w = .ok (.string (strU (wordAt k))) w := by
    rw [hV]
    have e0 := S0.out; subst e0; have e1 := S1.out; subst e1; have e2 := S2.out; subst e2; have e3 := S3.out; subst e3; have e4 := S4.out; subst e4; have e5 := S5.out; subst e5; have e6 := S6.out; subst e6; have e7 := S7.out; subst e7; have e8 := S8.out; subst e8; have e9 := S9.out; subst e9; have e10 := S10.out; subst e10; have e11 := S11.out; subst e11; have e12 := S12.out; subst e12; have e13 := S13.out; subst e13; have e14 := S14.out; subst e14; have e15 := S15.out; subst e15; have e16 := S16.out; subst e16
    exact words_index
  go_enter Tryd.func73, Tryd.ntmps73
  go_wp2
  rw [← hV]
  clear hV c0 c1 c2 c3 c4 c5 c6 c7 c8 c9 c10 c11 c12 c13 c14 c15 c16
  go_loopw [6] (fun i wr => OpRel w s i wr) (fun i _ => 17 - (intOf i).toNat)
  case atStart => exact ⟨0, by omega, rfl, fun j hj => by omega, rfl⟩
  case round =>
    obtain ⟨k, hk, rfl, hall, rfl⟩ := hrel
    have HALL := Lib.hid hall
    clear hall
    by_cases hlt : k < 17
    · have hik := hix w k hlt
      have HIX := Lib.hid hix
      clear hix
      obtain ⟨sk, hsk⟩ : ∃ x, x = strU (wordAt k) := ⟨_, rfl⟩
      rw [← hsk] at hik
      have HSK := Lib.hid hsk
      clear hsk
      by_cases hse : sk = s
      · subst hse
        go_wp2
        go_ret
        exact ⟨.inl ⟨k, hlt, HSK.out, rfl⟩, rfl⟩
      · have hd : (sk.toList == s.toList) = false := neq_bytes hse
        go_wp2
        go_roundw
        case rel =>
          refine ⟨k + 1, by omega, by go_num, fun j hj => ?_, rfl⟩
          by_cases hjk : j = k
          · rw [hjk, ← HSK.out]; exact hse
          · exact HALL.out j (by omega)
        case measure => simp [intOf]; omega
    · obtain rfl : k = 17 := by omega
      go_wp2
      exact ⟨rfl, .inr ⟨HALL.out, rfl⟩, rfl⟩
end Go.Proofs.YtlgbkbmjfmomkaaDoor
