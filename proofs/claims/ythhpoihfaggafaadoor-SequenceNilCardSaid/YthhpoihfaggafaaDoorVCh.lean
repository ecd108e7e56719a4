/-
  Numbers by chance: the program's and the document's.
-/
import Derived.Test.YthhpoihfaggafaaDoorVOps
import Derived.Laws.BitsAllLaws
namespace Go.Proofs.YthhpoihfaggafaaDoor
open Go Go.RowKit Go.Sort Go.Proofs CodM VmM

theorem wrapU (m : Int) : IntKind.u64.wrap m = m % 18446744073709551616 := by simp [IntKind.wrap, IntKind.signed, IntKind.bits]
theorem wrapU_lt (m : Int) : 0 ≤ IntKind.u64.wrap m ∧ IntKind.u64.wrap m < 18446744073709551616 := by rw [wrapU]; omega
theorem xorU_lt (a b : Int) (ha : 0 ≤ a ∧ a < 18446744073709551616) (hb : 0 ≤ b ∧ b < 18446744073709551616) : 0 ≤ bits .xor .u64 a b ∧ bits .xor .u64 a b < 18446744073709551616 := by
  rw [u64_xor a b ha.1 ha.2 hb.1 hb.2]
  have := Nat.xor_lt_two_pow (n := 64) (x := a.toNat) (y := b.toNat) (by omega) (by omega)
  omega
theorem div_wrap (a c : Int) (hc : 0 < c) (ha : 0 ≤ a ∧ a < 18446744073709551616) : IntKind.u64.wrap (a.tdiv c) = a / c := by
  rw [wrapU, Int.tdiv_eq_ediv_of_nonneg ha.1]
  have h1 : 0 ≤ a / c := Int.ediv_nonneg ha.1 (by omega)
  have h2 : a / c ≤ a := Int.ediv_le_self _ ha.1
  omega
theorem ch3_lt (x : Int) (h : 0 ≤ x ∧ x < 18446744073709551616) : 0 ≤ ch3 x ∧ ch3 x < 18446744073709551616 :=
  xorU_lt _ _ h (by omega)
theorem chance_nn (seed drawn : Int) : 0 ≤ chance seed drawn := by
  have h := ch3_lt (ch2 (ch1 (ch0 seed drawn))) (wrapU_lt _)
  unfold chance w64
  omega
theorem chance_any (seed drawn : Int) (W : World) : Calls Tryd.prog 141 #[.int .i64 seed, .int .i64 drawn] W (fun e w' => e = .returned (.int .i64 (chance seed drawn)) ∧ W = w') := by
  go_enter Tryd.func141, Tryd.ntmps141
  go_wp2
  go_ret
  exact ⟨congrArg (fun n => Ending.returned (.int .i64 n)) (w64_wrap _).symm, rfl⟩
end Go.Proofs.YthhpoihfaggafaaDoor
