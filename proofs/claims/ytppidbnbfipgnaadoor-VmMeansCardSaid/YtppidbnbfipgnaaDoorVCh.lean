/-
  Numbers by chance: the program's and the document's.
-/
import Derived.Test.YtppidbnbfipgnaaDoorVOps
import Derived.Laws.BitsAllLaws
namespace Go.Proofs.YtppidbnbfipgnaaDoor
open Go Go.RowKit Go.Sort Go.Proofs CodM VmM

theorem wrapU (m : Int) : IntKind.u64.wrap m = m % 18446744073709551616 := by simp [IntKind.wrap, IntKind.signed, IntKind.bits]
theorem wrapU_lt (m : Int) : 0 ≤ IntKind.u64.wrap m ∧ IntKind.u64.wrap m < 18446744073709551616 := by rw [wrapU]; omega
theorem xorU_lt (a b : Int) (ha : 0 ≤ a ∧ a < 18446744073709551616) (hb : 0 ≤ b ∧ b < 18446744073709551616) : 0 ≤ bits .xor .u64 a b ∧ bits .xor .u64 a b < 18446744073709551616 := by
  rw [u64_xor a b ha.1 ha.2 hb.1 hb.2]
  have := Nat.xor_lt_two_pow (n := 64) (x := a.toNat) (y := b.toNat) (by omega) (by omega)
  omega
theorem div_wrap (a c : Int) (hc : 0 < c) (ha : 0 ≤ a ∧ a < 18446744073709551616) : IntKind.u64.wrap (a.tdiv c) = a / c := by
  rw [wrapU, Int.tdiv_eq_ediv_of_nonneg ha.1]
  have h1 : 0 ≤ a / c := Int.ediv_nonneg ha.1 (by omega)
  have h2 : a / c ≤ a := Int.ediv_le_self _ ha.1
  omega
theorem ch3_lt (x : Int) (h : 0 ≤ x ∧ x < 18446744073709551616) : 0 ≤ ch3 x ∧ ch3 x < 18446744073709551616 :=
  xorU_lt _ _ h (by omega)
theorem chance_nn (seed drawn : Int) : 0 ≤ chance seed drawn := by
  have h := ch3_lt (ch2 (ch1 (ch0 seed drawn))) (wrapU_lt _)
  unfold chance w64
  omega
theorem chance_any (seed drawn : Int) (W : World) : Calls Tryd.prog 17 #[.int .i64 seed, .int .i64 drawn] W (fun e w' => e = .returned (.int .i64 (chance seed drawn)) ∧ W = w') := by
  go_enter Tryd.func17, Tryd.ntmps17
  go_wp2
  go_ret
  exact ⟨congrArg (fun n => Ending.returned (.int .i64 n)) (w64_wrap _).symm, rfl⟩
theorem rchance_any (seed drawn : Int) (W : World) : Calls Tryd.prog 18 #[.int .i64 seed, .int .i64 drawn] W (fun e w' => e = .returned (.int .i64 (chance seed drawn)) ∧ W = w') := by
  go_enter Tryd.func18, Tryd.ntmps18
  go_wp2
  go_ret
  refine ⟨?_, rfl⟩
  have e : ∀ x0 : Int, x0 = ch0 seed drawn → wrap64 (IntKind.u64.wrap ((bits .xor .u64 (IntKind.u64.wrap (bits .xor .u64 (IntKind.u64.wrap (bits .xor .u64 x0 (IntKind.u64.wrap (x0.tdiv 1073741824)) * 13787848793156543929)) (IntKind.u64.wrap ((IntKind.u64.wrap (bits .xor .u64 x0 (IntKind.u64.wrap (x0.tdiv 1073741824)) * 13787848793156543929)).tdiv 134217728)) * 10723151780598845931)) (IntKind.u64.wrap ((IntKind.u64.wrap (bits .xor .u64 (IntKind.u64.wrap (bits .xor .u64 x0 (IntKind.u64.wrap (x0.tdiv 1073741824)) * 13787848793156543929)) (IntKind.u64.wrap ((IntKind.u64.wrap (bits .xor .u64 x0 (IntKind.u64.wrap (x0.tdiv 1073741824)) * 13787848793156543929)).tdiv 134217728)) * 10723151780598845931)).tdiv 2147483648))).tdiv 2)) = chance seed drawn := by
    intro x0 h0
    have b0 : 0 ≤ x0 ∧ x0 < 18446744073709551616 := by rw [h0]; exact wrapU_lt _
    rw [div_wrap x0 1073741824 (by decide) b0]
    have h1 : IntKind.u64.wrap (bits .xor .u64 x0 (x0 / 1073741824) * 13787848793156543929) = ch1 x0 := rfl
    rw [h1, div_wrap (ch1 x0) 134217728 (by decide) (wrapU_lt _)]
    have h2 : IntKind.u64.wrap (bits .xor .u64 (ch1 x0) (ch1 x0 / 134217728) * 10723151780598845931) = ch2 (ch1 x0) := rfl
    rw [h2, div_wrap (ch2 (ch1 x0)) 2147483648 (by decide) (wrapU_lt _)]
    have h3 : bits .xor .u64 (ch2 (ch1 x0)) (ch2 (ch1 x0) / 2147483648) = ch3 (ch2 (ch1 x0)) := rfl
    have h4 : 0 ≤ ch3 (ch2 (ch1 x0)) ∧ ch3 (ch2 (ch1 x0)) < 18446744073709551616 := ch3_lt _ (wrapU_lt _)
    rw [h3, div_wrap (ch3 (ch2 (ch1 x0))) 2 (by decide) h4, h0]
    exact (w64_wrap _).symm
  have h := e _ rfl
  exact congrArg (fun n => Ending.returned (.int .i64 n)) h
end Go.Proofs.YtppidbnbfipgnaaDoor
