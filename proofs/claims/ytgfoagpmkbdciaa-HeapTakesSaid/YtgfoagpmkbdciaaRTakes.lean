/-
  Proved: for every two rows of items the law HeapTakes of the heap layer returns true and leaves its arguments as they were: what was put, and not dropped, is taken once, in its order.
  Conditions: none beyond those of the given row.
-/
import Derived.Test.YtgfoagpmkbdciaaRows
import Derived.Test.YtgfoagpmkbdciaaHTakes
import Derived.Test.YtgfoagpmkbdciaaHRPut
import Derived.Test.YtgfoagpmkbdciaaItOpen
import Derived.WalkKit
import Derived.ProofKit
import Derived.OpenShut
import Derived.ChangeOld
import Derived.Below
import Derived.Carry
namespace Go.Proofs.Ytgfoagpmkbdciaa.heapTakes
open Go.ChangeShapes Go.WideShapes Go.ChangeAt Go.RowKit

theorem own : ownKnob Try.prog.godebug = none := by kernel_rfl
theorem laidOut : laidOutB Try.prog = true := by kernel_rfl

set_option maxRecDepth 100000 in
theorem lifted (os : Os) (started : os.Started) (H : Type) (enc : TypeId × Value → H) :
    ReturnsInHanded {} Try.checked os 5 .any (Rows.heapTakesSpec.pre6 enc Try.prog Try.f5 Rows.heapTakesRow.domain false) (Rows.heapTakesSpec.post enc Try.prog Try.f5 false true false false) := by
  refine returnsInHanded_of_change (C := Try.checked) own started (by kernel_rfl) Try.func5
    (ChangeSpec.witness6 (enc := enc) (C := Try.checked) false ⟨#[], #[.slice none 0 0, .slice none 0 0], []⟩ 8 (by kernel_rfl) (by kernel_rfl) (by kernel_rfl) (by kernel_rfl)) ?_
  intro W base args ds gs before hval0 hW hcnd _
  have hval : ∀ (j : Nat) t v, Try.f5.params[j]? = some t → args[j]? = some v → Value.okWide Try.prog W .any base t v := hval0
  have hW' := hW
  obtain ⟨p, q, hA0, hV, rfl, hfz, hnd⟩ := hW
  have hA : DataW.TrodAll enc Try.prog W 0 (fun _ => true) true Try.f5.params.toList args.toList ds p := hA0
  rw [Try.params5] at hA hval
  obtain ⟨v0, vs0, d0, ds0, p0, q0, hargs0, rfl, rfl, h0, r0⟩ := trodAll_cons hA
  obtain ⟨v1, vs1, d1, ds1, p1, q1, hargs1, rfl, rfl, h1, r1⟩ := trodAll_cons r0
  obtain ⟨rfl, rfl, rfl⟩ := trodAll_nil r1
  subst hargs1
  obtain rfl : args = #[v0, v1] := by cases args; simp_all
  obtain ⟨rfl, rfl⟩ := trodVars_none hV
  have k0 := h0
  have lt0 : ∀ x ∈ p0, x.block < W.heap.size := by obtain ⟨m, hm⟩ := k0; exact DataW.trod_lt m _ _ _ hm
  have k1 := h1
  have lt1 : ∀ x ∈ p1, x.block < W.heap.size := by obtain ⟨m, hm⟩ := k1; exact DataW.trod_lt m _ _ _ hm
  obtain ⟨a, n, c, l, rfl, hln, hnm, hl⟩ : ∃ a n c l, v0 = Value.slice a n c ∧ l.length = n ∧ n ≤ maxLen ∧ (n ≤ 1000000 → ItAt W a n l) := by
    obtain ⟨m0, hm0⟩ := h0
    exact open_itemsV hm0 (okWide_slice Try.underlying27 (hval 0 27 v0 rfl rfl))
  obtain ⟨b, m, e, r, rfl, hrm, hmm, hr⟩ : ∃ a n c l, v1 = Value.slice a n c ∧ l.length = n ∧ n ≤ maxLen ∧ (n ≤ 1000000 → ItAt W a n l) := by
    obtain ⟨m0, hm0⟩ := h1
    exact open_itemsV hm0 (okWide_slice Try.underlying27 (hval 1 27 v1 rfl rfl))
  clear hA0 hval0
  refine (takes_law rput_new W a b n m c e l r hln hrm hl hr hnm hmm).mono fun e W' ⟨he, bel⟩ => ?_
  subst he
  exact ⟨_, rfl, _, _, _, [], _, [], hW', trodAll_mk1 (shut_bool Try.underlying4 _), (trodAll_cons_mk (Below.trod laidOut (by kernel_rfl) (of_decide_eq_true (by kernel_rfl)) k0 bel lt0) (trodAll_cons_mk (Below.trod laidOut (by kernel_rfl) (of_decide_eq_true (by kernel_rfl)) k1 bel lt1) trodAll_mk0)), rfl, bel.frame _, fun h => by cases h⟩

theorem over : Rows.heapTakesRow.holds Try.pinned (OpenSpec.ofChange Rows.heapTakesSpec) :=
  OpenClaim.holds_of_wide 5 Try.f5 rfl rfl rfl rfl rfl rfl rfl ⟨rfl, rfl, rfl, rfl, rfl⟩ rfl rfl rfl rfl rfl (by kernel_rfl) Try.func5 (by kernel_rfl)
    (of_decide_eq_true (by kernel_rfl)) (by unfold Func.isWrapper; first | (rw [if_pos (by decide +kernel)]; kernel_rfl) | (rw [if_neg (by decide +kernel)]; exact ⟨rfl, rfl⟩))
    (fun os started H enc _ => lifted os started H enc)

/-- the statement -/
theorem proved : Rows.HeapTakesSaid :=
  over
#print axioms proved
end Go.Proofs.Ytgfoagpmkbdciaa.heapTakes
