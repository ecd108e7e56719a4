/-
  Regions that draw, walked once by an invariant over which of their operations have run. For any program.
-/
import Derived.Orders
import Derived.RegionTactic
namespace Go.Proofs.YtclbbpkphfllbaaDoor
open Go Go.Proofs

theorem count_set {l : List Bool} {i : Nat} (h : l[i]? = some false) : (l.set i true).count false + 1 = l.count false := by
  obtain ⟨hi, e⟩ := List.getElem?_eq_some_iff.1 h
  rw [List.count_set hi, e]
  have : 0 < l.count false := List.count_pos_iff.2 (e ▸ List.getElem_mem hi)
  simp
  omega
theorem all_of_stuck {md : Region.Mode} {ops : Array Oper} {listed : Array Bool} (hback : ∀ i o, ops[i]? = some o → ∀ e ∈ o.after, Region.binds md e = true → e.on < i) (hr : Region.ready md ops listed = []) (hs : listed.size = ops.size) : ∀ i, i < ops.size → listed.getD i false = true := by
  intro i
  induction i using Nat.strongRecOn with
  | _ i ih =>
    intro hi
    cases hb : listed.getD i false with
    | true => rfl
    | false =>
      have hm : i ∈ Region.ready md ops listed := mem_ready.2 ⟨by
        have hi' : i < listed.size := by omega
        simp [hi'] at hb ⊢
        exact hb, ops[i], Array.getElem?_eq_getElem hi, fun e he hbd => by
        have := hback i _ (Array.getElem?_eq_getElem hi) e he hbd
        exact ih e.on this (by omega)⟩
      rw [hr] at hm
      cases hm
theorem wpAny_inv {P : Program} {ops : Array Oper} {Q : Exit → Act → World → Prop} {md : Region.Mode} (J : Array Bool → Act → World → Prop)
    (hback : ∀ i o, ops[i]? = some o → ∀ e ∈ o.after, Region.binds md e = true → e.on < i)
    (hstep : ∀ i o listed a w, ops[i]? = some o → listed.size = ops.size → listed[i]? = some false → (∀ e ∈ o.after, Region.binds md e = true → listed.getD e.on false = true) → J listed a w →
      if Region.wanted o (yielded ops a.tmps) = true then Oper.wp P o a w (J (listed.setIfInBounds i true)) Q else J (listed.setIfInBounds i true) (a.put o.dst undef) w)
    (hend : ∀ listed a w, J listed a w → (∀ i, i < ops.size → listed.getD i false = true) → Q .normal a w) :
    ∀ (fuel : Nat) (listed : Array Bool) (a : Act) (w : World), listed.size = ops.size → listed.toList.count false ≤ fuel → J listed a w → wpAny P md ops Q fuel listed a w := by
  intro fuel
  induction fuel with
  | zero =>
    intro listed a w hs hc hJ
    have h0 : ∀ i, i < ops.size → listed.getD i false = true := by
      intro i hi
      have hi' : i < listed.size := by omega
      cases hb : listed[i] with
      | true => simp [hi', hb]
      | false =>
        have : 0 < listed.toList.count false := List.count_pos_iff.2 (by rw [← hb]; exact Array.getElem_mem_toList hi')
        omega
    refine ⟨?_, hend _ _ _ hJ h0⟩
    cases hr : Region.ready md ops listed with
    | nil => rfl
    | cons j r =>
      have hj : j ∈ Region.ready md ops listed := by rw [hr]; exact List.mem_cons_self ..
      obtain ⟨h1, o, h2, _⟩ := mem_ready.1 hj
      have hj' := (Array.getElem?_eq_some_iff.1 h2).1
      have := h0 j hj'
      have hj2 : j < listed.size := by omega
      simp [hj2] at h1 this
      rw [h1] at this
      cases this
  | succ fuel ih =>
    intro listed a w hs hc hJ
    refine ⟨fun hr => hend _ _ _ hJ (all_of_stuck hback hr hs), fun i hi => ?_⟩
    obtain ⟨h1, o, h2, h3⟩ := mem_ready.1 hi
    have hi' : i < listed.size := by have := (Array.getElem?_eq_some_iff.1 h2).1; omega
    have h4 : listed[i]? = some false := by
      simp [hi'] at h1
      rw [Array.getElem?_eq_getElem hi', h1]
    refine wpOp_step h2 fun K hK => ?_
    have hK' : ∀ a w, J (listed.setIfInBounds i true) a w → K a w := fun a w hj => hK a w (ih _ _ _ (by simpa using hs) (by
      have h5 : listed.toList[i]? = some false := by simpa using h4
      have := count_set h5
      rw [Array.toList_setIfInBounds]
      omega) hj)
    have h6 := hstep i o listed a w h2 hs h4 h3 hJ
    split
    · rename_i hw
      rw [if_pos hw] at h6
      exact Oper.wp_mono hK' h6
    · rename_i hw
      rw [if_neg hw] at h6
      exact hK' _ _ h6
/-- a region that draws its order, walked by an invariant -/
theorem wp_region_inv {P : Program} {id : Nat} {Q : Exit → Act → World → Prop} {a : Act} {w : World} {ops : Array Oper} (hm : P.follows .mixedOrders = true) (J : Array Bool → Act → World → Prop)
    (hback : ∀ i o, ops[i]? = some o → ∀ e ∈ o.after, Region.binds .any e = true → e.on < i)
    (hstep : ∀ i o listed a w, ops[i]? = some o → listed.size = ops.size → listed[i]? = some false → (∀ e ∈ o.after, Region.binds .any e = true → listed.getD e.on false = true) → J listed a w →
      if Region.wanted o (yielded ops a.tmps) = true then Oper.wp P o a w (J (listed.setIfInBounds i true)) Q else J (listed.setIfInBounds i true) (a.put o.dst undef) w)
    (hend : ∀ listed a w, J listed a w → (∀ i, i < ops.size → listed.getD i false = true) → Q .normal a w)
    (h : J (Array.replicate ops.size false) a w.drew) : (Code.region id ops true).wp P Q a w :=
  wp_region_any hm (wpAny_inv J hback hstep hend _ _ _ _ (by simp) (by simp) h)
end Go.Proofs.YtclbbpkphfllbaaDoor
