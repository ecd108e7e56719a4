/-
  Proved: for every program, process, number of processes, seed, state and list of events, the law VmMeans of the vm layer returns true and leaves its arguments as they were: what is sent is above the event, may be, and rises; what is told is the event's; and events, one behind the other, are answered the same each time.
  Conditions: the listed package variable (code's words) holds what the program's text lays; the card ties that.
-/
import Derived.Test.YtppidbnbfipgnaaDoorVLaid
import Derived.Test.YtppidbnbfipgnaaDoorVMOpen
import Derived.Test.YtppidbnbfipgnaaDoorVMeanL
import Derived.Test.YtppidbnbfipgnaaDoorVMeanW
import Derived.Test.YtppidbnbfipgnaaDoorTie
import Derived.Test.YtppidbnbfipgnaaDoorCards
import Derived.ProofKit
import Derived.OpenShut
import Derived.ChangeOld
import Derived.Below
import Derived.Carry
import Derived.SevenTiedAt
namespace Go.Proofs.YtppidbnbfipgnaaDoor.vmMeans
open Go.ChangeShapes Go.WideShapes Go.ChangeAt Go.RowKit CodM VmM

/-- the law, whether it looks or not -/
theorem means_any (w : World) (hW : Wds w) (p : Prg) (a : Option Addr) (n c : Nat) (hp : ProgAt w a n p) (ha : SlOk a n c) (self procs seed : Int) (va : Option Addr) (vn vc : Nat) (vl : List Int) (sent drawn : Int) (hvl : vl.length = vn) (hv : vn ≤ 1000000 → CV.At w va vn vl) (hnil : va = none → vc = 0)
    (ea : Option Addr) (en ec : Nat) (l : List Ev) (hel : l.length = en) (he : en ≤ 1000000 → CEv.At w ea en l) :
    Calls Tryd.prog 4 #[.agg #[.int .i64 p.vars, .slice a n c], .int .i64 self, .int .i64 procs, .int .i64 seed, stV va vn vc sent drawn, .slice ea en ec] w (TellsBB true w) := by
  by_cases hk : muchR p = true ∨ 20 < vn ∨ 30 < en ∨ rmayV n p ⟨self, procs, seed⟩ ≠ 0 ∨ ¬ ((vn : Int) = p.vars ∧ 0 ≤ sent ∧ 0 ≤ drawn) ∨ 1099511627776 < sent ∨ 1099511627776 < drawn
  · exact means_known w hW p a n c hp ⟨self, procs, seed⟩ va vn vc sent drawn ea en ec hk
  · simp only [not_or, Decidable.not_not] at hk
    obtain ⟨k1, k2, k3, k4, k5, k6, k7⟩ := hk
    subst hvl
    subst hel
    exact means_main w hW p a n c hp ha ⟨self, procs, seed⟩ va vc ⟨vl, sent, drawn⟩ (hv (by omega)) hnil ea ec l (he (by omega)) (by simpa using k1) (by show vl.length ≤ 20; omega) (by omega) k4 k5 (by show sent ≤ _; omega) (by show drawn ≤ _; omega)

theorem laidOut : laidOutB Tryd.prog = true := by kernel_rfl

set_option maxRecDepth 100000 in
theorem lifted (os : Os) (started : os.Started) (H : Type) (enc : TypeId × Value → H) :
    ReturnsInHanded {} Tryd.checked os 4 .any (fun w args => (Rows.vmMeansSpec.pre enc Tryd.prog Tryd.f4 [] false w args ∧ laidMetH Tryd.prog laid1 w) ∧ sizedMet enc Tryd.prog Tryd.f4 (OpenSpec.ofChange Rows.vmMeansSpec) false w args)
      (Rows.vmMeansSpec.post enc Tryd.prog Tryd.f4 false true false false) := by
  refine returnsInHanded_of_change_and (C := Tryd.checked) (X := fun w _ => laidMetH Tryd.prog laid1 w) (fun _ _ _ hh h => h.of_heap hh) Tryd.own started (by kernel_rfl) Tryd.func4
    (ChangeSpec.witness_at (enc := enc) (C := Tryd.checked) (os := os) (X := fun w _ => laidMetH Tryd.prog laid1 w) false (laidWorld os) #[.agg #[.int .i64 0, .slice none 0 0], .int .i64 0, .int .i64 0, .int .i64 0, .agg #[.slice none 0 0, .int .i64 0, .int .i64 0], .slice none 0 0] 8 rfl (by kernel_rfl) (by kernel_rfl) (by kernel_rfl) (by kernel_rfl) (by kernel_rfl) (laid1_met os _)) ?_
  intro W base args ds gs before hval0 hW _ _ hL _
  have hval : ∀ (j : Nat) t v, Tryd.f4.params[j]? = some t → args[j]? = some v → Value.okWide Tryd.prog W .any base t v := hval0
  have hW' := hW
  obtain ⟨p, q, hA0, hV, rfl, hfz, hnd⟩ := hW
  have hA : DataW.TrodAll enc Tryd.prog W 0 (fun _ => true) true Tryd.f4.params.toList args.toList ds p := hA0
  rw [Tryd.params4] at hA hval
  obtain ⟨v0, vs0, d0, ds0, p0, q0, hargs0, rfl, rfl, h0, r0⟩ := trodAll_cons hA
  obtain ⟨v1, vs1, d1, ds1, p1, q1, hargs1, rfl, rfl, h1, r1⟩ := trodAll_cons r0
  obtain ⟨v2, vs2, d2, ds2, p2, q2, hargs2, rfl, rfl, h2, r2⟩ := trodAll_cons r1
  obtain ⟨v3, vs3, d3, ds3, p3, q3, hargs3, rfl, rfl, h3, r3⟩ := trodAll_cons r2
  obtain ⟨v4, vs4, d4, ds4, p4, q4, hargs4, rfl, rfl, h4, r4⟩ := trodAll_cons r3
  obtain ⟨v5, vs5, d5, ds5, p5, q5, hargs5, rfl, rfl, h5, r5⟩ := trodAll_cons r4
  obtain ⟨rfl, rfl, rfl⟩ := trodAll_nil r5
  subst hargs5
  subst hargs4
  subst hargs3
  subst hargs2
  subst hargs1
  obtain rfl : args = #[v0, v1, v2, v3, v4, v5] := by cases args; simp_all
  obtain ⟨rfl, rfl⟩ := trodVars_none hV
  have k0 := h0
  have k1 := h1
  have k2 := h2
  have k3 := h3
  have k4 := h4
  have k5 := h5
  have lt0 : ∀ x ∈ p0, x.block < W.heap.size := by obtain ⟨m, hm⟩ := k0; exact DataW.trod_lt m _ _ _ hm
  have lt1 : ∀ x ∈ p1, x.block < W.heap.size := by obtain ⟨m, hm⟩ := k1; exact DataW.trod_lt m _ _ _ hm
  have lt2 : ∀ x ∈ p2, x.block < W.heap.size := by obtain ⟨m, hm⟩ := k2; exact DataW.trod_lt m _ _ _ hm
  have lt3 : ∀ x ∈ p3, x.block < W.heap.size := by obtain ⟨m, hm⟩ := k3; exact DataW.trod_lt m _ _ _ hm
  have lt4 : ∀ x ∈ p4, x.block < W.heap.size := by obtain ⟨m, hm⟩ := k4; exact DataW.trod_lt m _ _ _ hm
  have lt5 : ∀ x ∈ p5, x.block < W.heap.size := by obtain ⟨m, hm⟩ := k5; exact DataW.trod_lt m _ _ _ hm
  obtain ⟨x, a, n, c, ks, rfl, ha, hp⟩ := open_prog (hval 0 24 v0 rfl rfl) h0
  obtain ⟨i, rfl, rfl, rfl, w1⟩ := open_int Tryd.underlying3 (hval 1 3 v1 rfl rfl) h1
  obtain ⟨j, rfl, rfl, rfl, w2⟩ := open_int Tryd.underlying3 (hval 2 3 v2 rfl rfl) h2
  obtain ⟨sd, rfl, rfl, rfl, w3⟩ := open_int Tryd.underlying2 (hval 3 2 v3 rfl rfl) h3
  obtain ⟨va, vn, vc, vl, sent, drawn, rfl, g1, _, g2, g3⟩ := open_state (hval 4 27 v4 rfl rfl) h4
  obtain ⟨m5, hm5⟩ := h5
  obtain ⟨ea, en, ec, l, rfl, g4, _, g5⟩ := open_events hm5 (okWide_slice Tryd.underlying43 (hval 5 43 v5 rfl rfl))
  clear hA0 hval0
  refine (means_any W (wds_of_laid hL) ⟨x, ks⟩ a n c hp ha i j sd va vn vc vl sent drawn g1 g2 g3 ea en ec l g4 g5).mono fun e W' ⟨he, bel⟩ => ?_
  subst he
  exact ⟨_, rfl, _, _, _, [], _, [], hW', trodAll_mk1 (shut_bool Tryd.underlying4 _), (trodAll_cons_mk (Below.trod laidOut (by kernel_rfl) (of_decide_eq_true (by kernel_rfl)) k0 bel lt0) (trodAll_cons_mk (Below.trod laidOut (by kernel_rfl) (of_decide_eq_true (by kernel_rfl)) k1 bel lt1) (trodAll_cons_mk (Below.trod laidOut (by kernel_rfl) (of_decide_eq_true (by kernel_rfl)) k2 bel lt2) (trodAll_cons_mk (Below.trod laidOut (by kernel_rfl) (of_decide_eq_true (by kernel_rfl)) k3 bel lt3) (trodAll_cons_mk (Below.trod laidOut (by kernel_rfl) (of_decide_eq_true (by kernel_rfl)) k4 bel lt4) (trodAll_cons_mk (Below.trod laidOut (by kernel_rfl) (of_decide_eq_true (by kernel_rfl)) k5 bel lt5) trodAll_mk0)))))), rfl, bel.frame _, fun h => by cases h⟩

theorem row_holds : Rows.VmMeansSaid :=
  OpenClaim.holds_of_wide 4 Tryd.f4 rfl rfl rfl rfl rfl rfl rfl ⟨rfl, rfl, rfl, rfl, rfl⟩ rfl rfl rfl rfl rfl (by kernel_rfl) Tryd.func4 (by kernel_rfl)
    (of_decide_eq_true (by kernel_rfl)) (by unfold Func.isWrapper; first | (rw [if_pos (by decide +kernel)]; kernel_rfl) | (rw [if_neg (by decide +kernel)]; exact ⟨rfl, rfl⟩))
    (fun os started H enc _ => lifted os started H enc)
end Go.Proofs.YtppidbnbfipgnaaDoor.vmMeans
namespace Go.Proofs.YtppidbnbfipgnaaDoor
open Go

/-- the statement: the card -/
theorem vmMeans_proved : Rows.VmMeansCardSaid :=
  Claim7.holds_tied_plain_at .later [] [.data] true Rows.vmMeansCard.stood.harness false
    vmMeans.row_holds (fun _ h => by cases h) (by kernel_rfl) (fun _ h => by cases h) vmMeans_row_tie rfl ⟨rfl, rfl⟩ (by kernel_rfl) rfl
    (fun f fn hf hfn => by
      obtain rfl : f = 4 := Option.some.inj ((show Tryd.prog.funcNamed "riffle/rifflelaw08.VmMeans" = some 4 by kernel_rfl).symm.trans hf) |>.symm
      obtain rfl : fn = Tryd.f4 := (Option.some.inj (Tryd.func4.symm.trans hfn)).symm
      exact ⟨by kernel_rfl, fun j t ht => by
        rw [Tryd.params4] at ht
        have h3 : t = 24 ∨ t = 3 ∨ t = 2 ∨ t = 27 ∨ t = 43 := by
          rcases j with _ | (_ | (_ | (_ | (_ | (_ | j)))))
          · simp at ht; subst ht; simp
          · simp at ht; subst ht; simp
          · simp at ht; subst ht; simp
          · simp at ht; subst ht; simp
          · simp at ht; subst ht; simp
          · simp at ht; subst ht; simp
          · simp at ht
        rcases h3 with rfl | rfl | rfl | rfl | rfl
        · exact (show Tryd.prog.wantsStandIn 24 = false by kernel_rfl)
        · exact (show Tryd.prog.wantsStandIn 3 = false by kernel_rfl)
        · exact (show Tryd.prog.wantsStandIn 2 = false by kernel_rfl)
        · exact (show Tryd.prog.wantsStandIn 27 = false by kernel_rfl)
        · exact (show Tryd.prog.wantsStandIn 43 = false by kernel_rfl)⟩)
    (by kernel_rfl)
#print axioms vmMeans_proved
end Go.Proofs.YtppidbnbfipgnaaDoor
