/-
  Proved: for every string, the law CodeTexts of the code layer returns true: which program a text is, or that it is none, is as the document says.
  Conditions: the six listed package variables hold what the program's text lays; the card ties that.
-/
import Derived.Test.YtlgbkbmjfmomkaaDoorJ3
import Derived.Test.YtlgbkbmjfmomkaaDoorO6
import Derived.Test.YtlgbkbmjfmomkaaDoorP1
import Derived.Test.YtlgbkbmjfmomkaaDoorTie
import Derived.Test.YtlgbkbmjfmomkaaDoorCards
import Derived.ProofKit
import Derived.OpenShut
import Derived.ChangeMaps5
import Derived.ChangeOld
import Derived.Below
import Derived.Carry
import Derived.SevenTiedAt
namespace Go.Proofs.YtlgbkbmjfmomkaaDoor
open Go.RowKit CodM

theorem GloT.glo {w : World} (h : GloT w) : Glo w := ⟨h.words, h.pow⟩
theorem textsLaw_long (X : ByteArray) (w : World) (hG : GloT w) (hn : 3000 < X.size) : Calls Tryd.prog 4 #[.string X] w (TellsBB true w) := by
  have HG := Lib.hid hG
  have hz : (3000 : Int) < (X.size : Int) := by omega
  clear hG
  go_enter Tryd.func4, Tryd.ntmps4
  go_wp2_with (first
    | (go_at_call 10; refine (known_any _ HG.out.glo).mono ?_; rintro e w3 ⟨rfl, hb⟩; have HB3 := Lib.hid hb; clear hb))
  go_ret
  exact ⟨rfl, HB3.out⟩
theorem rofT_no (l : List UInt8) (X : ByteArray) (hX : X = strU l) (w : World) (hG : GloT w) (hn : l.length ≤ 3000) (hg : goodT l = none) :
    Calls Tryd.prog 20 #[.string X] w fun e w' => e = .returned (.tuple #[.agg #[.int .i64 0, .slice none 0 0], .bool false]) ∧ Below w.heap.size w w' := by
  subst hX
  refine (rof_any l w hG (by omega)).mono ?_
  rintro e w' ⟨h1, h2⟩
  rw [slopT_good, hg] at h2
  exact ⟨h2, h1⟩
theorem cofT_no (l : List UInt8) (X : ByteArray) (hX : X = strU l) (w : World) (hG : GloT w) (hn : l.length ≤ 3000) (hg : goodT l = none) : Calls Tryd.prog 17 #[.string X] w (OfTNo w) := by
  subst hX
  exact of_no l w hG (by omega) hg

set_option maxHeartbeats 2000000 in
set_option maxRecDepth 100000 in
theorem textsLaw_none (l : List UInt8) (X : ByteArray) (hX : X = strU l) (w : World) (hG : GloT w) (hn : l.length ≤ 3000) (hg : goodT l = none) :
    Calls Tryd.prog 4 #[.string X] w (TellsBB true w) := by
  have HG := Lib.hid hG
  have HX := Lib.hid hX
  have HGP := Lib.hid hg
  have HN := Lib.hid hn
  have hz : ¬ (3000 : Int) < (X.size : Int) := by rw [hX, strU_size]; omega
  have hz' : (X.size : Int) ≤ 3000 := by omega
  clear hG hX hg hn
  go_enter Tryd.func4, Tryd.ntmps4
  go_wp2_with (first
    | (go_at_call 17; refine (cofT_no l X HX.out _ HG.out HN.out HGP.out).mono ?_; rintro e w1 ⟨rfl, hb1⟩; have HB1 := Lib.hid hb1; clear hb1)
    | (go_at_call 20; refine (rofT_no l X HX.out _ ((HG.out.next HB1.out).next ((Below.refl _ _).alloc (Nat.le_refl _) _)) HN.out HGP.out).mono ?_; rintro e w3 ⟨rfl, hb3⟩; have HB3 := Lib.hid (HB1.out.trans ((((Below.refl w1.heap.size w1).alloc (Nat.le_refl _) _).trans (hb3.mono (by simp))).mono HB1.out.size)); have hbx := (hb3.block _ (by simp)).trans (heap_alloc_new w1 (.cells #[.int .i64 0, .slice none 0 0] 24)); have p0 : w3.cell? ⟨w1.heap.size, 0, none⟩ = some (.int .i64 0) := (by rw [cell_of_row _ _ _ _ _ _ hbx]; rfl); have p1 : w3.cell? ⟨w1.heap.size, 1, none⟩ = some (.slice none 0 0) := (by rw [cell_of_row _ _ _ _ _ _ hbx]; rfl); have hs2 := heap_lt hbx; clear hb3)
    | (go_at_call 19; refine (rsame_any _ none none 0 0 0 0 ⟨0, []⟩ ⟨0, []⟩ (prog_zero _) (prog_zero _)).mono ?_; rintro e w4 ⟨rfl, hb4⟩; rw [same_zero]; have HB4 := Lib.hid (HB3.out.trans ((((Below.refl w3.heap.size w3).alloc (Nat.le_refl _) _).trans (hb4.mono (by simp))).mono HB3.out.size)); clear hb4 p0 p1 hbx)
    | (go_at_call 10; refine (known_any _ (HG.out.next HB4.out).glo).mono ?_; rintro e w5 ⟨rfl, hb5⟩; have HB5 := Lib.hid (HB4.out.trans (hb5.mono HB4.out.size)); clear hb5))
  go_ret
  exact ⟨rfl, HB5.out⟩

theorem cofT_yes (l : List UInt8) (X : ByteArray) (hX : X = strU l) (k : Int) (ks : List (List Ins)) (w : World) (hG : GloT w) (hn : l.length ≤ 3000) (hg : goodT l = some ⟨k, ks⟩) : Calls Tryd.prog 17 #[.string X] w fun e w' =>
    ∃ a n c, e = .returned (.tuple #[.agg #[.int .i64 k, .slice a n c], .int .i64 0]) ∧ ProgAt w' a n ⟨k, ks⟩ ∧ Below w.heap.size w w' := by
  subst hX
  refine (of_yes l _ w hG (by omega) hg).mono ?_
  rintro e w' ⟨a, n, c, h1, _, h3, h4⟩
  exact ⟨a, n, c, h1, h3, h4⟩
theorem rofT_yes (l : List UInt8) (X : ByteArray) (hX : X = strU l) (k : Int) (ks : List (List Ins)) (w : World) (hG : GloT w) (hn : l.length ≤ 3000) (hg : goodT l = some ⟨k, ks⟩) (hk : I64 k) (hl : ks.length ≤ 9223372036854775807) :
    Calls Tryd.prog 20 #[.string X] w fun e w' => ∃ a n c, e = .returned (.tuple #[.agg #[.int .i64 k, .slice a n c], .bool true]) ∧ ProgAt w' a n ⟨k, ks⟩ ∧ Below w.heap.size w w' := by
  subst hX
  refine (rof_any l w hG (by omega)).mono ?_
  rintro e w' ⟨h1, h2⟩
  rw [slopT_good, hg] at h2
  obtain ⟨a, n, c, h3, h4, h5⟩ := h2
  exact ⟨a, n, c, h3, ⟨hk, h5.kinds (by rw [← h5.1]; exact hl)⟩, h1⟩

set_option maxHeartbeats 2000000 in
set_option maxRecDepth 100000 in
theorem textsLaw_some (l : List UInt8) (X : ByteArray) (hX : X = strU l) (k : Int) (ks : List (List Ins)) (w : World) (hG : GloT w) (hn : l.length ≤ 3000) (hg : goodT l = some ⟨k, ks⟩) :
    Calls Tryd.prog 4 #[.string X] w (TellsBB true w) := by
  have HG := Lib.hid hG
  have HX := Lib.hid hX
  have HGP := Lib.hid hg
  have HN := Lib.hid hn
  have hz : ¬ (3000 : Int) < (X.size : Int) := by rw [hX, strU_size]; omega
  have hz' : (X.size : Int) ≤ 3000 := by omega
  clear hG hX hg hn
  go_enter Tryd.func4, Tryd.ntmps4
  go_wp2_with (first
    | (go_at_call 17; refine (cofT_yes l X HX.out k ks _ HG.out HN.out HGP.out).mono ?_; rintro e w1 ⟨a1, n1, c1, rfl, hp1, hb1⟩; have HP1 := Lib.hid hp1; have HB1 := Lib.hid hb1; clear hb1 hp1)
    | (go_at_call 20; refine (rofT_yes l X HX.out k ks _ ((HG.out.next HB1.out).next ((Below.refl _ _).alloc (Nat.le_refl _) _)) HN.out HGP.out HP1.out.1 (by rw [HP1.out.2.1]; exact HP1.out.2.2.1)).mono ?_; rintro e w3 ⟨a3, n3, c3, rfl, hp3, hb3⟩; have HB3 := Lib.hid (HB1.out.trans ((((Below.refl w1.heap.size w1).alloc (Nat.le_refl _) _).trans (hb3.mono (by simp))).mono HB1.out.size)); have HP13 := Lib.hid ((HP1.out.below ((Below.refl w1.heap.size w1).alloc (Nat.le_refl _) (.cells #[.int .i64 k, .slice a1 n1 c1] 24)) (Nat.le_refl _)).below hb3 (Nat.le_refl _)); have HP3 := Lib.hid hp3; have hbx := (hb3.block _ (by simp)).trans (heap_alloc_new w1 (.cells #[.int .i64 k, .slice a1 n1 c1] 24)); have p0 : w3.cell? ⟨w1.heap.size, 0, none⟩ = some (.int .i64 k) := (by rw [cell_of_row _ _ _ _ _ _ hbx]; rfl); have p1 : w3.cell? ⟨w1.heap.size, 1, none⟩ = some (.slice a1 n1 c1) := (by rw [cell_of_row _ _ _ _ _ _ hbx]; rfl); have hs2 := heap_lt hbx; clear hb3 hp3)
    | (go_at_call 19; refine (rsame_any _ a1 a3 n1 n3 c1 c3 ⟨k, ks⟩ ⟨k, ks⟩ (HP13.out.below ((Below.refl w3.heap.size w3).alloc (Nat.le_refl _) _) (Nat.le_refl _)) (HP3.out.below ((Below.refl w3.heap.size w3).alloc (Nat.le_refl _) _) (Nat.le_refl _))).mono ?_; rintro e w4 ⟨rfl, hb4⟩; rw [sameP_self]; have HB4 := Lib.hid (HB3.out.trans ((((Below.refl w3.heap.size w3).alloc (Nat.le_refl _) _).trans (hb4.mono (by simp))).mono HB3.out.size)); clear hb4 p0 p1 hbx)
    | (go_at_call 10; refine (known_any _ (HG.out.next HB4.out).glo).mono ?_; rintro e w5 ⟨rfl, hb5⟩; have HB5 := Lib.hid (HB4.out.trans (hb5.mono HB4.out.size)); clear hb5))
  go_ret
  exact ⟨rfl, HB5.out⟩
/-- the law at every text -/
theorem textsLaw_any (X : ByteArray) (w : World) (hG : GloT w) : Calls Tryd.prog 4 #[.string X] w (TellsBB true w) := by
  by_cases hn : 3000 < X.size
  · exact textsLaw_long X w hG hn
  · have hX : X = strU X.data.toList := by unfold strU; rfl
    have hl : X.data.toList.length ≤ 3000 := by rw [Array.length_toList]; exact Nat.le_of_not_lt hn
    rcases hg : goodT X.data.toList with _ | ⟨k, ks⟩
    · exact textsLaw_none _ X hX w hG hl hg
    · exact textsLaw_some _ X hX k ks w hG hl hg
end Go.Proofs.YtlgbkbmjfmomkaaDoor
namespace Go.Proofs.YtlgbkbmjfmomkaaDoor.codeTexts
open Go.ChangeShapes Go.WideShapes Go.ChangeAt Go.RowKit
open Go.ChangeMaps (open_string shut_string)

theorem laidOut : laidOutB Tryd.prog = true := by kernel_rfl

set_option maxRecDepth 100000 in
theorem lifted (os : Os) (started : os.Started) (H : Type) (enc : TypeId × Value → H) :
    ReturnsInHanded {} Tryd.checked os 4 .any (fun w args => (Rows.codeTextsSpec.pre enc Tryd.prog Tryd.f4 [] false w args ∧ laidMetH Tryd.prog laid6 w) ∧ sizedMet enc Tryd.prog Tryd.f4 (OpenSpec.ofChange Rows.codeTextsSpec) false w args)
      (Rows.codeTextsSpec.post enc Tryd.prog Tryd.f4 false true false false) := by
  refine wrap_shaped (C := Tryd.checked) (X := fun w _ => laidMetH Tryd.prog laid6 w) (fun _ _ _ hh h => h.of_heap hh) Tryd.own started (by kernel_rfl) Tryd.func4
    (ChangeSpec.witness_at (enc := enc) (C := Tryd.checked) (os := os) (X := fun w _ => laidMetH Tryd.prog laid6 w) false (laidWorld6 os) #[.string ⟨#[]⟩] 8 rfl (by kernel_rfl) (by kernel_rfl) (by kernel_rfl) (by kernel_rfl) (by kernel_rfl) (laid6_met os _)) ?_
  intro W base args ds gs before hval0 hW hL hSh
  have hval : ∀ (j : Nat) t v, Tryd.f4.params[j]? = some t → args[j]? = some v → Value.okWide Tryd.prog W .any base t v := hval0
  have hW' := hW
  obtain ⟨p, q, hA0, hV, rfl, hfz, hnd⟩ := hW
  have hA : DataW.TrodAll enc Tryd.prog W 0 (fun _ => true) true Tryd.f4.params.toList args.toList ds p := hA0
  rw [Tryd.params4] at hA hval
  obtain ⟨v0, vs0, d0, ds0, p0, q0, hargs0, rfl, rfl, h0, r0⟩ := trodAll_cons hA
  obtain ⟨rfl, rfl, rfl⟩ := trodAll_nil r0
  obtain rfl : args = #[v0] := by cases args; simp_all
  obtain ⟨rfl, rfl⟩ := trodVars_none hV
  have k0 := h0
  obtain ⟨X, rfl, -, -, -⟩ := open_string Tryd.underlying9 (hval 0 9 v0 rfl rfl) h0
  have lt0 : ∀ x ∈ p0, x.block < W.heap.size := by obtain ⟨m, hm⟩ := k0; exact DataW.trod_lt m _ _ _ hm
  clear hA0 hval0
  refine (textsLaw_any X W (gloT_of_laid6 hL hSh)).mono fun e W' ⟨he, bel⟩ => ?_
  subst he
  exact ⟨_, rfl, _, _, _, [], _, [], hW', trodAll_mk1 (shut_bool Tryd.underlying4 _), (trodAll_cons_mk (Below.trod laidOut (by kernel_rfl) (of_decide_eq_true (by kernel_rfl)) k0 bel lt0) trodAll_mk0), rfl, bel.frame _, fun h => by cases h⟩

theorem row_holds : Rows.CodeTextsSaid :=
  OpenClaim.holds_of_wide 4 Tryd.f4 rfl rfl rfl rfl rfl rfl rfl ⟨rfl, rfl, rfl, rfl, rfl⟩ rfl rfl rfl rfl rfl (by kernel_rfl) Tryd.func4 (by kernel_rfl)
    (of_decide_eq_true (by kernel_rfl)) (by unfold Func.isWrapper; first | (rw [if_pos (by decide +kernel)]; kernel_rfl) | (rw [if_neg (by decide +kernel)]; exact ⟨rfl, rfl⟩))
    (fun os started H enc _ => lifted os started H enc)
end Go.Proofs.YtlgbkbmjfmomkaaDoor.codeTexts
namespace Go.Proofs.YtlgbkbmjfmomkaaDoor
open Go

/-- the statement: the card -/
theorem codeTexts_proved : Rows.CodeTextsCardSaid :=
  Claim7.holds_tied_plain_at .later [] [.data, .data, .data, .sentinel, .sentinel, .data] true Rows.codeTextsCard.stood.harness true
    codeTexts.row_holds (fun _ h => by cases h) (by kernel_rfl) (fun _ h => by cases h) codeTexts_row_tie rfl ⟨rfl, rfl⟩ (by kernel_rfl) rfl
    (fun f fn hf hfn => by
      obtain rfl : f = 4 := Option.some.inj ((show Tryd.prog.funcNamed "riffle/rifflelaw03.CodeTexts" = some 4 by kernel_rfl).symm.trans hf) |>.symm
      obtain rfl : fn = Tryd.f4 := (Option.some.inj (Tryd.func4.symm.trans hfn)).symm
      exact ⟨by kernel_rfl, fun j t ht => by
        rw [Tryd.params4] at ht
        have h3 : t = 9 := by
          rcases j with _ | j
          · simp at ht; subst ht; rfl
          · simp at ht
        subst h3
        exact (show Tryd.prog.wantsStandIn 9 = false by kernel_rfl)⟩)
    (by kernel_rfl)
#print axioms codeTexts_proved
end Go.Proofs.YtlgbkbmjfmomkaaDoor
