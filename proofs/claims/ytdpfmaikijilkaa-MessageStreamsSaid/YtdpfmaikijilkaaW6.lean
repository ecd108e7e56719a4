/-
  The walks of a number of one byte, within bounds.
-/
import Derived.Test.YtdpfmaikijilkaaW5
namespace Go.Proofs.Ytdpfmaikijilkaa
open Go Go.RowKit Go.Sort Go.Proofs

theorem leaf_no' {P g B o : Nat} {F : Nat → Prop} {w w2 : World} {mk : Int → Value} {r : Option (Int × Wi)} (hr : r = none) (hb : But (fun k => F k ∨ k = B) w w2) : LeafTo P g B o F w mk r (.panicked fieldPanic) w2 := by
  subst hr
  exact ⟨hb, rfl⟩
set_option maxHeartbeats 1000000 in
set_option maxRecDepth 100000 in
theorem octet_any (S : Wi) (P g B o : Nat) (F : Nat → Prop) (v : Int) (w : World) (h : WAt w P g F S) (hp : Plc w P B o F (.int .i64 v)) (most : Int) (hL : S.bytes.length ≤ 1000000) :
    Calls Try.prog 76 #[wv S.fn1 S.fn2 P, .pointer (some ⟨B, o, none⟩), .int .i64 most] w (LeafTo P g B o F w (.int .i64) (octW S v most)) := by
  have hnum : ∀ w1 : World, Below w.heap.size w w1 → Calls Try.prog S.fn1 #[.int .u64 (IntKind.u64.wrap v), .int .i64 1, .pointer (some ⟨P, 0, none⟩)] w1 (NumTo P g F w1 (S.num (IntKind.u64.wrap v) 1)) := fun w1 hb => num_any S P g F (IntKind.u64.wrap v) 1 w1 (h.below hb) (by decide) (by decide) hL
  have hent := S.enters1
  have hw := wrapU v
  have hend := fun (w1 w2 : World) (v' : Int) (S' : Wi) (hw : Below w.heap.size w w1) (hb : But F w1 w2) (F' : Nat → Prop) (hsub : ∀ b, F' b → F b ∨ w1.heap.size ≤ b) (h2 : WAt w2 P g F' S') => leaf_end (v' := v') hp (fun x e => by cases e) hw hb F' hsub h2
  obtain ⟨f1, hf1⟩ : ∃ f1, f1 = S.fn1 := ⟨_, rfl⟩
  obtain ⟨f2, hf2⟩ : ∃ f2, f2 = S.fn2 := ⟨_, rfl⟩
  rw [← hf1, ← hf2]
  rw [← hf1] at hnum hent
  have hc := hp.cell
  have hfz := hp.fro
  have hlt := hp.lt
  have HP := Lib.hid hp
  have HE := Lib.hid hend
  clear hend hp h hf1 hf2
  cases hr : S.num (IntKind.u64.wrap v) 1 with
  | none =>
    have HR : Hid (octW S v most = none) := by rw [hw] at hr; rw [octW_eq, hr]; rfl
    rw [hr] at hnum
    have HNUM := Lib.hid hnum
    clear hnum hr hw
    go_enter Try.func76, Try.ntmps76
    go_wp2
    go_region_dies
    all_goals
      refine (HNUM.out _ (boxed w _)).mono ?_
      rintro e w2 ⟨hb, rfl⟩
      exact ⟨rfl, leaf_no HR.out ((But.of (boxed w _)).trans hb)⟩
  | some r =>
    obtain ⟨v', S'⟩ := r
    have hoct : octW S v most = if 0 ≤ wrap64 v' ∧ wrap64 v' ≤ most then some (wrap64 v', S') else none := by rw [hw] at hr; rw [octW_eq, hr]; rfl
    obtain ⟨x, hx⟩ : ∃ x, x = wrap64 v' := ⟨_, rfl⟩
    have hxw : IntKind.i64.wrap v' = x := by rw [hx]; exact wrapI v'
    rw [← hx] at hoct
    rw [hr] at hnum
    have HNUM := Lib.hid hnum
    have HO := Lib.hid hoct
    clear hnum hr hw hoct hx
    by_cases h0 : 0 ≤ x
    · by_cases h1 : x ≤ most
      · have HR : Hid (octW S v most = some (x, S')) := by (have e := HO.out; rw [if_pos ⟨h0, h1⟩] at e; exact e)
        go_enter Try.func76, Try.ntmps76
        go_wp2
        go_region_law (first
          | (go_simp; refine (HNUM.out _ (boxed w _)).mono ?_; rintro e w2 ⟨hb2, rfl, F', hsub, hw2⟩; have c2 := (HP.out.but ((But.of (boxed w _)).trans hb2) HP.out.nf).1; have f2' := (HP.out.but ((But.of (boxed w _)).trans hb2) HP.out.nf).2; have HW2 := Lib.hid (And.intro hb2 (And.intro hsub hw2)); clear hb2 hsub hw2; dsimp only))
        all_goals
          go_wp2_with (first
            | (go_at_call 83; refine (must_ok _).mono ?_; rintro e w' ⟨rfl, rfl⟩))
          go_end0
          exact leaf_yes HR.out (HE.out _ _ _ _ (boxed w _) HW2.out.1 F' HW2.out.2.1 HW2.out.2.2)
      · have HR : Hid (octW S v most = none) := by (have e := HO.out; rw [if_neg (fun e2 => h1 e2.2)] at e; exact e)
        have HD : Hid (decide (x ≤ most) = false) := decide_eq_false h1
        go_enter Try.func76, Try.ntmps76
        go_wp2
        go_region_law (first
          | (go_simp; refine (HNUM.out _ (boxed w _)).mono ?_; rintro e w2 ⟨hb2, rfl, F', hsub, hw2⟩; have c2 := (HP.out.but ((But.of (boxed w _)).trans hb2) HP.out.nf).1; have f2' := (HP.out.but ((But.of (boxed w _)).trans hb2) HP.out.nf).2; have HW2 := Lib.hid (And.intro hb2 (And.intro hsub hw2)); clear hb2 hsub hw2; dsimp only))
        all_goals
          go_wp2_with (first
            | (go_at_call 83; rw [HD.out]; refine (must_no _).mono ?_; rintro e w' ⟨rfl, rfl⟩))
          exact ⟨rfl, leaf_no' HR.out (HE.out _ _ _ _ (boxed w _) HW2.out.1 F' HW2.out.2.1 HW2.out.2.2).1⟩
    · have HR : Hid (octW S v most = none) := by (have e := HO.out; rw [if_neg (fun e2 => h0 e2.1)] at e; exact e)
      go_enter Try.func76, Try.ntmps76
      go_wp2
      go_region_law (first
        | (go_simp; refine (HNUM.out _ (boxed w _)).mono ?_; rintro e w2 ⟨hb2, rfl, F', hsub, hw2⟩; have c2 := (HP.out.but ((But.of (boxed w _)).trans hb2) HP.out.nf).1; have f2' := (HP.out.but ((But.of (boxed w _)).trans hb2) HP.out.nf).2; have HW2 := Lib.hid (And.intro hb2 (And.intro hsub hw2)); clear hb2 hsub hw2; dsimp only))
      all_goals
        go_wp2_with (first
          | (go_at_call 83; refine (must_no _).mono ?_; rintro e w' ⟨rfl, rfl⟩))
        exact ⟨rfl, leaf_no' HR.out (HE.out _ _ _ _ (boxed w _) HW2.out.1 F' HW2.out.2.1 HW2.out.2.2).1⟩
set_option maxHeartbeats 1000000 in
set_option maxRecDepth 100000 in
theorem octetE_any (S : Wi) (P g B o : Nat) (F : Nat → Prop) (v : Int) (w : World) (h : WAt w P g F S) (hp : Plc w P B o F (.int .i64 v)) (most : Int) (hL : S.bytes.length ≤ 1000000) :
    Calls Try.prog 87 #[wv S.fn1 S.fn2 P, .pointer (some ⟨B, o, none⟩), .int .i64 most] w (LeafTo P g B o F w (.int .i64) (octW S v most)) := by
  have hnum : ∀ w1 : World, Below w.heap.size w w1 → Calls Try.prog S.fn1 #[.int .u64 (IntKind.u64.wrap v), .int .i64 1, .pointer (some ⟨P, 0, none⟩)] w1 (NumTo P g F w1 (S.num (IntKind.u64.wrap v) 1)) := fun w1 hb => num_any S P g F (IntKind.u64.wrap v) 1 w1 (h.below hb) (by decide) (by decide) hL
  have hent := S.enters1
  have hw := wrapU v
  have hend := fun (w1 w2 : World) (v' : Int) (S' : Wi) (hw : Below w.heap.size w w1) (hb : But F w1 w2) (F' : Nat → Prop) (hsub : ∀ b, F' b → F b ∨ w1.heap.size ≤ b) (h2 : WAt w2 P g F' S') => leaf_end (v' := v') hp (fun x e => by cases e) hw hb F' hsub h2
  obtain ⟨f1, hf1⟩ : ∃ f1, f1 = S.fn1 := ⟨_, rfl⟩
  obtain ⟨f2, hf2⟩ : ∃ f2, f2 = S.fn2 := ⟨_, rfl⟩
  rw [← hf1, ← hf2]
  rw [← hf1] at hnum hent
  have hc := hp.cell
  have hfz := hp.fro
  have hlt := hp.lt
  have HP := Lib.hid hp
  have HE := Lib.hid hend
  clear hend hp h hf1 hf2
  cases hr : S.num (IntKind.u64.wrap v) 1 with
  | none =>
    have HR : Hid (octW S v most = none) := by rw [hw] at hr; rw [octW_eq, hr]; rfl
    rw [hr] at hnum
    have HNUM := Lib.hid hnum
    clear hnum hr hw
    go_enter Try.func87, Try.ntmps87
    go_wp2
    go_region_dies
    all_goals
      refine (HNUM.out _ (boxed w _)).mono ?_
      rintro e w2 ⟨hb, rfl⟩
      exact ⟨rfl, leaf_no HR.out ((But.of (boxed w _)).trans hb)⟩
  | some r =>
    obtain ⟨v', S'⟩ := r
    have hoct : octW S v most = if 0 ≤ wrap64 v' ∧ wrap64 v' ≤ most then some (wrap64 v', S') else none := by rw [hw] at hr; rw [octW_eq, hr]; rfl
    obtain ⟨x, hx⟩ : ∃ x, x = wrap64 v' := ⟨_, rfl⟩
    have hxw : IntKind.i64.wrap v' = x := by rw [hx]; exact wrapI v'
    rw [← hx] at hoct
    rw [hr] at hnum
    have HNUM := Lib.hid hnum
    have HO := Lib.hid hoct
    clear hnum hr hw hoct hx
    by_cases h0 : 0 ≤ x
    · by_cases h1 : x ≤ most
      · have HR : Hid (octW S v most = some (x, S')) := by (have e := HO.out; rw [if_pos ⟨h0, h1⟩] at e; exact e)
        go_enter Try.func87, Try.ntmps87
        go_wp2
        go_region_law (first
          | (go_simp; refine (HNUM.out _ (boxed w _)).mono ?_; rintro e w2 ⟨hb2, rfl, F', hsub, hw2⟩; have c2 := (HP.out.but ((But.of (boxed w _)).trans hb2) HP.out.nf).1; have f2' := (HP.out.but ((But.of (boxed w _)).trans hb2) HP.out.nf).2; have HW2 := Lib.hid (And.intro hb2 (And.intro hsub hw2)); clear hb2 hsub hw2; dsimp only))
        all_goals
          go_wp2_with (first
            | (go_at_call 83; refine (must_ok _).mono ?_; rintro e w' ⟨rfl, rfl⟩))
          go_end0
          exact leaf_yes HR.out (HE.out _ _ _ _ (boxed w _) HW2.out.1 F' HW2.out.2.1 HW2.out.2.2)
      · have HR : Hid (octW S v most = none) := by (have e := HO.out; rw [if_neg (fun e2 => h1 e2.2)] at e; exact e)
        have HD : Hid (decide (x ≤ most) = false) := decide_eq_false h1
        go_enter Try.func87, Try.ntmps87
        go_wp2
        go_region_law (first
          | (go_simp; refine (HNUM.out _ (boxed w _)).mono ?_; rintro e w2 ⟨hb2, rfl, F', hsub, hw2⟩; have c2 := (HP.out.but ((But.of (boxed w _)).trans hb2) HP.out.nf).1; have f2' := (HP.out.but ((But.of (boxed w _)).trans hb2) HP.out.nf).2; have HW2 := Lib.hid (And.intro hb2 (And.intro hsub hw2)); clear hb2 hsub hw2; dsimp only))
        all_goals
          go_wp2_with (first
            | (go_at_call 83; rw [HD.out]; refine (must_no _).mono ?_; rintro e w' ⟨rfl, rfl⟩))
          exact ⟨rfl, leaf_no' HR.out (HE.out _ _ _ _ (boxed w _) HW2.out.1 F' HW2.out.2.1 HW2.out.2.2).1⟩
    · have HR : Hid (octW S v most = none) := by (have e := HO.out; rw [if_neg (fun e2 => h0 e2.1)] at e; exact e)
      go_enter Try.func87, Try.ntmps87
      go_wp2
      go_region_law (first
        | (go_simp; refine (HNUM.out _ (boxed w _)).mono ?_; rintro e w2 ⟨hb2, rfl, F', hsub, hw2⟩; have c2 := (HP.out.but ((But.of (boxed w _)).trans hb2) HP.out.nf).1; have f2' := (HP.out.but ((But.of (boxed w _)).trans hb2) HP.out.nf).2; have HW2 := Lib.hid (And.intro hb2 (And.intro hsub hw2)); clear hb2 hsub hw2; dsimp only))
      all_goals
        go_wp2_with (first
          | (go_at_call 83; refine (must_no _).mono ?_; rintro e w' ⟨rfl, rfl⟩))
        exact ⟨rfl, leaf_no' HR.out (HE.out _ _ _ _ (boxed w _) HW2.out.1 F' HW2.out.2.1 HW2.out.2.2).1⟩
end Go.Proofs.Ytdpfmaikijilkaa
