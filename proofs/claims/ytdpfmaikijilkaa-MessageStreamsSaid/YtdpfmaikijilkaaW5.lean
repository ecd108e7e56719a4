/-
  The walks of a number of 4 bytes, of 8, at a place.
-/
import Derived.Test.YtdpfmaikijilkaaW4
namespace Go.Proofs.Ytdpfmaikijilkaa
open Go Go.RowKit Go.Sort Go.Proofs

theorem boxed (w : World) (o : Obj) : Below w.heap.size w (w.alloc o).drew := ((Below.refl _ _).alloc (Nat.le_refl _) _).drew
theorem wrap32 {v : Int} (h : U32 v) : IntKind.u32.wrap v = v := by
  have := h.1
  have := h.2
  simp [IntKind.wrap, IntKind.signed, IntKind.bits]
  omega
theorem leaf_no {P g B o : Nat} {F : Nat → Prop} {w w2 : World} {mk : Int → Value} {r : Option (Int × Wi)} (hr : r = none) (hb : But F w w2) : LeafTo P g B o F w mk r (.panicked fieldPanic) w2 := by
  subst hr
  exact ⟨hb.mono fun _ _ e => .inl e, rfl⟩
theorem leaf_yes {P g B o : Nat} {F : Nat → Prop} {w w2 : World} {mk : Int → Value} {r : Option (Int × Wi)} {v : Int} {S : Wi} (hr : r = some (v, S))
    (h : But (fun k => F k ∨ k = B) w w2 ∧ (∃ F', (∀ b, F' b → F b ∨ w.heap.size ≤ b) ∧ WAt w2 P g F' S) ∧ w2.heap[B]? = (w.setCell ⟨B, o, none⟩ (mk v)).heap[B]?) : LeafTo P g B o F w mk r (.returned (.tuple #[])) w2 := by
  subst hr
  exact ⟨h.1, rfl, h.2⟩
theorem Wi.enters1 (S : Wi) (args : Array Value) (w : World) : Sem.run Try.prog (callFunc S.fn1 args) w = .ok (.enter S.fn1 args) w := by
  cases S <;> rfl
theorem Wi.enters2 (S : Wi) (args : Array Value) (w : World) : Sem.run Try.prog (callFunc S.fn2 args) w = .ok (.enter S.fn2 args) w := by
  cases S <;> rfl
set_option maxHeartbeats 1000000 in
set_option maxRecDepth 100000 in
theorem word_any (S : Wi) (P g B o : Nat) (F : Nat → Prop) (v : Int) (w : World) (h : WAt w P g F S) (hp : Plc w P B o F (.int .u32 v)) (hv : U32 v) (hL : S.bytes.length ≤ 1000000) :
    Calls Try.prog 75 #[wv S.fn1 S.fn2 P, .pointer (some ⟨B, o, none⟩)] w (LeafTo P g B o F w (.int .u32) (wordW S v)) := by
  have hnum : ∀ w1 : World, Below w.heap.size w w1 → Calls Try.prog S.fn1 #[.int .u64 (IntKind.u64.wrap v), .int .i64 4, .pointer (some ⟨P, 0, none⟩)] w1 (NumTo P g F w1 (S.num (IntKind.u64.wrap v) 4)) := fun w1 hb => num_any S P g F (IntKind.u64.wrap v) 4 w1 (h.below hb) (by decide) (by decide) hL
  have hent := S.enters1
  have hw : IntKind.u64.wrap v = v := by rw [wrapU]; have := hv.1; have := hv.2; omega
  have hend := fun (w1 w2 : World) (v' : Int) (S' : Wi) (hw : Below w.heap.size w w1) (hb : But F w1 w2) (F' : Nat → Prop) (hsub : ∀ b, F' b → F b ∨ w1.heap.size ≤ b) (h2 : WAt w2 P g F' S') => leaf_end (v' := v') hp (fun x e => by cases e) hw hb F' hsub h2
  obtain ⟨f1, hf1⟩ : ∃ f1, f1 = S.fn1 := ⟨_, rfl⟩
  obtain ⟨f2, hf2⟩ : ∃ f2, f2 = S.fn2 := ⟨_, rfl⟩
  rw [← hf1, ← hf2]
  rw [← hf1] at hnum hent
  have hc := hp.cell
  have hfz := hp.fro
  have hlt := hp.lt
  have hv0 := hv.1
  have hv1 := hv.2
  have HP := Lib.hid hp
  have HE := Lib.hid hend
  clear hend hp h hf1 hf2
  cases hr : S.num (IntKind.u64.wrap v) 4 with
  | none =>
    have HR : Hid (wordW S v = none) := by rw [hw] at hr; exact hr
    rw [hr] at hnum
    have HNUM := Lib.hid hnum
    clear hnum hr hw
    go_enter Try.func75, Try.ntmps75
    go_wp2
    go_region_dies
    all_goals
      refine (HNUM.out _ (boxed w _)).mono ?_
      rintro e w2 ⟨hb, rfl⟩
      exact ⟨rfl, leaf_no HR.out ((But.of (boxed w _)).trans hb)⟩
  | some r =>
    obtain ⟨v', S'⟩ := r
    have HR : Hid (wordW S v = some (v', S')) := by rw [hw] at hr; exact hr
    rw [hr] at hnum
    have HNUM := Lib.hid hnum
    clear hnum hr hw
    go_enter Try.func75, Try.ntmps75
    go_wp2
    go_region_law (first
      | (go_simp; refine (HNUM.out _ (boxed w _)).mono ?_; rintro e w2 ⟨hb2, rfl, F', hsub, hw2⟩; have c2 := (HP.out.but ((But.of (boxed w _)).trans hb2) HP.out.nf).1; have f2' := (HP.out.but ((But.of (boxed w _)).trans hb2) HP.out.nf).2; have HW2 := Lib.hid (And.intro hb2 (And.intro hsub hw2)); clear hb2 hsub hw2; dsimp only))
    all_goals
      go_wp2
      go_end0
      rw [wrap32 (wordW_bd HR.out hv)]
      exact leaf_yes HR.out (HE.out _ _ _ _ (boxed w _) HW2.out.1 F' HW2.out.2.1 HW2.out.2.2)
set_option maxHeartbeats 1000000 in
set_option maxRecDepth 100000 in
theorem whole_any (S : Wi) (P g B o : Nat) (F : Nat → Prop) (v : Int) (w : World) (h : WAt w P g F S) (hp : Plc w P B o F (.int .i64 v)) (hL : S.bytes.length ≤ 1000000) :
    Calls Try.prog 77 #[wv S.fn1 S.fn2 P, .pointer (some ⟨B, o, none⟩)] w (LeafTo P g B o F w (.int .i64) (wholeW S v)) := by
  have hnum : ∀ w1 : World, Below w.heap.size w w1 → Calls Try.prog S.fn1 #[.int .u64 (IntKind.u64.wrap v), .int .i64 8, .pointer (some ⟨P, 0, none⟩)] w1 (NumTo P g F w1 (S.num (IntKind.u64.wrap v) 8)) := fun w1 hb => num_any S P g F (IntKind.u64.wrap v) 8 w1 (h.below hb) (by decide) (by decide) hL
  have hent := S.enters1
  have hw := wrapU v
  have hend := fun (w1 w2 : World) (v' : Int) (S' : Wi) (hw : Below w.heap.size w w1) (hb : But F w1 w2) (F' : Nat → Prop) (hsub : ∀ b, F' b → F b ∨ w1.heap.size ≤ b) (h2 : WAt w2 P g F' S') => leaf_end (v' := v') hp (fun x e => by cases e) hw hb F' hsub h2
  obtain ⟨f1, hf1⟩ : ∃ f1, f1 = S.fn1 := ⟨_, rfl⟩
  obtain ⟨f2, hf2⟩ : ∃ f2, f2 = S.fn2 := ⟨_, rfl⟩
  rw [← hf1, ← hf2]
  rw [← hf1] at hnum hent
  have hc := hp.cell
  have hfz := hp.fro
  have hlt := hp.lt
  have HP := Lib.hid hp
  have HE := Lib.hid hend
  clear hend hp h hf1 hf2
  cases hr : S.num (IntKind.u64.wrap v) 8 with
  | none =>
    have HR : Hid (wholeW S v = none) := by rw [hw] at hr; show Option.map _ (S.num _ 8) = _; rw [hr]; rfl
    rw [hr] at hnum
    have HNUM := Lib.hid hnum
    clear hnum hr hw
    go_enter Try.func77, Try.ntmps77
    go_wp2
    go_region_dies
    all_goals
      refine (HNUM.out _ (boxed w _)).mono ?_
      rintro e w2 ⟨hb, rfl⟩
      exact ⟨rfl, leaf_no HR.out ((But.of (boxed w _)).trans hb)⟩
  | some r =>
    obtain ⟨v', S'⟩ := r
    have HR : Hid (wholeW S v = some (wrap64 v', S')) := by rw [hw] at hr; show Option.map _ (S.num _ 8) = _; rw [hr]; rfl
    rw [hr] at hnum
    have HNUM := Lib.hid hnum
    clear hnum hr hw
    go_enter Try.func77, Try.ntmps77
    go_wp2
    go_region_law (first
      | (go_simp; refine (HNUM.out _ (boxed w _)).mono ?_; rintro e w2 ⟨hb2, rfl, F', hsub, hw2⟩; have c2 := (HP.out.but ((But.of (boxed w _)).trans hb2) HP.out.nf).1; have f2' := (HP.out.but ((But.of (boxed w _)).trans hb2) HP.out.nf).2; have HW2 := Lib.hid (And.intro hb2 (And.intro hsub hw2)); clear hb2 hsub hw2; dsimp only))
    all_goals
      go_wp2
      go_end0
      rw [wrapI]
      exact leaf_yes HR.out (HE.out _ _ _ _ (boxed w _) HW2.out.1 F' HW2.out.2.1 HW2.out.2.2)
end Go.Proofs.Ytdpfmaikijilkaa
