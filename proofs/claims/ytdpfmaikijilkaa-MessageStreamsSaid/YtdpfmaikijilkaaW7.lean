/-
  The walk of a kind, or any one, at a place.
-/
import Derived.Test.YtdpfmaikijilkaaW6
namespace Go.Proofs.Ytdpfmaikijilkaa
open Go Go.RowKit Go.Sort Go.Proofs

theorem heap_setCell_twice (w : World) (B o : Nat) (u u' : Value) : ((w.setCell ⟨B, o, none⟩ u).setCell ⟨B, o, none⟩ u').heap[B]? = (w.setCell ⟨B, o, none⟩ u').heap[B]? := by
  simp only [World.setCell, Array.getElem?_modify, if_true, Option.map_map]
  congr 1
  funext x
  cases x <;> simp
/-- a place's block, turned at the place alone -/
def St (w w' : World) (B o : Nat) (u : Value) : Prop := w'.heap[B]? = (w.setCell ⟨B, o, none⟩ u).heap[B]?
theorem St.trans {w w1 w2 : World} {B o : Nat} {u u' : Value} (h : St w w1 B o u) (h' : St w1 w2 B o u') : St w w2 B o u' := by
  unfold St at *
  rw [h', heap_setCell_cong h, heap_setCell_twice]
theorem St.of {w w1 : World} {B o : Nat} (u : Value) (h : w1.heap[B]? = w.heap[B]?) : St w (w1.setCell ⟨B, o, none⟩ u) B o u := heap_setCell_cong h
theorem St.cell {w w' : World} {B o : Nat} {u u' : Value} (h : St w w' B o u') (hc : w.cell? ⟨B, o, none⟩ = some u) : w'.cell? ⟨B, o, none⟩ = some u' :=
  (World.cell?_of_block (a := ⟨B, o, none⟩) h).trans (World.cell?_setCell_same _ _ _ hc)
theorem St.fro {w w' : World} {B o : Nat} {u' : Value} (h : St w w' B o u') (hf : w.frozen? ⟨B, o, none⟩ = false) : w'.frozen? ⟨B, o, none⟩ = false :=
  ((frozen_same (a := ⟨B, o, none⟩) h).trans (World.frozen?_setCell _ _ _ _)).trans hf
theorem St.refl {w : World} {B o : Nat} {u : Value} (hc : w.cell? ⟨B, o, none⟩ = some u) : St w w B o u := by
  unfold St
  simp only [World.setCell, Array.getElem?_modify, if_true]
  unfold World.cell? at hc
  dsimp only at hc
  cases hB : w.heap[B]? with
  | none => rfl
  | some x =>
    rw [hB] at hc
    cases x with
    | cells c T fr =>
      have hc' : c[o]? = some u := by simpa using hc
      simp only [Option.map_some, Option.some.injEq, Obj.cells.injEq, and_true]
      obtain ⟨h1, h2⟩ := Array.getElem?_eq_some_iff.1 hc'
      have e : c = c.setIfInBounds o u := Array.ext (by simp) fun i hi hi' => by
        rw [Array.getElem_setIfInBounds]
        split
        · subst_vars; rfl
        · rfl
      exact e
    | _ => rfl
theorem St.same {w w' : World} {B o : Nat} {u : Value} (hc : w.cell? ⟨B, o, none⟩ = some u) (h : w'.heap[B]? = w.heap[B]?) : St w w' B o u := h.trans (St.refl hc)
theorem Plc.st {w w' : World} {P B o : Nat} {F F' : Nat → Prop} {u u' : Value} (h : Plc w P B o F u) (hs : St w w' B o u') (hF : ¬ F' B) : Plc w' P B o F' u' :=
  ⟨hs.cell h.cell, hs.fro h.fro, hF, h.ne⟩

theorem any_end {P g B o : Nat} {F : Nat → Prop} {w w2 : World} {v : Int} {S' : Wi} (hb : But (fun k => F k ∨ k = B) w w2) (hp : Plc w P B o F (.int .i64 v)) (hF : ∃ F', (∀ b, F' b → F b ∨ w.heap.size ≤ b) ∧ WAt w2 P g F' S') (c2 : w2.cell? ⟨B, o, none⟩ = some (.int .i64 255)) (hst : St w w2 B o (.int .i64 255)) :
    But (fun k => F k ∨ k = B) w (w2.setCell ⟨B, o, none⟩ (.int .i64 (-1))) ∧ (∃ F', (∀ b, F' b → F b ∨ w.heap.size ≤ b) ∧ WAt (w2.setCell ⟨B, o, none⟩ (.int .i64 (-1))) P g F' S') ∧ (w2.setCell ⟨B, o, none⟩ (.int .i64 (-1))).heap[B]? = (w.setCell ⟨B, o, none⟩ (.int .i64 (-1))).heap[B]? := by
  obtain ⟨F', hsub, h2⟩ := hF
  have := hp.lt
  exact ⟨hb.setCell (.inr rfl) _, ⟨F', hsub, h2.set c2 (fun x e => by cases e) (fun e => (hsub B e).elim hp.nf (by omega)) hp.ne _⟩, hst.trans (St.of _ rfl)⟩
set_option maxHeartbeats 1000000 in
set_option maxRecDepth 100000 in
theorem any_no (P g B o : Nat) (F : Nat → Prop) (S : Wi) (f1 f2 : FuncId) (w : World) (hp : Plc w P B o F (.int .i64 255)) :
    Calls Try.prog 79 #[wv f1 f2 P, .pointer (some ⟨B, o, none⟩)] w (LeafTo P g B o F w (.int .i64) (anyW S 255)) := by
  have hc := hp.cell
  have hfz := hp.fro
  have hlt := hp.lt
  clear hp
  go_enter Try.func79, Try.ntmps79
  go_wp2_with (first
    | (go_at_call 83; refine (must_no _).mono ?_; rintro e w' ⟨rfl, rfl⟩))
  refine ⟨rfl, leaf_no' rfl ((But.of ((Below.refl _ _).alloc (Nat.le_refl _) _)))⟩

/-- .. and behind what it is handed -/
def AnyTo (P g B o : Nat) (F : Nat → Prop) (w0 w : World) (r : Option (Int × Wi)) (e : Ending) (w' : World) : Prop :=
  But (fun k => F k ∨ k = B) w w' ∧ match r with
    | none => e = .panicked fieldPanic
    | some (v, S) => e = .returned (.tuple #[]) ∧ (∃ F', (∀ b, F' b → F b ∨ w0.heap.size ≤ b) ∧ WAt w' P g F' S) ∧ ¬ w'.heap.size ≤ B ∧ w'.cell? ⟨B, o, none⟩ = some (.int .i64 v) ∧ w'.frozen? ⟨B, o, none⟩ = false ∧ St w0 w' B o (.int .i64 v)
set_option maxHeartbeats 1000000 in
set_option maxRecDepth 100000 in
theorem any_any (S : Wi) (P g B o : Nat) (F : Nat → Prop) (v : Int) (w : World) (h : WAt w P g F S) (hp : Plc w P B o F (.int .i64 v)) (hL : S.bytes.length ≤ 1000000) :
    Calls Try.prog 79 #[wv S.fn1 S.fn2 P, .pointer (some ⟨B, o, none⟩)] w (LeafTo P g B o F w (.int .i64) (anyW S v)) := by
  by_cases h255 : v = 255
  · subst h255
    exact any_no P g B o F S _ _ w hp
  obtain ⟨u, hu⟩ : ∃ u, u = if v = -1 then 255 else v := ⟨_, rfl⟩
  -- the call, in whatever world that differs at the place alone
  have hoct : ∀ w1 : World, But (fun k => k = B) w w1 → St w w1 B o (.int .i64 u) → WAt w1 P g F S →
      Calls Try.prog 76 #[wv S.fn1 S.fn2 P, .pointer (some ⟨B, o, none⟩), .int .i64 255] w1 (AnyTo P g B o F w w1 (octW S u 255)) := by
    intro w1 hb hs' hw1
    have hp1 : Plc w1 P B o F (.int .i64 u) := hp.st hs' hp.nf
    refine (octet_any S P g B o F u w1 hw1 hp1 255 hL).mono ?_
    rintro e w2 ⟨hb2, hr⟩
    refine ⟨hb2, ?_⟩
    cases hq : octW S u 255 with
    | none => rw [hq] at hr; exact hr
    | some r =>
      obtain ⟨v', S'⟩ := r
      rw [hq] at hr
      obtain ⟨rfl, ⟨F', hsub, hw2⟩, hst⟩ := hr
      have hst' : St w1 w2 B o (.int .i64 v') := hst
      have := hp.lt
      exact ⟨rfl, ⟨F', fun b e => (hsub b e).imp_right (by have := hb.size; omega), hw2⟩, by have := hb.size; have := hb2.size; omega, hst'.cell hp1.cell, hst'.fro hp1.fro, hs'.trans hst'⟩
  have hc := hp.cell
  have hfz := hp.fro
  have hlt := hp.lt
  obtain ⟨f1, hf1⟩ : ∃ f1, f1 = S.fn1 := ⟨_, rfl⟩
  obtain ⟨f2, hf2⟩ : ∃ f2, f2 = S.fn2 := ⟨_, rfl⟩
  rw [← hf1, ← hf2]
  rw [← hf1, ← hf2] at hoct
  have hany : anyW S v = (octW S u 255).map fun p => (if p.1 = 255 then -1 else p.1, p.2) := by rw [hu]; unfold anyW; rw [if_neg h255]
  have HP := Lib.hid hp
  have HW := Lib.hid h
  have HD : Hid ((v != 255) = true) := bne_iff_ne.2 h255
  have hset : ∀ O, But (fun k => k = B) w ((w.setCell ⟨B, o, none⟩ (.int .i64 255)).alloc O) ∧ St w ((w.setCell ⟨B, o, none⟩ (.int .i64 255)).alloc O) B o (.int .i64 255) ∧ WAt ((w.setCell ⟨B, o, none⟩ (.int .i64 255)).alloc O) P g F S := fun O =>
    ⟨((But.refl (fun k => k = B) w).setCell (p := ⟨B, o, none⟩) rfl _).alloc _, heap_alloc_old _ O (by simpa [World.setCell] using hp.lt), (h.set hc (fun x e => by cases e) hp.nf hp.ne _).below ((Below.refl _ _).alloc (Nat.le_refl _) O)⟩
  have hkeep : ∀ O, But (fun k => k = B) w (w.alloc O) ∧ St w (w.alloc O) B o (.int .i64 v) ∧ WAt (w.alloc O) P g F S := fun O =>
    ⟨(But.refl _ w).alloc _, St.same hc (heap_alloc_old _ _ hp.lt), h.below ((Below.refl _ _).alloc (Nat.le_refl _) O)⟩
  have HSET := Lib.hid hset
  have HKEEP := Lib.hid hkeep
  have HOCT := Lib.hid hoct
  clear hset hkeep hoct hp h hf1 hf2
  cases hq : octW S u 255 with
  | none =>
    have HR : Hid (anyW S v = none) := by rw [hq] at hany; exact hany
    rw [hq] at HOCT
    clear hany hq
    by_cases hm : v = -1
    · subst hm
      obtain rfl : u = 255 := by rw [hu, if_pos rfl]
      clear hu
      go_enter Try.func79, Try.ntmps79
      go_wp2_with (first
        | (go_at_call 83; refine (must_ok _).mono ?_; rintro e w' ⟨rfl, rfl⟩)
        | (go_at_call 83; rw [HD.out]; refine (must_ok _).mono ?_; rintro e w' ⟨rfl, rfl⟩)
        | (go_at_call 76; refine (HOCT.out _ (HSET.out _).1 (HSET.out _).2.1 (HSET.out _).2.2).mono ?_; rintro e w2 ⟨hb, rfl⟩; have HN := Lib.hid hb; clear hb))
      exact ⟨rfl, leaf_no' HR.out ((((HSET.out _).1).mono fun _ _ e => .inr e).trans HN.out)⟩
    · obtain rfl : u = v := by rw [hu, if_neg hm]
      clear hu
      go_enter Try.func79, Try.ntmps79
      go_wp2_with (first
        | (go_at_call 83; refine (must_ok _).mono ?_; rintro e w' ⟨rfl, rfl⟩)
        | (go_at_call 83; rw [HD.out]; refine (must_ok _).mono ?_; rintro e w' ⟨rfl, rfl⟩)
        | (go_at_call 76; refine (HOCT.out _ (HKEEP.out _).1 (HKEEP.out _).2.1 (HKEEP.out _).2.2).mono ?_; rintro e w2 ⟨hb, rfl⟩; have HN := Lib.hid hb; clear hb))
      exact ⟨rfl, leaf_no' HR.out ((((HKEEP.out _).1).mono fun _ _ e => .inr e).trans HN.out)⟩
  | some r =>
    obtain ⟨v', S'⟩ := r
    have HR : Hid (anyW S v = some (if v' = 255 then -1 else v', S')) := by rw [hq] at hany; exact hany
    rw [hq] at HOCT
    clear hany hq
    by_cases hm : v = -1
    · subst hm
      obtain rfl : u = 255 := by rw [hu, if_pos rfl]
      clear hu
      by_cases hv' : v' = 255
      · subst hv'
        go_enter Try.func79, Try.ntmps79
        go_wp2_with (first
          | (go_at_call 83; refine (must_ok _).mono ?_; rintro e w' ⟨rfl, rfl⟩)
          | (go_at_call 83; rw [HD.out]; refine (must_ok _).mono ?_; rintro e w' ⟨rfl, rfl⟩)
          | (go_at_call 76; refine (HOCT.out _ (HSET.out _).1 (HSET.out _).2.1 (HSET.out _).2.2).mono ?_; rintro e w2 ⟨hb, rfl, hF', hz2, c2, f2', hst2⟩; have hlt2 : B < w2.heap.size := Nat.not_le.1 hz2; have HN := Lib.hid (And.intro hb (And.intro hF' (And.intro hz2 (And.intro c2 hst2)))); clear hb hF' hz2 hst2))
        go_end0
        exact leaf_yes HR.out (any_end (((HSET.out _).1.mono fun _ _ e => .inr e).trans HN.out.1) HP.out HN.out.2.1 HN.out.2.2.2.1 HN.out.2.2.2.2)
      · go_enter Try.func79, Try.ntmps79
        go_wp2_with (first
          | (go_at_call 83; refine (must_ok _).mono ?_; rintro e w' ⟨rfl, rfl⟩)
          | (go_at_call 83; rw [HD.out]; refine (must_ok _).mono ?_; rintro e w' ⟨rfl, rfl⟩)
          | (go_at_call 76; refine (HOCT.out _ (HSET.out _).1 (HSET.out _).2.1 (HSET.out _).2.2).mono ?_; rintro e w2 ⟨hb, rfl, hF', hz2, c2, f2', hst2⟩; have hlt2 : B < w2.heap.size := Nat.not_le.1 hz2; have HN := Lib.hid (And.intro hb (And.intro hF' (And.intro hz2 (And.intro c2 hst2)))); clear hb hF' hz2 hst2))
        go_end0
        (have e := HR.out; rw [if_neg hv'] at e; exact leaf_yes e ⟨((HSET.out _).1.mono fun _ _ e => .inr e).trans HN.out.1, HN.out.2.1, HN.out.2.2.2.2⟩)
    · obtain rfl : u = v := by rw [hu, if_neg hm]
      clear hu
      by_cases hv' : v' = 255
      · subst hv'
        go_enter Try.func79, Try.ntmps79
        go_wp2_with (first
          | (go_at_call 83; refine (must_ok _).mono ?_; rintro e w' ⟨rfl, rfl⟩)
          | (go_at_call 83; rw [HD.out]; refine (must_ok _).mono ?_; rintro e w' ⟨rfl, rfl⟩)
          | (go_at_call 76; refine (HOCT.out _ (HKEEP.out _).1 (HKEEP.out _).2.1 (HKEEP.out _).2.2).mono ?_; rintro e w2 ⟨hb, rfl, hF', hz2, c2, f2', hst2⟩; have hlt2 : B < w2.heap.size := Nat.not_le.1 hz2; have HN := Lib.hid (And.intro hb (And.intro hF' (And.intro hz2 (And.intro c2 hst2)))); clear hb hF' hz2 hst2))
        go_end0
        exact leaf_yes HR.out (any_end (((HKEEP.out _).1.mono fun _ _ e => .inr e).trans HN.out.1) HP.out HN.out.2.1 HN.out.2.2.2.1 HN.out.2.2.2.2)
      · go_enter Try.func79, Try.ntmps79
        go_wp2_with (first
          | (go_at_call 83; refine (must_ok _).mono ?_; rintro e w' ⟨rfl, rfl⟩)
          | (go_at_call 83; rw [HD.out]; refine (must_ok _).mono ?_; rintro e w' ⟨rfl, rfl⟩)
          | (go_at_call 76; refine (HOCT.out _ (HKEEP.out _).1 (HKEEP.out _).2.1 (HKEEP.out _).2.2).mono ?_; rintro e w2 ⟨hb, rfl, hF', hz2, c2, f2', hst2⟩; have hlt2 : B < w2.heap.size := Nat.not_le.1 hz2; have HN := Lib.hid (And.intro hb (And.intro hF' (And.intro hz2 (And.intro c2 hst2)))); clear hb hF' hz2 hst2))
        go_end0
        (have e := HR.out; rw [if_neg hv'] at e; exact leaf_yes e ⟨((HKEEP.out _).1.mono fun _ _ e => .inr e).trans HN.out.1, HN.out.2.1, HN.out.2.2.2.2⟩)
end Go.Proofs.Ytdpfmaikijilkaa
