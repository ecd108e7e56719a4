/-
  The walks of store, rand, tell.
-/
import Derived.Test.YthhpoihfaggafaaDoorVCh
import Derived.Deep.RegionHeld3
namespace Go.Proofs.YthhpoihfaggafaaDoor
open Go Go.RowKit Go.Sort Go.Proofs CodM VmM

theorem cellsV_map (l : List Int) : CV.cells l = l.map fun n => Value.int .i64 n := by
  induction l with
  | nil => rfl
  | cons a t ih =>
    show [Value.int .i64 a] ++ CV.cells t = _
    rw [ih]
    rfl
theorem own_set {B : Nat} {W : World} {V n c : Nat} {l : List Int} (h : CV.Own 2 B W (.slice (some ⟨V, 0, none⟩) n c) l) (i : Nat) (v : Int) : CV.Own 2 B (W.setCell ⟨V, i, none⟩ (.int .i64 v)) (.slice (some ⟨V, 0, none⟩) n c) (l.set i v) := by
  obtain ⟨h1, ⟨e, _⟩ | ⟨g, cap, cur, e, hg, hh, hc, hm, hs, ht⟩⟩ := h
  · cases e
  · cases e
    refine ⟨by rw [Cod.cells_len], .inr ⟨V, c, cur.setIfInBounds i (.int .i64 v), by rw [List.length_set], hg, heap_setCell_same _ _ _ _ _ _ hh, by rw [List.length_set]; exact hc, hm, by rw [Array.size_setIfInBounds]; exact hs, ?_⟩⟩
    rw [List.length_set, Array.toList_setIfInBounds, List.take_set, ht, cellsV_map, cellsV_map, List.map_set]
section
variable {X : Fx} {W : World} {s : Run} {vv sv tv : Value}
theorem St.setvar {V c n : Nat} (h : St X W s (.slice (some ⟨V, 0, none⟩) n c) sv tv) (hX : X.Ok) (i : Nat) (v : Int) : St X (W.setCell ⟨V, i, none⟩ (.int .i64 v)) (setVar i v s) (.slice (some ⟨V, 0, none⟩) n c) sv tv := by
  have hV := h.vars.lt V rfl
  have hb : But (fun k => k = V) W (W.setCell ⟨V, i, none⟩ (.int .i64 v)) := (But.refl (fun k => k = V) _).setCell (p := ⟨V, i, none⟩) rfl _
  exact ⟨h.below.setCell (p := ⟨V, i, none⟩) hV.1 _, (hb.block _ (Array.getElem?_eq_some_iff.1 h.box).1 (fun e => (h.vne (b := V) rfl).1 e.symm)).trans h.box, h.room.but hb fun e => (h.vne (b := V) rfl).2 e.symm, own_set h.vars i v, h.sends.but hb fun b e e2 => h.vs (b := V) rfl e e2.symm, h.tells.but hb fun b e e2 => h.vt (b := V) rfl e e2.symm, h.ls, h.hs, h.ht, fun p hp => (hb.block _ (Array.getElem?_eq_some_iff.1 (h.kept p hp)).1 (by obtain ⟨cur, h1⟩ := h.vars.typ (b := V) rfl; exact ne_types (h.kept p hp) h1 (hX.dT p hp).2.2.1)).trans (h.kept p hp)⟩
theorem St.vfree (h : St X W s vv sv tv) {V : Nat} (e : vv.ownBlock = some V) (j : Nat) : W.frozen? ⟨V, j, none⟩ = false := by
  obtain ⟨cur, h1⟩ := h.vars.typ e
  exact frozen_of_row _ _ _ _ _ h1
end
set_option maxHeartbeats 1000000 in
theorem store_any (X : Fx) (hX : X.Ok) (s : Run) (W : World) (h : At X s W) (hn : s.vars.length ≤ 8) (k : Nat) (hk : k < s.vars.length) : Calls Tryd.prog 112 #[.pointer (some ⟨X.R, 0, none⟩), .int .i64 (k : Int)] W (Done X (setVar k (top s) (drop s))) := by
  have HX := Lib.hid hX
  obtain ⟨vv, sv, tv, h⟩ := h
  obtain ⟨V, c, rfl, _⟩ := h.var hn hk
  have HS := Lib.hid h.drew
  have c9 := h.cells.2.2.2.1
  obtain ⟨x, hx⟩ : ∃ x, x = top s := ⟨_, rfl⟩
  have HT : Hid (∀ W, St X W s (.slice (some ⟨V, 0, none⟩) s.vars.length c) sv tv → Calls Tryd.prog 140 #[.pointer (some ⟨X.R, 0, none⟩)] W (fun e w' => e = .returned (.int .i64 x) ∧ St X w' (drop s) (.slice (some ⟨V, 0, none⟩) s.vars.length c) sv tv ∧ w'.cell? ⟨X.R, 9, none⟩ = some (.slice (some ⟨V, 0, none⟩) s.vars.length c) ∧ (∃ u, w'.cell? ⟨V, k, none⟩ = some u) ∧ w'.frozen? ⟨V, k, none⟩ = false)) := by
    rw [Lib.hid_eq, hx]
    exact fun W h => (take_st X HX.out s W _ _ _ h).mono fun _ w' ⟨h1, h2⟩ => ⟨h1, h2, h2.cells.2.2.2.1, by
      obtain ⟨V', c', e, hc⟩ := h2.var (s := drop s) hn hk
      cases e
      exact ⟨_, hc⟩, h2.vfree rfl k⟩
  have hkI : (k : Int) < (s.vars.length : Int) := by omega
  rw [← hx]
  clear h hX hx
  go_enter Tryd.func112, Tryd.ntmps112
  go_region_with (first
    | (go_at_call 140; refine (HT.out _ HS.out).mono ?_; rintro e w1 ⟨rfl, h1, d9, ⟨u, hu⟩, hf⟩; have H1 := Lib.hid h1; clear h1))
  all_goals
    go_end0
    exact ⟨rfl, _, sv, tv, H1.out.setvar HX.out k x⟩
theorem St.draw {X : Fx} {W : World} {s : Run} {vv sv tv : Value} (h : St X W s vv sv tv) (hX : X.Ok) (n : Int) : St X (W.setCell ⟨X.R, 11, none⟩ (.int .i64 n)) { s with drawn := n } vv sv tv :=
  h.turn hX 11 _ rfl h.room ⟨rfl, rfl⟩ ⟨rfl, rfl⟩ ⟨rfl, rfl⟩
theorem push_drawn (n : Int) (s : Run) : (push n s).drawn = s.drawn := by unfold push; split <;> rfl
set_option maxHeartbeats 1000000 in
theorem rand_any (X : Fx) (hX : X.Ok) (s : Run) (W : World) (h : At X s W) (n : Int) : Calls Tryd.prog 116 #[.pointer (some ⟨X.R, 0, none⟩), .int .i64 n] W (Done X { push (chance X.m.seed s.drawn) s with drawn := w64 (s.drawn + 1) }) := by
  have HX := Lib.hid hX
  obtain ⟨vv, sv, tv, h⟩ := h
  have HS : Hid (At X s W.drew) := Lib.hid ⟨vv, sv, tv, h.drew⟩
  have c0 := h.cells.1
  have c11 := h.cells.2.2.2.2.2.1
  have m4 := (h.mcells hX).2.2
  obtain ⟨x, hx⟩ : ∃ x, x = chance X.m.seed s.drawn := ⟨_, rfl⟩
  have HC : Hid (∀ W, Calls Tryd.prog 141 #[.int .i64 X.m.seed, .int .i64 s.drawn] W (fun e w' => e = .returned (.int .i64 x) ∧ W = w')) := by
    rw [Lib.hid_eq, hx]
    exact fun W => chance_any _ _ W
  have HD : Hid (w64 (s.drawn + 1) = wrap64 (s.drawn + 1)) := Lib.hid (w64_wrap _)
  rw [← hx]
  clear h hX hx
  go_enter Tryd.func116, Tryd.ntmps116
  go_wp2_with fail
  go_region_with (first
    | (go_at_call 141; refine (HC.out _).mono ?_; rintro e w1 ⟨rfl, rfl⟩)
    | (go_at_call 110; refine (push_any X HX.out _ _ HS.out _).mono ?_; rintro e w2 ⟨rfl, h2⟩; obtain ⟨v2, s2, t2, h2⟩ := h2; have d11 := h2.cells.2.2.2.2.2.1; rw [push_drawn] at d11; have f11 := h2.free 11; have H2 := Lib.hid h2; clear h2))
  all_goals
    go_wp2
    go_end0
    refine ⟨rfl, v2, s2, t2, ?_⟩
    rw [HD.out]
    exact H2.out.draw HX.out _
end Go.Proofs.YthhpoihfaggafaaDoor
