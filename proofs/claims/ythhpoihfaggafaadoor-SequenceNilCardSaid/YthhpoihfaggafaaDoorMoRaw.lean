/-
  Processes as their four raw cells; the walk of slices.Clone at processes.
-/
import Derived.Test.YthhpoihfaggafaaDoorMoMuch
namespace Go.Proofs.YthhpoihfaggafaaDoor
open Go Go.RowKit Go.Sort Go.Proofs CodM VmM

structure Rp where
  vars : Int
  a : Option Addr
  n : Nat
  c : Nat
  va : Option Addr
  vn : Nat
  vc : Nat
  seed : Int
def CP : Cod Rp := ⟨fun x => [.int .i64 x.vars, .slice x.a x.n x.c, .slice x.va x.vn x.vc, .int .i64 x.seed], 4, by decide, fun _ => rfl, fun x v hv => by simp at hv; rcases hv with h | h | h | h <;> (subst h; rfl)⟩
theorem rowP : RowT Tryd.prog CP 24 72 64 := ⟨Tryd.underlying24, .agg #[.int .i64 0, .slice none 0 0, .slice none 0 0, .int .i64 0], by kernel_rfl, rfl⟩
/-- a raw one stands for a process -/
def RpIs (w : World) (r : Rp) (x : Pm) : Prop := r.vars = x.prog.vars ∧ r.vn = x.vars.length ∧ r.seed = x.seed ∧ PmAt w x r.a r.n r.c r.va r.vc
theorem RpIs.below {w w' : World} {r : Rp} {x : Pm} (h : RpIs w r x) (hb : Below w.heap.size w w') : RpIs w' r x := ⟨h.1, h.2.1, h.2.2.1, h.2.2.2.below hb⟩
theorem four_cells {w : World} {B o : Nat} {x : Rp} (h : CP.Cell w B o x) : w.cell? ⟨B, o, none⟩ = some (.int .i64 x.vars) ∧ w.cell? ⟨B, o + 1, none⟩ = some (.slice x.a x.n x.c) ∧ w.cell? ⟨B, o + 2, none⟩ = some (.slice x.va x.vn x.vc) ∧ w.cell? ⟨B, o + 3, none⟩ = some (.int .i64 x.seed) :=
  ⟨h 0 (by decide), h 1 (by decide), h 2 (by decide), h 3 (by decide)⟩
theorem PmCell.raw {w : World} {B o : Nat} {x : Pm} (h : PmCell w B o x) : ∃ r : Rp, CP.Cell w B o r ∧ RpIs w r x := by
  obtain ⟨a, n, c, va, vc, h0, h1, h2, h3, h4⟩ := h
  refine ⟨⟨x.prog.vars, a, n, c, va, x.vars.length, vc, x.seed⟩, fun k hk => ?_, rfl, rfl, rfl, h4⟩
  have hk4 : k < 4 := hk
  match k, hk4 with
  | 0, _ => exact h0
  | 1, _ => exact h1
  | 2, _ => exact h2
  | 3, _ => exact h3
theorem pick {α : Type} (n : Nat) (p : Nat → α → Prop) (h : ∀ i, i < n → ∃ x, p i x) : ∃ l : List α, l.length = n ∧ ∀ i (hi : i < l.length), p i l[i] := by
  induction n with
  | zero => exact ⟨[], rfl, fun i hi => by simp at hi⟩
  | succ n ih =>
    obtain ⟨l, hl, hp⟩ := ih fun i hi => h i (by omega)
    obtain ⟨x, hx⟩ := h n (by omega)
    refine ⟨l ++ [x], by simp [hl], fun i hi => ?_⟩
    by_cases hin : i < l.length
    · rw [List.getElem_append_left hin]
      exact hp i hin
    · have e : i = l.length := by simp at hi; omega
      subst e
      rw [List.getElem_append_right (Nat.le_refl _)]
      simpa [hl] using hx
theorem PmsAt.raw {w : World} {a : Option Addr} {n : Nat} {l : List Pm} (h : PmsAt w a n l) (hn : n ≤ 1000000) : ∃ rs : List Rp, rs.length = n ∧ CP.At w a n rs ∧ ∀ (i : Nat) (x : Pm), l[i]? = some x → ∃ r, rs[i]? = some r ∧ RpIs w r x := by
  obtain ⟨hl, h0 | ⟨B, off, e, hB, hc⟩⟩ := h
  · subst h0
    have e0 : l = [] := List.length_eq_zero_iff.1 hl
    subst e0
    exact ⟨[], rfl, ⟨rfl, Nat.zero_le _, .inl rfl⟩, fun i x hx => by simp at hx⟩
  · obtain ⟨rs, hr, hp⟩ := pick n (fun (i : Nat) (r : Rp) => CP.Cell w B (off + i * 4) r ∧ ∀ x, l[i]? = some x → RpIs w r x) fun i hi => by
      obtain ⟨r, h1, h2⟩ := (hc i (by omega)).raw
      exact ⟨r, h1, fun x hx => by rw [List.getElem?_eq_getElem (by omega)] at hx; cases hx; exact h2⟩
    refine ⟨rs, hr, ⟨hr, hn, .inr ⟨B, off, e, hB, fun i hi => (hp i hi).1⟩⟩, fun i x hx => ?_⟩
    have hi : i < l.length := (List.getElem?_eq_some_iff.1 hx).1
    exact ⟨rs[i]'(by omega), List.getElem?_eq_getElem (by omega), (hp i (by omega)).2 x hx⟩
def ClonedP (l : List Rp) (w : World) (e : Ending) (w' : World) : Prop := ∃ v, e = .returned v ∧ CP.Own 72 w.heap.size w' v l ∧ Below w.heap.size w w'
set_option maxRecDepth 100000 in
theorem cloneP_any (w : World) (va : Option Addr) (vc : Nat) (l : List Rp) (h : CP.At w va l.length l) (hl : l.length ≤ 1000) (hnil : va = none → vc = 0) : Calls Tryd.prog 100 #[.slice va l.length vc] w (ClonedP l w) := by
  cases va with
  | none =>
    obtain rfl := hnil rfl
    have h0 : l = [] := by
      obtain ⟨_, _, h3 | ⟨_, _, e, _⟩⟩ := h
      · exact List.length_eq_zero_iff.1 h3
      · cases e
    subst h0
    clear h hl hnil
    have eq0 : ∀ W : World, (binOp .eql 24 (.slice none 0 0) (.slice none 0 0)).run Tryd.prog W = .ok (.bool true) W := fun W => Lib.run_eql_slice_nil W 24 72 none 0 0 0 0 Tryd.underlying24
    show Calls Tryd.prog 100 #[.slice none 0 0] w (ClonedP [] w)
    go_enter Tryd.func100, Tryd.ntmps100
    go_wp2
    go_ret
    exact ⟨_, rfl, Cod.Own.nil _ _, Below.refl _ _⟩
  | some ad =>
    have H := Lib.hid h
    obtain ⟨N, hN⟩ : ∃ N, N = l.length := ⟨_, rfl⟩
    rw [← hN] at H hl ⊢
    have HN := Lib.hid hN
    clear h hnil hN
    go_enter Tryd.func100, Tryd.ntmps100
    have ho : CP.Own 72 w.heap.size (w.alloc (.cells #[] 72)) (.slice (some ⟨w.heap.size, 0, none⟩) 0 0) [] := ⟨rfl, .inr ⟨w.heap.size, 0, #[], rfl, Nat.le_refl _, heap_alloc_new _ _, Nat.le_refl _, by unfold maxLen; omega, rfl, rfl⟩⟩
    have HO := Lib.hid ho
    clear ho
    have eq0 : ∀ W : World, (binOp .eql 24 (.slice (some ad) N vc) (.slice none 0 0)).run Tryd.prog W = .ok (.bool false) W := fun W => Lib.run_eql_slice_nil W 24 72 (some ad) N vc 0 0 Tryd.underlying24
    go_wp2_with (at_builtin; refine rowP.list rfl _ _ rfl w.heap.size _ [] rfl HO.out ad N vc l rfl HN.out (H.out.below ((Below.refl _ w).alloc (Nat.le_refl _) _)).news (by simp; omega) (by simp; omega) (by simp) ?_; intro v' w' ho' hg' hn'; have H2 := Lib.hid (And.intro ho' hg'); clear ho' hg' hn')
    go_ret
    exact ⟨_, rfl, H2.out.1, ((Below.refl _ w).alloc (Nat.le_refl _) _).trans ((But.grown H2.out.2).below (by simp) fun k e => by cases e; exact Nat.le_refl _)⟩
end Go.Proofs.YthhpoihfaggafaaDoor
