/-
  The walks of slices.Clone at numbers and at events; of CopyState, SameState (both).
-/
import Derived.Test.YthhpoihfaggafaaDoorMoEq
namespace Go.Proofs.YthhpoihfaggafaaDoor
open Go Go.RowKit Go.Sort Go.Proofs CodM VmM

def ClonedV (l : List Int) (w : World) (e : Ending) (w' : World) : Prop := ∃ v, e = .returned v ∧ CV.Own 2 w.heap.size w' v l ∧ Below w.heap.size w w'
set_option maxRecDepth 100000 in
theorem cloneV_any (w : World) (va : Option Addr) (vc : Nat) (l : List Int) (h : CV.At w va l.length l) (hl : l.length ≤ 1000) (hnil : va = none → vc = 0) : Calls Tryd.prog 71 #[.slice va l.length vc] w (ClonedV l w) := by
  cases va with
  | none =>
    obtain rfl := hnil rfl
    have h0 : l = [] := by
      obtain ⟨_, _, h3 | ⟨_, _, e, _⟩⟩ := h
      · exact List.length_eq_zero_iff.1 h3
      · cases e
    subst h0
    clear h hl hnil
    have eq0 : ∀ W : World, (binOp .eql 49 (.slice none 0 0) (.slice none 0 0)).run Tryd.prog W = .ok (.bool true) W := fun W => Lib.run_eql_slice_nil W 49 2 none 0 0 0 0 Tryd.underlying49
    show Calls Tryd.prog 71 #[.slice none 0 0] w (ClonedV [] w)
    go_enter Tryd.func71, Tryd.ntmps71
    go_wp2
    go_ret
    exact ⟨_, rfl, Cod.Own.nil _ _, Below.refl _ _⟩
  | some ad =>
    have H := Lib.hid h
    obtain ⟨N, hN⟩ : ∃ N, N = l.length := ⟨_, rfl⟩
    rw [← hN] at H hl ⊢
    have HN := Lib.hid hN
    clear h hnil hN
    go_enter Tryd.func71, Tryd.ntmps71
    have ho : CV.Own 2 w.heap.size (w.alloc (.cells #[] 2)) (.slice (some ⟨w.heap.size, 0, none⟩) 0 0) [] := ⟨rfl, .inr ⟨w.heap.size, 0, #[], rfl, Nat.le_refl _, heap_alloc_new _ _, Nat.le_refl _, by unfold maxLen; omega, rfl, rfl⟩⟩
    have HO := Lib.hid ho
    clear ho
    have eq0 : ∀ W : World, (binOp .eql 49 (.slice (some ad) N vc) (.slice none 0 0)).run Tryd.prog W = .ok (.bool false) W := fun W => Lib.run_eql_slice_nil W 49 2 (some ad) N vc 0 0 Tryd.underlying49
    go_wp2_with (at_builtin; refine rowV.list rfl _ _ rfl w.heap.size _ [] rfl HO.out ad N vc l rfl HN.out (H.out.below ((Below.refl _ w).alloc (Nat.le_refl _) _)).news (by simp; omega) (by simp; omega) (by simp) ?_; intro v' w' ho' hg' hn'; have H2 := Lib.hid (And.intro ho' hg'); clear ho' hg' hn')
    go_ret
    exact ⟨_, rfl, H2.out.1, ((Below.refl _ w).alloc (Nat.le_refl _) _).trans ((But.grown H2.out.2).below (by simp) fun k e => by cases e; exact Nat.le_refl _)⟩
def ClonedE (l : List Ev) (w : World) (e : Ending) (w' : World) : Prop := ∃ v, e = .returned v ∧ CEv.Own 45 w.heap.size w' v l ∧ Below w.heap.size w w'
set_option maxRecDepth 100000 in
theorem cloneE_any (w : World) (va : Option Addr) (vc : Nat) (l : List Ev) (h : CEv.At w va l.length l) (hl : l.length ≤ 1000) (hnil : va = none → vc = 0) : Calls Tryd.prog 40 #[.slice va l.length vc] w (ClonedE l w) := by
  cases va with
  | none =>
    obtain rfl := hnil rfl
    have h0 : l = [] := by
      obtain ⟨_, _, h3 | ⟨_, _, e, _⟩⟩ := h
      · exact List.length_eq_zero_iff.1 h3
      · cases e
    subst h0
    clear h hl hnil
    have eq0 : ∀ W : World, (binOp .eql 25 (.slice none 0 0) (.slice none 0 0)).run Tryd.prog W = .ok (.bool true) W := fun W => Lib.run_eql_slice_nil W 25 45 none 0 0 0 0 Tryd.underlying25
    show Calls Tryd.prog 40 #[.slice none 0 0] w (ClonedE [] w)
    go_enter Tryd.func40, Tryd.ntmps40
    go_wp2
    go_ret
    exact ⟨_, rfl, Cod.Own.nil _ _, Below.refl _ _⟩
  | some ad =>
    have H := Lib.hid h
    obtain ⟨N, hN⟩ : ∃ N, N = l.length := ⟨_, rfl⟩
    rw [← hN] at H hl ⊢
    have HN := Lib.hid hN
    clear h hnil hN
    go_enter Tryd.func40, Tryd.ntmps40
    have ho : CEv.Own 45 w.heap.size (w.alloc (.cells #[] 45)) (.slice (some ⟨w.heap.size, 0, none⟩) 0 0) [] := ⟨rfl, .inr ⟨w.heap.size, 0, #[], rfl, Nat.le_refl _, heap_alloc_new _ _, Nat.le_refl _, by unfold maxLen; omega, rfl, rfl⟩⟩
    have HO := Lib.hid ho
    clear ho
    have eq0 : ∀ W : World, (binOp .eql 25 (.slice (some ad) N vc) (.slice none 0 0)).run Tryd.prog W = .ok (.bool false) W := fun W => Lib.run_eql_slice_nil W 25 45 (some ad) N vc 0 0 Tryd.underlying25
    go_wp2_with (at_builtin; refine rowE.list rfl _ _ rfl w.heap.size _ [] rfl HO.out ad N vc l rfl HN.out (H.out.below ((Below.refl _ w).alloc (Nat.le_refl _) _)).news (by simp; omega) (by simp; omega) (by simp) ?_; intro v' w' ho' hg' hn'; have H2 := Lib.hid (And.intro ho' hg'); clear ho' hg' hn')
    go_ret
    exact ⟨_, rfl, H2.out.1, ((Below.refl _ w).alloc (Nat.le_refl _) _).trans ((But.grown H2.out.2).below (by simp) fun k e => by cases e; exact Nat.le_refl _)⟩
end Go.Proofs.YthhpoihfaggafaaDoor
