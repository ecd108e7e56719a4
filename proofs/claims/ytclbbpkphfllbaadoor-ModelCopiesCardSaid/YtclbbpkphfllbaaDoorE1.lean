/-
  An argument that is a program, opened to cells.
-/
import Derived.Test.YtclbbpkphfllbaaDoorC3
import Derived.Deep.Slices
import Derived.Deep.Fields
import Derived.Lib.SmallJoins
import Derived.ChangeSame
import Derived.ProofKit
import Derived.OpenShut
namespace Go.Proofs.YtclbbpkphfllbaaDoor
open Go.ChangeShapes Go.WideShapes Go.RowKit Go.Joins Go.Deep CodM

section
variable {H : Type} {enc : TypeId × Value → H} {W : World} {base : Nat} {spare : Nat → Bool} {held : Bool}

theorem i64_of {n : Int} (h : (Lit.int .i64 n).wf = true) : I64 n := by
  simp only [Lit.wf, IntKind.min, IntKind.max, IntKind.signed, IntKind.bits, Bool.and_eq_true, decide_eq_true_eq, if_true] at h
  unfold I64
  omega

theorem cellsI : Tryd.prog.cellsOf 51 = 2 := by kernel_rfl
theorem cellsS : Tryd.prog.cellsOf 48 = 1 := by kernel_rfl
theorem cellsOp : Tryd.prog.cellsOf 49 = 1 := by kernel_rfl
theorem cells64 : Tryd.prog.cellsOf 2 = 1 := by kernel_rfl

theorem two_of {cs : List Value} {u v : Value} (h : cs.length = 2) (e0 : (cs.drop 0).take 1 = [u]) (e1 : (cs.drop 1).take 1 = [v]) : cs = [u, v] := by
  match cs, h with
  | [c0, c1], _ =>
    simp at e0 e1
    rw [e0, e1]
theorem open_one {fuel : Nat} {cs : List Value} {x : DataW H × List MemPlace} (h : DataW.trod enc Tryd.prog W base spare held fuel 51 cs = some x) : ∃ y : Ins, cs = [.int .i64 y.1, .int .i64 y.2] ∧ I64 y.1 ∧ I64 y.2 := by
  obtain ⟨xs, n, _, _, hlen, hxl, hf⟩ := DataW.trod_struct Tryd.underlying51 h
  have h0 : DataW.trod enc Tryd.prog W base spare held n 49 ((cs.drop 0).take (Tryd.prog.cellsOf 49)) = xs[0]? := hf 0 _ rfl
  have h1 : DataW.trod enc Tryd.prog W base spare held n 2 ((cs.drop 1).take (Tryd.prog.cellsOf 2)) = xs[1]? := hf 1 _ rfl
  rw [cellsI] at hlen
  rw [cellsOp] at h0
  rw [cells64] at h1
  have hx : xs.length = 2 := hxl
  rw [List.getElem?_eq_getElem (by omega)] at h0 h1
  obtain ⟨n0, e0, _, w0⟩ := DataW.trod_int Tryd.underlying49 h0
  obtain ⟨n1, e1, _, w1⟩ := DataW.trod_int Tryd.underlying2 h1
  exact ⟨(n0, n1), two_of hlen e0 e1, i64_of w0, i64_of w1⟩

theorem open_ins {fuel : Nat} {v : Value} {x : DataW H × List MemPlace} (h : DataW.trod enc Tryd.prog W base spare held fuel 48 [v] = some x) : ∃ a n c l, v = .slice a n c ∧ SlOk a n c ∧ InsAt W a n l := by
  rcases open_slice Tryd.underlying48 h with ⟨hcs, _⟩ | ⟨a, len, cap, m, n, D, Pl, hcs, _, hl, hm, hmm, _, hi⟩
  · simp at hcs
    subst hcs
    exact ⟨none, 0, 0, [], rfl, ⟨Nat.le_refl _, fun _ => rfl⟩, rfl, by simp, by omega, .inl rfl⟩
  · simp at hcs
    subst hcs
    unfold maxLen at hm
    have hlm : len ≤ m := by rw [hmm]; split <;> omega
    have hall : ∀ i, ∃ y : Ins, i < len → W.cell? (a.add (i * 2)) = some (.int .i64 y.1) ∧ W.cell? (a.add (i * 2 + 1)) = some (.int .i64 y.2) ∧ I64 y.1 ∧ I64 y.2 := fun i => by
      by_cases hil : i < len
      · obtain ⟨cs', hc, ht⟩ := hi i (by omega)
        rw [cellsI] at hc
        obtain ⟨y, rfl, y1, y2⟩ := open_one ht
        obtain ⟨_, _, hat⟩ := World.cells?_some hc
        have e0 := hat 0 (by omega)
        have e1 := hat 1 (by omega)
        rw [Addr.add_add] at e0 e1
        exact ⟨y, fun _ => ⟨e0, e1, y1, y2⟩⟩
      · exact ⟨(0, 0), fun h => absurd h hil⟩
    obtain ⟨f, hf⟩ := Classical.axiomOfChoice hall
    refine ⟨some a, len, cap, (List.range len).map f, rfl, ⟨hl, fun e => by cases e⟩, by simp, ?_, by omega, ?_⟩
    · intro x hx
      obtain ⟨i, hi', rfl⟩ := List.mem_map.1 hx
      exact ⟨(hf i (List.mem_range.1 hi')).2.2.1, (hf i (List.mem_range.1 hi')).2.2.2⟩
    · by_cases h0 : len = 0
      · exact .inl h0
      · obtain ⟨B, off, spot⟩ := a
        have hs := (hf 0 (by omega)).1
        have hspot : spot = none := by simpa [Addr.add] using World.cell?_spot hs
        subst hspot
        have hadd : ∀ j, (⟨B, off, none⟩ : Addr).add j = ⟨B, off + j, none⟩ := fun j => by unfold Addr.add; split <;> simp_all
        refine .inr ⟨B, off, rfl, ?_, fun i hi' => ?_⟩
        · have := World.block_lt_of_cell? W _ hs
          rwa [hadd] at this
        · obtain ⟨e0, e1, _, _⟩ := hf i hi'
          rw [hadd] at e0 e1
          rw [show ((List.range len).map f).getD i (0, 0) = f i from by simp [List.getD, hi'], Nat.add_assoc]
          exact ⟨e0, e1⟩

theorem open_kinds {fuel : Nat} {v : Value} {x : DataW H × List MemPlace} (h : DataW.trod enc Tryd.prog W base spare held fuel 43 [v] = some x) : ∃ a n c ks, v = .slice a n c ∧ SlOk a n c ∧ KindsAt W a n ks := by
  rcases open_slice Tryd.underlying43 h with ⟨hcs, _⟩ | ⟨a, len, cap, m, n, D, Pl, hcs, _, hl, hm, hmm, _, hi⟩
  · simp at hcs
    subst hcs
    exact ⟨none, 0, 0, [], rfl, ⟨Nat.le_refl _, fun _ => rfl⟩, rfl, by omega, .inl rfl⟩
  · simp at hcs
    subst hcs
    unfold maxLen at hm
    have hlm : len ≤ m := by rw [hmm]; split <;> omega
    have hall : ∀ i, ∃ l : List Ins, i < len → ∃ a' n' c', W.cell? (a.add i) = some (.slice a' n' c') ∧ SlOk a' n' c' ∧ InsAt W a' n' l := fun i => by
      by_cases hil : i < len
      · obtain ⟨cs', hc, ht⟩ := hi i (by omega)
        rw [cellsS, Nat.mul_one] at hc
        obtain ⟨_, hcl, hat⟩ := World.cells?_some hc
        have e0 := hat 0 (by omega)
        rw [Addr.add_add, Nat.add_zero] at e0
        match cs', hcl with
        | [v], _ =>
          obtain ⟨a', n', c', l, rfl, h1, h2⟩ := open_ins ht
          exact ⟨l, fun _ => ⟨a', n', c', e0, h1, h2⟩⟩
      · exact ⟨[], fun h => absurd h hil⟩
    obtain ⟨f, hf⟩ := Classical.axiomOfChoice hall
    refine ⟨some a, len, cap, (List.range len).map f, rfl, ⟨hl, fun e => by cases e⟩, by simp, by omega, ?_⟩
    by_cases h0 : len = 0
    · exact .inl h0
    · obtain ⟨B, off, spot⟩ := a
      obtain ⟨_, _, _, hs, _⟩ := hf 0 (by omega)
      have hspot : spot = none := by simpa [Addr.add] using World.cell?_spot hs
      subst hspot
      have hadd : ∀ j, (⟨B, off, none⟩ : Addr).add j = ⟨B, off + j, none⟩ := fun j => by unfold Addr.add; split <;> simp_all
      refine .inr ⟨B, off, rfl, ?_, fun i hi' => ?_⟩
      · have := World.block_lt_of_cell? W _ hs
        rwa [hadd] at this
      · obtain ⟨a', n', c', e0, e1, e2⟩ := hf i hi'
        rw [hadd] at e0
        exact ⟨a', n', c', e0, e1, by rw [show ((List.range len).map f).getD i [] = f i from by simp [List.getD, hi']]; exact e2⟩

set_option maxRecDepth 100000 in
theorem open_prog {r : Reach} {b0 : Nat} {v : Value} {d : DataW H} {p : List MemPlace} (hv : Value.okWide Tryd.prog W r b0 45 v) (h : DataW.Trod enc Tryd.prog W base spare held 45 v d p) :
    ∃ x a n c ks, v = .agg #[.int .i64 x, .slice a n c] ∧ SlOk a n c ∧ ProgAt W a n ⟨x, ks⟩ := by
  obtain ⟨v0, v1, y0, y1, k, rfl, _, _, h0, h1⟩ := open_agg2 Tryd.underlying45 (by kernel_rfl) (by kernel_rfl) hv h
  obtain ⟨x, e0, _, w0⟩ := DataW.trod_int Tryd.underlying3 h0
  simp at e0
  subst e0
  obtain ⟨a, n, c, ks, rfl, hs, hk⟩ := open_kinds h1
  exact ⟨x, a, n, c, ks, rfl, hs, i64_of w0, hk⟩
end
end Go.Proofs.YtclbbpkphfllbaaDoor
