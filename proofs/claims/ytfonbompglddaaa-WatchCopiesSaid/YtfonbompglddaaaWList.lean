/-
  Numbered breakpoints as lists: found, put in, taken out. (No program.)
-/
import Derived.Test.YtfonbompglddaaaWBase
namespace Go.Proofs.Ytfonbompglddaaa
open Go Go.Proofs

/-- by rising numbers, of 32 bits, at most sixteen -/
structure Wl (L : List On) : Prop where
  up : L.Pairwise fun x y => x.1 < y.1
  lt : ∀ x ∈ L, x.1 < 4294967296
  le : L.length ≤ 16
theorem Wl.nil : Wl [] := ⟨List.Pairwise.nil, (fun _ h => by cases h), Nat.zero_le _⟩
def lget (L : List On) (i : Nat) : Option Bk := (L.find? fun x => x.1 == i).map (·.2)
/-- the place of the first that isn't below -/
def pos (L : List On) (i : Nat) : Nat := (L.takeWhile fun y => decide (y.1 < i)).length
def ins (x : On) (L : List On) : List On := L.take (pos L x.1) ++ x :: L.drop (pos L x.1)
def del (i : Nat) (L : List On) : List On := L.filter fun y => y.1 != i
/-- the least that matches -/
def lmatch (L : List On) (e : Ev) : Option On := L.find? fun x => bmat x.2 e

theorem lget_none {L : List On} {i : Nat} (h : lget L i = none) : ∀ x ∈ L, x.1 ≠ i := by
  intro x hx e
  unfold lget at h
  rw [Option.map_eq_none_iff, List.find?_eq_none] at h
  exact h x hx (by simpa using e)
theorem lget_some {L : List On} {i : Nat} {b : Bk} (h : lget L i = some b) : (i, b) ∈ L := by
  unfold lget at h
  rw [Option.map_eq_some_iff] at h
  obtain ⟨x, hx, rfl⟩ := h
  have := List.find?_some hx
  have e : x.1 = i := by simpa using this
  rw [← e]
  exact List.mem_of_find?_eq_some hx
theorem lget_of {L : List On} (h : Wl L) {x : On} (hx : x ∈ L) : lget L x.1 = some x.2 := by
  cases hg : lget L x.1 with
  | none => exact absurd rfl (lget_none hg x hx)
  | some b =>
    have hm := lget_some hg
    have hu := h.up
    clear hg h
    induction hu with
    | nil => cases hx
    | @cons a l ha hl ih =>
      rcases List.mem_cons.1 hx with rfl | hx
      · rcases List.mem_cons.1 hm with e | hm
        · rw [← e]
        · exact absurd (ha _ hm) (Nat.lt_irrefl _)
      · rcases List.mem_cons.1 hm with e | hm
        · exact absurd (ha _ hx) (by rw [← e]; exact Nat.lt_irrefl _)
        · exact ih hx hm
theorem take_pos (L : List On) (i : Nat) : ∀ x ∈ L.take (pos L i), x.1 < i := by
  intro x hx
  have : L.take (pos L i) = L.takeWhile fun y => decide (y.1 < i) := by
    unfold pos
    exact (List.prefix_iff_eq_take.1 (List.takeWhile_prefix _)).symm
  rw [this] at hx
  simpa using List.all_eq_true.1 (List.all_takeWhile (p := fun y : On => decide (y.1 < i)) (l := L)) x hx
theorem drop_pos (L : List On) (i : Nat) : L.drop (pos L i) = L.dropWhile fun y => decide (y.1 < i) := by
  have h := List.takeWhile_append_dropWhile (p := fun y : On => decide (y.1 < i)) (l := L)
  have h2 := List.drop_left (l₁ := L.takeWhile fun y => decide (y.1 < i)) (l₂ := L.dropWhile fun y => decide (y.1 < i))
  rw [h] at h2
  exact h2
theorem ins_mem (x : On) (L : List On) (y : On) : y ∈ ins x L ↔ y = x ∨ y ∈ L := by
  unfold ins
  conv => rhs; rw [← List.take_append_drop (pos L x.1) L]
  simp only [List.mem_append, List.mem_cons]
  exact or_left_comm
theorem ins_len (x : On) (L : List On) : (ins x L).length = L.length + 1 := by
  unfold ins
  have : pos L x.1 ≤ L.length := by
    unfold pos
    exact List.IsPrefix.length_le (List.takeWhile_prefix _)
  simp
  omega
theorem drop_up {L : List On} (hu : L.Pairwise fun x y => x.1 < y.1) {i : Nat} (hn : ∀ x ∈ L, x.1 ≠ i) : ∀ x ∈ L.drop (pos L i), i < x.1 := by
  rw [drop_pos]
  induction hu with
  | nil => simp
  | @cons a l ha hl ih =>
    intro x hx
    rw [List.dropWhile_cons] at hx
    split at hx
    · exact ih (fun y hy => hn y (List.mem_cons_of_mem _ hy)) x hx
    · next h =>
      have h1 : i < a.1 := by
        have := hn a (List.mem_cons_self)
        simp at h
        omega
      rcases List.mem_cons.1 hx with rfl | hx
      · exact h1
      · exact Nat.lt_trans h1 (ha x hx)
theorem Wl.ins {L : List On} (h : Wl L) {x : On} (hn : lget L x.1 = none) (hx : x.1 < 4294967296) (hl : L.length < 16) : Wl (ins x L) := by
  have h1 := take_pos L x.1
  have h2 := drop_up h.up (lget_none hn)
  refine ⟨?_, fun y hy => ?_, by rw [ins_len]; omega⟩
  · have hu := h.up
    rw [← List.take_append_drop (pos L x.1) L] at hu
    obtain ⟨u1, u2, u3⟩ := List.pairwise_append.1 hu
    refine List.pairwise_append.2 ⟨u1, List.pairwise_cons.2 ⟨h2, u2⟩, fun a ha b hb => ?_⟩
    rcases List.mem_cons.1 hb with rfl | hb
    · exact h1 a ha
    · exact u3 a ha b hb
  · rcases (ins_mem x L y).1 hy with rfl | hy
    · exact hx
    · exact h.lt y hy
theorem del_mem (i : Nat) (L : List On) (y : On) : y ∈ del i L ↔ y ∈ L ∧ y.1 ≠ i := by
  unfold del
  simp
theorem Wl.del {L : List On} (h : Wl L) (i : Nat) : Wl (del i L) :=
  ⟨h.up.filter _, fun y hy => h.lt y ((del_mem i L y).1 hy).1, Nat.le_trans (List.length_filter_le _ _) h.le⟩
theorem del_none {L : List On} {i : Nat} (h : ∀ x ∈ L, x.1 ≠ i) : del i L = L := List.filter_eq_self.2 fun y hy => by simpa using h y hy
/-- out of its place -/
theorem del_at {L : List On} (hu : L.Pairwise fun x y => x.1 < y.1) {k : Nat} {x : On} (hk : L[k]? = some x) : L.take k ++ L.drop (k + 1) = del x.1 L := by
  induction hu generalizing k with
  | nil => cases hk
  | @cons a l ha hl ih =>
    cases k with
    | zero =>
      cases hk
      have h1 : del x.1 l = l := del_none fun y hy e => by have := ha y hy; omega
      show l = List.filter _ (x :: l)
      rw [List.filter_cons_of_neg (by simp)]
      exact h1.symm
    | succ k =>
      rw [List.getElem?_cons_succ] at hk
      have hax : a.1 < x.1 := ha x (List.mem_of_getElem? hk)
      show a :: (l.take k ++ l.drop (k + 1)) = List.filter _ (a :: l)
      rw [List.filter_cons_of_pos (by simp; omega), ih hk]
      rfl
theorem del_len {L : List On} (hu : L.Pairwise fun x y => x.1 < y.1) {k : Nat} {x : On} (hk : L[k]? = some x) : (del x.1 L).length + 1 = L.length := by
  have := (List.getElem?_eq_some_iff.1 hk).1
  rw [← del_at hu hk]
  simp
  omega
theorem lget_at {L : List On} {i : Nat} {b : Bk} (h : lget L i = some b) : ∃ k : Nat, L[k]? = some (i, b) := List.mem_iff_getElem?.1 (lget_some h)
/-- two of one list, of rising numbers, hold the same just if they are one -/
theorem up_ext {L M : List On} (hL : L.Pairwise fun x y => x.1 < y.1) (hM : M.Pairwise fun x y => x.1 < y.1) (h : ∀ x, x ∈ L ↔ x ∈ M) : L = M := by
  have nd : ∀ {L : List On}, L.Pairwise (fun x y => x.1 < y.1) → L.Nodup := fun h => h.imp fun h e => by rw [e] at h; exact Nat.lt_irrefl _ h
  have hp : L.Perm M := (List.perm_ext_iff_of_nodup (nd hL) (nd hM)).2 h
  exact hp.eq_of_pairwise (le := fun x y => x.1 < y.1) (fun a b _ _ h1 h2 => by have h1 : a.1 < b.1 := h1; have h2 : b.1 < a.1 := h2; omega) hL hM
end Go.Proofs.Ytfonbompglddaaa
