/-
  Lists in blocks; no program.
-/
import Derived.Test.YtifniehfbafcoaaPKey
namespace Go.Proofs.Ytifniehfbafcoaa

/-- the i-th of all is the r-th of the b-th block -/
def PlaceAt (bs : List (List Ms)) (i b r : Nat) : Prop := ∃ l, bs[b]? = some l ∧ r < l.length ∧ (bs.take b).flatten.length + r = i
theorem split_at {α : Type} {bs : List α} {b : Nat} {l : α} (h : bs[b]? = some l) : bs = bs.take b ++ l :: bs.drop (b + 1) := by
  obtain ⟨hb, e⟩ := List.getElem?_eq_some_iff.1 h
  have h2 := List.drop_eq_getElem_cons hb
  rw [e] at h2
  rw [← h2, List.take_append_drop]
theorem set_split {α : Type} {bs : List α} {b : Nat} {l : α} (h : bs[b]? = some l) (x : α) : bs.set b x = bs.take b ++ x :: bs.drop (b + 1) := by
  obtain ⟨hb, e⟩ := List.getElem?_eq_some_iff.1 h
  conv => lhs; rw [split_at h]
  rw [List.set_append_right _ _ (by rw [List.length_take]; omega), List.length_take, Nat.min_eq_left (Nat.le_of_lt hb), Nat.sub_self]
  rfl
theorem flat_split {bs : List (List Ms)} {b : Nat} {l : List Ms} (h : bs[b]? = some l) : bs.flatten = (bs.take b).flatten ++ (l ++ (bs.drop (b + 1)).flatten) := by
  conv => lhs; rw [split_at h]
  rw [List.flatten_append, List.flatten_cons]
theorem PlaceAt.get {bs : List (List Ms)} {i b r : Nat} (h : PlaceAt bs i b r) : ∃ l x, bs[b]? = some l ∧ l[r]? = some x ∧ bs.flatten[i]? = some x := by
  obtain ⟨l, hl, hr, rfl⟩ := h
  refine ⟨l, l[r], hl, List.getElem?_eq_getElem hr, ?_⟩
  rw [flat_split hl, List.getElem?_append_right (by omega), Nat.add_sub_cancel_left, List.getElem?_append_left hr, List.getElem?_eq_getElem hr]
theorem PlaceAt.erase {bs : List (List Ms)} {i b r : Nat} {l : List Ms} (h : PlaceAt bs i b r) (hl : bs[b]? = some l) : (bs.set b (l.eraseIdx r)).flatten = bs.flatten.eraseIdx i := by
  obtain ⟨l', hl', hr, rfl⟩ := h
  rw [hl] at hl'
  cases hl'
  rw [flat_split hl, set_split hl, List.flatten_append, List.flatten_cons, List.eraseIdx_append_of_length_le (by omega), Nat.add_sub_cancel_left, List.eraseIdx_append_of_lt_length hr]
/-- two blocks, one behind the other, become one -/
theorem join_flat {bs : List (List Ms)} {i : Nat} {l l' : List Ms} (h : bs[i]? = some l) (h' : bs[i + 1]? = some l') : ((bs.set i (l ++ l')).eraseIdx (i + 1)).flatten = bs.flatten := by
  obtain ⟨hb, -⟩ := List.getElem?_eq_some_iff.1 h
  have h2 : (bs.drop (i + 1))[0]? = some l' := by rw [List.getElem?_drop]; exact h'
  have h3 : bs.drop (i + 1) = l' :: bs.drop (i + 1 + 1) := by
    have := split_at h2
    rw [List.take_zero, List.nil_append, List.drop_drop] at this
    exact this
  have hlt : (bs.take i).length = i := by rw [List.length_take]; omega
  rw [set_split h, h3, List.eraseIdx_append_of_length_le (by omega), hlt, Nat.add_sub_cancel_left]
  rw [flat_split h, h3]
  show (bs.take i ++ ((l ++ l') :: bs.drop (i + 1 + 1))).flatten = _
  rw [List.flatten_append, List.flatten_cons, List.flatten_cons, List.append_assoc]
theorem flat_take_succ {bs : List (List Ms)} {b : Nat} {l : List Ms} (h : bs[b]? = some l) : (bs.take (b + 1)).flatten = (bs.take b).flatten ++ l := by
  rw [List.take_add_one, h]
  simp
theorem flat_len_le (bs : List (List Ms)) (b : Nat) : (bs.take b).flatten.length ≤ bs.flatten.length := by
  conv => rhs; rw [← List.take_append_drop b bs]
  rw [List.flatten_append, List.length_append]
  omega
theorem snoc_flat {bs : List (List Ms)} {b : Nat} {l : List Ms} (h : bs[b]? = some l) (hb : b + 1 = bs.length) (x : Ms) : (bs.set b (l ++ [x])).flatten = bs.flatten ++ [x] := by
  have hd : bs.drop (b + 1) = [] := List.drop_of_length_le (by omega)
  rw [set_split h, flat_split h, hd, List.flatten_append, List.flatten_cons]
  simp
end Go.Proofs.Ytifniehfbafcoaa
