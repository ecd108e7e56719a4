/-
  An outbox and the document's, as mathematics: texts, of which so many bytes are taken; the stream, where its texts end.
-/
import Derived.Test.YtfchfhkhflghbaaGMem
namespace Go.Proofs.Ytfchfhkhflghbaa
open Go Go.Proofs

/-- room for so many, the texts that wait, how much was taken; the stream, where its texts end, how much was taken, room for so many -/
abbrev By := List UInt8
abbrev St := Int × List By × Nat
abbrev Dt := By × List Nat × Nat × Int
/-- without their first bytes -/
def cutT : Nat → List By → List By
  | _, [] => []
  | k, t :: ts => if k < t.length then t.drop k :: ts else cutT (k - t.length) ts
theorem cutT_flat : ∀ (k : Nat) (L : List By), (cutT k L).flatten = L.flatten.drop k
  | _, [] => by simp [cutT]
  | k, t :: ts => by
    unfold cutT
    by_cases h : k < t.length
    · rw [if_pos h, List.flatten_cons, List.flatten_cons, List.drop_append_of_le_length (Nat.le_of_lt h)]
    · rw [if_neg h, cutT_flat, List.flatten_cons, List.drop_append, List.drop_eq_nil_of_le (Nat.le_of_not_lt h), List.nil_append]
theorem cutT_ne : ∀ (k : Nat) (L : List By), (∀ t ∈ L, t ≠ []) → ∀ t ∈ cutT k L, t ≠ []
  | _, [], _ => by simp [cutT]
  | k, t :: ts, h => by
    unfold cutT
    by_cases hk : k < t.length
    · rw [if_pos hk]
      intro u hu
      rcases List.mem_cons.1 hu with rfl | hu
      · intro e
        have := congrArg List.length e
        simp at this
        omega
      · exact h u (List.mem_cons_of_mem _ hu)
    · rw [if_neg hk]
      exact cutT_ne _ ts fun u hu => h u (List.mem_cons_of_mem _ hu)
theorem cutT_len : ∀ (k : Nat) (L : List By), (cutT k L).length ≤ L.length
  | _, [] => by simp [cutT]
  | k, t :: ts => by
    unfold cutT
    by_cases hk : k < t.length
    · rw [if_pos hk]; simp
    · rw [if_neg hk]
      have := cutT_len (k - t.length) ts
      simp only [List.length_cons]
      omega
theorem cutT_zero (L : List By) (h : ∀ t ∈ L, t ≠ []) : cutT 0 L = L := by
  cases L with
  | nil => rfl
  | cons t ts =>
    have := h t (List.mem_cons_self ..)
    unfold cutT
    rw [if_pos (List.length_pos_iff.2 this)]
    rfl
/-- where they end -/
def sums : Nat → List By → List Nat
  | _, [] => []
  | s, t :: ts => (s + t.length) :: sums (s + t.length) ts
theorem sums_len : ∀ (s : Nat) (L : List By), (sums s L).length = L.length
  | _, [] => rfl
  | s, t :: ts => by simp [sums, sums_len]
theorem sums_app : ∀ (s : Nat) (L : List By) (b : By), sums s (L ++ [b]) = sums s L ++ [s + L.flatten.length + b.length]
  | s, [], b => by simp [sums]
  | s, t :: ts, b => by
    simp only [List.cons_append, sums, sums_app, List.flatten_cons, List.length_append]
    rw [Nat.add_assoc s]
theorem sums_gt : ∀ (s : Nat) (L : List By), (∀ t ∈ L, t ≠ []) → ∀ e ∈ sums s L, s < e
  | _, [], _ => by simp [sums]
  | s, t :: ts, h => by
    have ht := List.length_pos_iff.2 (h t (List.mem_cons_self ..))
    intro e he
    rcases List.mem_cons.1 he with rfl | he
    · omega
    · have := sums_gt (s + t.length) ts (fun u hu => h u (List.mem_cons_of_mem _ hu)) e he
      omega
theorem sums_cut : ∀ (s k : Nat) (L : List By), k ≤ L.flatten.length → ∃ E, sums s L = E ++ sums (s + k) (cutT k L) ∧ ∀ e ∈ E, e ≤ s + k
  | s, k, [], _ => ⟨[], rfl, by simp⟩
  | s, k, t :: ts, h => by
    unfold cutT
    by_cases hk : k < t.length
    · rw [if_pos hk]
      refine ⟨[], ?_, by simp⟩
      simp only [sums, List.length_drop, List.nil_append]
      rw [show s + k + (t.length - k) = s + t.length by omega]
    · rw [if_neg hk]
      rw [List.flatten_cons, List.length_append] at h
      obtain ⟨E, h1, h2⟩ := sums_cut (s + t.length) (k - t.length) ts (by omega)
      refine ⟨(s + t.length) :: E, ?_, fun e he => ?_⟩
      · rw [show s + t.length + (k - t.length) = s + k by omega] at h1
        simp only [sums, h1, List.cons_append]
      · rcases List.mem_cons.1 he with rfl | he
        · omega
        · have := h2 e he
          omega
theorem sums_inj : ∀ (s : Nat) (L M : List By), L.flatten = M.flatten → sums s L = sums s M → L = M
  | _, [], [], _, _ => rfl
  | _, [], _ :: _, _, h => by simp [sums] at h
  | _, _ :: _, [], _, h => by simp [sums] at h
  | s, t :: ts, u :: us, hf, h => by
    simp only [sums, List.cons.injEq] at h
    obtain ⟨h1, h2⟩ := h
    have hl : t.length = u.length := by omega
    rw [List.flatten_cons, List.flatten_cons] at hf
    obtain ⟨e1, e2⟩ := List.append_inj hf hl
    rw [← hl] at h2
    rw [e1, sums_inj _ ts us e2 h2]
theorem len_le_flat : ∀ (L : List By), (∀ t ∈ L, t ≠ []) → L.length ≤ L.flatten.length
  | [], _ => by simp
  | t :: ts, h => by
    have ht := List.length_pos_iff.2 (h t (List.mem_cons_self ..))
    have := len_le_flat ts fun u hu => h u (List.mem_cons_of_mem _ hu)
    rw [List.flatten_cons, List.length_append, List.length_cons]
    omega
/-- how many wait, as the document counts -/
def rlen (y : Dt) : Nat := (y.2.1.filter fun e => decide (y.2.2.1 < e)).length
/-- both of one history, of at most K bytes -/
structure Tie (K : Nat) (x : St) (y : Dt) : Prop where
  most : y.2.2.2 = x.1
  sent : y.2.2.1 = x.2.2
  ne : ∀ t ∈ x.2.1, t ≠ []
  le : y.1.length ≤ K
  len : y.1.length = x.2.2 + x.2.1.flatten.length
  flat : y.1.drop x.2.2 = x.2.1.flatten
  cnt : y.2.1.length ≤ y.1.length
  ends : ∃ E, y.2.1 = E ++ sums x.2.2 x.2.1 ∧ ∀ e ∈ E, e ≤ x.2.2
namespace Tie
variable {K : Nat} {x : St} {y : Dt}
theorem new (m : Int) : Tie 0 (m, [], 0) ([], [], 0, m) := ⟨rfl, rfl, by simp, Nat.le_refl _, rfl, rfl, Nat.le_refl _, [], rfl, by simp⟩
theorem mono (h : Tie K x y) {K' : Nat} (hK : K ≤ K') : Tie K' x y := ⟨h.most, h.sent, h.ne, Nat.le_trans h.le hK, h.len, h.flat, h.cnt, h.ends⟩
theorem rlen (h : Tie K x y) : rlen y = x.2.1.length := by
  obtain ⟨E, h1, h2⟩ := h.ends
  unfold Go.Proofs.Ytfchfhkhflghbaa.rlen
  rw [h.sent, h1, List.filter_append, List.filter_eq_nil_iff.2 (fun e he => by have := h2 e he; simp; omega), List.nil_append, List.filter_eq_self.2 (fun e he => by have := sums_gt _ _ h.ne e he; simpa using this), sums_len]
theorem few (h : Tie K x y) : x.2.1.length ≤ K ∧ x.2.1.flatten.length ≤ K ∧ x.2.2 ≤ K ∧ y.2.1.length ≤ K ∧ y.2.2.1 ≤ K ∧ y.2.2.1 ≤ y.1.length := by
  have h1 := len_le_flat _ h.ne
  have h2 := h.len
  have h3 := h.le
  have h4 := h.cnt
  have h5 := h.sent
  omega
theorem put (h : Tie K x y) (b : By) (hb : b ≠ []) (hk : b.length ≤ 300) : Tie (K + 300) (x.1, x.2.1 ++ [b], x.2.2) (y.1 ++ b, y.2.1 ++ [y.1.length + b.length], y.2.2.1, y.2.2.2) := by
  obtain ⟨E, h1, h2⟩ := h.ends
  have hl := h.len
  have h0 := List.length_pos_iff.2 hb
  refine ⟨h.most, h.sent, fun t ht => ?_, ?_, ?_, ?_, ?_, E, ?_, h2⟩
  · rcases List.mem_append.1 ht with ht | ht
    · exact h.ne t ht
    · rw [List.mem_singleton.1 ht]; exact hb
  · have := h.le
    simp only [List.length_append]
    omega
  · simp only [List.length_append, List.flatten_append, List.flatten_singleton]
    omega
  · simp only [List.flatten_append, List.flatten_singleton]
    rw [List.drop_append_of_le_length (by omega), h.flat]
  · have := h.cnt
    simp only [List.length_append, List.length_singleton]
    omega
  · show y.2.1 ++ _ = _
    rw [sums_app, h1, hl, List.append_assoc]
theorem take (h : Tie K x y) (k : Nat) (hk : k ≤ x.2.1.flatten.length) : Tie K (x.1, cutT k x.2.1, x.2.2 + k) (y.1, y.2.1, y.2.2.1 + k, y.2.2.2) := by
  obtain ⟨E, h1, h2⟩ := h.ends
  obtain ⟨E', h3, h4⟩ := sums_cut x.2.2 k x.2.1 hk
  have hl := h.len
  refine ⟨h.most, by show _ + k = _ + k; rw [h.sent], cutT_ne _ _ h.ne, h.le, ?_, ?_, h.cnt, E ++ E', ?_, fun e he => ?_⟩
  · show y.1.length = x.2.2 + k + (cutT k x.2.1).flatten.length
    rw [cutT_flat, List.length_drop]
    omega
  · show y.1.drop (x.2.2 + k) = (cutT k x.2.1).flatten
    rw [cutT_flat, ← h.flat, List.drop_drop]
  · show y.2.1 = _
    rw [h1, h3, List.append_assoc]
  · rcases List.mem_append.1 he with he | he
    · exact Nat.le_trans (h2 e he) (Nat.le_add_right _ _)
    · exact h4 e he
end Tie
end Go.Proofs.Ytfchfhkhflghbaa
