/-
  Plain mathematics of frames on lists of numbers: a payload's frame, what the head of a stream tells, what a stream tells. No program is named here.
-/
import Derived.Test.YthlmjadknklafaaDoorMath
namespace FrM
open CrcM

/-- the frame of a payload -/
def enc (p : List Nat) : List Nat :=
  [p.length / 256, p.length % 256, more 0 p / 16777216, more 0 p / 65536 % 256, more 0 p / 256 % 256, more 0 p % 256] ++ p

/-- a number of several bytes, the highest first -/
def num : List Nat → Nat := List.foldl (fun n x => 256 * n + x) 0

inductive V where
  | wait
  | bad (e : Nat)
  | got (n : Nat)

/-- the length that the head of a stream bears -/
def len (r : List Nat) : Nat := 256 * r.getD 0 0 + r.getD 1 0

def look (r : List Nat) : V :=
  if r.length < 2 then .wait
  else if len r < 1 ∨ 4096 < len r then .bad 10
  else if r.length < 6 + len r then .wait
  else if num ((r.drop 2).take 4) ≠ more 0 ((r.drop 6).take (len r)) then .bad 11
  else .got (len r)

theorem getD_append (r x : List Nat) (i : Nat) (h : i < r.length) : (r ++ x).getD i 0 = r.getD i 0 := by
  simp [List.getD, List.getElem?_append_left h]
theorem len_append (r x : List Nat) (h : 2 ≤ r.length) : len (r ++ x) = len r := by
  unfold len; rw [getD_append r x 0 (by omega), getD_append r x 1 (by omega)]
theorem part_append (r x : List Nat) (i n : Nat) (h : i + n ≤ r.length) : ((r ++ x).drop i).take n = (r.drop i).take n := by
  rw [List.drop_append_of_le_length (by omega), List.take_append_of_le_length (by rw [List.length_drop]; omega)]

theorem look_got {r : List Nat} {n : Nat} (h : look r = .got n) : n = len r ∧ 1 ≤ n ∧ n ≤ 4096 ∧ 6 + n ≤ r.length ∧ num ((r.drop 2).take 4) = more 0 ((r.drop 6).take n) := by
  unfold look at h
  split at h
  · cases h
  · split at h
    · cases h
    · split at h
      · cases h
      · split at h
        · cases h
        · cases h
          exact ⟨rfl, by omega, by omega, by omega, by rename_i h1; exact Decidable.not_not.1 h1⟩
theorem look_got_of {r : List Nat} (h1 : 1 ≤ len r) (h2 : len r ≤ 4096) (h3 : 6 + len r ≤ r.length) (h4 : num ((r.drop 2).take 4) = more 0 ((r.drop 6).take (len r))) : look r = .got (len r) := by
  unfold look
  rw [if_neg (by omega), if_neg (by omega), if_neg (by omega), if_neg (by simpa using h4)]
theorem look_short {r : List Nat} (h : r.length < 2) : look r = .wait := by unfold look; rw [if_pos h]
theorem look_len {r : List Nat} (h : 2 ≤ r.length) (h2 : len r < 1 ∨ 4096 < len r) : look r = .bad 10 := by unfold look; rw [if_neg (by omega), if_pos h2]
theorem look_part {r : List Nat} (h : 2 ≤ r.length) (h2 : ¬ (len r < 1 ∨ 4096 < len r)) (h3 : r.length < 6 + len r) : look r = .wait := by
  unfold look; rw [if_neg (by omega), if_neg h2, if_pos h3]
theorem look_sum {r : List Nat} (h2 : ¬ (len r < 1 ∨ 4096 < len r)) (h3 : 6 + len r ≤ r.length) (h4 : num ((r.drop 2).take 4) ≠ more 0 ((r.drop 6).take (len r))) : look r = .bad 11 := by
  unfold look; rw [if_neg (by omega), if_neg h2, if_neg (by omega), if_pos h4]

theorem look_got_append {r : List Nat} {n : Nat} (h : look r = .got n) (x : List Nat) : look (r ++ x) = .got n ∧ ((r ++ x).drop 6).take n = (r.drop 6).take n := by
  obtain ⟨rfl, h1, h2, h3, h4⟩ := look_got h
  have hl := len_append r x (by omega)
  have hp := part_append r x 6 (len r) (by omega)
  refine ⟨?_, hp⟩
  rw [← hl]
  refine look_got_of (by omega) (by omega) (by rw [List.length_append]; omega) ?_
  rw [hl, hp, part_append r x 2 4 (by omega)]
  exact h4
theorem look_bad_append {r : List Nat} {e : Nat} (h : look r = .bad e) (x : List Nat) : look (r ++ x) = .bad e := by
  unfold look at h
  split at h
  · cases h
  · split at h
    · cases h
      exact look_len (by rw [List.length_append]; omega) (by rw [len_append r x (by omega)]; assumption)
    · split at h
      · cases h
      · split at h
        · cases h
          have hl := len_append r x (by omega)
          refine look_sum (by rw [hl]; assumption) (by rw [hl, List.length_append]; omega) ?_
          rw [hl, part_append r x 6 (len r) (by omega), part_append r x 2 4 (by omega)]
          assumption
        · cases h
theorem look_bad {r : List Nat} {e : Nat} (h : look r = .bad e) : (e = 10 ∨ e = 11) ∧ 2 ≤ r.length := by
  unfold look at h
  split at h
  · cases h
  · split at h
    · cases h; exact ⟨.inl rfl, by omega⟩
    · split at h
      · cases h
      · split at h
        · cases h; exact ⟨.inr rfl, by omega⟩
        · cases h

/-- so much of a stream is told: these payloads, in so many bytes -/
inductive Got (l : List Nat) : List (List Nat) → Nat → Prop
  | none : Got l [] 0
  | more {ps : List (List Nat)} {k n : Nat} : Got l ps k → look (l.drop k) = .got n → Got l (ps ++ [((l.drop k).drop 6).take n]) (k + (6 + n))

theorem Got.le {l : List Nat} {ps : List (List Nat)} {k : Nat} (h : Got l ps k) : k ≤ l.length ∧ 7 * ps.length ≤ k := by
  induction h with
  | none => simp
  | more h hl ih =>
    obtain ⟨_, h1, _, h3, _⟩ := look_got hl
    rw [List.length_drop] at h3
    simp
    omega
theorem Got.append {l : List Nat} {ps : List (List Nat)} {k : Nat} (h : Got l ps k) (x : List Nat) : Got (l ++ x) ps k := by
  induction h with
  | none => exact .none
  | more h hl ih =>
    have hk := h.le.1
    obtain ⟨h1, h2⟩ := look_got_append hl x
    rw [← List.drop_append_of_le_length hk] at h1 h2
    rw [← h2]
    exact ih.more h1
theorem Got.trans {l : List Nat} {ps qs : List (List Nat)} {k m : Nat} (h : Got l ps k) (h2 : Got (l.drop k) qs m) : Got l (ps ++ qs) (k + m) := by
  induction h2 with
  | none => simpa using h
  | more h2 hl ih =>
    rw [List.drop_drop] at hl
    have := ih.more hl
    rw [List.append_assoc] at this
    rw [show ∀ a b c : Nat, a + (b + c) = a + b + c from fun a b c => by omega]
    simp only [List.drop_drop] at this ⊢
    simp only [Nat.add_assoc] at this ⊢
    exact this
theorem Got.inv {l : List Nat} {ps : List (List Nat)} {k : Nat} (h : Got l ps k) : (ps = [] ∧ k = 0) ∨ ∃ qs m n, Got l qs m ∧ look (l.drop m) = .got n ∧ ps = qs ++ [((l.drop m).drop 6).take n] ∧ k = m + (6 + n) := by
  cases h with
  | none => exact .inl ⟨rfl, rfl⟩
  | more h hl => exact .inr ⟨_, _, _, h, hl, rfl, rfl⟩
/-- of two, one goes on from the other -/
theorem Got.same {l : List Nat} : ∀ (n : Nat) {ps qs : List (List Nat)} {k m : Nat}, ps.length = n → qs.length = n → Got l ps k → Got l qs m → ps = qs ∧ k = m := by
  intro n
  induction n with
  | zero =>
    intro ps qs k m h1 h2 h3 h4
    have e1 := List.length_eq_zero_iff.1 h1
    have e2 := List.length_eq_zero_iff.1 h2
    subst e1; subst e2
    rcases h3.inv with ⟨_, rfl⟩ | ⟨_, _, _, _, _, h, _⟩
    · rcases h4.inv with ⟨_, rfl⟩ | ⟨_, _, _, _, _, h, _⟩
      · exact ⟨rfl, rfl⟩
      · simp at h
    · simp at h
  | succ n ih =>
    intro ps qs k m h1 h2 h3 h4
    rcases h3.inv with ⟨rfl, _⟩ | ⟨ps', k', a, g1, l1, rfl, rfl⟩
    · simp at h1
    · rcases h4.inv with ⟨rfl, _⟩ | ⟨qs', m', b, g2, l2, rfl, rfl⟩
      · simp at h2
      · simp at h1 h2
        obtain ⟨rfl, rfl⟩ := ih h1 h2 g1 g2
        rw [l1] at l2
        cases l2
        exact ⟨rfl, rfl⟩
theorem Got.upto {l : List Nat} {ps : List (List Nat)} {k : Nat} (h : Got l ps k) : ∀ j, j < ps.length → ∃ qs m n, qs.length = j ∧ Got l qs m ∧ look (l.drop m) = .got n := by
  induction h with
  | none => intro j hj; simp at hj
  | @more ps k n h hl ih =>
    intro j hj
    by_cases e : j = ps.length
    · exact ⟨ps, k, n, e.symm, h, hl⟩
    · exact ih j (by simp at hj; omega)

/-- all is told: what is wrong then (0: nothing) -/
def Ends (r : List Nat) (e : Nat) : Prop := (e = 0 ∧ look r = .wait) ∨ look r = .bad e
def Tld (l : List Nat) (ps : List (List Nat)) (e k : Nat) : Prop := Got l ps k ∧ Ends (l.drop k) e

theorem Ends.not {r : List Nat} {e n : Nat} (h : Ends r e) (h2 : look r = .got n) : False := by
  rcases h with ⟨_, h⟩ | h <;> rw [h] at h2 <;> cases h2
theorem Ends.eq {r : List Nat} {e f : Nat} (h : Ends r e) (h2 : Ends r f) : e = f := by
  rcases h with ⟨rfl, h⟩ | h <;> rcases h2 with ⟨rfl, g⟩ | g <;> rw [h] at g <;> cases g <;> rfl
theorem Tld.eq {l : List Nat} {ps qs : List (List Nat)} {e f k m : Nat} (h : Tld l ps e k) (h2 : Tld l qs f m) : ps = qs ∧ e = f ∧ k = m := by
  rcases Nat.lt_trichotomy ps.length qs.length with hl | hl | hl
  · obtain ⟨rs, j, n, e1, g, hg⟩ := h2.1.upto _ hl
    obtain ⟨rfl, rfl⟩ := Got.same _ rfl e1 h.1 g
    exact (h.2.not hg).elim
  · obtain ⟨rfl, rfl⟩ := Got.same _ rfl hl.symm h.1 h2.1
    exact ⟨rfl, h.2.eq h2.2, rfl⟩
  · obtain ⟨rs, j, n, e1, g, hg⟩ := h.1.upto _ hl
    obtain ⟨rfl, rfl⟩ := Got.same _ rfl e1 h2.1 g
    exact (h2.2.not hg).elim
theorem Tld.bad_append {l : List Nat} {ps : List (List Nat)} {e k : Nat} (h : Tld l ps e k) (he : e ≠ 0) (x : List Nat) : Tld (l ++ x) ps e k := by
  refine ⟨h.1.append x, ?_⟩
  rcases h.2 with ⟨rfl, _⟩ | hb
  · exact absurd rfl he
  · rw [List.drop_append_of_le_length h.1.le.1]
    exact .inr (look_bad_append hb x)
theorem Tld.trans {l : List Nat} {ps qs : List (List Nat)} {e k m : Nat} (h : Got l ps k) (h2 : Tld (l.drop k) qs e m) : Tld l (ps ++ qs) e (k + m) := by
  refine ⟨h.trans h2.1, ?_⟩
  have := h2.2
  rw [List.drop_drop] at this
  exact this
end FrM
