/-
  Mathematics of a binary heap in an array, of names' places, and of lists in order; no program.
-/
import Derived.Test.YtgfoagpmkbdciaaHKey
namespace Go.Proofs.Ytgfoagpmkbdciaa
open Go.Sort

namespace HpM
variable {α : Type} [Inhabited α] {lt : α → α → Bool}

/-- an item does not come ahead of its parent -/
def Ok (lt : α → α → Bool) (d : Array α) (j : Nat) : Prop := lt d[j]! d[(j - 1) / 2]! = false
def HP (lt : α → α → Bool) (d : Array α) : Prop := ∀ j, 0 < j → j < d.size → Ok lt d j
def Grand (lt : α → α → Bool) (d : Array α) (i : Nat) : Prop := 0 < i → ∀ j, 0 < j → j < d.size → (j - 1) / 2 = i → lt d[j]! d[(i - 1) / 2]! = false
/-- all but what touches i -/
structure UpA (lt : α → α → Bool) (d : Array α) (i : Nat) : Prop where
  ok : ∀ j, 0 < j → j < d.size → j ≠ i → (j - 1) / 2 ≠ i → Ok lt d j
  grand : Grand lt d i
/-- all but i itself -/
structure UpB (lt : α → α → Bool) (d : Array α) (i : Nat) : Prop where
  ok : ∀ j, 0 < j → j < d.size → j ≠ i → Ok lt d j
  grand : Grand lt d i
/-- all but i's children -/
structure Down (lt : α → α → Bool) (d : Array α) (i : Nat) : Prop where
  ok : ∀ j, 0 < j → j < d.size → (j - 1) / 2 ≠ i → Ok lt d j
  grand : Grand lt d i

theorem UpB.a {d : Array α} {i : Nat} (h : UpB lt d i) : UpA lt d i := ⟨fun j h1 h2 h3 _ => h.ok j h1 h2 h3, h.grand⟩
theorem HP.grand (hS : SWO lt) {d : Array α} (h : HP lt d) (i : Nat) : Grand lt d i := fun hi j h1 h2 h3 => by
  have a := h j h1 h2
  unfold Ok at a
  rw [h3] at a
  have b := h i hi (by omega)
  exact hS.ntrans _ _ _ a b
theorem HP.down (hS : SWO lt) {d : Array α} (h : HP lt d) (i : Nat) : Down lt d i := ⟨fun j h1 h2 _ => h j h1 h2, h.grand hS i⟩
theorem HP.upA (hS : SWO lt) {d : Array α} (h : HP lt d) (i : Nat) : UpA lt d i := ⟨fun j h1 h2 _ _ => h j h1 h2, h.grand hS i⟩

theorem up_step (hS : SWO lt) {d : Array α} {i p : Nat} (h : UpA lt d i) (hp : p = (i - 1) / 2) (hi : 0 < i) (hn : i < d.size) (hl : lt d[i]! d[p]! = true) : UpB lt (swp d i p) p := by
  have hpi : p < i := by omega
  have g := swp_get d hn (show p < d.size by omega)
  have hq : ∀ k, k ≠ i → k ≠ p → (swp d i p)[k]! = d[k]! := fun k h1 h2 => by rw [g, if_neg h2, if_neg h1]
  have gi : (swp d i p)[i]! = d[p]! := by rw [g, if_neg (by omega), if_pos rfl]
  have gp : (swp d i p)[p]! = d[i]! := by rw [g, if_pos rfl]
  constructor
  · intro j h1 h2 h3
    rw [swp_size] at h2
    unfold Ok
    by_cases e1 : j = i
    · subst e1
      rw [gi, ← hp, gp]
      exact hS.asymmA hl
    · rw [hq j e1 h3]
      by_cases e2 : (j - 1) / 2 = i
      · rw [e2, gi, hp]
        exact h.grand hi j h1 h2 e2
      · by_cases e3 : (j - 1) / 2 = p
        · rw [e3, gp]
          have a := h.ok j h1 h2 e1 e2
          unfold Ok at a
          rw [e3] at a
          cases e : lt d[j]! d[i]! with
          | false => rfl
          | true =>
            have := hS.trans _ _ _ e hl
            rw [this] at a
            cases a
        · rw [hq _ e2 e3]
          exact h.ok j h1 h2 e1 e2
  · intro h0 j h1 h2 h3
    rw [swp_size] at h2
    have hp2 : (p - 1) / 2 < p := by omega
    rw [hq ((p - 1) / 2) (by omega) (by omega)]
    have a : lt d[p]! d[(p - 1) / 2]! = false := h.ok p h0 (by omega) (by omega) (by omega)
    by_cases e1 : j = i
    · subst e1
      rw [gi]
      exact a
    · rw [hq j e1 (by omega)]
      have b := h.ok j h1 h2 e1 (by omega)
      unfold Ok at b
      rw [h3] at b
      exact hS.ntrans _ _ _ b a
theorem up_doneA {d : Array α} {i : Nat} (h : UpA lt d i) (hl : 0 < i → lt d[i]! d[(i - 1) / 2]! = false) : Down lt d i :=
  ⟨fun j h1 h2 h3 => by
    by_cases e : j = i
    · subst e
      exact hl h1
    · exact h.ok j h1 h2 e h3, h.grand⟩
theorem up_doneB {d : Array α} {i : Nat} (h : UpB lt d i) (hl : 0 < i → lt d[i]! d[(i - 1) / 2]! = false) : HP lt d := fun j h1 h2 => by
  by_cases e : j = i
  · subst e
    exact hl h1
  · exact h.ok j h1 h2 e
/-- behind a rise that has ended -/
theorem up_done (hS : SWO lt) {d : Array α} {i i0 : Nat} (h : (i = i0 ∧ UpA lt d i) ∨ UpB lt d i) (hl : 0 < i → lt d[i]! d[(i - 1) / 2]! = false) : Down lt d i0 := by
  rcases h with ⟨rfl, h⟩ | h
  · exact up_doneA h hl
  · exact (up_doneB h hl).down hS i0

/-- which of i and its children ahead of c comes first -/
structure LeastI (lt : α → α → Bool) (d : Array α) (i m c : Nat) : Prop where
  lo : 2 * i + 1 ≤ c
  hi : c ≤ 2 * i + 3
  own : m = i ∨ ((m - 1) / 2 = i ∧ 0 < m ∧ m < d.size ∧ lt d[m]! d[i]! = true)
  all : ∀ j, 2 * i + 1 ≤ j → j < c → j < d.size → lt d[j]! d[m]! = false
theorem LeastI.start (d : Array α) (i : Nat) : LeastI lt d i i (2 * i + 1) := ⟨Nat.le_refl _, by omega, .inl rfl, fun j h1 h2 => by omega⟩
theorem LeastI.inr {d : Array α} {i m c : Nat} (h : LeastI lt d i m c) (hi : i < d.size) : m < d.size := by
  rcases h.own with rfl | h
  · exact hi
  · exact h.2.2.1
theorem LeastI.take (hS : SWO lt) {d : Array α} {i m c : Nat} (h : LeastI lt d i m c) (hc : c ≤ 2 * i + 2) (hn : c < d.size) (hl : lt d[c]! d[m]! = true) : LeastI lt d i c (c + 1) := by
  have h1 := h.lo
  refine ⟨by omega, by omega, .inr ⟨by omega, by omega, hn, ?_⟩, fun j a1 a2 a3 => ?_⟩
  · rcases h.own with rfl | ⟨_, _, _, e⟩
    · exact hl
    · exact hS.trans _ _ _ hl e
  · by_cases e : j = c
    · subst e
      exact hS.irrefl _
    · have b := h.all j a1 (by omega) a3
      cases x : lt d[j]! d[c]! with
      | false => rfl
      | true =>
        have := hS.trans _ _ _ x hl
        rw [this] at b
        cases b
theorem LeastI.skip {d : Array α} {i m c : Nat} (h : LeastI lt d i m c) (hc : c ≤ 2 * i + 2) (hl : lt d[c]! d[m]! = false) : LeastI lt d i m (c + 1) := by
  refine ⟨by have := h.lo; omega, by omega, h.own, fun j a1 a2 a3 => ?_⟩
  by_cases e : j = c
  · subst e
    exact hl
  · exact h.all j a1 (by omega) a3
/-- all of i's children are behind it -/
theorem LeastI.fin {d : Array α} {i m c : Nat} (h : LeastI lt d i m c) (hc : ¬ (c ≤ 2 * i + 2 ∧ c < d.size)) : ∀ j, 0 < j → j < d.size → (j - 1) / 2 = i → lt d[j]! d[m]! = false := fun j h1 h2 h3 =>
  h.all j (by omega) (by omega) h2
theorem down_done {d : Array α} {i : Nat} (h : Down lt d i) (hl : ∀ j, 0 < j → j < d.size → (j - 1) / 2 = i → lt d[j]! d[i]! = false) : HP lt d := fun j h1 h2 => by
  by_cases e : (j - 1) / 2 = i
  · unfold Ok
    rw [e]
    exact hl j h1 h2 e
  · exact h.ok j h1 h2 e
theorem down_step (hS : SWO lt) {d : Array α} {i m : Nat} (h : Down lt d i) (hm : (m - 1) / 2 = i) (h0 : 0 < m) (hn : m < d.size) (hl : lt d[m]! d[i]! = true)
    (ha : ∀ j, 0 < j → j < d.size → (j - 1) / 2 = i → lt d[j]! d[m]! = false) : Down lt (swp d i m) m := by
  have him : i < m := by omega
  have g := swp_get d (show i < d.size by omega) hn
  have hq : ∀ k, k ≠ i → k ≠ m → (swp d i m)[k]! = d[k]! := fun k h1 h2 => by rw [g, if_neg h2, if_neg h1]
  have gi : (swp d i m)[i]! = d[m]! := by rw [g, if_neg (by omega), if_pos rfl]
  have gm : (swp d i m)[m]! = d[i]! := by rw [g, if_pos rfl]
  constructor
  · intro j h1 h2 h3
    rw [swp_size] at h2
    unfold Ok
    by_cases e1 : j = m
    · subst e1
      rw [gm, hm, gi]
      exact hS.asymmA hl
    · by_cases e2 : j = i
      · subst e2
        rw [gi, hq _ (by omega) (by omega)]
        exact h.grand h1 m h0 hn hm
      · rw [hq j e2 e1]
        by_cases e3 : (j - 1) / 2 = i
        · rw [e3, gi]
          exact ha j h1 h2 e3
        · rw [hq _ e3 h3]
          exact h.ok j h1 h2 e3
  · intro _ j h1 h2 h3
    rw [swp_size] at h2
    rw [hm, gi, hq j (by omega) (by omega)]
    have a := h.ok j h1 h2 (by omega)
    unfold Ok at a
    rw [h3] at a
    exact a

/-- the first one comes first -/
theorem HP.root (hS : SWO lt) {d : Array α} (h : HP lt d) : ∀ j, j < d.size → lt d[j]! d[0]! = false := by
  intro j
  induction j using Nat.strongRecOn with
  | _ j ih =>
    intro hj
    by_cases e : j = 0
    · subst e
      exact hS.irrefl _
    · exact hS.ntrans _ _ _ (h j (by omega) hj) (ih ((j - 1) / 2) (by omega) (by omega))
/-- the last one taken off, another one in a place -/
theorem HP.removed (hS : SWO lt) {d d' : Array α} (h : HP lt d) {i : Nat} (hs : d'.size + 1 = d.size) (hd : ∀ k, k < d'.size → k ≠ i → d'[k]! = d[k]!) : UpA lt d' i := by
  constructor
  · intro j h1 h2 h3 h4
    unfold Ok
    rw [hd j h2 h3, hd _ (by omega) h4]
    exact h j h1 (by omega)
  · intro hi j h1 h2 h3
    rw [hd j h2 (by omega), hd _ (by omega) (by omega)]
    exact h.grand hS i hi j h1 (by omega) h3
theorem HP.short {d d' : Array α} (h : HP lt d) (hs : d'.size ≤ d.size) (hd : ∀ k, k < d'.size → d'[k]! = d[k]!) : HP lt d' := fun j h1 h2 => by
  unfold Ok
  rw [hd j h2, hd _ (by omega)]
  exact h j h1 (by omega)
theorem HP.pushed {d d' : Array α} (h : HP lt d) (hs : d'.size = d.size + 1) (hd : ∀ k, k < d.size → d'[k]! = d[k]!) : UpA lt d' d.size := by
  constructor
  · intro j h1 h2 h3 h4
    unfold Ok
    rw [hd j (by omega), hd _ (by omega)]
    exact h j h1 (by omega)
  · intro hi j h1 h2 h3
    omega
/-- a last one has no children -/
theorem Down.last {d : Array α} {i : Nat} (h : Down lt d i) (hi : d.size ≤ i + 1) : HP lt d := fun j h1 h2 => by
  by_cases e : (j - 1) / 2 = i
  · omega
  · exact h.ok j h1 h2 e

/-- in order, each ahead of all behind it -/
def Asc1 (lt : α → α → Bool) (l : List α) : Prop := l.Pairwise fun x y => lt x y = true
omit [Inhabited α] in
theorem asc_eq (hS : SWO lt) {l l' : List α} (h : Asc1 lt l) (hp : l'.Perm l) (h' : l'.Pairwise fun x y => lt y x = false) : l' = l := by
  have hn : ∀ a b, a ∈ l → b ∈ l → lt a b = false → lt b a = false → a = b := by
    intro a b ha hb h1 h2
    have := h
    clear hp h'
    induction l with
    | nil => cases ha
    | cons x t ih =>
      obtain ⟨h3, h4⟩ := List.pairwise_cons.1 this
      rcases List.mem_cons.1 ha with rfl | ha' <;> rcases List.mem_cons.1 hb with rfl | hb'
      · rfl
      · rw [h3 b hb'] at h1; cases h1
      · rw [h3 a ha'] at h2; cases h2
      · exact ih h4 ha' hb' h4
  refine List.Perm.eq_of_pairwise (le := fun x y => lt y x = false) ?_ h' (h.imp fun h => hS.asymmA h) hp
  intro a b ha hb h1 h2
  exact hn a b (hp.mem_iff.1 ha) hb h2 h1
omit [Inhabited α] in
theorem asc_head {x y : α} {t : List α} (h : Asc1 lt (x :: t)) (hy : y ∈ x :: t) (hl : lt x y = false) : y = x := by
  rcases List.mem_cons.1 hy with rfl | hy
  · rfl
  · rw [(List.pairwise_cons.1 h).1 y hy] at hl
    cases hl
omit [Inhabited α] in
theorem asc_last {x y : α} {t : List α} (h : Asc1 lt (t ++ [x])) (hy : y ∈ t ++ [x]) (hl : lt y x = false) : y = x := by
  rcases List.mem_append.1 hy with hy | hy
  · have := (List.pairwise_append.1 h).2.2 y hy x (by simp)
    rw [this] at hl
    cases hl
  · simpa using hy
/-- where an item comes -/
def ins (lt : α → α → Bool) (l : List α) (x : α) : List α := l.takeWhile (fun y => lt y x) ++ x :: l.dropWhile (fun y => lt y x)
omit [Inhabited α] in
theorem ins_perm (l : List α) (x : α) : (ins lt l x).Perm (l ++ [x]) := by
  unfold ins
  refine List.perm_middle.trans ?_
  rw [List.takeWhile_append_dropWhile]
  exact (List.perm_append_singleton x l).symm
omit [Inhabited α] in
theorem ins_asc (hS : SWO lt) {l : List α} {x : α} (h : Asc1 lt l) (hn : ∀ y ∈ l, lt y x = false → lt x y = true) : Asc1 lt (ins lt l x) := by
  induction l with
  | nil => exact List.pairwise_singleton _ _
  | cons y t ih =>
    obtain ⟨h1, h2⟩ := List.pairwise_cons.1 h
    have ih := ih h2 fun z hz => hn z (List.mem_cons_of_mem _ hz)
    unfold ins at ih ⊢
    cases e : lt y x with
    | true =>
      simp only [List.takeWhile_cons, List.dropWhile_cons, e, if_true, List.cons_append]
      refine List.pairwise_cons.2 ⟨fun z hz => ?_, ih⟩
      have : z ∈ t ++ [x] := (ins_perm (lt := lt) t x).mem_iff.1 hz
      rcases List.mem_append.1 this with h | h
      · exact h1 z h
      · rw [List.mem_singleton.1 h]; exact e
    | false =>
      simp only [List.takeWhile_cons, List.dropWhile_cons, e, Bool.false_eq_true, if_false, List.nil_append]
      refine List.pairwise_cons.2 ⟨fun z hz => ?_, h⟩
      have hxy := hn y (by simp) e
      rcases List.mem_cons.1 hz with rfl | hz
      · exact hxy
      · exact hS.trans _ _ _ hxy (h1 z hz)
end HpM
end Go.Proofs.Ytgfoagpmkbdciaa
