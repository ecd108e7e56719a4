/-
  Mathematics of the stable sort, continued: its loops, its blocks, and that there is one list in order in which each class stands as it came; no program.
-/
import Derived.Test.YtehnoekbdmclmaaSMath
namespace Go.Proofs.Ytehnoekbdmclmaa
open Go.Sort

namespace StM
variable {α : Type} [Inhabited α] {lt : α → α → Bool}

/-- so many places of two runs exchanged -/
def SwapR (d : Array α) (a b i : Nat) (dk : Array α) : Prop :=
  dk.size = d.size ∧ ∀ x, dk[x]! = if a ≤ x ∧ x < a + i then d[x - a + b]! else if b ≤ x ∧ x < b + i then d[x - b + a]! else d[x]!
theorem SwapR.start (d : Array α) (a b : Nat) : SwapR d a b 0 d := ⟨rfl, fun x => by rw [if_neg (by omega), if_neg (by omega)]⟩
theorem SwapR.step {d dk : Array α} {a b i n : Nat} (h : SwapR d a b i dk) (hi : i < n) (hab : a + n ≤ b) (hb : b + n ≤ d.size) : SwapR d a b (i + 1) (swp dk (a + i) (b + i)) := by
  refine ⟨(swp_size _ _ _).trans h.1, fun x => ?_⟩
  have hs := h.1
  have hA : dk[a + i]! = d[a + i]! := by rw [h.2, if_neg (by omega), if_neg (by omega)]
  have hB : dk[b + i]! = d[b + i]! := by rw [h.2, if_neg (by omega), if_neg (by omega)]
  rw [swp_get dk (by omega) (by omega), hA, hB, h.2 x]
  by_cases e1 : x = b + i
  · rw [if_pos e1, if_neg (by omega), if_pos (by omega), show x - b + a = a + i by omega]
  · rw [if_neg e1]
    by_cases e2 : x = a + i
    · rw [if_pos e2, if_pos (by omega), show x - a + b = b + i by omega]
    · rw [if_neg e2]
      by_cases e3 : a ≤ x ∧ x < a + i
      · rw [if_pos e3, if_pos (by omega)]
      · rw [if_neg e3, if_neg (show ¬ (a ≤ x ∧ x < a + (i + 1)) by omega)]
        by_cases e4 : b ≤ x ∧ x < b + i
        · rw [if_pos e4, if_pos (by omega)]
        · rw [if_neg e4, if_neg (by omega)]

/-- what is left to be exchanged, so that two runs are -/
def RotI (d : Array α) (a m b i j : Nat) (dk : Array α) : Prop := dk.size = d.size ∧ ∀ x, rot dk (m - i) m (m + j) x = rot d a m b x
theorem RotI.start (d : Array α) {a m b : Nat} (h1 : a ≤ m) (h2 : m ≤ b) : RotI d a m b (m - a) (b - m) d := ⟨rfl, fun x => by rw [show m - (m - a) = a by omega, show m + (b - m) = b by omega]⟩
theorem RotI.more {d dk dk' : Array α} {a m b i j : Nat} (h : RotI d a m b i j dk) (hi : i ≤ m) (hj : j < i) (hs : SwapR dk (m - i) m j dk') : RotI d a m b (i - j) j dk' := by
  refine ⟨hs.1.trans h.1, fun x => ?_⟩
  rw [← h.2 x]
  unfold rot
  by_cases e1 : m - (i - j) ≤ x ∧ x < m - (i - j) + (m + j - m)
  · rw [if_pos e1, hs.2]
    by_cases e2 : m ≤ x - (m - (i - j)) + m ∧ x - (m - (i - j)) + m < m + j
    · rw [if_neg (by omega), if_pos e2, if_neg (by omega), if_pos (by omega)]
      congr 1
      omega
    · omega
  · rw [if_neg e1]
    by_cases e2 : m - (i - j) + (m + j - m) ≤ x ∧ x < m + j
    · rw [if_pos e2, hs.2, if_neg (by omega), if_neg (by omega), if_neg (by omega), if_pos (by omega)]
    · rw [if_neg e2, hs.2]
      by_cases e3 : m - i ≤ x ∧ x < m - i + j
      · rw [if_pos e3, if_pos (by omega)]
      · rw [if_neg e3, if_neg (by omega), if_neg (by omega), if_neg (by omega)]
theorem RotI.less {d dk dk' : Array α} {a m b i j : Nat} (h : RotI d a m b i j dk) (hi : i ≤ m) (hj : i < j) (hs : SwapR dk (m - i) (m + j - i) i dk') : RotI d a m b i (j - i) dk' := by
  refine ⟨hs.1.trans h.1, fun x => ?_⟩
  rw [← h.2 x]
  unfold rot
  by_cases e1 : m - i ≤ x ∧ x < m - i + (m + (j - i) - m)
  · rw [if_pos e1, hs.2, if_neg (by omega), if_neg (by omega), if_pos (by omega)]
  · rw [if_neg e1]
    by_cases e2 : m - i + (m + (j - i) - m) ≤ x ∧ x < m + (j - i)
    · rw [if_pos e2, hs.2, if_pos (by omega), if_pos (by omega)]
      congr 1
      omega
    · rw [if_neg e2, hs.2]
      by_cases e3 : m - i ≤ x ∧ x < m - i + i
      · omega
      · rw [if_neg e3]
        by_cases e4 : m + j - i ≤ x ∧ x < m + j - i + i
        · rw [if_pos e4, if_neg (by omega), if_pos (by omega)]
          congr 1
          omega
        · rw [if_neg e4, if_neg (by omega), if_neg (by omega)]
theorem RotI.fin {d dk dk' : Array α} {a m b i : Nat} (h : RotI d a m b i i dk) (hi : i ≤ m) (hs : SwapR dk (m - i) m i dk') : Rot a m b d dk' := by
  refine ⟨hs.1.trans h.1, fun x => ?_⟩
  rw [← h.2 x, hs.2]
  unfold rot
  by_cases e1 : m - i ≤ x ∧ x < m - i + i
  · rw [if_pos e1, if_pos (by omega)]
  · rw [if_neg e1]
    by_cases e2 : m ≤ x ∧ x < m + i
    · rw [if_pos e2, if_neg (by omega), if_pos (by omega)]
      congr 1
      omega
    · rw [if_neg e2, if_neg (by omega), if_neg (by omega)]

/-- the left run has one: it goes up to its place -/
theorem rot_up {d dk : Array α} {a k : Nat} (h : Rot a (a + 1) (k + 1) d dk) (ha : a ≤ k) (hk : k + 1 < d.size) : Rot a (a + 1) (k + 2) d (swp dk k (k + 1)) := by
  refine ⟨(swp_size _ _ _).trans h.1, fun x => ?_⟩
  have hs := h.1
  rw [swp_get dk (by omega) (by omega), h.2 k, h.2 (k + 1), h.2 x]
  unfold rot
  by_cases e1 : x = k + 1
  · rw [if_pos e1, if_neg (by omega), if_pos (by omega), if_neg (by omega), if_pos (by omega)]
    congr 1
    omega
  · rw [if_neg e1]
    by_cases e2 : x = k
    · rw [if_pos e2, if_neg (by omega), if_neg (by omega), if_pos (by omega)]
      congr 1
      omega
    · rw [if_neg e2]
      by_cases e3 : a ≤ x ∧ x < a + (k + 1 - (a + 1))
      · rw [if_pos e3, if_pos (by omega)]
      · rw [if_neg e3, if_neg (by omega), if_neg (by omega), if_neg (by omega)]
theorem rot_none (d : Array α) (a m : Nat) : Rot a m m d d := ⟨rfl, fun x => by
  unfold rot
  rw [if_neg (by omega)]
  split
  · congr 1; omega
  · rfl⟩
theorem rot_none' (d : Array α) (m b : Nat) : Rot m m b d d := ⟨rfl, fun x => by
  unfold rot
  split
  · congr 1; omega
  · split
    · congr 1; omega
    · rfl⟩
theorem sym_left (hS : SWO lt) {d d' : Array α} {a b i : Nat} (hr : SortedIn lt (a + 1) b d) (h1 : a + 1 ≤ i) (h2 : i ≤ b) (hl : a + 1 < i → lt d[i - 1]! d[a]! = true) (hg : i < b → lt d[i]! d[a]! = false) (h : Rot a (a + 1) i d d') : SymTo lt a b d d' := by
  have hy : ∀ y, a + 1 ≤ y → y < i → lt d[y]! d[a]! = true := fun y y1 y2 => lt_of_le_lt hS (sorted_le hS hr y1 (show y ≤ i - 1 by omega) (by omega)) (hl (by omega))
  have hz : ∀ y, i ≤ y → y < b → lt d[y]! d[a]! = false := fun y y1 y2 => hS.ntrans _ _ _ (sorted_le hS hr (show a + 1 ≤ i by omega) y1 y2) (hg (by omega))
  have g1 : ∀ x, a ≤ x → x < i - 1 → d'[x]! = d[x + 1]! := fun x x1 x2 => by
    rw [h.2, rot, if_pos (by omega)]
    congr 1
    omega
  have g2 : d'[i - 1]! = d[a]! := by
    rw [h.2, rot, if_neg (by omega), if_pos (by omega)]
    congr 1
    omega
  have g3 : ∀ x, i ≤ x → d'[x]! = d[x]! := fun x x1 => by rw [h.2, rot, if_neg (by omega), if_neg (by omega)]
  refine ⟨(h.kept hS (by omega) h1 fun x y x1 x2 y1 y2 => by rw [show x = a by omega]; exact hy y y1 y2).wide (Nat.le_refl _) (by omega) h2, fun p q hp hpq hq => ?_⟩
  by_cases p1 : p < i - 1
  · rw [g1 p hp p1]
    by_cases q1 : q < i - 1
    · rw [g1 q (by omega) q1]
      exact hr _ _ (by omega) (by omega) (by omega)
    · by_cases q2 : q = i - 1
      · rw [q2, g2]
        exact hS.asymmA (hy _ (by omega) (by omega))
      · rw [g3 q (by omega)]
        exact hr _ _ (by omega) (by omega) (by omega)
  · by_cases p2 : p = i - 1
    · rw [p2, g2, g3 q (by omega)]
      exact hz q (by omega) hq
    · rw [g3 p (by omega), g3 q (by omega)]
      exact hr _ _ (by omega) (by omega) (by omega)
theorem sym_right (hS : SWO lt) {d d' : Array α} {a m i : Nat} (hl : SortedIn lt a m d) (h1 : a ≤ i) (h2 : i ≤ m) (hn : a < i → lt d[m]! d[i - 1]! = false) (hg : i < m → lt d[m]! d[i]! = true) (h : Rot i m (m + 1) d d') : SymTo lt a (m + 1) d d' := by
  have hy : ∀ x, i ≤ x → x < m → lt d[m]! d[x]! = true := fun x x1 x2 => lt_of_lt_le hS (hg (by omega)) (sorted_le hS hl (show a ≤ i by omega) x1 x2)
  have hz : ∀ x, a ≤ x → x < i → lt d[m]! d[x]! = false := fun x x1 x2 => hS.ntrans _ _ _ (hn (by omega)) (sorted_le hS hl x1 (show x ≤ i - 1 by omega) (by omega))
  have g1 : ∀ x, x < i → d'[x]! = d[x]! := fun x x1 => by rw [h.2, rot, if_neg (by omega), if_neg (by omega)]
  have g2 : d'[i]! = d[m]! := by
    rw [h.2, rot, if_pos (by omega)]
    congr 1
    omega
  have g3 : ∀ x, i < x → x < m + 1 → d'[x]! = d[x - 1]! := fun x x1 x2 => by
    rw [h.2, rot, if_neg (by omega), if_pos (by omega)]
    congr 1
    omega
  refine ⟨(h.kept hS h2 (by omega) fun x y x1 x2 y1 y2 => by rw [show y = m by omega]; exact hy x x1 x2).wide h1 (by omega) (Nat.le_refl _), fun p q hp hpq hq => ?_⟩
  by_cases p1 : p < i
  · rw [g1 p p1]
    by_cases q1 : q < i
    · rw [g1 q q1]
      exact hl _ _ (by omega) (by omega) (by omega)
    · by_cases q2 : q = i
      · rw [q2, g2]
        exact hz p hp p1
      · rw [g3 q (by omega) hq]
        exact hl _ _ (by omega) (by omega) (by omega)
  · by_cases p2 : p = i
    · rw [p2, g2, g3 q (by omega) hq]
      exact hS.asymmA (hy _ (by omega) (by omega))
    · rw [g3 p (by omega) (by omega), g3 q (by omega) hq]
      exact hl _ _ (by omega) (by omega) (by omega)
/-- the right run has one: it goes down to its place -/
theorem rot_down {d dk : Array α} {m k : Nat} (h : Rot (k + 1) m (m + 1) d dk) (hk : k + 1 ≤ m) (hm : m < d.size) : Rot k m (m + 1) d (swp dk (k + 1) k) := by
  refine ⟨(swp_size _ _ _).trans h.1, fun x => ?_⟩
  have hs := h.1
  rw [swp_get dk (by omega) (by omega), h.2 k, h.2 (k + 1), h.2 x]
  unfold rot
  by_cases e1 : x = k
  · rw [if_pos e1, if_pos (by omega), if_pos (by omega)]
    congr 1
    omega
  · rw [if_neg e1]
    by_cases e2 : x = k + 1
    · rw [if_pos e2, if_neg (by omega), if_neg (by omega), if_neg (by omega), if_pos (by omega)]
      congr 1
      omega
    · rw [if_neg e2]
      by_cases e3 : k + 1 + (m + 1 - m) ≤ x ∧ x < m + 1
      · rw [if_neg (by omega), if_pos e3, if_neg (by omega), if_pos (by omega)]
      · rw [if_neg (by omega), if_neg e3, if_neg (by omega), if_neg (by omega)]

/-! ### blocks -/
/-- each block that begins below 'upto' is in order -/
def Blk (lt : α → α → Bool) (bs n upto : Nat) (d : Array α) : Prop := ∀ a, bs ∣ a → a < upto → a < n → SortedIn lt a (min (a + bs) n) d
def Rest (lt : α → α → Bool) (bs n a : Nat) (d : Array α) : Prop := ∀ c, bs ∣ c → a ≤ c → c < n → SortedIn lt c (min (c + bs) n) d
theorem Blk.none (lt : α → α → Bool) (bs n : Nat) (d : Array α) : Blk lt bs n 0 d := fun _ _ h => absurd h (Nat.not_lt_zero _)
theorem Blk.next {bs n a e : Nat} {d d' : Array α} (h : Blk lt bs n a d) (hd : bs ∣ a) (he : e = min (a + bs) n) (hs : SymTo lt a e d d') : Blk lt bs n (a + bs) d' := by
  intro c hc h1 h2
  rcases Nat.lt_or_ge c a with hca | hca
  · have hb : c + bs ≤ a := by
      obtain ⟨x, rfl⟩ := hc
      obtain ⟨y, rfl⟩ := hd
      have : x < y := Nat.lt_of_mul_lt_mul_left hca
      calc bs * x + bs = bs * (x + 1) := by rw [Nat.mul_add, Nat.mul_one]
        _ ≤ bs * y := Nat.mul_le_mul_left _ this
    exact sorted_at (h c hc hca h2) fun x _ hx => hs.kept.out x (.inl (by omega))
  · have hca' : c = a := by
      obtain ⟨x, rfl⟩ := hc
      obtain ⟨y, rfl⟩ := hd
      have h3 : bs * x < bs * (y + 1) := by rw [Nat.mul_add, Nat.mul_one]; exact h1
      have : x < y + 1 := Nat.lt_of_mul_lt_mul_left h3
      have : bs * x ≤ bs * y := Nat.mul_le_mul_left _ (by omega)
      omega
    subst hca'
    rw [← he]
    exact hs.sorted
theorem Blk.all {bs n upto : Nat} {d : Array α} (h : Blk lt bs n upto d) (hu : n ≤ upto) : Blk lt bs n n d := fun c hc h1 h2 => h c hc (by omega) h2
theorem Blk.rest {bs n : Nat} {d : Array α} (h : Blk lt bs n n d) : Rest lt bs n 0 d := fun c hc _ h2 => h c hc h2 h2
theorem Rest.next {bs n a e : Nat} {d d' : Array α} (h : Rest lt bs n a d) (he : e ≤ a + 2 * bs) (hs : SymTo lt a e d d') : Rest lt bs n (a + 2 * bs) d' := fun c hc h1 h2 =>
  sorted_at (h c hc (by omega) h2) fun x hx _ => hs.kept.out x (.inr (by omega))
theorem Rest.left {bs n a : Nat} {d : Array α} (h : Rest lt bs n a d) (hd : 2 * bs ∣ a) (hb : a + bs ≤ n) (hp : 0 < bs) : SortedIn lt a (a + bs) d := by
  have := h a (Nat.dvd_trans ⟨2, by omega⟩ hd) (Nat.le_refl _) (by omega)
  rwa [show min (a + bs) n = a + bs by omega] at this
theorem Rest.right {bs n a e : Nat} {d : Array α} (h : Rest lt bs n a d) (hd : 2 * bs ∣ a) (hb : a + bs < n) (he : e = min (a + 2 * bs) n) : SortedIn lt (a + bs) e d := by
  have := h (a + bs) (Nat.dvd_add (Nat.dvd_trans ⟨2, by omega⟩ hd) (Nat.dvd_refl _)) (by omega) hb
  rwa [show min (a + bs + bs) n = e by omega] at this
/-- the last block has no other one behind it -/
theorem Blk.last {bs n a : Nat} {d : Array α} (h : Blk lt (2 * bs) n a d) (hr : Rest lt bs n a d) (hd : 2 * bs ∣ a) (hb : n ≤ a + bs) (hp : 0 < bs) : Blk lt (2 * bs) n n d := by
  have h0 : SymTo lt a (min (a + 2 * bs) n) d d := by
    refine ⟨Kept.refl _ _ _ _, ?_⟩
    rcases Nat.lt_or_ge a n with h' | h'
    · have := hr a (Nat.dvd_trans ⟨2, by omega⟩ hd) (Nat.le_refl _) h'
      rwa [show min (a + bs) n = min (a + 2 * bs) n by omega] at this
    · exact fun i j _ _ _ => by omega
  exact (h.next hd rfl h0).all (by omega)

/-! ### the one list -/
def put (lt : α → α → Bool) : List α → α → List α
  | [], e => [e]
  | x :: t, e => if lt e x then e :: x :: t else x :: put lt t e
def isort (lt : α → α → Bool) (l : List α) : List α := l.foldl (put lt) []
def Asc (lt : α → α → Bool) (l : List α) : Prop := l.Pairwise fun x y => lt y x = false
omit [Inhabited α] in
theorem mem_put (lt : α → α → Bool) : ∀ (l : List α) (e x : α), x ∈ put lt l e ↔ x = e ∨ x ∈ l
  | [], e, x => by simp [put]
  | y :: t, e, x => by
    rw [put]
    split
    · simp
    · simp only [List.mem_cons, mem_put lt t e x]
      constructor
      · rintro (h | h | h)
        · exact .inr (.inl h)
        · exact .inl h
        · exact .inr (.inr h)
      · rintro (h | h | h)
        · exact .inr (.inl h)
        · exact .inl h
        · exact .inr (.inr h)
omit [Inhabited α] in
theorem put_asc (hS : SWO lt) : ∀ (l : List α) (e : α), Asc lt l → Asc lt (put lt l e)
  | [], e, _ => by simp [put, Asc]
  | y :: t, e, h => by
    obtain ⟨h1, h2⟩ := List.pairwise_cons.1 h
    rw [put]
    split
    · next hc =>
      refine List.pairwise_cons.2 ⟨fun z hz => ?_, h⟩
      rcases List.mem_cons.1 hz with rfl | hz
      · exact hS.asymmA hc
      · have := lt_of_lt_le hS hc (h1 z hz)
        exact hS.asymmA this
    · next hc =>
      refine List.pairwise_cons.2 ⟨fun z hz => ?_, put_asc hS t e h2⟩
      rcases (mem_put lt t e z).1 hz with rfl | hz
      · simpa using hc
      · exact h1 z hz
omit [Inhabited α] in
theorem put_fil (hS : SWO lt) (c : α) : ∀ (l : List α) (e : α), Asc lt l → (put lt l e).filter (eqv lt c) = l.filter (eqv lt c) ++ [e].filter (eqv lt c)
  | [], e, _ => by simp [put]
  | y :: t, e, h => by
    obtain ⟨h1, h2⟩ := List.pairwise_cons.1 h
    rw [put]
    split
    · next hc =>
      by_cases he : eqv lt c e = true
      · have hn : (y :: t).filter (eqv lt c) = [] := by
          rw [List.filter_eq_nil_iff]
          intro z hz hzc
          have hz' : lt e z = true := by
            rcases List.mem_cons.1 hz with rfl | hz
            · exact hc
            · exact lt_of_lt_le hS hc (h1 z hz)
          simp only [eqv, Bool.and_eq_true, Bool.not_eq_true'] at he hzc
          have := hS.ntrans _ _ _ he.2 hzc.1
          rw [this] at hz'
          cases hz'
        rw [hn, List.filter_cons, if_pos he, hn, List.filter_cons, if_pos he]
        rfl
      · rw [List.filter_cons, if_neg he, List.filter_cons (x := e) (xs := []), if_neg he]
        simp
    · rw [List.filter_cons, List.filter_cons (x := y) (xs := t), put_fil hS c t e h2]
      split <;> simp
omit [Inhabited α] in
theorem isort_spec (hS : SWO lt) : ∀ (l acc : List α), Asc lt acc → Asc lt (l.foldl (put lt) acc) ∧ ∀ c, (l.foldl (put lt) acc).filter (eqv lt c) = acc.filter (eqv lt c) ++ l.filter (eqv lt c)
  | [], acc, h => ⟨h, fun c => by simp⟩
  | x :: t, acc, h => by
    obtain ⟨h1, h2⟩ := isort_spec hS t (put lt acc x) (put_asc hS acc x h)
    refine ⟨h1, fun c => ?_⟩
    rw [List.foldl_cons, h2 c, put_fil hS c acc x h, List.append_assoc, ← List.filter_append]
    rfl
omit [Inhabited α] in
theorem asc_unique (hS : SWO lt) : ∀ (l l' : List α), Asc lt l → Asc lt l' → (∀ c, l.filter (eqv lt c) = l'.filter (eqv lt c)) → l = l'
  | [], [], _, _, _ => rfl
  | [], y :: t', _, _, h => by
    have := h y
    rw [List.filter_cons, if_pos (by simp [eqv, hS.irrefl])] at this
    cases this
  | x :: t, [], _, _, h => by
    have := h x
    rw [List.filter_cons, if_pos (by simp [eqv, hS.irrefl])] at this
    cases this
  | x :: t, y :: t', h1, h2, h => by
    have hx : eqv lt x x = true := by simp [eqv, hS.irrefl]
    have hy : eqv lt y y = true := by simp [eqv, hS.irrefl]
    have mx : x ∈ y :: t' := by
      have : x ∈ (x :: t).filter (eqv lt x) := List.mem_filter.2 ⟨List.mem_cons_self, hx⟩
      rw [h x] at this
      exact (List.mem_filter.1 this).1
    have my : y ∈ x :: t := by
      have : y ∈ (y :: t').filter (eqv lt y) := List.mem_filter.2 ⟨List.mem_cons_self, hy⟩
      rw [← h y] at this
      exact (List.mem_filter.1 this).1
    obtain ⟨a1, a2⟩ := List.pairwise_cons.1 h1
    obtain ⟨b1, b2⟩ := List.pairwise_cons.1 h2
    have e1 : lt y x = false := by
      rcases List.mem_cons.1 my with rfl | my
      · exact hS.irrefl _
      · exact a1 y my
    have e2 : lt x y = false := by
      rcases List.mem_cons.1 mx with rfl | mx
      · exact hS.irrefl _
      · exact b1 x mx
    have exy : eqv lt x y = true := by simp [eqv, e1, e2]
    have hh := h x
    rw [List.filter_cons, if_pos hx, List.filter_cons, if_pos exy] at hh
    obtain ⟨rfl, _⟩ := List.cons.inj hh
    refine congrArg (x :: ·) (asc_unique hS t t' a2 b2 fun c => ?_)
    have := h c
    rw [List.filter_cons, List.filter_cons] at this
    split at this
    · exact (List.cons.inj this).2
    · exact this
theorem isort_unique (hS : SWO lt) {d d' : Array α} (h : SymTo lt 0 d.size d d') : d'.toList = isort lt d.toList := by
  obtain ⟨h1, h2⟩ := isort_spec hS d.toList [] (by simp [Asc])
  refine asc_unique hS _ _ ?_ h1 fun c => ?_
  · unfold Asc
    rw [List.pairwise_iff_getElem]
    intro i j hi hj hij
    have := h.sorted i j (Nat.zero_le _) hij (by rw [← h.kept.size]; simpa using hj)
    have hi' : i < d'.size := by simpa using hi
    have hj' : j < d'.size := by simpa using hj
    simpa [hi', hj'] using this
  · have := h.kept.fil c
    rw [seg_all] at this
    rw [← h.kept.size, seg_all] at this
    rw [this]
    show _ = (d.toList.foldl (put lt) []).filter (eqv lt c)
    rw [h2 c]
    rfl
end StM
end Go.Proofs.Ytehnoekbdmclmaa
