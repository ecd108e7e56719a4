/-
  Mathematics of a stable sort by merges in place, over arrays; no program.
-/
import Derived.Sort.LotA
namespace Go.Proofs.Ytehnoekbdmclmaa
open Go.Sort

namespace StM
variable {α : Type} [Inhabited α]

/-- a part of a row, as a list -/
def seg (d : Array α) (a b : Nat) : List α := (List.range' a (b - a)).map fun i => d[i]!
theorem seg_append (d : Array α) {a m b : Nat} (h1 : a ≤ m) (h2 : m ≤ b) : seg d a b = seg d a m ++ seg d m b := by
  unfold seg
  rw [← List.map_append]
  have h := List.range'_append (s := a) (m := m - a) (n := b - m) (step := 1)
  rw [show a + 1 * (m - a) = m by omega] at h
  rw [h, show m - a + (b - m) = b - a by omega]
theorem seg_nil (d : Array α) {a b : Nat} (h : b ≤ a) : seg d a b = [] := by
  unfold seg
  rw [show b - a = 0 by omega]
  rfl
theorem seg_congr {d d' : Array α} {a b : Nat} (h : ∀ i, a ≤ i → i < b → d'[i]! = d[i]!) : seg d' a b = seg d a b := by
  unfold seg
  refine List.map_congr_left fun i hi => ?_
  have := List.mem_range'_1.1 hi
  exact h i (by omega) (by omega)
theorem seg_shift {d d' : Array α} {a c n : Nat} (h : ∀ i, i < n → d'[a + i]! = d[c + i]!) : seg d' a (a + n) = seg d c (c + n) := by
  unfold seg
  rw [show a + n - a = n by omega, show c + n - c = n by omega, List.range'_eq_map_range, List.range'_eq_map_range, List.map_map, List.map_map]
  refine List.map_congr_left fun i hi => ?_
  exact h i (List.mem_range.1 hi)
theorem mem_seg {d : Array α} {a b : Nat} {x : α} : x ∈ seg d a b ↔ ∃ i, a ≤ i ∧ i < b ∧ d[i]! = x := by
  unfold seg
  constructor
  · intro h
    obtain ⟨i, hi, e⟩ := List.mem_map.1 h
    have := List.mem_range'_1.1 hi
    exact ⟨i, by omega, by omega, e⟩
  · rintro ⟨i, h1, h2, e⟩
    exact List.mem_map.2 ⟨i, List.mem_range'_1.2 (by omega), e⟩
theorem seg_all (d : Array α) : seg d 0 d.size = d.toList := by
  unfold seg
  refine List.ext_getElem (by simp) fun i h1 h2 => ?_
  have hi : i < d.size := by simpa using h2
  simp [hi]

/-- neither comes ahead of the other -/
def eqv (lt : α → α → Bool) (c x : α) : Bool := !lt c x && !lt x c

/-- what lies outside is as it was; inside, each class is in the order that it had -/
structure Kept (lt : α → α → Bool) (a b : Nat) (d d' : Array α) : Prop where
  size : d'.size = d.size
  out : ∀ x, (x < a ∨ b ≤ x) → d'[x]! = d[x]!
  fil : ∀ c, (seg d' a b).filter (eqv lt c) = (seg d a b).filter (eqv lt c)

variable {lt : α → α → Bool}
theorem Kept.refl (lt : α → α → Bool) (a b : Nat) (d : Array α) : Kept lt a b d d := ⟨rfl, fun _ _ => rfl, fun _ => rfl⟩
theorem Kept.trans {a b : Nat} {d d1 d2 : Array α} (h : Kept lt a b d d1) (h' : Kept lt a b d1 d2) : Kept lt a b d d2 :=
  ⟨h'.size.trans h.size, fun x hx => (h'.out x hx).trans (h.out x hx), fun c => (h'.fil c).trans (h.fil c)⟩
theorem Kept.wide {a b a' b' : Nat} {d d' : Array α} (h : Kept lt a b d d') (h1 : a' ≤ a) (h0 : a ≤ b) (h2 : b ≤ b') : Kept lt a' b' d d' := by
  refine ⟨h.size, fun x hx => h.out x (by omega), fun c => ?_⟩
  rw [seg_append d' (m := a) h1 (by omega), seg_append d' (a := a) (m := b) h0 h2, seg_append d (m := a) h1 (by omega), seg_append d (a := a) (m := b) h0 h2]
  simp only [List.filter_append]
  rw [h.fil c, seg_congr (d := d) (d' := d') (a := a') (b := a) (fun i _ hi => h.out i (.inl hi)), seg_congr (d := d) (d' := d') (a := b) (b := b') (fun i hi _ => h.out i (.inr hi))]
omit [Inhabited α] in
theorem eqv_refl (hS : SWO lt) (x : α) : eqv lt x x = true := by simp [eqv, hS.irrefl]
theorem Kept.mem (hS : SWO lt) {a b : Nat} {d d' : Array α} (h : Kept lt a b d d') {i : Nat} (h1 : a ≤ i) (h2 : i < b) : ∃ j, a ≤ j ∧ j < b ∧ d[j]! = d'[i]! := by
  have hm : d'[i]! ∈ (seg d' a b).filter (eqv lt d'[i]!) := List.mem_filter.2 ⟨mem_seg.2 ⟨i, h1, h2, rfl⟩, eqv_refl hS _⟩
  rw [h.fil] at hm
  exact mem_seg.1 (List.mem_filter.1 hm).1

/-- two runs that lie side by side, exchanged -/
def rot (d : Array α) (lo m hi x : Nat) : α := if lo ≤ x ∧ x < lo + (hi - m) then d[x - lo + m]! else if lo + (hi - m) ≤ x ∧ x < hi then d[x - (hi - m)]! else d[x]!
def Rot (lo m hi : Nat) (d d' : Array α) : Prop := d'.size = d.size ∧ ∀ x, d'[x]! = rot d lo m hi x
theorem Rot.kept (hS : SWO lt) {lo m hi : Nat} {d d' : Array α} (h : Rot lo m hi d d') (h1 : lo ≤ m) (h2 : m ≤ hi) (hl : ∀ x y, lo ≤ x → x < m → m ≤ y → y < hi → lt d[y]! d[x]! = true) : Kept lt lo hi d d' := by
  refine ⟨h.1, fun x hx => ?_, fun c => ?_⟩
  · rw [h.2, rot, if_neg (by omega), if_neg (by omega)]
  · have e1 : seg d' lo (lo + (hi - m)) = seg d m hi := by
      have := seg_shift (d := d) (d' := d') (a := lo) (c := m) (n := hi - m) fun i hi' => by
        rw [h.2, rot, if_pos (by omega), show lo + i - lo + m = m + i by omega]
      rw [this, show m + (hi - m) = hi by omega]
    have e2 : seg d' (lo + (hi - m)) hi = seg d lo m := by
      have := seg_shift (d := d) (d' := d') (a := lo + (hi - m)) (c := lo) (n := m - lo) fun i hi' => by
        rw [h.2, rot, if_neg (by omega), if_pos (by omega), show lo + (hi - m) + i - (hi - m) = lo + i by omega]
      rw [show lo + (hi - m) + (m - lo) = hi by omega, show lo + (m - lo) = m by omega] at this
      exact this
    rw [seg_append d' (m := lo + (hi - m)) (by omega) (by omega), e1, e2, seg_append d h1 h2]
    simp only [List.filter_append]
    by_cases hA : (seg d lo m).filter (eqv lt c) = []
    · rw [hA]; simp
    · by_cases hB : (seg d m hi).filter (eqv lt c) = []
      · rw [hB]; simp
      · exfalso
        obtain ⟨u, hu⟩ := List.exists_mem_of_ne_nil _ hA
        obtain ⟨v, hv⟩ := List.exists_mem_of_ne_nil _ hB
        obtain ⟨hu1, hu2⟩ := List.mem_filter.1 hu
        obtain ⟨hv1, hv2⟩ := List.mem_filter.1 hv
        obtain ⟨x, x1, x2, rfl⟩ := mem_seg.1 hu1
        obtain ⟨y, y1, y2, rfl⟩ := mem_seg.1 hv1
        have hlt := hl x y x1 x2 y1 y2
        simp only [eqv, Bool.and_eq_true, Bool.not_eq_true'] at hu2 hv2
        have := hS.ntrans _ _ _ hv2.2 hu2.1
        rw [this] at hlt
        cases hlt

/-- one exchange of neighbours, the second one ahead -/
theorem swp_kept (hS : SWO lt) {d : Array α} {a b j : Nat} (h1 : a ≤ j) (h2 : j + 1 < b) (hb : b ≤ d.size) (hl : lt d[j + 1]! d[j]! = true) : Kept lt a b d (swp d (j + 1) j) := by
  have hr : Rot j (j + 1) (j + 2) d (swp d (j + 1) j) := by
    refine ⟨swp_size _ _ _, fun x => ?_⟩
    rw [swp_get d (by omega) (by omega), rot]
    by_cases e1 : x = j
    · subst e1
      rw [if_pos rfl, if_pos (by omega)]
      congr 1
      omega
    · by_cases e2 : x = j + 1
      · subst e2
        rw [if_neg (by omega), if_pos rfl, if_neg (by omega), if_pos (by omega)]
        congr 1
        omega
      · rw [if_neg e1, if_neg e2, if_neg (by omega), if_neg (by omega)]
  exact (hr.kept hS (by omega) (by omega) fun x y x1 x2 y1 y2 => by
    obtain rfl : x = j := by omega
    obtain rfl : y = x + 1 := by omega
    exact hl).wide h1 (by omega) (by omega)
theorem insInner_kept (hS : SWO lt) (a b : Nat) : ∀ (j : Nat) (d : Array α), j < b → b ≤ d.size → Kept lt a b d (insInner lt a j d)
  | 0, d, _, _ => Kept.refl _ _ _ _
  | j + 1, d, h, hb => by
    rw [insInner]
    split
    · next hc =>
      simp only [Bool.and_eq_true, decide_eq_true_eq] at hc
      exact (swp_kept hS (by omega) h hb hc.2).trans (insInner_kept hS a b j _ (by omega) (by rw [swp_size]; exact hb))
    · exact Kept.refl _ _ _ _
theorem insOuter_kept (hS : SWO lt) (a b : Nat) : ∀ (n i : Nat) (d : Array α), b - i = n → b ≤ d.size → Kept lt a b d (insOuter lt a b i d)
  | 0, i, d, h, _ => by
    rw [insOuter, if_neg (by omega)]
    exact Kept.refl _ _ _ _
  | n + 1, i, d, h, hb => by
    rw [insOuter, if_pos (by omega)]
    have k := insInner_kept hS a b i d (by omega) hb
    exact k.trans (insOuter_kept hS a b n (i + 1) _ (by omega) (by rw [k.size]; exact hb))

/-- sorted, and kept -/
structure SymTo (lt : α → α → Bool) (a b : Nat) (d d' : Array α) : Prop where
  kept : Kept lt a b d d'
  sorted : SortedIn lt a b d'
theorem ins_sym (hS : SWO lt) (d : Array α) {a b : Nat} (hab : a ≤ b) (hb : b ≤ d.size) : SymTo lt a b d (insertionSort lt d a b) :=
  ⟨insOuter_kept hS a b _ (a + 1) d rfl hb, (insertionSort_holds hS d a b hab hb).2⟩

theorem sorted_part {a b a' b' : Nat} {d : Array α} (h : SortedIn lt a b d) (h1 : a ≤ a') (h2 : b' ≤ b) : SortedIn lt a' b' d := fun i j hi hij hj => h i j (by omega) hij (by omega)
theorem sorted_at {a b : Nat} {d d' : Array α} (h : SortedIn lt a b d) (he : ∀ x, a ≤ x → x < b → d'[x]! = d[x]!) : SortedIn lt a b d' := fun i j hi hij hj => by
  rw [he i hi (by omega), he j (by omega) hj]
  exact h i j hi hij hj
theorem sorted_off {a b c : Nat} {d d' : Array α} (h : SortedIn lt a b d) (he : ∀ x, x < b - a → d'[c + x]! = d[a + x]!) : SortedIn lt c (c + (b - a)) d' := fun i j hi hij hj => by
  have e1 := he (i - c) (by omega)
  have e2 := he (j - c) (by omega)
  rw [show c + (i - c) = i by omega] at e1
  rw [show c + (j - c) = j by omega] at e2
  rw [e1, e2]
  exact h _ _ (by omega) (by omega) (by omega)
theorem sorted_le (hS : SWO lt) {a b : Nat} {d : Array α} (h : SortedIn lt a b d) {i j : Nat} (hi : a ≤ i) (hij : i ≤ j) (hj : j < b) : lt d[j]! d[i]! = false := by
  rcases Nat.lt_or_ge i j with h' | h'
  · exact h i j hi h' hj
  · rw [show j = i by omega]
    exact hS.irrefl _
omit [Inhabited α] in
/-- less than something that is not behind a third: less than the third -/
theorem lt_of_lt_le (hS : SWO lt) {x y z : α} (h1 : lt x y = true) (h2 : lt z y = false) : lt x z = true := by
  cases h : lt x z with
  | true => rfl
  | false =>
    have := hS.ntrans x z y h h2
    rw [this] at h1
    cases h1
omit [Inhabited α] in
theorem lt_of_le_lt (hS : SWO lt) {x y z : α} (h1 : lt y x = false) (h2 : lt y z = true) : lt x z = true := by
  cases h : lt x z with
  | true => rfl
  | false =>
    have := hS.ntrans y x z h1 h
    rw [this] at h2
    cases h2

/-- what the search of symMerge finds: where the left run's rest begins -/
structure Cut (lt : α → α → Bool) (d : Array α) (s0 r0 p s : Nat) : Prop where
  lo : s0 ≤ s
  hi : s ≤ r0
  ahead : s0 < s → lt d[p - (s - 1)]! d[s - 1]! = false
  behind : s < r0 → lt d[p - s]! d[s]! = true

/-- behind the exchange: which are where, and in order -/
theorem sym_parts {d d1 : Array α} {a m b s mid : Nat} (hl : SortedIn lt a m d) (hr : SortedIn lt m b d) (hm2 : 2 * mid ≤ a + b ∧ a + b ≤ 2 * mid + 1)
    (hc : Cut lt d (if mid < m then mid + m - b else a) (if mid < m then mid else m) (mid + m - 1) s)
    (h1 : (s < m ∧ m < mid + m - s ∧ Rot s m (mid + m - s) d d1) ∨ (¬ (s < m ∧ m < mid + m - s) ∧ d1 = d)) :
    SortedIn lt a s d1 ∧ SortedIn lt s mid d1 ∧ SortedIn lt mid (mid + m - s) d1 ∧ SortedIn lt (mid + m - s) b d1 := by
  obtain ⟨c1, c2, c3, c4⟩ := hc
  have hsm : s ≤ m := by split at c2 <;> omega
  have hsd : s ≤ mid := by split at c2 <;> omega
  have has : a ≤ s := by split at c1 <;> omega
  have heb : mid + m - s ≤ b := by split at c1 <;> omega
  have k1 : Rot s m (mid + m - s) d d1 := by
    rcases h1 with ⟨_, _, h⟩ | ⟨hn, rfl⟩
    · exact h
    · refine ⟨rfl, fun x => ?_⟩
      unfold rot
      split
      · congr 1; omega
      · split
        · congr 1; omega
        · rfl
  have g1 : ∀ x, x < s → d1[x]! = d[x]! := fun x h => by rw [k1.2, rot, if_neg (by omega), if_neg (by omega)]
  have g2 : ∀ x, s ≤ x → x < mid → d1[x]! = d[x - s + m]! := fun x h h' => by rw [k1.2, rot, if_pos (by omega)]
  have g3 : ∀ x, mid ≤ x → x < mid + m - s → d1[x]! = d[x - (mid - s)]! := fun x h h' => by
    rw [k1.2, rot, if_neg (by omega), if_pos (by omega), show mid + m - s - m = mid - s by omega]
  have g4 : ∀ x, mid + m - s ≤ x → d1[x]! = d[x]! := fun x h => by rw [k1.2, rot, if_neg (by omega), if_neg (by omega)]
  have s1 : SortedIn lt a s d1 := sorted_at (sorted_part hl (Nat.le_refl _) hsm) fun x _ h => g1 x h
  have s2 : SortedIn lt s mid d1 := by
    have := sorted_off (sorted_part hr (Nat.le_refl m) (show mid + m - s ≤ b from heb)) (c := s) (d' := d1) fun x h => by
      rw [g2 _ (by omega) (by omega)]
      congr 1
      omega
    rwa [show s + (mid + m - s - m) = mid by omega] at this
  have s3 : SortedIn lt mid (mid + m - s) d1 := by
    have := sorted_off (sorted_part hl has (Nat.le_refl m)) (c := mid) (d' := d1) fun x h => by
      rw [g3 _ (by omega) (by omega)]
      congr 1
      omega
    rwa [show mid + (m - s) = mid + m - s by omega] at this
  have s4 : SortedIn lt (mid + m - s) b d1 := sorted_at (sorted_part hr (by omega) (Nat.le_refl _)) fun x h _ => g4 x h
  exact ⟨s1, s2, s3, s4⟩

/-- symMerge: one step, of its parts -/
theorem sym_step (hS : SWO lt) {d d1 d2 d3 : Array α} {a m b s mid : Nat} (ham : a < m) (hmb : m < b) (hl : SortedIn lt a m d) (hr : SortedIn lt m b d) (hmid : a < mid ∧ mid < b)
    (hc : Cut lt d (if mid < m then mid + m - b else a) (if mid < m then mid else m) (mid + m - 1) s) (hm2 : 2 * mid ≤ a + b ∧ a + b ≤ 2 * mid + 1)
    (h1 : (s < m ∧ m < mid + m - s ∧ Rot s m (mid + m - s) d d1) ∨ (¬ (s < m ∧ m < mid + m - s) ∧ d1 = d))
    (h2 : (a < s ∧ s < mid ∧ SymTo lt a mid d1 d2) ∨ (¬ (a < s ∧ s < mid) ∧ d2 = d1))
    (h3 : (mid < mid + m - s ∧ mid + m - s < b ∧ SymTo lt mid b d2 d3) ∨ (¬ (mid < mid + m - s ∧ mid + m - s < b) ∧ d3 = d2)) : SymTo lt a b d d3 := by
  obtain ⟨c1, c2, c3, c4⟩ := hc
  have hsm : s ≤ m := by split at c2 <;> omega
  have hsd : s ≤ mid := by split at c2 <;> omega
  have has : a ≤ s := by split at c1 <;> omega
  have heb : mid + m - s ≤ b := by split at c1 <;> omega
  -- the right run's beginning comes ahead of the left run's rest
  have hx : ∀ x y, s ≤ x → x < m → m ≤ y → y < mid + m - s → lt d[y]! d[x]! = true := by
    intro x y x1 x2 y1 y2
    have hs : s < (if mid < m then mid else m) := by split <;> omega
    have h := c4 hs
    have e1 : lt d[mid + m - 1 - s]! d[y]! = false := sorted_le hS hr y1 (by omega) (by omega)
    have e2 : lt d[x]! d[s]! = false := sorted_le hS hl has x1 x2
    exact lt_of_le_lt hS e1 (lt_of_lt_le hS h e2)
  -- the left run's beginning does not come behind the right run's rest
  have hy : ∀ x y, a ≤ x → x < s → mid + m - s ≤ y → y < b → lt d[y]! d[x]! = false := by
    intro x y x1 x2 y1 y2
    have hs : (if mid < m then mid + m - b else a) < s := by split <;> omega
    have h := c3 hs
    rw [show mid + m - 1 - (s - 1) = mid + m - s by omega] at h
    have e1 : lt d[y]! d[mid + m - s]! = false := sorted_le hS hr (by omega) y1 y2
    have e2 : lt d[s - 1]! d[x]! = false := sorted_le hS hl x1 (by omega) (by omega)
    exact hS.ntrans _ _ _ e1 (hS.ntrans _ _ _ h e2)
  -- behind the exchange
  have k1 : Rot s m (mid + m - s) d d1 := by
    rcases h1 with ⟨_, _, h⟩ | ⟨hn, rfl⟩
    · exact h
    · refine ⟨rfl, fun x => ?_⟩
      unfold rot
      split
      · congr 1; omega
      · split
        · congr 1; omega
        · rfl
  have K1 : Kept lt a b d d1 := (k1.kept hS hsm (by omega) hx).wide has (by omega) heb
  have g1 : ∀ x, x < s → d1[x]! = d[x]! := fun x h => by rw [k1.2, rot, if_neg (by omega), if_neg (by omega)]
  have g2 : ∀ x, s ≤ x → x < mid → d1[x]! = d[x - s + m]! := fun x h h' => by rw [k1.2, rot, if_pos (by omega)]
  have g3 : ∀ x, mid ≤ x → x < mid + m - s → d1[x]! = d[x - (mid - s)]! := fun x h h' => by
    rw [k1.2, rot, if_neg (by omega), if_pos (by omega), show mid + m - s - m = mid - s by omega]
  have g4 : ∀ x, mid + m - s ≤ x → d1[x]! = d[x]! := fun x h => by rw [k1.2, rot, if_neg (by omega), if_neg (by omega)]
  obtain ⟨s1, s2, s3, s4⟩ := sym_parts hl hr hm2 ⟨c1, c2, c3, c4⟩ h1
  have k2 : SymTo lt a mid d1 d2 := by
    rcases h2 with ⟨_, _, h⟩ | ⟨hn, rfl⟩
    · exact h
    · refine ⟨Kept.refl _ _ _ _, ?_⟩
      by_cases e : a < s
      · rw [show s = mid by omega] at s1
        exact s1
      · rw [show s = a by omega] at s2
        exact s2
  have k3 : SymTo lt mid b d2 d3 := by
    rcases h3 with ⟨_, _, h⟩ | ⟨hn, rfl⟩
    · exact h
    · refine ⟨Kept.refl _ _ _ _, ?_⟩
      by_cases e : mid < mid + m - s
      · rw [show mid + m - s = b by omega] at s3
        exact sorted_at s3 fun x h _ => k2.kept.out x (.inr h)
      · rw [show mid + m - s = mid by omega] at s4
        exact sorted_at s4 fun x h _ => k2.kept.out x (.inr h)
  refine ⟨(K1.trans (k2.kept.wide (Nat.le_refl _) (by omega) (by omega))).trans (k3.kept.wide (by omega) (by omega) (Nat.le_refl _)), fun i j hi hij hj => ?_⟩
  by_cases hjm : j < mid
  · rw [k3.kept.out i (.inl (by omega)), k3.kept.out j (.inl hjm)]
    exact k2.sorted i j hi hij hjm
  · by_cases him : mid ≤ i
    · exact k3.sorted i j him hij hj
    · -- one of each half
      rw [k3.kept.out i (.inl (by omega))]
      obtain ⟨x, x1, x2, ex⟩ := k2.kept.mem hS hi (show i < mid by omega)
      obtain ⟨y, y1, y2, ey⟩ := k3.kept.mem hS (show mid ≤ j by omega) hj
      rw [← ex, ← ey, k2.kept.out y (.inr y1)]
      by_cases hxs : x < s
      · rw [g1 x hxs]
        by_cases hye : y < mid + m - s
        · rw [g3 y y1 hye]
          exact hl x _ x1 (by omega) (by omega)
        · rw [g4 y (by omega)]
          exact hy x y x1 hxs (by omega) y2
      · rw [g2 x (by omega) x2]
        by_cases hye : y < mid + m - s
        · rw [g3 y y1 hye]
          exact hS.asymmA (hx _ _ (by omega) (by omega) (by omega) (by omega))
        · rw [g4 y (by omega)]
          exact hr _ y (by omega) (by omega) y2
theorem k2_out {d1 d2 : Array α} {a s mid : Nat} (h : (a < s ∧ s < mid ∧ SymTo lt a mid d1 d2) ∨ (¬ (a < s ∧ s < mid) ∧ d2 = d1)) (x : Nat) (hx : mid ≤ x) : d2[x]! = d1[x]! := by
  rcases h with ⟨_, _, h⟩ | ⟨_, rfl⟩
  · exact h.kept.out x (.inr hx)
  · rfl
end StM
end Go.Proofs.Ytehnoekbdmclmaa
