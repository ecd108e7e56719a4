/-
  Mathematics of a stable sort by merges in place, over arrays; no program.
-/
import Derived.Sort.LotA
import Derived.Shelf.SlSortCmp.Insertion
import Derived.Test.YthhpoihfaggafaaDoorRows
import Derived.Shelf.SlSortCmp.KitK
import Derived.Laws.StructEq
import Derived.ProofKit
import Derived.ChangeOld
import Derived.Below
import Derived.Lib.Hide
import Derived.Test.YthhpoihfaggafaaDoorProg
import Derived.Sort.WalkB2
import Derived.Sort.WalkB12
import Derived.Deep.LoopGhost
import Derived.Deep.Cut
import Derived.Deep.CutRange
import Derived.Laws.AppendOwn
import Derived.Laws.Rows
import Derived.Shelf.SlGeneric
import Derived.Shelf.SlLaysF0
import Derived.Lib.SliceRun
import Derived.RowKit
namespace Go.Proofs.YthhpoihfaggafaaDoor.Or
open Go.Sort

namespace StM
variable {α : Type} [Inhabited α]

/-- a part of a row, as a list -/
def seg (d : Array α) (a b : Nat) : List α := (List.range' a (b - a)).map fun i => d[i]!
theorem seg_append (d : Array α) {a m b : Nat} (h1 : a ≤ m) (h2 : m ≤ b) : seg d a b = seg d a m ++ seg d m b := by
  unfold seg
  rw [← List.map_append]
  have h := List.range'_append (s := a) (m := m - a) (n := b - m) (step := 1)
  rw [show a + 1 * (m - a) = m by omega] at h
  rw [h, show m - a + (b - m) = b - a by omega]
theorem seg_nil (d : Array α) {a b : Nat} (h : b ≤ a) : seg d a b = [] := by
  unfold seg
  rw [show b - a = 0 by omega]
  rfl
theorem seg_congr {d d' : Array α} {a b : Nat} (h : ∀ i, a ≤ i → i < b → d'[i]! = d[i]!) : seg d' a b = seg d a b := by
  unfold seg
  refine List.map_congr_left fun i hi => ?_
  have := List.mem_range'_1.1 hi
  exact h i (by omega) (by omega)
theorem seg_shift {d d' : Array α} {a c n : Nat} (h : ∀ i, i < n → d'[a + i]! = d[c + i]!) : seg d' a (a + n) = seg d c (c + n) := by
  unfold seg
  rw [show a + n - a = n by omega, show c + n - c = n by omega, List.range'_eq_map_range, List.range'_eq_map_range, List.map_map, List.map_map]
  refine List.map_congr_left fun i hi => ?_
  exact h i (List.mem_range.1 hi)
theorem mem_seg {d : Array α} {a b : Nat} {x : α} : x ∈ seg d a b ↔ ∃ i, a ≤ i ∧ i < b ∧ d[i]! = x := by
  unfold seg
  constructor
  · intro h
    obtain ⟨i, hi, e⟩ := List.mem_map.1 h
    have := List.mem_range'_1.1 hi
    exact ⟨i, by omega, by omega, e⟩
  · rintro ⟨i, h1, h2, e⟩
    exact List.mem_map.2 ⟨i, List.mem_range'_1.2 (by omega), e⟩
theorem seg_all (d : Array α) : seg d 0 d.size = d.toList := by
  unfold seg
  refine List.ext_getElem (by simp) fun i h1 h2 => ?_
  have hi : i < d.size := by simpa using h2
  simp [hi]

/-- neither comes ahead of the other -/
def eqv (lt : α → α → Bool) (c x : α) : Bool := !lt c x && !lt x c

/-- what lies outside is as it was; inside, each class is in the order that it had -/
structure Kept (lt : α → α → Bool) (a b : Nat) (d d' : Array α) : Prop where
  size : d'.size = d.size
  out : ∀ x, (x < a ∨ b ≤ x) → d'[x]! = d[x]!
  fil : ∀ c, (seg d' a b).filter (eqv lt c) = (seg d a b).filter (eqv lt c)

variable {lt : α → α → Bool}
theorem Kept.refl (lt : α → α → Bool) (a b : Nat) (d : Array α) : Kept lt a b d d := ⟨rfl, fun _ _ => rfl, fun _ => rfl⟩
theorem Kept.trans {a b : Nat} {d d1 d2 : Array α} (h : Kept lt a b d d1) (h' : Kept lt a b d1 d2) : Kept lt a b d d2 :=
  ⟨h'.size.trans h.size, fun x hx => (h'.out x hx).trans (h.out x hx), fun c => (h'.fil c).trans (h.fil c)⟩
theorem Kept.wide {a b a' b' : Nat} {d d' : Array α} (h : Kept lt a b d d') (h1 : a' ≤ a) (h0 : a ≤ b) (h2 : b ≤ b') : Kept lt a' b' d d' := by
  refine ⟨h.size, fun x hx => h.out x (by omega), fun c => ?_⟩
  rw [seg_append d' (m := a) h1 (by omega), seg_append d' (a := a) (m := b) h0 h2, seg_append d (m := a) h1 (by omega), seg_append d (a := a) (m := b) h0 h2]
  simp only [List.filter_append]
  rw [h.fil c, seg_congr (d := d) (d' := d') (a := a') (b := a) (fun i _ hi => h.out i (.inl hi)), seg_congr (d := d) (d' := d') (a := b) (b := b') (fun i hi _ => h.out i (.inr hi))]
omit [Inhabited α] in
theorem eqv_refl (hS : SWO lt) (x : α) : eqv lt x x = true := by simp [eqv, hS.irrefl]
theorem Kept.mem (hS : SWO lt) {a b : Nat} {d d' : Array α} (h : Kept lt a b d d') {i : Nat} (h1 : a ≤ i) (h2 : i < b) : ∃ j, a ≤ j ∧ j < b ∧ d[j]! = d'[i]! := by
  have hm : d'[i]! ∈ (seg d' a b).filter (eqv lt d'[i]!) := List.mem_filter.2 ⟨mem_seg.2 ⟨i, h1, h2, rfl⟩, eqv_refl hS _⟩
  rw [h.fil] at hm
  exact mem_seg.1 (List.mem_filter.1 hm).1

/-- two runs that lie side by side, exchanged -/
def rot (d : Array α) (lo m hi x : Nat) : α := if lo ≤ x ∧ x < lo + (hi - m) then d[x - lo + m]! else if lo + (hi - m) ≤ x ∧ x < hi then d[x - (hi - m)]! else d[x]!
def Rot (lo m hi : Nat) (d d' : Array α) : Prop := d'.size = d.size ∧ ∀ x, d'[x]! = rot d lo m hi x
theorem Rot.kept (hS : SWO lt) {lo m hi : Nat} {d d' : Array α} (h : Rot lo m hi d d') (h1 : lo ≤ m) (h2 : m ≤ hi) (hl : ∀ x y, lo ≤ x → x < m → m ≤ y → y < hi → lt d[y]! d[x]! = true) : Kept lt lo hi d d' := by
  refine ⟨h.1, fun x hx => ?_, fun c => ?_⟩
  · rw [h.2, rot, if_neg (by omega), if_neg (by omega)]
  · have e1 : seg d' lo (lo + (hi - m)) = seg d m hi := by
      have := seg_shift (d := d) (d' := d') (a := lo) (c := m) (n := hi - m) fun i hi' => by
        rw [h.2, rot, if_pos (by omega), show lo + i - lo + m = m + i by omega]
      rw [this, show m + (hi - m) = hi by omega]
    have e2 : seg d' (lo + (hi - m)) hi = seg d lo m := by
      have := seg_shift (d := d) (d' := d') (a := lo + (hi - m)) (c := lo) (n := m - lo) fun i hi' => by
        rw [h.2, rot, if_neg (by omega), if_pos (by omega), show lo + (hi - m) + i - (hi - m) = lo + i by omega]
      rw [show lo + (hi - m) + (m - lo) = hi by omega, show lo + (m - lo) = m by omega] at this
      exact this
    rw [seg_append d' (m := lo + (hi - m)) (by omega) (by omega), e1, e2, seg_append d h1 h2]
    simp only [List.filter_append]
    by_cases hA : (seg d lo m).filter (eqv lt c) = []
    · rw [hA]; simp
    · by_cases hB : (seg d m hi).filter (eqv lt c) = []
      · rw [hB]; simp
      · exfalso
        obtain ⟨u, hu⟩ := List.exists_mem_of_ne_nil _ hA
        obtain ⟨v, hv⟩ := List.exists_mem_of_ne_nil _ hB
        obtain ⟨hu1, hu2⟩ := List.mem_filter.1 hu
        obtain ⟨hv1, hv2⟩ := List.mem_filter.1 hv
        obtain ⟨x, x1, x2, rfl⟩ := mem_seg.1 hu1
        obtain ⟨y, y1, y2, rfl⟩ := mem_seg.1 hv1
        have hlt := hl x y x1 x2 y1 y2
        simp only [eqv, Bool.and_eq_true, Bool.not_eq_true'] at hu2 hv2
        have := hS.ntrans _ _ _ hv2.2 hu2.1
        rw [this] at hlt
        cases hlt

/-- one exchange of neighbours, the second one ahead -/
theorem swp_kept (hS : SWO lt) {d : Array α} {a b j : Nat} (h1 : a ≤ j) (h2 : j + 1 < b) (hb : b ≤ d.size) (hl : lt d[j + 1]! d[j]! = true) : Kept lt a b d (swp d (j + 1) j) := by
  have hr : Rot j (j + 1) (j + 2) d (swp d (j + 1) j) := by
    refine ⟨swp_size _ _ _, fun x => ?_⟩
    rw [swp_get d (by omega) (by omega), rot]
    by_cases e1 : x = j
    · subst e1
      rw [if_pos rfl, if_pos (by omega)]
      congr 1
      omega
    · by_cases e2 : x = j + 1
      · subst e2
        rw [if_neg (by omega), if_pos rfl, if_neg (by omega), if_pos (by omega)]
        congr 1
        omega
      · rw [if_neg e1, if_neg e2, if_neg (by omega), if_neg (by omega)]
  exact (hr.kept hS (by omega) (by omega) fun x y x1 x2 y1 y2 => by
    obtain rfl : x = j := by omega
    obtain rfl : y = x + 1 := by omega
    exact hl).wide h1 (by omega) (by omega)
theorem insInner_kept (hS : SWO lt) (a b : Nat) : ∀ (j : Nat) (d : Array α), j < b → b ≤ d.size → Kept lt a b d (insInner lt a j d)
  | 0, d, _, _ => Kept.refl _ _ _ _
  | j + 1, d, h, hb => by
    rw [insInner]
    split
    · next hc =>
      simp only [Bool.and_eq_true, decide_eq_true_eq] at hc
      exact (swp_kept hS (by omega) h hb hc.2).trans (insInner_kept hS a b j _ (by omega) (by rw [swp_size]; exact hb))
    · exact Kept.refl _ _ _ _
theorem insOuter_kept (hS : SWO lt) (a b : Nat) : ∀ (n i : Nat) (d : Array α), b - i = n → b ≤ d.size → Kept lt a b d (insOuter lt a b i d)
  | 0, i, d, h, _ => by
    rw [insOuter, if_neg (by omega)]
    exact Kept.refl _ _ _ _
  | n + 1, i, d, h, hb => by
    rw [insOuter, if_pos (by omega)]
    have k := insInner_kept hS a b i d (by omega) hb
    exact k.trans (insOuter_kept hS a b n (i + 1) _ (by omega) (by rw [k.size]; exact hb))

/-- sorted, and kept -/
structure SymTo (lt : α → α → Bool) (a b : Nat) (d d' : Array α) : Prop where
  kept : Kept lt a b d d'
  sorted : SortedIn lt a b d'
theorem ins_sym (hS : SWO lt) (d : Array α) {a b : Nat} (hab : a ≤ b) (hb : b ≤ d.size) : SymTo lt a b d (insertionSort lt d a b) :=
  ⟨insOuter_kept hS a b _ (a + 1) d rfl hb, (insertionSort_holds hS d a b hab hb).2⟩

theorem sorted_part {a b a' b' : Nat} {d : Array α} (h : SortedIn lt a b d) (h1 : a ≤ a') (h2 : b' ≤ b) : SortedIn lt a' b' d := fun i j hi hij hj => h i j (by omega) hij (by omega)
theorem sorted_at {a b : Nat} {d d' : Array α} (h : SortedIn lt a b d) (he : ∀ x, a ≤ x → x < b → d'[x]! = d[x]!) : SortedIn lt a b d' := fun i j hi hij hj => by
  rw [he i hi (by omega), he j (by omega) hj]
  exact h i j hi hij hj
theorem sorted_off {a b c : Nat} {d d' : Array α} (h : SortedIn lt a b d) (he : ∀ x, x < b - a → d'[c + x]! = d[a + x]!) : SortedIn lt c (c + (b - a)) d' := fun i j hi hij hj => by
  have e1 := he (i - c) (by omega)
  have e2 := he (j - c) (by omega)
  rw [show c + (i - c) = i by omega] at e1
  rw [show c + (j - c) = j by omega] at e2
  rw [e1, e2]
  exact h _ _ (by omega) (by omega) (by omega)
theorem sorted_le (hS : SWO lt) {a b : Nat} {d : Array α} (h : SortedIn lt a b d) {i j : Nat} (hi : a ≤ i) (hij : i ≤ j) (hj : j < b) : lt d[j]! d[i]! = false := by
  rcases Nat.lt_or_ge i j with h' | h'
  · exact h i j hi h' hj
  · rw [show j = i by omega]
    exact hS.irrefl _
omit [Inhabited α] in
/-- less than something that is not behind a third: less than the third -/
theorem lt_of_lt_le (hS : SWO lt) {x y z : α} (h1 : lt x y = true) (h2 : lt z y = false) : lt x z = true := by
  cases h : lt x z with
  | true => rfl
  | false =>
    have := hS.ntrans x z y h h2
    rw [this] at h1
    cases h1
omit [Inhabited α] in
theorem lt_of_le_lt (hS : SWO lt) {x y z : α} (h1 : lt y x = false) (h2 : lt y z = true) : lt x z = true := by
  cases h : lt x z with
  | true => rfl
  | false =>
    have := hS.ntrans y x z h1 h
    rw [this] at h2
    cases h2

/-- what the search of symMerge finds: where the left run's rest begins -/
structure Cut (lt : α → α → Bool) (d : Array α) (s0 r0 p s : Nat) : Prop where
  lo : s0 ≤ s
  hi : s ≤ r0
  ahead : s0 < s → lt d[p - (s - 1)]! d[s - 1]! = false
  behind : s < r0 → lt d[p - s]! d[s]! = true

/-- behind the exchange: which are where, and in order -/
theorem sym_parts {d d1 : Array α} {a m b s mid : Nat} (hl : SortedIn lt a m d) (hr : SortedIn lt m b d) (hm2 : 2 * mid ≤ a + b ∧ a + b ≤ 2 * mid + 1)
    (hc : Cut lt d (if mid < m then mid + m - b else a) (if mid < m then mid else m) (mid + m - 1) s)
    (h1 : (s < m ∧ m < mid + m - s ∧ Rot s m (mid + m - s) d d1) ∨ (¬ (s < m ∧ m < mid + m - s) ∧ d1 = d)) :
    SortedIn lt a s d1 ∧ SortedIn lt s mid d1 ∧ SortedIn lt mid (mid + m - s) d1 ∧ SortedIn lt (mid + m - s) b d1 := by
  obtain ⟨c1, c2, c3, c4⟩ := hc
  have hsm : s ≤ m := by split at c2 <;> omega
  have hsd : s ≤ mid := by split at c2 <;> omega
  have has : a ≤ s := by split at c1 <;> omega
  have heb : mid + m - s ≤ b := by split at c1 <;> omega
  have k1 : Rot s m (mid + m - s) d d1 := by
    rcases h1 with ⟨_, _, h⟩ | ⟨hn, rfl⟩
    · exact h
    · refine ⟨rfl, fun x => ?_⟩
      unfold rot
      split
      · congr 1; omega
      · split
        · congr 1; omega
        · rfl
  have g1 : ∀ x, x < s → d1[x]! = d[x]! := fun x h => by rw [k1.2, rot, if_neg (by omega), if_neg (by omega)]
  have g2 : ∀ x, s ≤ x → x < mid → d1[x]! = d[x - s + m]! := fun x h h' => by rw [k1.2, rot, if_pos (by omega)]
  have g3 : ∀ x, mid ≤ x → x < mid + m - s → d1[x]! = d[x - (mid - s)]! := fun x h h' => by
    rw [k1.2, rot, if_neg (by omega), if_pos (by omega), show mid + m - s - m = mid - s by omega]
  have g4 : ∀ x, mid + m - s ≤ x → d1[x]! = d[x]! := fun x h => by rw [k1.2, rot, if_neg (by omega), if_neg (by omega)]
  have s1 : SortedIn lt a s d1 := sorted_at (sorted_part hl (Nat.le_refl _) hsm) fun x _ h => g1 x h
  have s2 : SortedIn lt s mid d1 := by
    have := sorted_off (sorted_part hr (Nat.le_refl m) (show mid + m - s ≤ b from heb)) (c := s) (d' := d1) fun x h => by
      rw [g2 _ (by omega) (by omega)]
      congr 1
      omega
    rwa [show s + (mid + m - s - m) = mid by omega] at this
  have s3 : SortedIn lt mid (mid + m - s) d1 := by
    have := sorted_off (sorted_part hl has (Nat.le_refl m)) (c := mid) (d' := d1) fun x h => by
      rw [g3 _ (by omega) (by omega)]
      congr 1
      omega
    rwa [show mid + (m - s) = mid + m - s by omega] at this
  have s4 : SortedIn lt (mid + m - s) b d1 := sorted_at (sorted_part hr (by omega) (Nat.le_refl _)) fun x h _ => g4 x h
  exact ⟨s1, s2, s3, s4⟩

/-- symMerge: one step, of its parts -/
theorem sym_step (hS : SWO lt) {d d1 d2 d3 : Array α} {a m b s mid : Nat} (ham : a < m) (hmb : m < b) (hl : SortedIn lt a m d) (hr : SortedIn lt m b d) (hmid : a < mid ∧ mid < b)
    (hc : Cut lt d (if mid < m then mid + m - b else a) (if mid < m then mid else m) (mid + m - 1) s) (hm2 : 2 * mid ≤ a + b ∧ a + b ≤ 2 * mid + 1)
    (h1 : (s < m ∧ m < mid + m - s ∧ Rot s m (mid + m - s) d d1) ∨ (¬ (s < m ∧ m < mid + m - s) ∧ d1 = d))
    (h2 : (a < s ∧ s < mid ∧ SymTo lt a mid d1 d2) ∨ (¬ (a < s ∧ s < mid) ∧ d2 = d1))
    (h3 : (mid < mid + m - s ∧ mid + m - s < b ∧ SymTo lt mid b d2 d3) ∨ (¬ (mid < mid + m - s ∧ mid + m - s < b) ∧ d3 = d2)) : SymTo lt a b d d3 := by
  obtain ⟨c1, c2, c3, c4⟩ := hc
  have hsm : s ≤ m := by split at c2 <;> omega
  have hsd : s ≤ mid := by split at c2 <;> omega
  have has : a ≤ s := by split at c1 <;> omega
  have heb : mid + m - s ≤ b := by split at c1 <;> omega
  -- the right run's beginning comes ahead of the left run's rest
  have hx : ∀ x y, s ≤ x → x < m → m ≤ y → y < mid + m - s → lt d[y]! d[x]! = true := by
    intro x y x1 x2 y1 y2
    have hs : s < (if mid < m then mid else m) := by split <;> omega
    have h := c4 hs
    have e1 : lt d[mid + m - 1 - s]! d[y]! = false := sorted_le hS hr y1 (by omega) (by omega)
    have e2 : lt d[x]! d[s]! = false := sorted_le hS hl has x1 x2
    exact lt_of_le_lt hS e1 (lt_of_lt_le hS h e2)
  -- the left run's beginning does not come behind the right run's rest
  have hy : ∀ x y, a ≤ x → x < s → mid + m - s ≤ y → y < b → lt d[y]! d[x]! = false := by
    intro x y x1 x2 y1 y2
    have hs : (if mid < m then mid + m - b else a) < s := by split <;> omega
    have h := c3 hs
    rw [show mid + m - 1 - (s - 1) = mid + m - s by omega] at h
    have e1 : lt d[y]! d[mid + m - s]! = false := sorted_le hS hr (by omega) y1 y2
    have e2 : lt d[s - 1]! d[x]! = false := sorted_le hS hl x1 (by omega) (by omega)
    exact hS.ntrans _ _ _ e1 (hS.ntrans _ _ _ h e2)
  -- behind the exchange
  have k1 : Rot s m (mid + m - s) d d1 := by
    rcases h1 with ⟨_, _, h⟩ | ⟨hn, rfl⟩
    · exact h
    · refine ⟨rfl, fun x => ?_⟩
      unfold rot
      split
      · congr 1; omega
      · split
        · congr 1; omega
        · rfl
  have K1 : Kept lt a b d d1 := (k1.kept hS hsm (by omega) hx).wide has (by omega) heb
  have g1 : ∀ x, x < s → d1[x]! = d[x]! := fun x h => by rw [k1.2, rot, if_neg (by omega), if_neg (by omega)]
  have g2 : ∀ x, s ≤ x → x < mid → d1[x]! = d[x - s + m]! := fun x h h' => by rw [k1.2, rot, if_pos (by omega)]
  have g3 : ∀ x, mid ≤ x → x < mid + m - s → d1[x]! = d[x - (mid - s)]! := fun x h h' => by
    rw [k1.2, rot, if_neg (by omega), if_pos (by omega), show mid + m - s - m = mid - s by omega]
  have g4 : ∀ x, mid + m - s ≤ x → d1[x]! = d[x]! := fun x h => by rw [k1.2, rot, if_neg (by omega), if_neg (by omega)]
  obtain ⟨s1, s2, s3, s4⟩ := sym_parts hl hr hm2 ⟨c1, c2, c3, c4⟩ h1
  have k2 : SymTo lt a mid d1 d2 := by
    rcases h2 with ⟨_, _, h⟩ | ⟨hn, rfl⟩
    · exact h
    · refine ⟨Kept.refl _ _ _ _, ?_⟩
      by_cases e : a < s
      · rw [show s = mid by omega] at s1
        exact s1
      · rw [show s = a by omega] at s2
        exact s2
  have k3 : SymTo lt mid b d2 d3 := by
    rcases h3 with ⟨_, _, h⟩ | ⟨hn, rfl⟩
    · exact h
    · refine ⟨Kept.refl _ _ _ _, ?_⟩
      by_cases e : mid < mid + m - s
      · rw [show mid + m - s = b by omega] at s3
        exact sorted_at s3 fun x h _ => k2.kept.out x (.inr h)
      · rw [show mid + m - s = mid by omega] at s4
        exact sorted_at s4 fun x h _ => k2.kept.out x (.inr h)
  refine ⟨(K1.trans (k2.kept.wide (Nat.le_refl _) (by omega) (by omega))).trans (k3.kept.wide (by omega) (by omega) (Nat.le_refl _)), fun i j hi hij hj => ?_⟩
  by_cases hjm : j < mid
  · rw [k3.kept.out i (.inl (by omega)), k3.kept.out j (.inl hjm)]
    exact k2.sorted i j hi hij hjm
  · by_cases him : mid ≤ i
    · exact k3.sorted i j him hij hj
    · -- one of each half
      rw [k3.kept.out i (.inl (by omega))]
      obtain ⟨x, x1, x2, ex⟩ := k2.kept.mem hS hi (show i < mid by omega)
      obtain ⟨y, y1, y2, ey⟩ := k3.kept.mem hS (show mid ≤ j by omega) hj
      rw [← ex, ← ey, k2.kept.out y (.inr y1)]
      by_cases hxs : x < s
      · rw [g1 x hxs]
        by_cases hye : y < mid + m - s
        · rw [g3 y y1 hye]
          exact hl x _ x1 (by omega) (by omega)
        · rw [g4 y (by omega)]
          exact hy x y x1 hxs (by omega) y2
      · rw [g2 x (by omega) x2]
        by_cases hye : y < mid + m - s
        · rw [g3 y y1 hye]
          exact hS.asymmA (hx _ _ (by omega) (by omega) (by omega) (by omega))
        · rw [g4 y (by omega)]
          exact hr _ y (by omega) (by omega) y2
theorem k2_out {d1 d2 : Array α} {a s mid : Nat} (h : (a < s ∧ s < mid ∧ SymTo lt a mid d1 d2) ∨ (¬ (a < s ∧ s < mid) ∧ d2 = d1)) (x : Nat) (hx : mid ≤ x) : d2[x]! = d1[x]! := by
  rcases h with ⟨_, _, h⟩ | ⟨_, rfl⟩
  · exact h.kept.out x (.inr hx)
  · rfl
end StM
end Go.Proofs.YthhpoihfaggafaaDoor.Or
namespace Go.Proofs.YthhpoihfaggafaaDoor.Or
open Go.Sort

namespace StM
variable {α : Type} [Inhabited α] {lt : α → α → Bool}

/-- so many places of two runs exchanged -/
def SwapR (d : Array α) (a b i : Nat) (dk : Array α) : Prop :=
  dk.size = d.size ∧ ∀ x, dk[x]! = if a ≤ x ∧ x < a + i then d[x - a + b]! else if b ≤ x ∧ x < b + i then d[x - b + a]! else d[x]!
theorem SwapR.start (d : Array α) (a b : Nat) : SwapR d a b 0 d := ⟨rfl, fun x => by rw [if_neg (by omega), if_neg (by omega)]⟩
theorem SwapR.step {d dk : Array α} {a b i n : Nat} (h : SwapR d a b i dk) (hi : i < n) (hab : a + n ≤ b) (hb : b + n ≤ d.size) : SwapR d a b (i + 1) (swp dk (a + i) (b + i)) := by
  refine ⟨(swp_size _ _ _).trans h.1, fun x => ?_⟩
  have hs := h.1
  have hA : dk[a + i]! = d[a + i]! := by rw [h.2, if_neg (by omega), if_neg (by omega)]
  have hB : dk[b + i]! = d[b + i]! := by rw [h.2, if_neg (by omega), if_neg (by omega)]
  rw [swp_get dk (by omega) (by omega), hA, hB, h.2 x]
  by_cases e1 : x = b + i
  · rw [if_pos e1, if_neg (by omega), if_pos (by omega), show x - b + a = a + i by omega]
  · rw [if_neg e1]
    by_cases e2 : x = a + i
    · rw [if_pos e2, if_pos (by omega), show x - a + b = b + i by omega]
    · rw [if_neg e2]
      by_cases e3 : a ≤ x ∧ x < a + i
      · rw [if_pos e3, if_pos (by omega)]
      · rw [if_neg e3, if_neg (show ¬ (a ≤ x ∧ x < a + (i + 1)) by omega)]
        by_cases e4 : b ≤ x ∧ x < b + i
        · rw [if_pos e4, if_pos (by omega)]
        · rw [if_neg e4, if_neg (by omega)]

/-- what is left to be exchanged, so that two runs are -/
def RotI (d : Array α) (a m b i j : Nat) (dk : Array α) : Prop := dk.size = d.size ∧ ∀ x, rot dk (m - i) m (m + j) x = rot d a m b x
theorem RotI.start (d : Array α) {a m b : Nat} (h1 : a ≤ m) (h2 : m ≤ b) : RotI d a m b (m - a) (b - m) d := ⟨rfl, fun x => by rw [show m - (m - a) = a by omega, show m + (b - m) = b by omega]⟩
theorem RotI.more {d dk dk' : Array α} {a m b i j : Nat} (h : RotI d a m b i j dk) (hi : i ≤ m) (hj : j < i) (hs : SwapR dk (m - i) m j dk') : RotI d a m b (i - j) j dk' := by
  refine ⟨hs.1.trans h.1, fun x => ?_⟩
  rw [← h.2 x]
  unfold rot
  by_cases e1 : m - (i - j) ≤ x ∧ x < m - (i - j) + (m + j - m)
  · rw [if_pos e1, hs.2]
    by_cases e2 : m ≤ x - (m - (i - j)) + m ∧ x - (m - (i - j)) + m < m + j
    · rw [if_neg (by omega), if_pos e2, if_neg (by omega), if_pos (by omega)]
      congr 1
      omega
    · omega
  · rw [if_neg e1]
    by_cases e2 : m - (i - j) + (m + j - m) ≤ x ∧ x < m + j
    · rw [if_pos e2, hs.2, if_neg (by omega), if_neg (by omega), if_neg (by omega), if_pos (by omega)]
    · rw [if_neg e2, hs.2]
      by_cases e3 : m - i ≤ x ∧ x < m - i + j
      · rw [if_pos e3, if_pos (by omega)]
      · rw [if_neg e3, if_neg (by omega), if_neg (by omega), if_neg (by omega)]
theorem RotI.less {d dk dk' : Array α} {a m b i j : Nat} (h : RotI d a m b i j dk) (hi : i ≤ m) (hj : i < j) (hs : SwapR dk (m - i) (m + j - i) i dk') : RotI d a m b i (j - i) dk' := by
  refine ⟨hs.1.trans h.1, fun x => ?_⟩
  rw [← h.2 x]
  unfold rot
  by_cases e1 : m - i ≤ x ∧ x < m - i + (m + (j - i) - m)
  · rw [if_pos e1, hs.2, if_neg (by omega), if_neg (by omega), if_pos (by omega)]
  · rw [if_neg e1]
    by_cases e2 : m - i + (m + (j - i) - m) ≤ x ∧ x < m + (j - i)
    · rw [if_pos e2, hs.2, if_pos (by omega), if_pos (by omega)]
      congr 1
      omega
    · rw [if_neg e2, hs.2]
      by_cases e3 : m - i ≤ x ∧ x < m - i + i
      · omega
      · rw [if_neg e3]
        by_cases e4 : m + j - i ≤ x ∧ x < m + j - i + i
        · rw [if_pos e4, if_neg (by omega), if_pos (by omega)]
          congr 1
          omega
        · rw [if_neg e4, if_neg (by omega), if_neg (by omega)]
theorem RotI.fin {d dk dk' : Array α} {a m b i : Nat} (h : RotI d a m b i i dk) (hi : i ≤ m) (hs : SwapR dk (m - i) m i dk') : Rot a m b d dk' := by
  refine ⟨hs.1.trans h.1, fun x => ?_⟩
  rw [← h.2 x, hs.2]
  unfold rot
  by_cases e1 : m - i ≤ x ∧ x < m - i + i
  · rw [if_pos e1, if_pos (by omega)]
  · rw [if_neg e1]
    by_cases e2 : m ≤ x ∧ x < m + i
    · rw [if_pos e2, if_neg (by omega), if_pos (by omega)]
      congr 1
      omega
    · rw [if_neg e2, if_neg (by omega), if_neg (by omega)]

/-- the left run has one: it goes up to its place -/
theorem rot_up {d dk : Array α} {a k : Nat} (h : Rot a (a + 1) (k + 1) d dk) (ha : a ≤ k) (hk : k + 1 < d.size) : Rot a (a + 1) (k + 2) d (swp dk k (k + 1)) := by
  refine ⟨(swp_size _ _ _).trans h.1, fun x => ?_⟩
  have hs := h.1
  rw [swp_get dk (by omega) (by omega), h.2 k, h.2 (k + 1), h.2 x]
  unfold rot
  by_cases e1 : x = k + 1
  · rw [if_pos e1, if_neg (by omega), if_pos (by omega), if_neg (by omega), if_pos (by omega)]
    congr 1
    omega
  · rw [if_neg e1]
    by_cases e2 : x = k
    · rw [if_pos e2, if_neg (by omega), if_neg (by omega), if_pos (by omega)]
      congr 1
      omega
    · rw [if_neg e2]
      by_cases e3 : a ≤ x ∧ x < a + (k + 1 - (a + 1))
      · rw [if_pos e3, if_pos (by omega)]
      · rw [if_neg e3, if_neg (by omega), if_neg (by omega), if_neg (by omega)]
theorem rot_none (d : Array α) (a m : Nat) : Rot a m m d d := ⟨rfl, fun x => by
  unfold rot
  rw [if_neg (by omega)]
  split
  · congr 1; omega
  · rfl⟩
theorem rot_none' (d : Array α) (m b : Nat) : Rot m m b d d := ⟨rfl, fun x => by
  unfold rot
  split
  · congr 1; omega
  · split
    · congr 1; omega
    · rfl⟩
theorem sym_left (hS : SWO lt) {d d' : Array α} {a b i : Nat} (hr : SortedIn lt (a + 1) b d) (h1 : a + 1 ≤ i) (h2 : i ≤ b) (hl : a + 1 < i → lt d[i - 1]! d[a]! = true) (hg : i < b → lt d[i]! d[a]! = false) (h : Rot a (a + 1) i d d') : SymTo lt a b d d' := by
  have hy : ∀ y, a + 1 ≤ y → y < i → lt d[y]! d[a]! = true := fun y y1 y2 => lt_of_le_lt hS (sorted_le hS hr y1 (show y ≤ i - 1 by omega) (by omega)) (hl (by omega))
  have hz : ∀ y, i ≤ y → y < b → lt d[y]! d[a]! = false := fun y y1 y2 => hS.ntrans _ _ _ (sorted_le hS hr (show a + 1 ≤ i by omega) y1 y2) (hg (by omega))
  have g1 : ∀ x, a ≤ x → x < i - 1 → d'[x]! = d[x + 1]! := fun x x1 x2 => by
    rw [h.2, rot, if_pos (by omega)]
    congr 1
    omega
  have g2 : d'[i - 1]! = d[a]! := by
    rw [h.2, rot, if_neg (by omega), if_pos (by omega)]
    congr 1
    omega
  have g3 : ∀ x, i ≤ x → d'[x]! = d[x]! := fun x x1 => by rw [h.2, rot, if_neg (by omega), if_neg (by omega)]
  refine ⟨(h.kept hS (by omega) h1 fun x y x1 x2 y1 y2 => by rw [show x = a by omega]; exact hy y y1 y2).wide (Nat.le_refl _) (by omega) h2, fun p q hp hpq hq => ?_⟩
  by_cases p1 : p < i - 1
  · rw [g1 p hp p1]
    by_cases q1 : q < i - 1
    · rw [g1 q (by omega) q1]
      exact hr _ _ (by omega) (by omega) (by omega)
    · by_cases q2 : q = i - 1
      · rw [q2, g2]
        exact hS.asymmA (hy _ (by omega) (by omega))
      · rw [g3 q (by omega)]
        exact hr _ _ (by omega) (by omega) (by omega)
  · by_cases p2 : p = i - 1
    · rw [p2, g2, g3 q (by omega)]
      exact hz q (by omega) hq
    · rw [g3 p (by omega), g3 q (by omega)]
      exact hr _ _ (by omega) (by omega) (by omega)
theorem sym_right (hS : SWO lt) {d d' : Array α} {a m i : Nat} (hl : SortedIn lt a m d) (h1 : a ≤ i) (h2 : i ≤ m) (hn : a < i → lt d[m]! d[i - 1]! = false) (hg : i < m → lt d[m]! d[i]! = true) (h : Rot i m (m + 1) d d') : SymTo lt a (m + 1) d d' := by
  have hy : ∀ x, i ≤ x → x < m → lt d[m]! d[x]! = true := fun x x1 x2 => lt_of_lt_le hS (hg (by omega)) (sorted_le hS hl (show a ≤ i by omega) x1 x2)
  have hz : ∀ x, a ≤ x → x < i → lt d[m]! d[x]! = false := fun x x1 x2 => hS.ntrans _ _ _ (hn (by omega)) (sorted_le hS hl x1 (show x ≤ i - 1 by omega) (by omega))
  have g1 : ∀ x, x < i → d'[x]! = d[x]! := fun x x1 => by rw [h.2, rot, if_neg (by omega), if_neg (by omega)]
  have g2 : d'[i]! = d[m]! := by
    rw [h.2, rot, if_pos (by omega)]
    congr 1
    omega
  have g3 : ∀ x, i < x → x < m + 1 → d'[x]! = d[x - 1]! := fun x x1 x2 => by
    rw [h.2, rot, if_neg (by omega), if_pos (by omega)]
    congr 1
    omega
  refine ⟨(h.kept hS h2 (by omega) fun x y x1 x2 y1 y2 => by rw [show y = m by omega]; exact hy x x1 x2).wide h1 (by omega) (Nat.le_refl _), fun p q hp hpq hq => ?_⟩
  by_cases p1 : p < i
  · rw [g1 p p1]
    by_cases q1 : q < i
    · rw [g1 q q1]
      exact hl _ _ (by omega) (by omega) (by omega)
    · by_cases q2 : q = i
      · rw [q2, g2]
        exact hz p hp p1
      · rw [g3 q (by omega) hq]
        exact hl _ _ (by omega) (by omega) (by omega)
  · by_cases p2 : p = i
    · rw [p2, g2, g3 q (by omega) hq]
      exact hS.asymmA (hy _ (by omega) (by omega))
    · rw [g3 p (by omega) (by omega), g3 q (by omega) hq]
      exact hl _ _ (by omega) (by omega) (by omega)
/-- the right run has one: it goes down to its place -/
theorem rot_down {d dk : Array α} {m k : Nat} (h : Rot (k + 1) m (m + 1) d dk) (hk : k + 1 ≤ m) (hm : m < d.size) : Rot k m (m + 1) d (swp dk (k + 1) k) := by
  refine ⟨(swp_size _ _ _).trans h.1, fun x => ?_⟩
  have hs := h.1
  rw [swp_get dk (by omega) (by omega), h.2 k, h.2 (k + 1), h.2 x]
  unfold rot
  by_cases e1 : x = k
  · rw [if_pos e1, if_pos (by omega), if_pos (by omega)]
    congr 1
    omega
  · rw [if_neg e1]
    by_cases e2 : x = k + 1
    · rw [if_pos e2, if_neg (by omega), if_neg (by omega), if_neg (by omega), if_pos (by omega)]
      congr 1
      omega
    · rw [if_neg e2]
      by_cases e3 : k + 1 + (m + 1 - m) ≤ x ∧ x < m + 1
      · rw [if_neg (by omega), if_pos e3, if_neg (by omega), if_pos (by omega)]
      · rw [if_neg (by omega), if_neg e3, if_neg (by omega), if_neg (by omega)]

/-! ### blocks -/
/-- each block that begins below 'upto' is in order -/
def Blk (lt : α → α → Bool) (bs n upto : Nat) (d : Array α) : Prop := ∀ a, bs ∣ a → a < upto → a < n → SortedIn lt a (min (a + bs) n) d
def Rest (lt : α → α → Bool) (bs n a : Nat) (d : Array α) : Prop := ∀ c, bs ∣ c → a ≤ c → c < n → SortedIn lt c (min (c + bs) n) d
theorem Blk.none (lt : α → α → Bool) (bs n : Nat) (d : Array α) : Blk lt bs n 0 d := fun _ _ h => absurd h (Nat.not_lt_zero _)
theorem Blk.next {bs n a e : Nat} {d d' : Array α} (h : Blk lt bs n a d) (hd : bs ∣ a) (he : e = min (a + bs) n) (hs : SymTo lt a e d d') : Blk lt bs n (a + bs) d' := by
  intro c hc h1 h2
  rcases Nat.lt_or_ge c a with hca | hca
  · have hb : c + bs ≤ a := by
      obtain ⟨x, rfl⟩ := hc
      obtain ⟨y, rfl⟩ := hd
      have : x < y := Nat.lt_of_mul_lt_mul_left hca
      calc bs * x + bs = bs * (x + 1) := by rw [Nat.mul_add, Nat.mul_one]
        _ ≤ bs * y := Nat.mul_le_mul_left _ this
    exact sorted_at (h c hc hca h2) fun x _ hx => hs.kept.out x (.inl (by omega))
  · have hca' : c = a := by
      obtain ⟨x, rfl⟩ := hc
      obtain ⟨y, rfl⟩ := hd
      have h3 : bs * x < bs * (y + 1) := by rw [Nat.mul_add, Nat.mul_one]; exact h1
      have : x < y + 1 := Nat.lt_of_mul_lt_mul_left h3
      have : bs * x ≤ bs * y := Nat.mul_le_mul_left _ (by omega)
      omega
    subst hca'
    rw [← he]
    exact hs.sorted
theorem Blk.all {bs n upto : Nat} {d : Array α} (h : Blk lt bs n upto d) (hu : n ≤ upto) : Blk lt bs n n d := fun c hc h1 h2 => h c hc (by omega) h2
theorem Blk.rest {bs n : Nat} {d : Array α} (h : Blk lt bs n n d) : Rest lt bs n 0 d := fun c hc _ h2 => h c hc h2 h2
theorem Rest.next {bs n a e : Nat} {d d' : Array α} (h : Rest lt bs n a d) (he : e ≤ a + 2 * bs) (hs : SymTo lt a e d d') : Rest lt bs n (a + 2 * bs) d' := fun c hc h1 h2 =>
  sorted_at (h c hc (by omega) h2) fun x hx _ => hs.kept.out x (.inr (by omega))
theorem Rest.left {bs n a : Nat} {d : Array α} (h : Rest lt bs n a d) (hd : 2 * bs ∣ a) (hb : a + bs ≤ n) (hp : 0 < bs) : SortedIn lt a (a + bs) d := by
  have := h a (Nat.dvd_trans ⟨2, by omega⟩ hd) (Nat.le_refl _) (by omega)
  rwa [show min (a + bs) n = a + bs by omega] at this
theorem Rest.right {bs n a e : Nat} {d : Array α} (h : Rest lt bs n a d) (hd : 2 * bs ∣ a) (hb : a + bs < n) (he : e = min (a + 2 * bs) n) : SortedIn lt (a + bs) e d := by
  have := h (a + bs) (Nat.dvd_add (Nat.dvd_trans ⟨2, by omega⟩ hd) (Nat.dvd_refl _)) (by omega) hb
  rwa [show min (a + bs + bs) n = e by omega] at this
/-- the last block has no other one behind it -/
theorem Blk.last {bs n a : Nat} {d : Array α} (h : Blk lt (2 * bs) n a d) (hr : Rest lt bs n a d) (hd : 2 * bs ∣ a) (hb : n ≤ a + bs) (hp : 0 < bs) : Blk lt (2 * bs) n n d := by
  have h0 : SymTo lt a (min (a + 2 * bs) n) d d := by
    refine ⟨Kept.refl _ _ _ _, ?_⟩
    rcases Nat.lt_or_ge a n with h' | h'
    · have := hr a (Nat.dvd_trans ⟨2, by omega⟩ hd) (Nat.le_refl _) h'
      rwa [show min (a + bs) n = min (a + 2 * bs) n by omega] at this
    · exact fun i j _ _ _ => by omega
  exact (h.next hd rfl h0).all (by omega)

/-! ### the one list -/
def put (lt : α → α → Bool) : List α → α → List α
  | [], e => [e]
  | x :: t, e => if lt e x then e :: x :: t else x :: put lt t e
def isort (lt : α → α → Bool) (l : List α) : List α := l.foldl (put lt) []
def Asc (lt : α → α → Bool) (l : List α) : Prop := l.Pairwise fun x y => lt y x = false
omit [Inhabited α] in
theorem mem_put (lt : α → α → Bool) : ∀ (l : List α) (e x : α), x ∈ put lt l e ↔ x = e ∨ x ∈ l
  | [], e, x => by simp [put]
  | y :: t, e, x => by
    rw [put]
    split
    · simp
    · simp only [List.mem_cons, mem_put lt t e x]
      constructor
      · rintro (h | h | h)
        · exact .inr (.inl h)
        · exact .inl h
        · exact .inr (.inr h)
      · rintro (h | h | h)
        · exact .inr (.inl h)
        · exact .inl h
        · exact .inr (.inr h)
omit [Inhabited α] in
theorem put_asc (hS : SWO lt) : ∀ (l : List α) (e : α), Asc lt l → Asc lt (put lt l e)
  | [], e, _ => by simp [put, Asc]
  | y :: t, e, h => by
    obtain ⟨h1, h2⟩ := List.pairwise_cons.1 h
    rw [put]
    split
    · next hc =>
      refine List.pairwise_cons.2 ⟨fun z hz => ?_, h⟩
      rcases List.mem_cons.1 hz with rfl | hz
      · exact hS.asymmA hc
      · have := lt_of_lt_le hS hc (h1 z hz)
        exact hS.asymmA this
    · next hc =>
      refine List.pairwise_cons.2 ⟨fun z hz => ?_, put_asc hS t e h2⟩
      rcases (mem_put lt t e z).1 hz with rfl | hz
      · simpa using hc
      · exact h1 z hz
omit [Inhabited α] in
theorem put_fil (hS : SWO lt) (c : α) : ∀ (l : List α) (e : α), Asc lt l → (put lt l e).filter (eqv lt c) = l.filter (eqv lt c) ++ [e].filter (eqv lt c)
  | [], e, _ => by simp [put]
  | y :: t, e, h => by
    obtain ⟨h1, h2⟩ := List.pairwise_cons.1 h
    rw [put]
    split
    · next hc =>
      by_cases he : eqv lt c e = true
      · have hn : (y :: t).filter (eqv lt c) = [] := by
          rw [List.filter_eq_nil_iff]
          intro z hz hzc
          have hz' : lt e z = true := by
            rcases List.mem_cons.1 hz with rfl | hz
            · exact hc
            · exact lt_of_lt_le hS hc (h1 z hz)
          simp only [eqv, Bool.and_eq_true, Bool.not_eq_true'] at he hzc
          have := hS.ntrans _ _ _ he.2 hzc.1
          rw [this] at hz'
          cases hz'
        rw [hn, List.filter_cons, if_pos he, hn, List.filter_cons, if_pos he]
        rfl
      · rw [List.filter_cons, if_neg he, List.filter_cons (x := e) (xs := []), if_neg he]
        simp
    · rw [List.filter_cons, List.filter_cons (x := y) (xs := t), put_fil hS c t e h2]
      split <;> simp
omit [Inhabited α] in
theorem isort_spec (hS : SWO lt) : ∀ (l acc : List α), Asc lt acc → Asc lt (l.foldl (put lt) acc) ∧ ∀ c, (l.foldl (put lt) acc).filter (eqv lt c) = acc.filter (eqv lt c) ++ l.filter (eqv lt c)
  | [], acc, h => ⟨h, fun c => by simp⟩
  | x :: t, acc, h => by
    obtain ⟨h1, h2⟩ := isort_spec hS t (put lt acc x) (put_asc hS acc x h)
    refine ⟨h1, fun c => ?_⟩
    rw [List.foldl_cons, h2 c, put_fil hS c acc x h, List.append_assoc, ← List.filter_append]
    rfl
omit [Inhabited α] in
theorem asc_unique (hS : SWO lt) : ∀ (l l' : List α), Asc lt l → Asc lt l' → (∀ c, l.filter (eqv lt c) = l'.filter (eqv lt c)) → l = l'
  | [], [], _, _, _ => rfl
  | [], y :: t', _, _, h => by
    have := h y
    rw [List.filter_cons, if_pos (by simp [eqv, hS.irrefl])] at this
    cases this
  | x :: t, [], _, _, h => by
    have := h x
    rw [List.filter_cons, if_pos (by simp [eqv, hS.irrefl])] at this
    cases this
  | x :: t, y :: t', h1, h2, h => by
    have hx : eqv lt x x = true := by simp [eqv, hS.irrefl]
    have hy : eqv lt y y = true := by simp [eqv, hS.irrefl]
    have mx : x ∈ y :: t' := by
      have : x ∈ (x :: t).filter (eqv lt x) := List.mem_filter.2 ⟨List.mem_cons_self, hx⟩
      rw [h x] at this
      exact (List.mem_filter.1 this).1
    have my : y ∈ x :: t := by
      have : y ∈ (y :: t').filter (eqv lt y) := List.mem_filter.2 ⟨List.mem_cons_self, hy⟩
      rw [← h y] at this
      exact (List.mem_filter.1 this).1
    obtain ⟨a1, a2⟩ := List.pairwise_cons.1 h1
    obtain ⟨b1, b2⟩ := List.pairwise_cons.1 h2
    have e1 : lt y x = false := by
      rcases List.mem_cons.1 my with rfl | my
      · exact hS.irrefl _
      · exact a1 y my
    have e2 : lt x y = false := by
      rcases List.mem_cons.1 mx with rfl | mx
      · exact hS.irrefl _
      · exact b1 x mx
    have exy : eqv lt x y = true := by simp [eqv, e1, e2]
    have hh := h x
    rw [List.filter_cons, if_pos hx, List.filter_cons, if_pos exy] at hh
    obtain ⟨rfl, _⟩ := List.cons.inj hh
    refine congrArg (x :: ·) (asc_unique hS t t' a2 b2 fun c => ?_)
    have := h c
    rw [List.filter_cons, List.filter_cons] at this
    split at this
    · exact (List.cons.inj this).2
    · exact this
theorem isort_unique (hS : SWO lt) {d d' : Array α} (h : SymTo lt 0 d.size d d') : d'.toList = isort lt d.toList := by
  obtain ⟨h1, h2⟩ := isort_spec hS d.toList [] (by simp [Asc])
  refine asc_unique hS _ _ ?_ h1 fun c => ?_
  · unfold Asc
    rw [List.pairwise_iff_getElem]
    intro i j hi hj hij
    have := h.sorted i j (Nat.zero_le _) hij (by rw [← h.kept.size]; simpa using hj)
    have hi' : i < d'.size := by simpa using hi
    have hj' : j < d'.size := by simpa using hj
    simpa [hi', hj'] using this
  · have := h.kept.fil c
    rw [seg_all] at this
    rw [← h.kept.size, seg_all] at this
    rw [this]
    show _ = (d.toList.foldl (put lt) []).filter (eqv lt c)
    rw [h2 c]
    rfl
end StM
end Go.Proofs.YthhpoihfaggafaaDoor.Or
namespace Go.Proofs.YthhpoihfaggafaaDoor.Or
open Go.Sort Go.Proofs

/-- a key: its time, origin, seq -/
abbrev Ky := Int × Int × Int
/-- an event: its key, to, kind, datum -/
abbrev Ev := Ky × Int × Int × Int
def kLt (a b : Ky) : Bool := if a.1 = b.1 then (if a.2.1 = b.2.1 then decide (a.2.2 < b.2.2) else decide (a.2.1 < b.2.1)) else decide (a.1 < b.1)
def kCmp (a b : Ky) : Int := if a = b then 0 else if kLt a b then -1 else 1
def evLt (x y : Ev) : Bool := kLt x.1 y.1
def evCmp (x y : Ev) : Int := kCmp x.1 y.1
theorem kLt_iff (a b : Ky) : kLt a b = true ↔ a.1 < b.1 ∨ (a.1 = b.1 ∧ (a.2.1 < b.2.1 ∨ (a.2.1 = b.2.1 ∧ a.2.2 < b.2.2))) := by
  unfold kLt
  split
  · split
    · simp only [decide_eq_true_eq]; omega
    · simp only [decide_eq_true_eq]; omega
  · simp only [decide_eq_true_eq]; omega
theorem kLt_false (a b : Ky) : kLt a b = false ↔ ¬ (a.1 < b.1 ∨ (a.1 = b.1 ∧ (a.2.1 < b.2.1 ∨ (a.2.1 = b.2.1 ∧ a.2.2 < b.2.2)))) := by
  rw [← kLt_iff]
  simp
theorem kLt_swo : SWO kLt where
  irrefl x := by rw [kLt_false]; omega
  trans x y z h1 h2 := by rw [kLt_iff] at *; omega
  ntrans x y z h1 h2 := by rw [kLt_false] at *; omega
theorem ky_eq {a b : Ky} (h1 : kLt a b = false) (h2 : kLt b a = false) : a = b := by
  rw [kLt_false] at h1 h2
  obtain ⟨a1, a2, a3⟩ := a
  obtain ⟨b1, b2, b3⟩ := b
  simp only at h1 h2
  simp only [Prod.mk.injEq]
  omega
theorem evLt_swo : SWO evLt := ⟨fun x => kLt_swo.irrefl x.1, fun x y z => kLt_swo.trans x.1 y.1 z.1, fun x y z => kLt_swo.ntrans x.1 y.1 z.1⟩
theorem kCmp_neg (a b : Ky) : decide (kCmp a b < 0) = kLt a b := by
  unfold kCmp
  split
  · next h =>
    subst h
    rw [kLt_swo.irrefl]
    rfl
  · split
    · next h => rw [h]; rfl
    · next h => simp at h; rw [h]; rfl
theorem ltOf_evCmp : ltOf evCmp = evLt := by
  funext x y
  exact kCmp_neg x.1 y.1
/-- the document's comparison -/
theorem kCmp_eq (a b : Ky) : kCmp a b = if kLt b a then 1 else if kLt a b then -1 else 0 := by
  unfold kCmp
  by_cases h : a = b
  · subst h
    rw [kLt_swo.irrefl]
    simp
  · rw [if_neg h]
    cases h1 : kLt a b with
    | true => rw [kLt_swo.asymmA h1]; rfl
    | false =>
      cases h2 : kLt b a with
      | true => rfl
      | false => exact absurd (ky_eq h1 h2) h
theorem kCmp_symm (a b : Ky) : kCmp b a = -kCmp a b := by
  rw [kCmp_eq a b, kCmp_eq b a]
  cases h1 : kLt a b with
  | true => rw [kLt_swo.asymmA h1]; rfl
  | false =>
    cases h2 : kLt b a with
    | true => rfl
    | false => rfl
theorem kCmp_zero (a b : Ky) : kCmp a b = 0 ↔ a = b := by
  unfold kCmp
  by_cases h : a = b
  · simp [h]
  · rw [if_neg h]
    split <;> simp [h]
def evPut (l : List Ev) (e : Ev) : List Ev := StM.put evLt l e
def evSort (l : List Ev) : List Ev := StM.isort evLt l
/-- keys that rise -/
def rises : List Ky → Bool
  | [] => true
  | [_] => true
  | a :: b :: t => kLt a b && rises (b :: t)
end Go.Proofs.YthhpoihfaggafaaDoor.Or
namespace Go.Proofs.YthhpoihfaggafaaDoor.Or
open Go.RowKit Go.Sort Go.Proofs

def encK (k : Ky) : List Value := [.int .i64 k.1, .int .i64 k.2.1, .int .i64 k.2.2]
def encE (x : Ev) : List Value := [.int .i64 x.1.1, .int .i64 x.1.2.1, .int .i64 x.1.2.2, .int .i64 x.2.1, .int .i64 x.2.2.1, .int .i64 x.2.2.2]
/-- a bool is told; what lies stays, blocks are laid behind it -/
def GrewB (t : Bool) (w : World) (e : Ending) (w' : World) : Prop := e = .returned (.bool t) ∧ ∃ os, w' = grow w os
def GrewI (n : Int) (w : World) (e : Ending) (w' : World) : Prop := e = .returned (.int .i64 n) ∧ ∃ os, w' = grow w os

theorem grew2 (w : World) (o p : Obj) : ∃ os, (w.alloc o).alloc p = grow w os := ⟨_, by rw [alloc_eq_grow, alloc_eq_grow, grow_grow]⟩
theorem grew_trans {w w1 w2 : World} (h : ∃ os, w1 = grow w os) (h' : ∃ os, w2 = grow w1 os) : ∃ os, w2 = grow w os := by
  obtain ⟨o1, rfl⟩ := h
  obtain ⟨o2, rfl⟩ := h'
  exact ⟨_, grow_grow _ _ _⟩

theorem keyEq (a b c x y z : Int) (w : World) : (binOp .eql 43 (.agg #[.int .i64 a, .int .i64 b, .int .i64 c]) (.agg #[.int .i64 x, .int .i64 y, .int .i64 z])).run Tryd.prog w = .ok (.bool (decide (((a, b, c) : Ky) = (x, y, z)))) w := by
  have u3 := Tryd.underlying3
  have u2 := Tryd.underlying2
  have a3 := Tryd.isAgg3
  have a2 := Tryd.isAgg2
  have z3 := Tryd.sizeOf3
  have z2 := Tryd.sizeOf2
  have hS : Tryd.prog.underlying 43 = some (.struct (Tryd.prog.fieldsOf 43)) := by kernel_rfl
  have hp : Tryd.prog.stoodInHeld 43 = false := by kernel_rfl
  rw [run_eql_struct, show (10000 : Nat) = 9999 + 1 from rfl, run_equalIn_agg w 9999 43 _ _ hS hp]
  simp only [Program.fieldsOf, Tryd.underlying43]
  go_simp
  by_cases h1 : a = x <;> by_cases h2 : b = y <;> by_cases h3 : c = z <;> simp [h1, h2, h3]
theorem keyGuard : Tryd.prog.eqGuardType Tryd.prog.depth 43 = false := by kernel_rfl

set_option maxHeartbeats 1000000 in
theorem oless_any (a b c x y z : Int) (w : World) : Calls Tryd.prog 127 #[.agg #[.int .i64 a, .int .i64 b, .int .i64 c], .agg #[.int .i64 x, .int .i64 y, .int .i64 z]] w (GrewB (kLt (a, b, c) (x, y, z)) w) := by
  obtain ⟨t, ht⟩ : ∃ t, t = kLt (a, b, c) (x, y, z) := ⟨_, rfl⟩
  rw [← ht]
  have HT := Lib.hid ht
  clear ht
  by_cases h1 : a = x
  · subst h1
    by_cases h2 : b = y
    · subst h2
      go_enter Tryd.func127, Tryd.ntmps127
      go_wp2
      go_ret
      exact ⟨by rw [HT.out]; simp [kLt], grew2 _ _ _⟩
    · have hd : (b == y) = false := by simpa using h2
      have H2 := Lib.hid h2
      clear h2
      go_enter Tryd.func127, Tryd.ntmps127
      go_wp2
      go_ret
      exact ⟨by rw [HT.out]; simp [kLt, H2.out], grew2 _ _ _⟩
  · have hd : (a == x) = false := by simpa using h1
    have H1 := Lib.hid h1
    clear h1
    go_enter Tryd.func127, Tryd.ntmps127
    go_wp2
    go_ret
    exact ⟨by rw [HT.out]; simp [kLt, H1.out], grew2 _ _ _⟩
set_option maxHeartbeats 1000000 in
theorem compare_any (a b c x y z : Int) (w : World) : Calls Tryd.prog 96 #[.agg #[.int .i64 a, .int .i64 b, .int .i64 c], .agg #[.int .i64 x, .int .i64 y, .int .i64 z]] w (GrewI (kCmp (a, b, c) (x, y, z)) w) := by
  obtain ⟨t, ht⟩ : ∃ t, t = kCmp (a, b, c) (x, y, z) := ⟨_, rfl⟩
  rw [← ht]
  have HT := Lib.hid ht
  clear ht
  have he := keyEq a b c x y z
  have hgd := fun (op : BinOp) (x y : Operand) (xs ys : Array Value) (w : World) => run_eqGuard_agg (P := Tryd.prog) w op 43 x y xs ys keyGuard
  by_cases h1 : ((a, b, c) : Ky) = (x, y, z)
  · have H1 := Lib.hid h1
    have he' : ∀ w, (binOp .eql 43 (.agg #[.int .i64 a, .int .i64 b, .int .i64 c]) (.agg #[.int .i64 x, .int .i64 y, .int .i64 z])).run Tryd.prog w = .ok (.bool true) w := fun w => by rw [he, decide_eq_true H1.out]
    clear h1 he
    go_enter Tryd.func96, Tryd.ntmps96
    go_wp2
    go_ret
    exact ⟨by rw [HT.out]; unfold kCmp; rw [if_pos H1.out]; rfl, grew2 _ _ _⟩
  · have H1 := Lib.hid h1
    have he' : ∀ w, (binOp .eql 43 (.agg #[.int .i64 a, .int .i64 b, .int .i64 c]) (.agg #[.int .i64 x, .int .i64 y, .int .i64 z])).run Tryd.prog w = .ok (.bool false) w := fun w => by rw [he, decide_eq_false H1.out]
    clear h1 he
    rcases hl : kLt (a, b, c) (x, y, z) with _ | _
    all_goals
      have HL := Lib.hid hl
      clear hl
      go_enter Tryd.func96, Tryd.ntmps96
      go_wp2_with (go_at_call 127; refine (oless_any _ _ _ _ _ _ _).mono ?_; rintro e w1 ⟨rfl, h⟩; rw [HL.out]; have HG := Lib.hid h; clear h)
      go_ret
      exact ⟨by rw [HT.out]; unfold kCmp; rw [if_neg H1.out, HL.out]; rfl, grew_trans (grew2 _ _ _) HG.out⟩

set_option maxHeartbeats 1000000 in
theorem byKey_any (x y : Ev) (w : World) : Calls Tryd.prog 69 #[.agg (encE x).toArray, .agg (encE y).toArray] w (GrewI (evCmp x y) w) := by
  obtain ⟨⟨a, b, c⟩, d, e, f⟩ := x
  obtain ⟨⟨a', b', c'⟩, d', e', f'⟩ := y
  show Calls Tryd.prog 69 #[.agg #[.int .i64 a, .int .i64 b, .int .i64 c, .int .i64 d, .int .i64 e, .int .i64 f], .agg #[.int .i64 a', .int .i64 b', .int .i64 c', .int .i64 d', .int .i64 e', .int .i64 f']] w _
  obtain ⟨t, ht⟩ : ∃ t, t = evCmp ((a, b, c), d, e, f) ((a', b', c'), d', e', f') := ⟨_, rfl⟩
  rw [← ht]
  have HT := Lib.hid (show t = kCmp (a, b, c) (a', b', c') from ht)
  clear ht
  go_enter Tryd.func69, Tryd.ntmps69
  go_wp2_with (go_at_call 96; refine (compare_any _ _ _ _ _ _ _).mono ?_; rintro e w1 ⟨rfl, h⟩; rw [← HT.out]; have HG := Lib.hid h; clear h)
  go_ret
  exact ⟨rfl, grew_trans (grew2 _ _ _) HG.out⟩
end Go.Proofs.YthhpoihfaggafaaDoor.Or
namespace Go.Proofs.YthhpoihfaggafaaDoor.Or
open Go Go.Shelf Go.RowKit Go.Lib Go.Sort Go.Proofs StM

/-- what a program bears: the sort's bodies, and their types; k: an element's cells -/
structure SP (P : Program) (k : Nat) : Prop where
  mixed : P.follows .mixedOrders = true
  fSwap : P.funcs[159]? = some Tryd.f159
  fRot : P.funcs[153]? = some Tryd.f153
  fSym : P.funcs[147]? = some Tryd.f147
  fStab : P.funcs[133]? = some Tryd.f133
  t0 : P.underlying 0 = some (TypeDesc.tuple #[])
  a0 : ∀ w, (isAgg 0).run P w = .ok false w
  z0 : ∀ w, (Go.sizeOf 0).run P w = .ok 1 w
  v0 : ∀ w, (zeroValue 0).run P w = .ok (Value.tuple #[]) w
  t3 : P.underlying 3 = some (TypeDesc.int IntKind.i64)
  a3 : ∀ w, (isAgg 3).run P w = .ok false w
  z3 : ∀ w, (Go.sizeOf 3).run P w = .ok 1 w
  v3 : ∀ w, (zeroValue 3).run P w = .ok (Value.int IntKind.i64 0) w
  t4 : P.underlying 4 = some (TypeDesc.bool)
  a4 : ∀ w, (isAgg 4).run P w = .ok false w
  z4 : ∀ w, (Go.sizeOf 4).run P w = .ok 1 w
  v4 : ∀ w, (zeroValue 4).run P w = .ok (Value.bool false) w
  t22 : P.underlying 25 = some (TypeDesc.slice 45)
  a22 : ∀ w, (isAgg 25).run P w = .ok false w
  z22 : ∀ w, (Go.sizeOf 25).run P w = .ok 1 w
  v22 : ∀ w, (zeroValue 25).run P w = .ok (Value.slice none 0 0) w
  t25 : P.underlying 138 = some (TypeDesc.func #[45, 45] #[3] false)
  a25 : ∀ w, (isAgg 138).run P w = .ok false w
  z25 : ∀ w, (Go.sizeOf 138).run P w = .ok 1 w
  v25 : ∀ w, (zeroValue 138).run P w = .ok (Value.nilFunc) w
  t48 : P.underlying 180 = some (TypeDesc.int IntKind.u64)
  a48 : ∀ w, (isAgg 180).run P w = .ok false w
  z48 : ∀ w, (Go.sizeOf 180).run P w = .ok 1 w
  v48 : ∀ w, (zeroValue 180).run P w = .ok (Value.int IntKind.u64 0) w
  aE : ∀ w, (isAgg 45).run P w = .ok true w
  zE : ∀ w, (Go.sizeOf 45).run P w = .ok k w

/-- a world of the sort's, in which the row holds what is said -/
def Srt {α : Type} [Inhabited α] (enc : α → List Value) (k : Nat) (w0 : World) (blk off : Nat) (p : Array α → Prop) (e : Ending) (w' : World) : Prop := e = .returned (.tuple #[]) ∧ ∃ d', SWK enc k w0 blk off d' w' ∧ p d'

section
variable {P : Program} {α : Type} [Inhabited α]

set_option maxHeartbeats 4000000 in
set_option maxRecDepth 1000000 in
theorem swapRange_w {k : Nat} (L : SP P k) (enc : α → List Value) (fv : Value) (blk off cap a b n : Nat) (d0 d : Array α) (w0 w : World)
    (R : RowK enc k w0 blk off d0) (hs : d0.size = d.size) (S : SWK enc k w0 blk off d w) (hab : a + n ≤ b) (hb : b + n ≤ d.size) (hsz : d.size < 4611686018427387904) :
    Calls P 159 #[.slice (some ⟨blk, off, none⟩) d.size cap, .int .i64 a, .int .i64 b, .int .i64 n, fv] w (Srt enc k w0 blk off (SwapR d a b n)) := by
  have mixed := L.mixed; have t0 := L.t0; have a0 := L.a0; have z0 := L.z0; have v0 := L.v0; have t3 := L.t3; have a3 := L.a3; have z3 := L.z3; have v3 := L.v3; have t4 := L.t4; have a4 := L.a4; have z4 := L.z4; have v4 := L.v4; have t22 := L.t22; have a22 := L.a22; have z22 := L.z22; have v22 := L.v22; have t25 := L.t25; have a25 := L.a25; have z25 := L.z25; have v25 := L.v25; have aE := L.aE; have zE := L.zE
  have S0 : Aside (SWK enc k w0 blk off d w) := S
  have FG := L.fSwap
  clear S
  go_enter FG, Tryd.ntmps159
  go_wp2
  go_loopg [10] n (fun kx s10 wr => ∃ (i : Nat) (dk : Array α), s10 = .int .i64 i ∧ i ≤ n ∧ n - i ≤ kx ∧ Aside (dk.size = d.size ∧ SWK enc k w0 blk off dk wr ∧ SwapR d a b i dk))
  case atStart => exact ⟨0, d, rfl, Nat.zero_le _, Nat.le_refl _, ⟨rfl, S0.out, SwapR.start _ _ _⟩⟩
  case round =>
    clear S0
    obtain ⟨i, dk, rfl, hin, hkx, A⟩ := hrel
    by_cases hlt : i < n
    · go_wp2_with fail
      have hds : dk.size = d.size := A.out.1
      have S1 : Aside (SWK enc k w0 blk off dk wr) := A.out.2.1
      have SR : Aside (SwapR d a b i dk) := A.out.2.2
      have ea44 : ((a : Int) + (i : Int)).toNat = a + i := by omega
      have pa44 : (0 : Int) ≤ (a : Int) + (i : Int) := by omega
      have ba44 : (a : Int) + (i : Int) < (d.size : Int) := by omega
      have ra44 : IntKind.i64.wrap ((a : Int) + (i : Int)) = (a : Int) + (i : Int) := by rw [IntKind.wrap_i64]; omega
      have ec44 : ((b : Int) + (i : Int)).toNat = b + i := by omega
      have pc44 : (0 : Int) ≤ (b : Int) + (i : Int) := by omega
      have bc44 : (b : Int) + (i : Int) < (d.size : Int) := by omega
      have rc44 : IntKind.i64.wrap ((b : Int) + (i : Int)) = (b : Int) + (i : Int) := by rw [IntKind.wrap_i64]; omega
      have S2 : Aside (SWK enc k w0 blk off (swp dk (a + i) (b + i)) ((wr.drew.setCells blk (off + (a + i) * k) (enc dk[b + i]!)).setCells blk (off + (b + i) * k) (enc dk[a + i]!))) := S1.out.swapped R (a + i) (b + i) (by omega) (by omega)
      have l44a := S1.out.ld1 R (by omega) P (a + i) (by omega)
      have l44b := S1.out.ld1 R (by omega) P (b + i) (by omega)
      have s44a := S1.out.st1 R (by omega) P (a + i) (by omega) dk[b + i]!
      have s44b := S1.out.st2 R (by omega) P (a + i) (b + i) (by omega) (by omega) dk[b + i]! dk[a + i]!
      have n44a : (enc dk[a + i]!).length = k := R.hk _
      have n44b : (enc dk[b + i]!).length = k := R.hk _
      generalize enc dk[a + i]! = cI44 at S2 l44a s44b n44a
      generalize enc dk[b + i]! = cJ44 at S2 l44b s44a s44b n44b
      have DS := Lib.hid hds
      clear S1 hds A
      go_wp2_with fail
      go_big_region_o
      clear l44a l44b s44a s44b
      generalize (wr.drew.setCells blk (off + (a + i) * k) cJ44).setCells blk (off + (b + i) * k) cI44 = w2 at S2 ⊢
      go_wp2
      go_roundg (n - (i + 1))
      case measure => omega
      case rel =>
        exact ⟨i + 1, swp dk (a + i) (b + i), by go_num, by omega, Nat.le_refl _, ⟨by rw [size_swp]; exact DS.out, S2.out, SR.out.step hlt hab hb⟩⟩
    · go_wp2
      go_end0
      obtain rfl : i = n := by omega
      exact ⟨rfl, dk, A.out.2.1, A.out.2.2⟩
theorem swapRange_z {k : Nat} (L : SP P k) (enc : α → List Value) (fv : Value) (blk off cap a b n sz : Nat) (d0 d : Array α) (w0 w : World)
    (R : RowK enc k w0 blk off d0) (hs : d0.size = sz) (hz : d.size = sz) (S : SWK enc k w0 blk off d w) (hab : a + n ≤ b) (hb : b + n ≤ sz) (hsz : sz < 4611686018427387904) :
    Calls P 159 #[.slice (some ⟨blk, off, none⟩) sz cap, .int .i64 a, .int .i64 b, .int .i64 n, fv] w (Srt enc k w0 blk off (SwapR d a b n)) := by
  subst hz
  exact swapRange_w L enc fv blk off cap a b n d0 d w0 w R hs S hab hb hsz
end
end Go.Proofs.YthhpoihfaggafaaDoor.Or
namespace Go.Proofs.YthhpoihfaggafaaDoor.Or
open Go Go.Shelf Go.RowKit Go.Lib Go.Sort Go.Proofs StM

section
variable {P : Program} {α : Type} [Inhabited α]

set_option maxHeartbeats 4000000 in
set_option maxRecDepth 1000000 in
theorem rotate_w {k : Nat} (L : SP P k) (enc : α → List Value) (fv : Value) (blk off cap a m b : Nat) (d0 d : Array α) (w0 w : World)
    (R : RowK enc k w0 blk off d0) (hs : d0.size = d.size) (S : SWK enc k w0 blk off d w) (ham : a < m) (hmb : m < b) (hb : b ≤ d.size) (hsz : d.size < 4611686018427387904) :
    Calls P 153 #[.slice (some ⟨blk, off, none⟩) d.size cap, .int .i64 a, .int .i64 m, .int .i64 b, fv] w (Srt enc k w0 blk off (Rot a m b d)) := by
  have mixed := L.mixed; have t0 := L.t0; have a0 := L.a0; have z0 := L.z0; have v0 := L.v0; have t3 := L.t3; have a3 := L.a3; have z3 := L.z3; have v3 := L.v3; have t4 := L.t4; have a4 := L.a4; have z4 := L.z4; have v4 := L.v4; have t22 := L.t22; have a22 := L.a22; have z22 := L.z22; have v22 := L.v22; have t25 := L.t25; have a25 := L.a25; have z25 := L.z25; have v25 := L.v25; have aE := L.aE; have zE := L.zE
  have S0 : Aside (SWK enc k w0 blk off d w) := S
  have FG := L.fRot
  have eS : ∀ args w, (callFunc 159 args).run P w = .ok (.enter 159 args) w := enters_of L.fSwap (by kernel_rfl) rfl
  have HS := Lib.hid hs
  clear S hs
  go_enter FG, Tryd.ntmps153
  go_wp2
  go_loopg [10, 11] (b - a) (fun kx s10 s11 wr => ∃ (i j : Nat) (dk : Array α), s10 = .int .i64 i ∧ s11 = .int .i64 j ∧ 0 < i ∧ 0 < j ∧ i ≤ m - a ∧ j ≤ b - m ∧ i + j ≤ kx ∧ Aside (dk.size = d.size ∧ SWK enc k w0 blk off dk wr ∧ RotI d a m b i j dk))
  case atStart => exact ⟨m - a, b - m, d, by congr 1; omega, by congr 1; omega, by omega, by omega, Nat.le_refl _, Nat.le_refl _, by omega, ⟨rfl, S0.out, RotI.start _ (by omega) (by omega)⟩⟩
  case round =>
    clear S0
    obtain ⟨i, j, dk, rfl, rfl, hi, hj, him, hjm, hkx, A⟩ := hrel
    have e1 : (m : Int) - (i : Int) = ((m - i : Nat) : Int) := by omega
    have E1 := Lib.hid e1
    have DS := Lib.hid A.out.1
    clear e1
    by_cases hij : i = j
    · subst hij
      go_wp2_with (go_at_fn 159; rw [E1.out]; refine (swapRange_z L enc fv blk off cap (m - i) m i d.size d0 dk w0 _ R HS.out DS.out A.out.2.1 (by omega) (by omega) (by omega)).mono ?_; rintro e w1 ⟨rfl, d', S1, hR⟩; have H1 := Lib.hid (And.intro S1 hR); clear S1 hR)
      go_end0
      exact ⟨rfl, d', H1.out.1, A.out.2.2.fin (by omega) H1.out.2⟩
    · have hd : (i != j) = true := by simpa using hij
      have HIJ := Lib.hid hij
      clear hij
      by_cases hlt : j < i
      · go_wp2_with (go_at_fn 159; rw [E1.out]; refine (swapRange_z L enc fv blk off cap (m - i) m j d.size d0 dk w0 _ R HS.out DS.out A.out.2.1 (by omega) (by omega) (by omega)).mono ?_; rintro e w1 ⟨rfl, d', S1, hR⟩; have H1 := Lib.hid (And.intro S1 hR); clear S1 hR)
        go_roundg (i - j + j)
        case measure => omega
        case rel => exact ⟨i - j, j, d', by congr 1; omega, rfl, by omega, hj, by omega, hjm, Nat.le_refl _, ⟨H1.out.2.1.trans DS.out, H1.out.1, A.out.2.2.more (by omega) hlt H1.out.2⟩⟩
      · have hlt' : i < j := by have := HIJ.out; omega
        have e2 : (m : Int) + (j : Int) - (i : Int) = ((m + j - i : Nat) : Int) := by omega
        have E2 := Lib.hid e2
        clear e2
        go_wp2_with (go_at_fn 159; rw [E1.out, E2.out]; refine (swapRange_z L enc fv blk off cap (m - i) (m + j - i) i d.size d0 dk w0 _ R HS.out DS.out A.out.2.1 (by omega) (by omega) (by omega)).mono ?_; rintro e w1 ⟨rfl, d', S1, hR⟩; have H1 := Lib.hid (And.intro S1 hR); clear S1 hR)
        go_roundg (i + (j - i))
        case measure => omega
        case rel => exact ⟨i, j - i, d', rfl, by congr 1; omega, hi, by omega, him, by omega, Nat.le_refl _, ⟨H1.out.2.1.trans DS.out, H1.out.1, A.out.2.2.less (by omega) hlt' H1.out.2⟩⟩
theorem rotate_z {k : Nat} (L : SP P k) (enc : α → List Value) (fv : Value) (blk off cap a m b sz : Nat) (d0 d : Array α) (w0 w : World)
    (R : RowK enc k w0 blk off d0) (hs : d0.size = sz) (hz : d.size = sz) (S : SWK enc k w0 blk off d w) (ham : a < m) (hmb : m < b) (hb : b ≤ sz) (hsz : sz < 4611686018427387904) :
    Calls P 153 #[.slice (some ⟨blk, off, none⟩) sz cap, .int .i64 a, .int .i64 m, .int .i64 b, fv] w (Srt enc k w0 blk off (Rot a m b d)) := by
  subst hz
  exact rotate_w L enc fv blk off cap a m b d0 d w0 w R hs S ham hmb hb hsz
end
end Go.Proofs.YthhpoihfaggafaaDoor.Or
namespace Go.Proofs.YthhpoihfaggafaaDoor.Or
open Go Go.Shelf Go.RowKit Go.Lib Go.Sort Go.Proofs StM

section
variable {P : Program} {α : Type} [Inhabited α]

set_option maxHeartbeats 8000000 in
set_option maxRecDepth 1000000 in
theorem symMerge_l {k : Nat} (L : SP P k) (enc : α → List Value) (cf : α → α → Int) (g : Nat) (cb : Array Value) (hO : SWO (ltOf cf)) (blk off cap sz : Nat) (d0 : Array α) (w0 : World)
    (eg : ∀ args w, (callFunc g args).run P w = .ok (.enter g args) w) (hcmp : CmpLays P g cb enc k cf blk off sz w0) (R : RowK enc k w0 blk off d0) (hs : d0.size = sz) (hsz : sz < 2305843009213693952)
    (a m b : Nat) (d : Array α) (w : World) (hz : d.size = sz) (S : SWK enc k w0 blk off d w) (ham : a < m) (hmb : m < b) (hb : b ≤ sz) (hl : SortedIn (ltOf cf) a m d) (hr : SortedIn (ltOf cf) m b d) (hm1 : m = a + 1) :
    Calls P 147 #[.slice (some ⟨blk, off, none⟩) sz cap, .int .i64 a, .int .i64 m, .int .i64 b, .func (.func g) #[] cb] w (Srt enc k w0 blk off (SymTo (ltOf cf) a b d)) := by
  have mixed := L.mixed; have t0 := L.t0; have a0 := L.a0; have z0 := L.z0; have v0 := L.v0; have t3 := L.t3; have a3 := L.a3; have z3 := L.z3; have v3 := L.v3; have t4 := L.t4; have a4 := L.a4; have z4 := L.z4; have v4 := L.v4; have t22 := L.t22; have a22 := L.a22; have z22 := L.z22; have v22 := L.v22; have t25 := L.t25; have a25 := L.a25; have z25 := L.z25; have v25 := L.v25; have aE := L.aE; have zE := L.zE
  have t48 := L.t48; have a48 := L.a48; have z48 := L.z48; have v48 := L.v48
  have FG := L.fSym
  have HC : Aside _ := hcmp
  have HS := Lib.hid hs
  have HO : Aside _ := hO
  have HZ := Lib.hid hz
  have S0 : Aside (SWK enc k w0 blk off d w) := S
  have SL : Aside (SortedIn (ltOf cf) a m d) := hl
  have SR : Aside (SortedIn (ltOf cf) m b d) := hr
  clear hcmp hs hO hz S hl hr
  have hd : ((m : Int) - (a : Int) == 1) = true := by simp; omega
  have HM := Lib.hid hm1
  clear hm1
  go_enter FG, Tryd.ntmps147
  go_wp2
  go_loopg [10, 11] (b - m) (fun kx s10 s11 wr => ∃ (i j : Nat), s10 = .int .i64 i ∧ s11 = .int .i64 j ∧ m ≤ i ∧ i ≤ j ∧ j ≤ b ∧ j - i ≤ kx ∧ Aside (SWK enc k w0 blk off d wr ∧ (m < i → ltOf cf d[i - 1]! d[a]! = true) ∧ (j < b → ltOf cf d[j]! d[a]! = false)))
  case atStart => exact ⟨m, b, rfl, rfl, Nat.le_refl _, by omega, Nat.le_refl _, Nat.le_refl _, ⟨S0.out, fun h => absurd h (Nat.lt_irrefl _), fun h => absurd h (Nat.lt_irrefl _)⟩⟩
  case round =>
    clear S0
    obtain ⟨i, j, rfl, rfl, hmi, hij, hjb, hkx, A⟩ := hrel
    have S1 : Aside (SWK enc k w0 blk off d wr) := A.out.1
    by_cases hlt : i < j
    · obtain ⟨h, hh⟩ : ∃ h, h = (i + j) / 2 := ⟨_, rfl⟩
      have hi1 : i ≤ h := by omega
      have hi2 : h < j := by omega
      have eh : ((i : Int) + (j : Int)) / 2 = (h : Int) := by omega
      clear hh
      cases hL : ltOf cf d[h]! d[a]! with
      | true =>
        have e1a : ((h : Int)).toNat = h := by omega
        have p1a : (0 : Int) ≤ (h : Int) := by omega
        have b1a : (h : Int) < (sz : Int) := by omega
        have r1a : IntKind.i64.wrap ((h : Int)) = (h : Int) := by rw [IntKind.wrap_i64]; omega
        have e1c : ((a : Int)).toNat = a := by omega
        have p1c : (0 : Int) ≤ (a : Int) := by omega
        have b1c : (a : Int) < (sz : Int) := by omega
        have r1c : IntKind.i64.wrap ((a : Int)) = (a : Int) := by rw [IntKind.wrap_i64]; omega
        obtain ⟨x1, hx1⟩ : ∃ x, x = d[h]! := ⟨_, rfl⟩
        obtain ⟨y1, hy1⟩ : ∃ x, x = d[a]! := ⟨_, rfl⟩
        have l1a := S1.out.ld R (HZ.out.trans HS.out.symm) P (h) (by rw [HZ.out]; omega)
        have l1b := S1.out.ld R (HZ.out.trans HS.out.symm) P (a) (by rw [HZ.out]; omega)
        rw [← hx1] at l1a
        rw [← hy1] at l1b
        have hc1 := S1.out.cmp HC.out HZ.out x1 y1
        have hv1 : cf x1 y1 < 0 := by rw [hx1, hy1]; exact of_decide_eq_true hL
        have hd1 : decide (cf x1 y1 < 0) = true := decide_eq_true hv1
        have HL := Lib.hid hL
        clear hx1 hy1 hL
        go_wp2_with fail
        go_quiet_grown (first | (go_at_fn g; refine Calls.grown_of (hc1 _ _)))
        have S2 : Aside (SWK enc k w0 blk off d (grow (wr.drewN nq) osq)) := S1.out.grown nq osq
        clear l1a l1b hc1 S1
        generalize grow (wr.drewN nq) osq = w2 at S2 ⊢
        clear nq osq
        go_wp2
        go_roundg (j - (h + 1))
        case measure => omega
        case rel => exact ⟨h + 1, j, by go_num, rfl, by omega, by omega, hjb, Nat.le_refl _, ⟨S2.out, fun _ => by rw [Nat.add_sub_cancel]; exact HL.out, A.out.2.2⟩⟩
      | false =>
        have e1a : ((h : Int)).toNat = h := by omega
        have p1a : (0 : Int) ≤ (h : Int) := by omega
        have b1a : (h : Int) < (sz : Int) := by omega
        have r1a : IntKind.i64.wrap ((h : Int)) = (h : Int) := by rw [IntKind.wrap_i64]; omega
        have e1c : ((a : Int)).toNat = a := by omega
        have p1c : (0 : Int) ≤ (a : Int) := by omega
        have b1c : (a : Int) < (sz : Int) := by omega
        have r1c : IntKind.i64.wrap ((a : Int)) = (a : Int) := by rw [IntKind.wrap_i64]; omega
        obtain ⟨x1, hx1⟩ : ∃ x, x = d[h]! := ⟨_, rfl⟩
        obtain ⟨y1, hy1⟩ : ∃ x, x = d[a]! := ⟨_, rfl⟩
        have l1a := S1.out.ld R (HZ.out.trans HS.out.symm) P (h) (by rw [HZ.out]; omega)
        have l1b := S1.out.ld R (HZ.out.trans HS.out.symm) P (a) (by rw [HZ.out]; omega)
        rw [← hx1] at l1a
        rw [← hy1] at l1b
        have hc1 := S1.out.cmp HC.out HZ.out x1 y1
        have hv1 : ¬ cf x1 y1 < 0 := by rw [hx1, hy1]; exact of_decide_eq_false hL
        have hd1 : decide (cf x1 y1 < 0) = false := decide_eq_false hv1
        have HL := Lib.hid hL
        clear hx1 hy1 hL
        go_wp2_with fail
        go_quiet_grown (first | (go_at_fn g; refine Calls.grown_of (hc1 _ _)))
        have S2 : Aside (SWK enc k w0 blk off d (grow (wr.drewN nq) osq)) := S1.out.grown nq osq
        clear l1a l1b hc1 S1
        generalize grow (wr.drewN nq) osq = w2 at S2 ⊢
        clear nq osq
        go_wp2
        go_roundg (h - i)
        case measure => omega
        case rel => exact ⟨i, h, rfl, rfl, hmi, hi1, by omega, Nat.le_refl _, ⟨S2.out, A.out.2.1, fun _ => HL.out⟩⟩
    · have hij' : i = j := by omega
      have AI : Aside ((m < i → ltOf cf d[i - 1]! d[a]! = true) ∧ (i < b → ltOf cf d[i]! d[a]! = false)) := ⟨A.out.2.1, by rw [hij']; exact A.out.2.2⟩
      have hib : i ≤ b := by omega
      clear A hij' hkx
      go_wp2
      go_loopg [13] (b - a) (fun kx s13 wr => ∃ (q : Nat) (dk : Array α), s13 = .int .i64 q ∧ a ≤ q ∧ q + 1 ≤ i ∧ b - q ≤ kx ∧ Aside (dk.size = sz ∧ SWK enc k w0 blk off dk wr ∧ Rot a (a + 1) (q + 1) d dk))
      case atStart => exact ⟨a, d, rfl, Nat.le_refl _, by omega, Nat.le_refl _, ⟨HZ.out, S1.out, rot_none _ _ _⟩⟩
      case round =>
        clear S1
        obtain ⟨q, dk, rfl, haq, hqi, hkx, A⟩ := hrel
        have S1 : Aside (SWK enc k w0 blk off dk wr) := A.out.2.1
        have DS := Lib.hid A.out.1
        have AR : Aside (Rot a (a + 1) (q + 1) d dk) := A.out.2.2
        clear A
        by_cases hq : q + 1 < i
        · have hqz : (q : Int) < (i : Int) - 1 := by omega
          have e4a : ((q : Int)).toNat = q := by omega
          have p4a : (0 : Int) ≤ (q : Int) := by omega
          have b4a : (q : Int) < (sz : Int) := by omega
          have r4a : IntKind.i64.wrap ((q : Int)) = (q : Int) := by rw [IntKind.wrap_i64]; omega
          have e4c : ((q : Int) + 1).toNat = q + 1 := by omega
          have p4c : (0 : Int) ≤ (q : Int) + 1 := by omega
          have b4c : (q : Int) + 1 < (sz : Int) := by omega
          have r4c : IntKind.i64.wrap ((q : Int) + 1) = (q : Int) + 1 := by rw [IntKind.wrap_i64]; omega
          have S2 : Aside (SWK enc k w0 blk off (swp dk (q) (q + 1)) ((wr.drew.setCells blk (off + (q) * k) (enc dk[q + 1]!)).setCells blk (off + (q + 1) * k) (enc dk[q]!))) := S1.out.swapped R (q) (q + 1) (by rw [DS.out]; omega) (by rw [DS.out]; omega)
          have l4a := S1.out.ld1 R (DS.out.trans HS.out.symm) P (q) (by rw [DS.out]; omega)
          have l4b := S1.out.ld1 R (DS.out.trans HS.out.symm) P (q + 1) (by rw [DS.out]; omega)
          have s4a := S1.out.st1 R (DS.out.trans HS.out.symm) P (q) (by rw [DS.out]; omega) dk[q + 1]!
          have s4b := S1.out.st2 R (DS.out.trans HS.out.symm) P (q) (q + 1) (by rw [DS.out]; omega) (by rw [DS.out]; omega) dk[q + 1]! dk[q]!
          have n4a : (enc dk[q]!).length = k := R.hk _
          have n4b : (enc dk[q + 1]!).length = k := R.hk _
          generalize enc dk[q]! = cI4 at S2 l4a s4b n4a
          generalize enc dk[q + 1]! = cJ4 at S2 l4b s4a s4b n4b
          clear S1
          go_wp2_with fail
          go_big_region_o
          clear l4a l4b s4a s4b
          generalize (wr.drew.setCells blk (off + (q) * k) cJ4).setCells blk (off + (q + 1) * k) cI4 = w2 at S2 ⊢
          go_wp2
          go_roundg (b - (q + 1))
          case measure => omega
          case rel => exact ⟨q + 1, swp dk q (q + 1), by go_num, by omega, by omega, Nat.le_refl _, ⟨by rw [size_swp]; exact DS.out, S2.out, rot_up AR.out haq (by rw [HZ.out]; omega)⟩⟩
        · have hqz : ¬ (q : Int) < (i : Int) - 1 := by omega
          go_wp2
          go_end0
          have HM' := HM.out
          have hqi' : q + 1 = i := by omega
          refine ⟨rfl, dk, S1.out, ?_⟩
          have hrot := AR.out
          rw [hqi'] at hrot
          subst HM'
          exact sym_left HO.out SR.out hmi hib AI.out.1 AI.out.2 hrot
end
end Go.Proofs.YthhpoihfaggafaaDoor.Or
namespace Go.Proofs.YthhpoihfaggafaaDoor.Or
open Go Go.Shelf Go.RowKit Go.Lib Go.Sort Go.Proofs StM

section
variable {P : Program} {α : Type} [Inhabited α]

set_option maxHeartbeats 8000000 in
set_option maxRecDepth 1000000 in
theorem symMerge_r {k : Nat} (L : SP P k) (enc : α → List Value) (cf : α → α → Int) (g : Nat) (cb : Array Value) (hO : SWO (ltOf cf)) (blk off cap sz : Nat) (d0 : Array α) (w0 : World)
    (eg : ∀ args w, (callFunc g args).run P w = .ok (.enter g args) w) (hcmp : CmpLays P g cb enc k cf blk off sz w0) (R : RowK enc k w0 blk off d0) (hs : d0.size = sz) (hsz : sz < 2305843009213693952)
    (a m b : Nat) (d : Array α) (w : World) (hz : d.size = sz) (S : SWK enc k w0 blk off d w) (ham : a < m) (hmb : m < b) (hb : b ≤ sz) (hl : SortedIn (ltOf cf) a m d) (hr : SortedIn (ltOf cf) m b d) (hm1 : ¬ m = a + 1) (hb1 : b = m + 1) :
    Calls P 147 #[.slice (some ⟨blk, off, none⟩) sz cap, .int .i64 a, .int .i64 m, .int .i64 b, .func (.func g) #[] cb] w (Srt enc k w0 blk off (SymTo (ltOf cf) a b d)) := by
  have mixed := L.mixed; have t0 := L.t0; have a0 := L.a0; have z0 := L.z0; have v0 := L.v0; have t3 := L.t3; have a3 := L.a3; have z3 := L.z3; have v3 := L.v3; have t4 := L.t4; have a4 := L.a4; have z4 := L.z4; have v4 := L.v4; have t22 := L.t22; have a22 := L.a22; have z22 := L.z22; have v22 := L.v22; have t25 := L.t25; have a25 := L.a25; have z25 := L.z25; have v25 := L.v25; have aE := L.aE; have zE := L.zE
  have t48 := L.t48; have a48 := L.a48; have z48 := L.z48; have v48 := L.v48
  have FG := L.fSym
  have HC : Aside _ := hcmp
  have HS := Lib.hid hs
  have HO : Aside _ := hO
  have HZ := Lib.hid hz
  have S0 : Aside (SWK enc k w0 blk off d w) := S
  have SL : Aside (SortedIn (ltOf cf) a m d) := hl
  have SR : Aside (SortedIn (ltOf cf) m b d) := hr
  clear hcmp hs hO hz S hl hr
  have hd : ((m : Int) - (a : Int) == 1) = false := by simp; omega
  have hd2 : ((b : Int) - (m : Int) == 1) = true := by simp; omega
  have HM := Lib.hid hb1
  have hmsz : m < sz := by omega
  clear hm1 hb1
  go_enter FG, Tryd.ntmps147
  go_wp2
  go_loopg [14, 15] (m - a) (fun kx s10 s11 wr => ∃ (i j : Nat), s10 = .int .i64 i ∧ s11 = .int .i64 j ∧ a ≤ i ∧ i ≤ j ∧ j ≤ m ∧ j - i ≤ kx ∧ Aside (SWK enc k w0 blk off d wr ∧ (a < i → ltOf cf d[m]! d[i - 1]! = false) ∧ (j < m → ltOf cf d[m]! d[j]! = true)))
  case atStart => exact ⟨a, m, rfl, rfl, Nat.le_refl _, by omega, Nat.le_refl _, Nat.le_refl _, ⟨S0.out, fun h => absurd h (Nat.lt_irrefl _), fun h => absurd h (Nat.lt_irrefl _)⟩⟩
  case round =>
    clear S0
    obtain ⟨i, j, rfl, rfl, hmi, hij, hjb, hkx, A⟩ := hrel
    have S1 : Aside (SWK enc k w0 blk off d wr) := A.out.1
    by_cases hlt : i < j
    · obtain ⟨h, hh⟩ : ∃ h, h = (i + j) / 2 := ⟨_, rfl⟩
      have hi1 : i ≤ h := by omega
      have hi2 : h < j := by omega
      have eh : ((i : Int) + (j : Int)) / 2 = (h : Int) := by omega
      clear hh
      cases hL : ltOf cf d[m]! d[h]! with
      | true =>
        have e2a : ((m : Int)).toNat = m := by omega
        have p2a : (0 : Int) ≤ (m : Int) := by omega
        have b2a : (m : Int) < (sz : Int) := by omega
        have r2a : IntKind.i64.wrap ((m : Int)) = (m : Int) := by rw [IntKind.wrap_i64]; omega
        have e2c : ((h : Int)).toNat = h := by omega
        have p2c : (0 : Int) ≤ (h : Int) := by omega
        have b2c : (h : Int) < (sz : Int) := by omega
        have r2c : IntKind.i64.wrap ((h : Int)) = (h : Int) := by rw [IntKind.wrap_i64]; omega
        obtain ⟨x2, hx2⟩ : ∃ x, x = d[m]! := ⟨_, rfl⟩
        obtain ⟨y2, hy2⟩ : ∃ x, x = d[h]! := ⟨_, rfl⟩
        have l2a := S1.out.ld R (HZ.out.trans HS.out.symm) P (m) (by rw [HZ.out]; omega)
        have l2b := S1.out.ld R (HZ.out.trans HS.out.symm) P (h) (by rw [HZ.out]; omega)
        rw [← hx2] at l2a
        rw [← hy2] at l2b
        have hc2 := S1.out.cmp HC.out HZ.out x2 y2
        have hv2 : cf x2 y2 < 0 := by rw [hx2, hy2]; exact of_decide_eq_true hL
        have hd2 : decide (cf x2 y2 < 0) = true := decide_eq_true hv2
        have HL := Lib.hid hL
        clear hx2 hy2 hL
        go_wp2_with fail
        go_quiet_grown (first | (go_at_fn g; refine Calls.grown_of (hc2 _ _)))
        have S2 : Aside (SWK enc k w0 blk off d (grow (wr.drewN nq) osq)) := S1.out.grown nq osq
        clear l2a l2b hc2 S1
        generalize grow (wr.drewN nq) osq = w2 at S2 ⊢
        clear nq osq
        go_wp2
        go_roundg (h - i)
        case measure => omega
        case rel => exact ⟨i, h, rfl, rfl, hmi, hi1, by omega, Nat.le_refl _, ⟨S2.out, A.out.2.1, fun _ => HL.out⟩⟩
      | false =>
        have e2a : ((m : Int)).toNat = m := by omega
        have p2a : (0 : Int) ≤ (m : Int) := by omega
        have b2a : (m : Int) < (sz : Int) := by omega
        have r2a : IntKind.i64.wrap ((m : Int)) = (m : Int) := by rw [IntKind.wrap_i64]; omega
        have e2c : ((h : Int)).toNat = h := by omega
        have p2c : (0 : Int) ≤ (h : Int) := by omega
        have b2c : (h : Int) < (sz : Int) := by omega
        have r2c : IntKind.i64.wrap ((h : Int)) = (h : Int) := by rw [IntKind.wrap_i64]; omega
        obtain ⟨x2, hx2⟩ : ∃ x, x = d[m]! := ⟨_, rfl⟩
        obtain ⟨y2, hy2⟩ : ∃ x, x = d[h]! := ⟨_, rfl⟩
        have l2a := S1.out.ld R (HZ.out.trans HS.out.symm) P (m) (by rw [HZ.out]; omega)
        have l2b := S1.out.ld R (HZ.out.trans HS.out.symm) P (h) (by rw [HZ.out]; omega)
        rw [← hx2] at l2a
        rw [← hy2] at l2b
        have hc2 := S1.out.cmp HC.out HZ.out x2 y2
        have hv2 : ¬ cf x2 y2 < 0 := by rw [hx2, hy2]; exact of_decide_eq_false hL
        have hd2 : decide (cf x2 y2 < 0) = false := decide_eq_false hv2
        have HL := Lib.hid hL
        clear hx2 hy2 hL
        go_wp2_with fail
        go_quiet_grown (first | (go_at_fn g; refine Calls.grown_of (hc2 _ _)))
        have S2 : Aside (SWK enc k w0 blk off d (grow (wr.drewN nq) osq)) := S1.out.grown nq osq
        clear l2a l2b hc2 S1
        generalize grow (wr.drewN nq) osq = w2 at S2 ⊢
        clear nq osq
        go_wp2
        go_roundg (j - (h + 1))
        case measure => omega
        case rel => exact ⟨h + 1, j, by go_num, rfl, by omega, by omega, hjb, Nat.le_refl _, ⟨S2.out, fun _ => by rw [Nat.add_sub_cancel]; exact HL.out, A.out.2.2⟩⟩
    · have hij' : i = j := by omega
      have AI : Aside ((a < i → ltOf cf d[m]! d[i - 1]! = false) ∧ (i < m → ltOf cf d[m]! d[i]! = true)) := ⟨A.out.2.1, by rw [hij']; exact A.out.2.2⟩
      have him : i ≤ m := by omega
      clear A hij' hkx
      go_wp2
      go_loopg [17] m (fun kx s13 wr => ∃ (q : Nat) (dk : Array α), s13 = .int .i64 q ∧ i ≤ q ∧ q ≤ m ∧ q ≤ kx ∧ Aside (dk.size = sz ∧ SWK enc k w0 blk off dk wr ∧ Rot q m (m + 1) d dk))
      case atStart => exact ⟨m, d, rfl, him, Nat.le_refl _, Nat.le_refl _, ⟨HZ.out, S1.out, rot_none' _ _ _⟩⟩
      case round =>
        clear S1
        obtain ⟨q0, dk, rfl, haq, hqi, hkx, A⟩ := hrel
        have S1 : Aside (SWK enc k w0 blk off dk wr) := A.out.2.1
        have DS := Lib.hid A.out.1
        have AR : Aside (Rot q0 m (m + 1) d dk) := A.out.2.2
        clear A
        by_cases hq : i < q0
        · obtain ⟨q, rfl⟩ : ∃ q, q0 = q + 1 := ⟨q0 - 1, by omega⟩
          have hwp : IntKind.i64.wrap (q : Int) = (q : Int) := by rw [IntKind.wrap_i64]; omega
          have hqz : (i : Int) < (q : Int) + 1 := by omega
          have e4a : ((q : Int) + 1).toNat = q + 1 := by omega
          have p4a : (0 : Int) ≤ (q : Int) + 1 := by omega
          have b4a : (q : Int) + 1 < (sz : Int) := by omega
          have r4a : IntKind.i64.wrap ((q : Int) + 1) = (q : Int) + 1 := by rw [IntKind.wrap_i64]; omega
          have e4c : ((q : Int)).toNat = q := by omega
          have p4c : (0 : Int) ≤ (q : Int) := by omega
          have b4c : (q : Int) < (sz : Int) := by omega
          have r4c : IntKind.i64.wrap ((q : Int)) = (q : Int) := by rw [IntKind.wrap_i64]; omega
          have S2 : Aside (SWK enc k w0 blk off (swp dk (q + 1) (q)) ((wr.drew.setCells blk (off + (q + 1) * k) (enc dk[q]!)).setCells blk (off + (q) * k) (enc dk[q + 1]!))) := S1.out.swapped R (q + 1) (q) (by rw [DS.out]; omega) (by rw [DS.out]; omega)
          have l4a := S1.out.ld1 R (DS.out.trans HS.out.symm) P (q + 1) (by rw [DS.out]; omega)
          have l4b := S1.out.ld1 R (DS.out.trans HS.out.symm) P (q) (by rw [DS.out]; omega)
          have s4a := S1.out.st1 R (DS.out.trans HS.out.symm) P (q + 1) (by rw [DS.out]; omega) dk[q]!
          have s4b := S1.out.st2 R (DS.out.trans HS.out.symm) P (q + 1) (q) (by rw [DS.out]; omega) (by rw [DS.out]; omega) dk[q]! dk[q + 1]!
          have n4a : (enc dk[q + 1]!).length = k := R.hk _
          have n4b : (enc dk[q]!).length = k := R.hk _
          generalize enc dk[q + 1]! = cI4 at S2 l4a s4b n4a
          generalize enc dk[q]! = cJ4 at S2 l4b s4a s4b n4b
          clear S1
          go_wp2_with fail
          go_big_region_o
          clear l4a l4b s4a s4b
          generalize (wr.drew.setCells blk (off + (q + 1) * k) cJ4).setCells blk (off + (q) * k) cI4 = w2 at S2 ⊢
          go_wp2
          go_roundg q
          case measure => omega
          case rel => exact ⟨q, swp dk (q + 1) q, by first | rfl | go_num, by omega, by omega, Nat.le_refl _, ⟨by rw [size_swp]; exact DS.out, S2.out, rot_down AR.out hqi (by rw [HZ.out]; exact hmsz)⟩⟩
        · have hqe : q0 = i := by omega
          go_wp2
          go_end0
          refine ⟨rfl, dk, S1.out, ?_⟩
          have hrot := AR.out
          rw [hqe] at hrot
          rw [HM.out]
          exact sym_right HO.out SL.out hmi him AI.out.1 AI.out.2 hrot
end
end Go.Proofs.YthhpoihfaggafaaDoor.Or
namespace Go.Proofs.YthhpoihfaggafaaDoor.Or
open Go Go.Shelf Go.RowKit Go.Lib Go.Sort Go.Proofs StM

section
variable {P : Program} {α : Type} [Inhabited α]

set_option maxHeartbeats 8000000 in
set_option maxRecDepth 1000000 in
theorem symMerge_g {k : Nat} (L : SP P k) (enc : α → List Value) (cf : α → α → Int) (g : Nat) (cb : Array Value) (hO : SWO (ltOf cf)) (blk off cap sz : Nat) (d0 : Array α) (w0 : World)
    (eg : ∀ args w, (callFunc g args).run P w = .ok (.enter g args) w) (hcmp : CmpLays P g cb enc k cf blk off sz w0) (R : RowK enc k w0 blk off d0) (hs : d0.size = sz) (hsz : sz < 2305843009213693952)
    (a m b : Nat) (d : Array α) (w : World) (hz : d.size = sz) (S : SWK enc k w0 blk off d w) (ham : a < m) (hmb : m < b) (hb : b ≤ sz) (hl : SortedIn (ltOf cf) a m d) (hr : SortedIn (ltOf cf) m b d) (hm1 : ¬ m = a + 1) (hb1 : ¬ b = m + 1)
    (ih : ∀ (a' m' b' : Nat) (d' : Array α) (w' : World), b' - a' < b - a → d'.size = sz → SWK enc k w0 blk off d' w' → a' < m' → m' < b' → b' ≤ sz → SortedIn (ltOf cf) a' m' d' → SortedIn (ltOf cf) m' b' d' →
      Calls P 147 #[.slice (some ⟨blk, off, none⟩) sz cap, .int .i64 a', .int .i64 m', .int .i64 b', .func (.func g) #[] cb] w' (Srt enc k w0 blk off (SymTo (ltOf cf) a' b' d'))) :
    Calls P 147 #[.slice (some ⟨blk, off, none⟩) sz cap, .int .i64 a, .int .i64 m, .int .i64 b, .func (.func g) #[] cb] w (Srt enc k w0 blk off (SymTo (ltOf cf) a b d)) := by
  have mixed := L.mixed; have t0 := L.t0; have a0 := L.a0; have z0 := L.z0; have v0 := L.v0; have t3 := L.t3; have a3 := L.a3; have z3 := L.z3; have v3 := L.v3; have t4 := L.t4; have a4 := L.a4; have z4 := L.z4; have v4 := L.v4; have t22 := L.t22; have a22 := L.a22; have z22 := L.z22; have v22 := L.v22; have t25 := L.t25; have a25 := L.a25; have z25 := L.z25; have v25 := L.v25; have aE := L.aE; have zE := L.zE
  have t48 := L.t48; have a48 := L.a48; have z48 := L.z48; have v48 := L.v48
  have FG := L.fSym
  have HC : Aside _ := hcmp
  have HS := Lib.hid hs
  have HO : Aside _ := hO
  have HZ := Lib.hid hz
  have S0 : Aside (SWK enc k w0 blk off d w) := S
  have SL : Aside (SortedIn (ltOf cf) a m d) := hl
  have SR : Aside (SortedIn (ltOf cf) m b d) := hr
  clear hcmp hs hO hz S hl hr
  have eR : ∀ args w, (callFunc 153 args).run P w = .ok (.enter 153 args) w := enters_of L.fRot (by kernel_rfl) rfl
  have eY : ∀ args w, (callFunc 147 args).run P w = .ok (.enter 147 args) w := enters_of L.fSym (by kernel_rfl) rfl
  have IH : Aside _ := ih
  clear ih
  have hd : ((m : Int) - (a : Int) == 1) = false := by simp; omega
  have hd2 : ((b : Int) - (m : Int) == 1) = false := by simp; omega
  obtain ⟨mid, hmid⟩ : ∃ q, q = (a + b) / 2 := ⟨_, rfl⟩
  have emid : ((a : Int) + (b : Int)) / 2 = (mid : Int) := by omega
  have q1 : 2 * mid ≤ a + b := by omega
  have q2 : a + b ≤ 2 * mid + 1 := by omega
  have q3 : a < mid := by omega
  have q4 : mid < b := by omega
  clear hmid hm1 hb1
  obtain ⟨p, hp⟩ : ∃ q, q = mid + m - 1 := ⟨_, rfl⟩
  have ep : (mid : Int) + (m : Int) - 1 = (p : Int) := by omega
  have f6 : p + 1 = mid + m := by omega
  have HP := Lib.hid hp
  clear hp
  obtain ⟨s0, r0, hsr⟩ : ∃ s0 r0 : Nat, (mid < m ∧ s0 + b = mid + m ∧ r0 = mid) ∨ (m ≤ mid ∧ s0 = a ∧ r0 = m) := by
    by_cases h : mid < m
    · exact ⟨mid + m - b, mid, .inl ⟨h, by omega, rfl⟩⟩
    · exact ⟨a, m, .inr ⟨by omega, rfl, rfl⟩⟩
  have f1 : a ≤ s0 := by omega
  have f2 : s0 ≤ r0 := by omega
  have f3 : r0 ≤ m := by omega
  have f4 : r0 ≤ mid := by omega
  have f5 : mid + m ≤ b + s0 := by omega
  have HSR := Lib.hid hsr
  clear hsr
  by_cases hmm : mid < m
  all_goals
    go_enter FG, Tryd.ntmps147
    go_wp2
    go_loopg [20, 21] (r0 - s0) (fun kx s10 s11 wr => ∃ (i j : Nat), s10 = .int .i64 i ∧ s11 = .int .i64 j ∧ s0 ≤ i ∧ i ≤ j ∧ j ≤ r0 ∧ j - i ≤ kx ∧ Aside (SWK enc k w0 blk off d wr ∧ (s0 < i → ltOf cf d[p - (i - 1)]! d[i - 1]! = false) ∧ (j < r0 → ltOf cf d[p - j]! d[j]! = true)))
    case atStart => exact ⟨s0, r0, by have := HSR.out; congr 1; omega, by have := HSR.out; congr 1; omega, Nat.le_refl _, f2, Nat.le_refl _, Nat.le_refl _, ⟨S0.out, fun h => absurd h (Nat.lt_irrefl _), fun h => absurd h (Nat.lt_irrefl _)⟩⟩
    case round =>
      clear S0
      obtain ⟨i, j, rfl, rfl, hmi, hij, hjb, hkx, A⟩ := hrel
      have S1 : Aside (SWK enc k w0 blk off d wr) := A.out.1
      by_cases hlt : i < j
      · obtain ⟨h, hh⟩ : ∃ h, h = (i + j) / 2 := ⟨_, rfl⟩
        have hi1 : i ≤ h := by omega
        have hi2 : h < j := by omega
        have eh : ((i : Int) + (j : Int)) / 2 = (h : Int) := by omega
        clear hh
        obtain ⟨u, hu⟩ : ∃ q, q = p - h := ⟨_, rfl⟩
        have ru : IntKind.i64.wrap ((p : Int) - (h : Int)) = (u : Int) := by rw [IntKind.wrap_i64]; omega
        have hu1 : u < sz := by omega
        have HU := Lib.hid hu
        clear hu
        cases hL : ltOf cf d[u]! d[h]! with
        | true =>
          have e2a : ((u : Int)).toNat = u := by omega
          have p2a : (0 : Int) ≤ (u : Int) := by omega
          have b2a : (u : Int) < (sz : Int) := by omega
          have r2a : IntKind.i64.wrap ((u : Int)) = (u : Int) := by rw [IntKind.wrap_i64]; omega
          have e2c : ((h : Int)).toNat = h := by omega
          have p2c : (0 : Int) ≤ (h : Int) := by omega
          have b2c : (h : Int) < (sz : Int) := by omega
          have r2c : IntKind.i64.wrap ((h : Int)) = (h : Int) := by rw [IntKind.wrap_i64]; omega
          obtain ⟨x2, hx2⟩ : ∃ x, x = d[u]! := ⟨_, rfl⟩
          obtain ⟨y2, hy2⟩ : ∃ x, x = d[h]! := ⟨_, rfl⟩
          have l2a := S1.out.ld R (HZ.out.trans HS.out.symm) P (u) (by rw [HZ.out]; omega)
          have l2b := S1.out.ld R (HZ.out.trans HS.out.symm) P (h) (by rw [HZ.out]; omega)
          rw [← hx2] at l2a
          rw [← hy2] at l2b
          have hc2 := S1.out.cmp HC.out HZ.out x2 y2
          have hv2 : cf x2 y2 < 0 := by rw [hx2, hy2]; exact of_decide_eq_true hL
          have hd2 : decide (cf x2 y2 < 0) = true := decide_eq_true hv2
          have HL := Lib.hid hL
          clear hx2 hy2 hL
          go_wp2_with fail
          go_quiet_grown (first | (go_at_fn g; refine Calls.grown_of (hc2 _ _)))
          have S2 : Aside (SWK enc k w0 blk off d (grow (wr.drewN nq) osq)) := S1.out.grown nq osq
          clear l2a l2b hc2 S1
          generalize grow (wr.drewN nq) osq = w2 at S2 ⊢
          clear nq osq
          go_wp2
          go_roundg (h - i)
          case measure => omega
          case rel => exact ⟨i, h, rfl, rfl, hmi, hi1, by omega, Nat.le_refl _, ⟨S2.out, A.out.2.1, fun _ => by rw [← HU.out]; exact HL.out⟩⟩
        | false =>
          have e2a : ((u : Int)).toNat = u := by omega
          have p2a : (0 : Int) ≤ (u : Int) := by omega
          have b2a : (u : Int) < (sz : Int) := by omega
          have r2a : IntKind.i64.wrap ((u : Int)) = (u : Int) := by rw [IntKind.wrap_i64]; omega
          have e2c : ((h : Int)).toNat = h := by omega
          have p2c : (0 : Int) ≤ (h : Int) := by omega
          have b2c : (h : Int) < (sz : Int) := by omega
          have r2c : IntKind.i64.wrap ((h : Int)) = (h : Int) := by rw [IntKind.wrap_i64]; omega
          obtain ⟨x2, hx2⟩ : ∃ x, x = d[u]! := ⟨_, rfl⟩
          obtain ⟨y2, hy2⟩ : ∃ x, x = d[h]! := ⟨_, rfl⟩
          have l2a := S1.out.ld R (HZ.out.trans HS.out.symm) P (u) (by rw [HZ.out]; omega)
          have l2b := S1.out.ld R (HZ.out.trans HS.out.symm) P (h) (by rw [HZ.out]; omega)
          rw [← hx2] at l2a
          rw [← hy2] at l2b
          have hc2 := S1.out.cmp HC.out HZ.out x2 y2
          have hv2 : ¬ cf x2 y2 < 0 := by rw [hx2, hy2]; exact of_decide_eq_false hL
          have hd2 : decide (cf x2 y2 < 0) = false := decide_eq_false hv2
          have HL := Lib.hid hL
          clear hx2 hy2 hL
          go_wp2_with fail
          go_quiet_grown (first | (go_at_fn g; refine Calls.grown_of (hc2 _ _)))
          have S2 : Aside (SWK enc k w0 blk off d (grow (wr.drewN nq) osq)) := S1.out.grown nq osq
          clear l2a l2b hc2 S1
          generalize grow (wr.drewN nq) osq = w2 at S2 ⊢
          clear nq osq
          go_wp2
          go_roundg (j - (h + 1))
          case measure => omega
          case rel => exact ⟨h + 1, j, by go_num, rfl, by omega, by omega, hjb, Nat.le_refl _, ⟨S2.out, fun _ => by rw [Nat.add_sub_cancel, ← HU.out]; exact HL.out, A.out.2.2⟩⟩
      · have hij' : i = j := by omega
        have hc : Cut (ltOf cf) d s0 r0 p i := ⟨hmi, by omega, A.out.2.1, by rw [hij']; exact A.out.2.2⟩
        have HCU : Hid (Cut (ltOf cf) d (if mid < m then mid + m - b else a) (if mid < m then mid else m) (mid + m - 1) i) := by
          show Cut _ _ _ _ _ _
          rw [← HP.out]
          rcases HSR.out with ⟨h1, h2, h3⟩ | ⟨h1, h2, h3⟩
          · rw [if_pos h1, if_pos h1, show mid + m - b = s0 by omega]
            rw [h3] at hc
            exact hc
          · rw [if_neg (by omega), if_neg (by omega)]
            rw [h2, h3] at hc
            exact hc
        have him : i ≤ r0 := by omega
        obtain ⟨en, hen⟩ : ∃ q, q = mid + m - i := ⟨_, rfl⟩
        have een : (mid : Int) + (m : Int) - (i : Int) = (en : Int) := by omega
        have heb : en ≤ b := by omega
        have hem : m ≤ en := by omega
        have hed : mid ≤ en := by omega
        have HEN := Lib.hid hen
        clear A hij' hkx hc hen
        go_upto_region 39 with fail
        go_cut [185] from 178 to 185 (fun c wx => c = .bool (decide (i < m ∧ m < en)) ∧ wx = wr)
        case first =>
          by_cases c1 : i < m
          · by_cases c2 : m < en
            · go_wp2
              go_meet
              case rel => exact ⟨congrArg Value.bool (decide_eq_true (p := (i < m ∧ m < en)) ⟨c1, c2⟩).symm, rfl⟩
            · go_wp2
              go_meet
              case rel => exact ⟨congrArg Value.bool (decide_eq_false (p := (i < m ∧ m < en)) fun h => c2 h.2).symm, rfl⟩
          · go_wp2
            go_meet
            case rel => exact ⟨congrArg Value.bool (decide_eq_false (p := (i < m ∧ m < en)) fun h => c1 h.1).symm, rfl⟩
        case rest =>
          obtain ⟨rfl, rfl⟩ := hcut
          go_upto_if 185 with fail
          go_cut [20] from 178 to 191 (fun s20 wx => s20 = .int .i64 i ∧ Aside (∃ d1, d1.size = sz ∧ SWK enc k w0 blk off d1 wx ∧ ((i < m ∧ m < en ∧ Rot i m en d d1) ∨ (¬ (i < m ∧ m < en) ∧ d1 = d))))
          case first =>
            by_cases c1 : i < m ∧ m < en
            · have hd3 : decide (i < m ∧ m < en) = true := decide_eq_true c1
              have C1 := Lib.hid c1
              clear c1
              go_wp2_with (go_at_fn 153; refine (rotate_z L enc _ blk off cap i m en sz d0 d w0 _ R HS.out HZ.out S1.out C1.out.1 C1.out.2 (by omega) (by omega)).mono ?_; rintro e w1 ⟨rfl, d', S1', hR⟩; have H1 := Lib.hid (And.intro S1' hR); clear S1' hR)
              go_meet
              case rel => exact ⟨rfl, d', H1.out.2.1.trans HZ.out, H1.out.1, .inl ⟨C1.out.1, C1.out.2, H1.out.2⟩⟩
            · have hd3 : decide (i < m ∧ m < en) = false := decide_eq_false c1
              have C1 := Lib.hid c1
              clear c1
              go_wp2
              go_meet
              case rel => exact ⟨rfl, d, HZ.out, S1.out, .inr ⟨C1.out, rfl⟩⟩
          case rest =>
            obtain ⟨rfl, A1⟩ := hcut
            clear S1
            obtain ⟨d1, hz1, S1', k1⟩ := A1.out
            have HZ1 := Lib.hid hz1
            have S1 : Aside (SWK enc k w0 blk off d1 wc) := S1'
            have K1 := Lib.hid k1
            have SRT := Lib.hid (sym_parts SL.out SR.out ⟨q1, q2⟩ HCU.out (by rw [← HEN.out]; exact k1))
            clear hz1 S1' k1 A1
            go_upto_region 41 with fail
            go_cut [199] from 192 to 199 (fun c wx => c = .bool (decide (a < i ∧ i < mid)) ∧ wx = wc)
            case first =>
              by_cases c1 : a < i
              · by_cases c2 : i < mid
                · go_wp2
                  go_meet
                  case rel => exact ⟨congrArg Value.bool (decide_eq_true (p := (a < i ∧ i < mid)) ⟨c1, c2⟩).symm, rfl⟩
                · go_wp2
                  go_meet
                  case rel => exact ⟨congrArg Value.bool (decide_eq_false (p := (a < i ∧ i < mid)) fun h => c2 h.2).symm, rfl⟩
              · go_wp2
                go_meet
                case rel => exact ⟨congrArg Value.bool (decide_eq_false (p := (a < i ∧ i < mid)) fun h => c1 h.1).symm, rfl⟩
            case rest =>
              obtain ⟨rfl, rfl⟩ := hcut
              go_upto_if 199 with fail
              go_cut [20] from 192 to 205 (fun s20 wx => s20 = .int .i64 i ∧ Aside (∃ d2, d2.size = sz ∧ SWK enc k w0 blk off d2 wx ∧ ((a < i ∧ i < mid ∧ SymTo (ltOf cf) a mid d1 d2) ∨ (¬ (a < i ∧ i < mid) ∧ d2 = d1))))
              case first =>
                by_cases c1 : a < i ∧ i < mid
                · have hd3 : decide (a < i ∧ i < mid) = true := decide_eq_true c1
                  have C1 := Lib.hid c1
                  clear c1
                  go_wp2_with (go_at_fn 147; refine (IH.out a i mid d1 _ (by omega) HZ1.out S1.out C1.out.1 C1.out.2 (by omega) SRT.out.1 SRT.out.2.1).mono ?_; rintro e w1 ⟨rfl, d', S1', hR⟩; have H1 := Lib.hid (And.intro S1' hR); clear S1' hR)
                  go_meet
                  case rel => exact ⟨rfl, d', H1.out.2.kept.size.trans HZ1.out, H1.out.1, .inl ⟨C1.out.1, C1.out.2, H1.out.2⟩⟩
                · have hd3 : decide (a < i ∧ i < mid) = false := decide_eq_false c1
                  have C1 := Lib.hid c1
                  clear c1
                  go_wp2
                  go_meet
                  case rel => exact ⟨rfl, d1, HZ1.out, S1.out, .inr ⟨C1.out, rfl⟩⟩
              case rest =>
                obtain ⟨rfl, A2⟩ := hcut
                clear S1
                obtain ⟨d2, hz2, S2', k2⟩ := A2.out
                have HZ2 := Lib.hid hz2
                have S2 : Aside (SWK enc k w0 blk off d2 wc) := S2'
                have K2 := Lib.hid k2
                have SRT2 := Lib.hid (And.intro (sorted_at SRT.out.2.2.1 fun x hx _ => k2_out k2 x hx) (sorted_at SRT.out.2.2.2 fun x hx _ => k2_out k2 x (by have := HEN.out; omega)))
                have hne : en = mid + m - i := HEN.out
                rw [← hne] at SRT2
                clear hz2 S2' k2 A2 hne
                by_cases c1 : mid < en
                · by_cases c2 : en < b
                  · go_wp2_with (go_at_fn 147; refine (IH.out mid en b d2 _ (by omega) HZ2.out S2.out c1 c2 (by omega) SRT2.out.1 SRT2.out.2).mono ?_; rintro e w1 ⟨rfl, d', S1', hR⟩; have H1 := Lib.hid (And.intro S1' hR); clear S1' hR)
                    go_end0
                    exact ⟨rfl, d', H1.out.1, sym_step HO.out ham hmb SL.out SR.out ⟨q3, q4⟩ HCU.out ⟨q1, q2⟩ (by rw [← HEN.out]; exact K1.out) K2.out (.inl (by rw [← HEN.out]; exact ⟨c1, c2, H1.out.2⟩))⟩
                  · go_wp2
                    go_end0
                    exact ⟨rfl, d2, S2.out, sym_step HO.out ham hmb SL.out SR.out ⟨q3, q4⟩ HCU.out ⟨q1, q2⟩ (by rw [← HEN.out]; exact K1.out) K2.out (.inr (by rw [← HEN.out]; exact ⟨fun h => c2 h.2, rfl⟩))⟩
                · go_wp2
                  go_end0
                  exact ⟨rfl, d2, S2.out, sym_step HO.out ham hmb SL.out SR.out ⟨q3, q4⟩ HCU.out ⟨q1, q2⟩ (by rw [← HEN.out]; exact K1.out) K2.out (.inr (by rw [← HEN.out]; exact ⟨fun h => c1 h.1, rfl⟩))⟩
end
end Go.Proofs.YthhpoihfaggafaaDoor.Or
namespace Go.Proofs.YthhpoihfaggafaaDoor.Or
open Go Go.Shelf Go.RowKit Go.Lib Go.Sort Go.Proofs StM

section
variable {P : Program} {α : Type} [Inhabited α]

theorem symMerge_all {k : Nat} (L : SP P k) (enc : α → List Value) (cf : α → α → Int) (g : Nat) (cb : Array Value) (hO : SWO (ltOf cf)) (blk off cap sz : Nat) (d0 : Array α) (w0 : World)
    (eg : ∀ args w, (callFunc g args).run P w = .ok (.enter g args) w) (hcmp : CmpLays P g cb enc k cf blk off sz w0) (R : RowK enc k w0 blk off d0) (hs : d0.size = sz) (hsz : sz < 2305843009213693952) :
    ∀ (N a m b : Nat) (d : Array α) (w : World), b - a < N → d.size = sz → SWK enc k w0 blk off d w → a < m → m < b → b ≤ sz → SortedIn (ltOf cf) a m d → SortedIn (ltOf cf) m b d →
    Calls P 147 #[.slice (some ⟨blk, off, none⟩) sz cap, .int .i64 a, .int .i64 m, .int .i64 b, .func (.func g) #[] cb] w (Srt enc k w0 blk off (SymTo (ltOf cf) a b d)) := by
  intro N
  induction N with
  | zero => intro _ _ _ _ _ h; exact absurd h (Nat.not_lt_zero _)
  | succ N ih =>
    intro a m b d w hN hz S ham hmb hb hl hr
    by_cases h1 : m = a + 1
    · exact symMerge_l L enc cf g cb hO blk off cap sz d0 w0 eg hcmp R hs hsz a m b d w hz S ham hmb hb hl hr h1
    · by_cases h2 : b = m + 1
      · exact symMerge_r L enc cf g cb hO blk off cap sz d0 w0 eg hcmp R hs hsz a m b d w hz S ham hmb hb hl hr h1 h2
      · exact symMerge_g L enc cf g cb hO blk off cap sz d0 w0 eg hcmp R hs hsz a m b d w hz S ham hmb hb hl hr h1 h2 fun a' m' b' d' w' hlt => ih a' m' b' d' w' (by omega)

set_option maxHeartbeats 8000000 in
set_option maxRecDepth 1000000 in
theorem stable_w {k : Nat} (L : SP P k) (enc : α → List Value) (cf : α → α → Int) (g : Nat) (cb : Array Value) (hO : SWO (ltOf cf)) (blk off cap n : Nat) (d : Array α) (w0 w : World)
    (eg : ∀ args w, (callFunc g args).run P w = .ok (.enter g args) w) (hcmp : CmpLays P g cb enc k cf blk off n w0) (R : RowK enc k w0 blk off d) (hs : d.size = n) (hsz : n < 576460752303423488) (S : SWK enc k w0 blk off d w)
    (eI : ∀ args w, (callFunc 146 args).run P w = .ok (.enter 146 args) w)
    (hins : ∀ (a b : Nat) (d' : Array α) (w' : World), d'.size = n → SWK enc k w0 blk off d' w' → a ≤ b → b ≤ n →
      Calls P 146 #[.slice (some ⟨blk, off, none⟩) n cap, .int .i64 a, .int .i64 b, .func (.func g) #[] cb] w' (Srt enc k w0 blk off (SymTo (ltOf cf) a b d'))) :
    Calls P 133 #[.slice (some ⟨blk, off, none⟩) n cap, .int .i64 n, .func (.func g) #[] cb] w (Srt enc k w0 blk off (SymTo (ltOf cf) 0 n d)) := by
  have mixed := L.mixed; have t0 := L.t0; have a0 := L.a0; have z0 := L.z0; have v0 := L.v0; have t3 := L.t3; have a3 := L.a3; have z3 := L.z3; have v3 := L.v3; have t4 := L.t4; have a4 := L.a4; have z4 := L.z4; have v4 := L.v4; have t22 := L.t22; have a22 := L.a22; have z22 := L.z22; have v22 := L.v22; have t25 := L.t25; have a25 := L.a25; have z25 := L.z25; have v25 := L.v25; have aE := L.aE; have zE := L.zE
  have FG := L.fStab
  have eY : ∀ args w, (callFunc 147 args).run P w = .ok (.enter 147 args) w := enters_of L.fSym (by kernel_rfl) rfl
  have HI : Aside _ := hins
  have HSY : Aside _ := symMerge_all L enc cf g cb hO blk off cap n d w0 eg hcmp R hs (by omega)
  have HO : Aside _ := hO
  have HS := Lib.hid hs
  have S0 : Aside (SWK enc k w0 blk off d w) := S
  clear hins hO hs S hcmp
  go_enter FG, Tryd.ntmps133
  go_wp2
  go_loopg [7, 8] n (fun kx s7 s8 wr => ∃ (a b : Nat) (dk : Array α), s7 = .int .i64 a ∧ s8 = .int .i64 b ∧ a ≤ n ∧ b ≤ a + 20 ∧ a + 20 ≤ b ∧ n - a ≤ kx ∧ Aside (20 ∣ a ∧ dk.size = n ∧ SWK enc k w0 blk off dk wr ∧ Kept (ltOf cf) 0 n d dk ∧ Blk (ltOf cf) 20 n a dk))
  case atStart => exact ⟨0, 20, d, rfl, rfl, Nat.zero_le _, Nat.le_refl _, Nat.le_refl _, Nat.le_refl _, ⟨⟨0, rfl⟩, HS.out, S0.out, Kept.refl _ _ _ _, Blk.none _ _ _ _⟩⟩
  case round =>
    clear S0
    obtain ⟨a, b, dk, rfl, rfl, han, hb1, hb2, hkx, A⟩ := hrel
    by_cases hlt : b ≤ n
    · go_wp2_with (go_at_fn 146; refine (HI.out a b dk _ A.out.2.1 A.out.2.2.1 (by omega) hlt).mono ?_; rintro e w1 ⟨rfl, d', S1', hR⟩; have H1 := Lib.hid (And.intro S1' hR); clear S1' hR)
      go_roundg (n - b)
      case measure => omega
      case rel => exact ⟨b, b + 20, d', rfl, by go_num, hlt, Nat.le_refl _, Nat.le_refl _, Nat.le_refl _, ⟨by rw [show b = a + 20 by omega]; exact Nat.dvd_add A.out.1 ⟨1, rfl⟩, H1.out.2.kept.size.trans A.out.2.1, H1.out.1, A.out.2.2.2.1.trans (H1.out.2.kept.wide (Nat.zero_le _) (by omega) hlt), by
          have h := A.out.2.2.2.2.next A.out.1 (e := b) (by omega) H1.out.2
          rwa [show a + 20 = b by omega] at h⟩⟩
    · go_wp2_with (go_at_fn 146; refine (HI.out a n dk _ A.out.2.1 A.out.2.2.1 han (Nat.le_refl _)).mono ?_; rintro e w1 ⟨rfl, d', S1', hR⟩; have H1 := Lib.hid (And.intro S1' hR); clear S1' hR)
      have A1 : Aside (d'.size = n ∧ SWK enc k w0 blk off d' w1 ∧ Kept (ltOf cf) 0 n d d' ∧ Blk (ltOf cf) 20 n n d') := ⟨H1.out.2.kept.size.trans A.out.2.1, H1.out.1, A.out.2.2.2.1.trans (H1.out.2.kept.wide (Nat.zero_le _) han (Nat.le_refl _)), (A.out.2.2.2.2.next A.out.1 (e := n) (by omega) H1.out.2).all (by omega)⟩
      clear H1 A hkx hb1 hb2 han hlt
      go_loopg [6] n (fun kx s6 wr => ∃ (bs : Nat) (dk : Array α), s6 = .int .i64 bs ∧ 0 < bs ∧ bs ≤ 2 * n + 20 ∧ n - bs ≤ kx ∧ Aside (dk.size = n ∧ SWK enc k w0 blk off dk wr ∧ Kept (ltOf cf) 0 n d dk ∧ Blk (ltOf cf) bs n n dk))
      case atStart => exact ⟨20, d', rfl, by omega, by omega, by omega, A1⟩
      case round =>
        clear A1
        obtain ⟨bs, dk, rfl, hbs, hbn, hkx, A⟩ := hrel
        by_cases hlt : bs < n
        · go_wp2
          go_loopg [7, 8] n (fun kx s7 s8 wr => ∃ (a b : Nat) (dk : Array α), s7 = .int .i64 a ∧ s8 = .int .i64 b ∧ a ≤ n ∧ b ≤ a + 2 * bs ∧ a + 2 * bs ≤ b ∧ n - a ≤ kx ∧ Aside (2 * bs ∣ a ∧ dk.size = n ∧ SWK enc k w0 blk off dk wr ∧ Kept (ltOf cf) 0 n d dk ∧ Blk (ltOf cf) (2 * bs) n a dk ∧ StM.Rest (ltOf cf) bs n a dk))
          case atStart => exact ⟨0, 2 * bs, dk, rfl, by go_num, Nat.zero_le _, by omega, by omega, Nat.le_refl _, ⟨⟨0, rfl⟩, A.out.1, A.out.2.1, A.out.2.2.1, Blk.none _ _ _ _, A.out.2.2.2.rest⟩⟩
          case round =>
            clear A
            obtain ⟨a, b, dk, rfl, rfl, han, hb1, hb2, hkx2, A⟩ := hrel
            obtain ⟨mm, hmm⟩ : ∃ q, q = a + bs := ⟨_, rfl⟩
            have em : (a : Int) + (bs : Int) = (mm : Int) := by omega
            have hm1 : a < mm := by omega
            have HM := Lib.hid hmm
            by_cases hlb : b ≤ n
            · have hm2 : mm < b := by omega
              clear hmm
              go_wp2_with (go_at_fn 147; refine (HSY.out (b - a + 1) a mm b dk _ (by omega) A.out.2.1 A.out.2.2.1 hm1 hm2 hlb (by have h := HM.out; rw [h]; exact A.out.2.2.2.2.2.left A.out.1 (by omega) hbs) (by have h := HM.out; rw [h]; exact A.out.2.2.2.2.2.right A.out.1 (by omega) (by omega))).mono ?_; rintro e w1 ⟨rfl, d', S1', hR⟩; have H1 := Lib.hid (And.intro S1' hR); clear S1' hR)
              go_roundg (n - b)
              case measure => omega
              case rel => exact ⟨b, b + 2 * bs, d', rfl, by go_num, hlb, Nat.le_refl _, Nat.le_refl _, Nat.le_refl _, ⟨by rw [show b = a + 2 * bs by omega]; exact Nat.dvd_add A.out.1 (Nat.dvd_refl _), H1.out.2.kept.size.trans A.out.2.1, H1.out.1, A.out.2.2.2.1.trans (H1.out.2.kept.wide (Nat.zero_le _) (by omega) hlb), by
                  have h := A.out.2.2.2.2.1.next A.out.1 (e := b) (by omega) H1.out.2
                  rwa [show a + 2 * bs = b by omega] at h, by
                  have h := A.out.2.2.2.2.2.next (e := b) (by omega) H1.out.2
                  rwa [show a + 2 * bs = b by omega] at h⟩⟩
            · by_cases hmn : mm < n
              · clear hmm
                go_wp2_with (go_at_fn 147; refine (HSY.out (n - a + 1) a mm n dk _ (by omega) A.out.2.1 A.out.2.2.1 hm1 hmn (Nat.le_refl _) (by have h := HM.out; rw [h]; exact A.out.2.2.2.2.2.left A.out.1 (by omega) hbs) (by have h := HM.out; rw [h]; exact A.out.2.2.2.2.2.right A.out.1 (by omega) (by omega))).mono ?_; rintro e w1 ⟨rfl, d', S1', hR⟩; have H1 := Lib.hid (And.intro S1' hR); clear S1' hR)
                go_roundg (n - 2 * bs)
                case measure => omega
                case rel => exact ⟨2 * bs, d', by go_num, by omega, by omega, Nat.le_refl _, ⟨H1.out.2.kept.size.trans A.out.2.1, H1.out.1, A.out.2.2.2.1.trans (H1.out.2.kept.wide (Nat.zero_le _) han (Nat.le_refl _)), (A.out.2.2.2.2.1.next A.out.1 (e := n) (by omega) H1.out.2).all (by omega)⟩⟩
              · have hm3 : n ≤ a + bs := by omega
                clear hmm
                go_wp2
                go_roundg (n - 2 * bs)
                case measure => omega
                case rel => exact ⟨2 * bs, dk, by go_num, by omega, by omega, Nat.le_refl _, ⟨A.out.2.1, A.out.2.2.1, A.out.2.2.2.1, A.out.2.2.2.2.1.last A.out.2.2.2.2.2 A.out.1 hm3 hbs⟩⟩
        · go_wp2
          go_end0
          refine ⟨rfl, dk, A.out.2.1, A.out.2.2.1, fun i j hi hij hj => ?_⟩
          have h := A.out.2.2.2 0 ⟨0, rfl⟩ (by omega) (by omega)
          rw [show min (0 + bs) n = n by omega] at h
          exact h i j hi hij hj
end
end Go.Proofs.YthhpoihfaggafaaDoor.Or
namespace Go.Proofs.YthhpoihfaggafaaDoor.Or
open Go Go.RowKit Go.Sort Go.Proofs

/-- events' cells, one behind the other -/
def evCells (l : List Ev) : List Value := l.flatMap encE
theorem encE_len (x : Ev) : (encE x).length = 6 := rfl
theorem encE_one (x : Ev) : ∀ v ∈ encE x, v.oneCell' = true := by
  intro v hv
  simp [encE] at hv
  rcases hv with rfl | rfl | rfl | rfl | rfl | rfl <;> rfl
theorem evCells_len (l : List Ev) : (evCells l).length = l.length * 6 := by
  induction l with
  | nil => rfl
  | cons a t ih =>
    show (encE a ++ evCells t).length = _
    rw [List.length_append, ih, encE_len, List.length_cons]
    omega
theorem evCells_snoc (l : List Ev) (x : Ev) : evCells (l ++ [x]) = evCells l ++ encE x := by simp [evCells]
theorem evCells_one (l : List Ev) : ∀ v ∈ evCells l, v.oneCell' = true := by
  intro v hv
  obtain ⟨x, _, h⟩ := List.mem_flatMap.1 hv
  exact encE_one x v h
theorem evCells_get : ∀ (l : List Ev) (i c : Nat) (hi : i < l.length), c < 6 → (evCells l)[i * 6 + c]? = (encE l[i])[c]?
  | a :: t, 0, c, _, hc => by
    show (encE a ++ evCells t)[0 * 6 + c]? = _
    rw [List.getElem?_append_left (by rw [encE_len]; omega), Nat.zero_mul, Nat.zero_add]
    rfl
  | a :: t, i + 1, c, hi, hc => by
    show (encE a ++ evCells t)[(i + 1) * 6 + c]? = _
    rw [List.getElem?_append_right (by rw [encE_len]; omega), encE_len, show (i + 1) * 6 + c - 6 = i * 6 + c by omega, evCells_get t i c (by simpa using hi) hc]
    rfl
theorem flat_cells (l : List Ev) : (flatK encE 6 l.toArray).toList = evCells l := by
  refine List.ext_getElem? fun t => ?_
  by_cases h : t < l.length * 6
  · have h1 : t / 6 < l.length := by omega
    have h2 : t % 6 < 6 := Nat.mod_lt _ (by decide)
    have e := evCells_get l (t / 6) (t % 6) h1 h2
    rw [show t / 6 * 6 + t % 6 = t by omega] at e
    rw [e]
    have g := get_flatK encE 6 l.toArray t (by simpa using h)
    rw [List.getElem?_eq_getElem (by simpa using h)]
    have e2 : (encE l[t / 6])[t % 6]? = some (encE l[t / 6])[t % 6]! := by
      rw [List.getElem!_eq_getElem?_getD, List.getElem?_eq_getElem (by rw [encE_len]; exact h2)]
      rfl
    rw [e2]
    have e3 : (flatK encE 6 l.toArray)[t]! = (flatK encE 6 l.toArray).toList[t]'(by simpa using h) := by
      rw [getElem!_pos _ t (by simpa using h)]
      simp
    rw [← e3, g]
    simp [h1]
  · rw [List.getElem?_eq_none (by simpa using h), List.getElem?_eq_none (by rw [evCells_len]; omega)]

/-- an event lies at a place -/
def EvCell (w : World) (B o : Nat) (x : Ev) : Prop :=
  w.cell? ⟨B, o, none⟩ = some (.int .i64 x.1.1) ∧ w.cell? ⟨B, o + 1, none⟩ = some (.int .i64 x.1.2.1) ∧ w.cell? ⟨B, o + 2, none⟩ = some (.int .i64 x.1.2.2) ∧
    w.cell? ⟨B, o + 3, none⟩ = some (.int .i64 x.2.1) ∧ w.cell? ⟨B, o + 4, none⟩ = some (.int .i64 x.2.2.1) ∧ w.cell? ⟨B, o + 5, none⟩ = some (.int .i64 x.2.2.2)
/-- a slice reads as events -/
def EvAt (w : World) (a : Option Addr) (n : Nat) (l : List Ev) : Prop :=
  l.length = n ∧ n ≤ 1000000 ∧ (n = 0 ∨ ∃ B off, a = some ⟨B, off, none⟩ ∧ B < w.heap.size ∧ ∀ i (hi : i < l.length), EvCell w B (off + i * 6) l[i])
theorem EvCell.below {w w' : World} {K B o : Nat} {x : Ev} (h : EvCell w B o x) (hb : Below K w w') (hK : B < K) : EvCell w' B o x := by
  obtain ⟨h0, h1, h2, h3, h4, h5⟩ := h
  exact ⟨(hb.cell (p := ⟨B, _, none⟩) hK).trans h0, (hb.cell (p := ⟨B, _, none⟩) hK).trans h1, (hb.cell (p := ⟨B, _, none⟩) hK).trans h2, (hb.cell (p := ⟨B, _, none⟩) hK).trans h3, (hb.cell (p := ⟨B, _, none⟩) hK).trans h4, (hb.cell (p := ⟨B, _, none⟩) hK).trans h5⟩
theorem EvAt.below {w w' : World} {a : Option Addr} {n : Nat} {l : List Ev} (h : EvAt w a n l) (hb : Below w.heap.size w w') : EvAt w' a n l := by
  obtain ⟨h1, h2, h3⟩ := h
  refine ⟨h1, h2, ?_⟩
  rcases h3 with h3 | ⟨B, off, rfl, hB, hc⟩
  · exact .inl h3
  · exact .inr ⟨B, off, rfl, Nat.lt_of_lt_of_le hB hb.size, fun i hi => (hc i hi).below hb hB⟩
theorem EvAt.cell {w : World} {a : Option Addr} {n : Nat} {l : List Ev} (h : EvAt w a n l) {i : Nat} (hi : i < n) : ∃ B off, a = some ⟨B, off, none⟩ ∧ B < w.heap.size ∧ ∃ x : Ev, l[i]? = some x ∧ EvCell w B (off + i * 6) x := by
  obtain ⟨h1, _, h3 | ⟨B, off, rfl, hB, hc⟩⟩ := h
  · omega
  · exact ⟨B, off, rfl, hB, l[i]'(by omega), List.getElem?_eq_getElem (by omega), hc i (by omega)⟩
theorem EvCell.get {w : World} {B o : Nat} {x : Ev} (h : EvCell w B o x) {c : Nat} (hc : c < 6) : w.cell? ⟨B, o + c, none⟩ = (encE x)[c]? := by
  obtain ⟨h0, h1, h2, h3, h4, h5⟩ := h
  match c, hc with
  | 0, _ => exact h0
  | 1, _ => exact h1
  | 2, _ => exact h2
  | 3, _ => exact h3
  | 4, _ => exact h4
  | 5, _ => exact h5
theorem EvCell.of {w : World} {B o : Nat} {x : Ev} (h : ∀ c, c < 6 → w.cell? ⟨B, o + c, none⟩ = (encE x)[c]?) : EvCell w B o x :=
  ⟨h 0 (by decide), h 1 (by decide), h 2 (by decide), h 3 (by decide), h 4 (by decide), h 5 (by decide)⟩
theorem EvAt.news {w : World} {B off n : Nat} {l : List Ev} (h : EvAt w (some ⟨B, off, none⟩) n l) : ∀ j u, (evCells l)[j]? = some u → w.cell? ⟨B, off + j, none⟩ = some u := by
  intro j u hj
  have hlt : j < l.length * 6 := by
    rw [← evCells_len]
    exact (List.getElem?_eq_some_iff.1 hj).1
  have e := evCells_get l (j / 6) (j % 6) (by omega) (Nat.mod_lt _ (by decide))
  rw [show j / 6 * 6 + j % 6 = j by omega] at e
  obtain ⟨h1, _, h3 | ⟨B', off', e', hB, hc⟩⟩ := h
  · omega
  · cases e'
    have := (hc (j / 6) (by omega)).get (c := j % 6) (Nat.mod_lt _ (by decide))
    rw [show off + j / 6 * 6 + j % 6 = off + j by omega] at this
    rw [this, ← e, hj]

/-- events in a row of the call's own, from B on -/
abbrev EvOwn (B : Nat) (w : World) (v : Value) (l : List Ev) : Prop := w.ownsRow B 45 6 v l.length (evCells l)
theorem EvOwn.at {B : Nat} {w : World} {v : Value} {l : List Ev} (h : EvOwn B w v l) (hl : l.length ≤ 1000000) : ∃ a c, v = .slice a l.length c ∧ l.length ≤ c ∧ EvAt w a l.length l := by
  obtain ⟨h1, ⟨rfl, hn⟩ | ⟨g, cap, cur, rfl, hg, hh, hc, _, hs, ht⟩⟩ := h
  · exact ⟨none, 0, by rw [hn], by omega, rfl, hl, .inl hn⟩
  · refine ⟨_, cap, rfl, hc, rfl, hl, .inr ⟨g, 0, rfl, (Array.getElem?_eq_some_iff.1 hh).1, fun i hi => EvCell.of fun c hc6 => ?_⟩⟩
    rw [Nat.zero_add, cell_of_row _ _ _ _ _ _ hh]
    have : cur[i * 6 + c]? = (evCells l)[i * 6 + c]? := by
      rw [← ht, List.getElem?_take, if_pos (by omega)]
      simp
    rw [this, evCells_get l i c hi hc6]

/-- a row of the call's own, as the sort's kit has it -/
theorem own_holds {g : Nat} {w : World} {cur : Array Value} {l : List Ev} (hh : w.heap[g]? = some (.cells cur 45 (0, 0))) (ht : cur.toList.take (l.length * 6) = evCells l) : HoldsK encE 6 w g 0 l.toArray := by
  intro j hj
  have hj' : j < l.length * 6 := by simpa using hj
  refine ⟨?_, by rw [Nat.zero_add]; exact frozen_of_row _ _ _ _ _ hh⟩
  rw [Nat.zero_add, cell_of_row _ _ _ _ _ _ hh]
  have e : cur[j]? = (flatK encE 6 l.toArray).toList[j]? := by
    rw [flat_cells, ← ht, List.getElem?_take, if_pos hj']
    simp
  rw [e]
  have hs : j < (flatK encE 6 l.toArray).size := hj
  rw [getElem!_pos _ j hs]
  simp
/-- what the sort leaves, read again -/
theorem sorted_own {B g cap : Nat} {w w' : World} {cur : Array Value} {l : List Ev} {d : Array Ev} (hh : w.heap[g]? = some (.cells cur 45 (0, 0))) (hB : B ≤ g) (hc : l.length ≤ cap) (hm : cap ≤ maxLen) (hs : cur.size = cap * 6)
    (hd : d.size = l.length) (h : SWK encE 6 w g 0 d w') : EvOwn B w' (.slice (some ⟨g, 0, none⟩) l.length cap) d.toList ∧ Below g w w' := by
  obtain ⟨m, os, rfl⟩ := h
  have hg : g < w.heap.size := (Array.getElem?_eq_some_iff.1 hh).1
  have e : (sortWorldK encE 6 w g 0 m d os).heap[g]? = some (.cells (putCells id 0 (flatK encE 6 d) cur) 45 (0, 0)) := by
    unfold sortWorldK
    rw [heap_grow_old _ _ (by rw [size_putRowK]; exact hg)]
    unfold putRowK putRow mapBlock
    show (Array.modify w.heap g (onCells (putCells id 0 (flatK encE 6 d))))[g]? = _
    rw [Array.getElem?_modify, if_pos rfl, hh]
    rfl
  have el : d.toList.length = l.length := by simpa using hd
  refine ⟨⟨by rw [evCells_len], .inr ⟨g, cap, _, by rw [el], hB, e, by rw [el]; exact hc, hm, ?_, ?_⟩⟩, ?_⟩
  · simp [putCells, hs]
  · refine List.ext_getElem? fun t => ?_
    rw [List.getElem?_take]
    by_cases ht : t < d.toList.length * 6
    · rw [if_pos ht]
      have ht' : t < d.size * 6 := by simpa using ht
      have hc6 : t < cur.size := by rw [hs]; omega
      have f := flat_cells d.toList
      rw [show d.toList.toArray = d by simp] at f
      rw [← f]
      simp [putCells, hc6, ht']
    · rw [if_neg ht, List.getElem?_eq_none (by rw [evCells_len]; omega)]
  · refine ⟨rfl, rfl, rfl, ?_, fun k hk => ?_⟩
    · unfold sortWorldK
      rw [size_grow, size_putRowK]
      show w.heap.size ≤ w.heap.size + _
      omega
    · unfold sortWorldK
      rw [heap_grow_old _ _ (by rw [size_putRowK]; show k < w.heap.size; omega)]
      unfold putRowK putRow mapBlock
      show (Array.modify w.heap g _)[k]? = _
      rw [Array.getElem?_modify, if_neg (by omega)]
end Go.Proofs.YthhpoihfaggafaaDoor.Or
namespace Go.Proofs.YthhpoihfaggafaaDoor.Or
open Go Go.Shelf Go.RowKit Go.Lib Go.Sort Go.Proofs StM

def insRen : Go.Shelf.Ren := ⟨fun | 20 => 146 | n => n, fun | 24 => 45 | 22 => 25 | 3 => 3 | 25 => 138 | 4 => 4 | 0 => 0 | n => n, fun | n => n⟩
theorem insLay : Go.Proofs.SlLaysF0.n20 Tryd.prog insRen := {
  mixed := by kernel_rfl
  f20 := ⟨Tryd.f146.name, by decide, Tryd.func146.trans (congrArg some (by kernel_rfl))⟩
  t0 := Tryd.underlying0
  a0 := Tryd.isAgg0
  z0 := Tryd.sizeOf0
  v0 := Tryd.zeroValue0
  t3 := Tryd.underlying3
  a3 := Tryd.isAgg3
  z3 := Tryd.sizeOf3
  v3 := Tryd.zeroValue3
  t4 := Tryd.underlying4
  a4 := Tryd.isAgg4
  z4 := Tryd.sizeOf4
  v4 := Tryd.zeroValue4
  t22 := Tryd.underlying25
  a22 := Tryd.isAgg25
  z22 := Tryd.sizeOf25
  v22 := Tryd.zeroValue25
  t25 := Tryd.underlying138
  a25 := Tryd.isAgg138
  z25 := Tryd.sizeOf138
  v25 := Tryd.zeroValue138 }
theorem sortP : SP Tryd.prog 6 := {
  mixed := by kernel_rfl
  fSwap := Tryd.func159
  fRot := Tryd.func153
  fSym := Tryd.func147
  fStab := Tryd.func133
  t0 := Tryd.underlying0
  a0 := Tryd.isAgg0
  z0 := Tryd.sizeOf0
  v0 := Tryd.zeroValue0
  t3 := Tryd.underlying3
  a3 := Tryd.isAgg3
  z3 := Tryd.sizeOf3
  v3 := Tryd.zeroValue3
  t4 := Tryd.underlying4
  a4 := Tryd.isAgg4
  z4 := Tryd.sizeOf4
  v4 := Tryd.zeroValue4
  t22 := Tryd.underlying25
  a22 := Tryd.isAgg25
  z22 := Tryd.sizeOf25
  v22 := Tryd.zeroValue25
  t25 := Tryd.underlying138
  a25 := Tryd.isAgg138
  z25 := Tryd.sizeOf138
  v25 := Tryd.zeroValue138
  t48 := Tryd.underlying180
  a48 := Tryd.isAgg180
  z48 := Tryd.sizeOf180
  v48 := Tryd.zeroValue180
  aE := Tryd.isAgg45
  zE := Tryd.sizeOf45 }

theorem cmpLays (blk off size : Nat) (w : World) : CmpLays Tryd.prog 69 #[] encE 6 evCmp blk off size w := fun _ _ _ _ x y =>
  (byKey_any x y _).mono fun _ _ ⟨he, os, hw⟩ => ⟨he, 0, os, hw⟩
theorem rowE {w0 : World} {blk off : Nat} {d : Array Ev} (hH : HoldsK encE 6 w0 blk off d) (hb : blk < w0.heap.size) : RowK encE 6 w0 blk off d := ⟨encE_len, encE_one, hH, hb⟩

set_option maxHeartbeats 1000000 in
/-- insertionSort, from a world of the sort's to one -/
theorem ins_w (blk off cap n a b : Nat) (d0 d : Array Ev) (w0 w : World) (R : RowK encE 6 w0 blk off d0) (hs : d0.size = n) (hz : d.size = n) (S : SWK encE 6 w0 blk off d w) (hab : a ≤ b) (hb : b ≤ n) (hsz : n < 4611686018427387904) :
    Calls Tryd.prog 146 #[.slice (some ⟨blk, off, none⟩) n cap, .int .i64 a, .int .i64 b, .func (.func 69) #[] #[]] w (Srt encE 6 w0 blk off (SymTo (ltOf evCmp) a b d)) := by
  subst hz
  have hO : SWO (ltOf evCmp) := by rw [ltOf_evCmp]; exact evLt_swo
  have hs' : (Sort.insertionSort (ltOf evCmp) d a b).size = d.size := (insertionSort_holds hO d a b hab hb).1.1
  have eg : ∀ args w, (callFunc 69 args).run Tryd.prog w = .ok (.enter 69 args) w := enters_of Tryd.func69 (by kernel_rfl) rfl
  refine (AnyQ.insertionSortCmpFunc insLay 6 Tryd.isAgg45 Tryd.sizeOf45 encE R.hk R.h1 evCmp 69 #[] blk off cap a b d w eg (cmpLays _ _ _ _) (S.holds R.hblk R.hH hs.symm) (S.lt R.hblk) hab hb hsz).mono ?_
  rintro e w' ⟨rfl, n, os, rfl⟩
  exact ⟨rfl, _, S.on R.hblk n _ os hs', ins_sym hO d hab hb⟩

theorem stableE (blk off cap n : Nat) (d : Array Ev) (w : World) (hH : HoldsK encE 6 w blk off d) (hb : blk < w.heap.size) (hs : d.size = n) (hsz : n < 576460752303423488) :
    Calls Tryd.prog 133 #[.slice (some ⟨blk, off, none⟩) n cap, .int .i64 n, .func (.func 69) #[] #[]] w (Srt encE 6 w blk off (SymTo (ltOf evCmp) 0 n d)) := by
  have hO : SWO (ltOf evCmp) := by rw [ltOf_evCmp]; exact evLt_swo
  have R := rowE hH hb
  exact stable_w sortP encE evCmp 69 #[] hO blk off cap n d w w (enters_of Tryd.func69 (by kernel_rfl) rfl) (cmpLays _ _ _ _) R hs hsz (SWK.start hH) (enters_of Tryd.func146 (by kernel_rfl) rfl)
    fun a b d' w' hz S hab hb => ins_w blk off cap n a b d d' w w' R hs hz S hab hb (by omega)

/-- nothing is told; the world is as it was -/
def Nil0 (w : World) (e : Ending) (w' : World) : Prop := e = .returned (.tuple #[]) ∧ w = w'
set_option maxHeartbeats 1000000 in
theorem ins_nil (w : World) : Calls Tryd.prog 146 #[.slice none 0 0, .int .i64 0, .int .i64 0, .func (.func 69) #[] #[]] w (Nil0 w) := by
  go_enter Tryd.func146, Tryd.ntmps146
  go_wp2
  refine wp_loop_rounds 1 ?_
  rw [rounds_succ]
  go_wp2
  go_end0
  exact ⟨rfl, rfl⟩
set_option maxHeartbeats 1000000 in
theorem stable_nil (w : World) : Calls Tryd.prog 133 #[.slice none 0 0, .int .i64 0, .func (.func 69) #[] #[]] w (Nil0 w) := by
  go_enter Tryd.func133, Tryd.ntmps133
  go_wp2
  refine wp_loop_rounds 1 ?_
  rw [rounds_succ]
  go_wp2_with (go_at_call 146; refine (ins_nil _).mono ?_; rintro e w1 ⟨rfl, rfl⟩)
  refine wp_loop_rounds 1 ?_
  rw [rounds_succ]
  go_wp2
  go_end0
  exact ⟨rfl, rfl⟩
end Go.Proofs.YthhpoihfaggafaaDoor.Or
namespace Go.Proofs.YthhpoihfaggafaaDoor.Or
open Go Go.Shelf Go.RowKit Go.Lib Go.Sort Go.Proofs StM

theorem infoE : (Tryd.prog.info? 45).map (fun i => (i.zero, i.size, i.bytes)) = some (some (.agg #[.int .i64 0, .int .i64 0, .int .i64 0, .int .i64 0, .int .i64 0, .int .i64 0]), 6, 48) := by kernel_rfl
theorem infoK : (Tryd.prog.info? 43).map (fun i => (i.zero, i.size, i.bytes)) = some (some (.agg #[.int .i64 0, .int .i64 0, .int .i64 0]), 3, 24) := by kernel_rfl
def EvTo (l : List Ev) (w : World) (e : Ending) (w' : World) : Prop := ∃ v, e = .returned v ∧ EvOwn w.heap.size w' v l ∧ Below w.heap.size w w'

theorem evAt_news {w : World} {ad : Addr} {n : Nat} {l : List Ev} (h : EvAt w (some ad) n l) : ∀ j u, (evCells l)[j]? = some u → w.cell? (ad.add j) = some u := by
  intro j u hj
  obtain ⟨h1, h2, h3 | ⟨B, off, e, hB, hc⟩⟩ := h
  · have : (evCells l).length = 0 := by rw [evCells_len]; omega
    rw [List.eq_nil_of_length_eq_zero this] at hj
    cases hj
  · cases e
    rw [Addr.add_lit]
    exact EvAt.news ⟨h1, h2, .inr ⟨B, off, rfl, hB, hc⟩⟩ j u hj

set_option maxHeartbeats 2000000 in
set_option maxRecDepth 100000 in
theorem clone_any (w : World) (a : Option Addr) (n c : Nat) (l : List Ev) (hl : EvAt w a n l) : Calls Tryd.prog 40 #[.slice a n c] w (EvTo l w) := by
  obtain ⟨i0, hi, hz0, hz1, hz2⟩ := info_parts infoE
  have q22 : ∀ (w : World) (a : Option Addr) (n c n' c' : Nat), (binOp .eql 25 (.slice a n c) (.slice none n' c')).run Tryd.prog w = .ok (.bool a.isNone) w := fun w a n c n' c' => Lib.run_eql_slice_nil w _ _ a n c n' c' Tryd.underlying25
  have hn := hl.1
  have hn2 := hl.2.1
  have HL := Lib.hid hl
  have HN := Lib.hid hn
  clear hl hn
  cases a with
  | none =>
    have h0 : n = 0 := by
      obtain ⟨_, _, h | ⟨_, _, h, _⟩⟩ := HL.out
      · exact h
      · cases h
    have H0 := Lib.hid h0
    clear h0
    go_enter Tryd.func40, Tryd.ntmps40
    go_wp2
    go_ret
    refine ⟨_, rfl, ?_, Below.refl _ _⟩
    have : l = [] := List.eq_nil_of_length_eq_zero (by rw [HN.out, H0.out])
    rw [this]
    exact World.ownsRow_nil _ _ _ _
  | some ad =>
    go_enter Tryd.func40, Tryd.ntmps40
    go_wp2_with (at_builtin; refine wpList_append_own _ rfl _ _ 25 rfl w.heap.size 45 i0 _ 6 48 Tryd.underlying25 hi hz0 hz1 hz2 rfl (by decide) _ _ _ rfl (World.ownsRow_made w #[] 0 (Nat.le_refl _) (Nat.zero_le _) (by simp)) ad n c (evCells l) rfl ?qc1 ?qc2 ?qc3 ?qc4 ?qc5 ?qc6 ?_)
    case qc1 => rw [evCells_len, HN.out]
    case qc2 => exact evAt_news (HL.out.below ((Below.refl _ w).alloc (Nat.le_refl _) _))
    case qc3 => exact evCells_one l
    case qc4 => unfold maxLen; omega
    case qc5 => omega
    case qc6 => simp
    intro v' w1 hown hgrow _
    have HOWN := Lib.hid hown
    have HG := Lib.hid hgrow
    clear hown hgrow
    go_wp2
    go_ret
    refine ⟨v', rfl, ?_, ?_⟩
    · have h := HOWN.out
      rw [← HN.out] at h
      exact h
    · exact ((Below.refl _ w).alloc (Nat.le_refl _) _).grown HG.out (by simp) (by intro k hk; simp [Value.ownBlock] at hk; omega)

def SortTo (B : Nat) (v : Value) (l : List Ev) (w : World) (e : Ending) (w' : World) : Prop := e = .returned (.tuple #[]) ∧ EvOwn B w' v (evSort l) ∧ Below B w w'
set_option maxHeartbeats 1000000 in
theorem sortStable_any (B : Nat) (w : World) (v : Value) (l : List Ev) (h : EvOwn B w v l) (hl : l.length ≤ 1000000) : Calls Tryd.prog 102 #[v, .func (.func 69) #[] #[]] w (SortTo B v l w) := by
  have H := Lib.hid h
  obtain ⟨h1, ⟨rfl, hn⟩ | ⟨g, cap, cur, rfl, hg, hh, hc, hm, hs, ht⟩⟩ := h
  · have HN := Lib.hid hn
    clear hn h1
    go_enter Tryd.func102, Tryd.ntmps102
    go_wp2_with fail
    refine (stable_nil _).mono ?_
    rintro e w1 ⟨rfl, rfl⟩
    go_wp2
    go_end0
    refine ⟨rfl, ?_, Below.refl _ _⟩
    have : l = [] := List.eq_nil_of_length_eq_zero HN.out
    rw [this]
    exact World.ownsRow_nil _ _ _ _
  · have hlt : g < w.heap.size := (Array.getElem?_eq_some_iff.1 hh).1
    have HC := stableE g 0 cap l.length l.toArray w (own_holds hh ht) hlt (by simp) (by omega)
    have HX : Hid (_ ∧ _ ∧ _ ∧ _ ∧ _) := ⟨hh, hg, hc, hm, hs⟩
    obtain ⟨n, hn⟩ : ∃ n, n = l.length := ⟨_, rfl⟩
    rw [← hn] at HC ⊢
    have HN := Lib.hid hn
    have HCC := Lib.hid HC
    clear HC hh hg hc hm hs ht h1 hn
    go_enter Tryd.func102, Tryd.ntmps102
    go_wp2_with (go_at_call 133; refine HCC.out.mono ?_; rintro e w1 ⟨rfl, d', S1, hR⟩; have H1 := Lib.hid (And.intro S1 hR); clear S1 hR)
    go_end0
    obtain ⟨x1, x2, x3, x4, x5⟩ := HX.out
    obtain ⟨S1, hR⟩ := H1.out
    have hsz : d'.size = l.length := by rw [hR.kept.size]; simp
    obtain ⟨y1, y2⟩ := sorted_own (B := B) x1 x2 x3 x4 x5 hsz S1
    have e : d'.toList = evSort l := by
      have hO : SWO (ltOf evCmp) := by rw [ltOf_evCmp]; exact evLt_swo
      have hR' : SymTo (ltOf evCmp) 0 l.toArray.size l.toArray d' := by rw [show l.toArray.size = n by rw [HN.out]; simp]; exact hR
      have := isort_unique hO hR'
      rw [this, ltOf_evCmp]
      rfl
    rw [e] at y1
    refine ⟨rfl, ?_, y2.mono x2⟩
    rw [HN.out]
    exact y1

theorem sorted_len (l : List Ev) : (evSort l).length = l.length := by
  have key : ∀ (t acc : List Ev), (t.foldl (put evLt) acc).length = acc.length + t.length := by
    intro t
    induction t with
    | nil => intro acc; rfl
    | cons x t ih =>
      intro acc
      rw [List.foldl_cons, ih]
      have : ∀ (m : List Ev), (put evLt m x).length = m.length + 1 := by
        intro m
        induction m with
        | nil => rfl
        | cons y m ihm =>
          rw [put]
          split
          · rfl
          · rw [List.length_cons, ihm]
            rfl
      rw [this, List.length_cons]
      omega
  have h := key l []
  rw [List.length_nil, Nat.zero_add] at h
  exact h

set_option maxHeartbeats 1000000 in
theorem sorted_any (w : World) (a : Option Addr) (n c : Nat) (l : List Ev) (hl : EvAt w a n l) : Calls Tryd.prog 79 #[.slice a n c] w (EvTo (evSort l) w) := by
  have hn2 : l.length ≤ 1000000 := by have := hl.1; have := hl.2.1; omega
  have HL := Lib.hid hl
  clear hl
  go_enter Tryd.func79, Tryd.ntmps79
  go_wp2_with (first
    | (go_at_call 40; refine (clone_any _ _ _ _ l HL.out).mono ?_; rintro e w1 ⟨v, rfl, ho, hb⟩; have H1 := Lib.hid (And.intro ho hb); clear ho hb)
    | (go_at_call 102; refine (sortStable_any w.heap.size _ v l H1.out.1 hn2).mono ?_; rintro e w2 ⟨rfl, ho, hb⟩; have H2 := Lib.hid (And.intro ho hb); clear ho hb))
  go_ret
  exact ⟨v, rfl, H2.out.1, H1.out.2.trans H2.out.2⟩
end Go.Proofs.YthhpoihfaggafaaDoor.Or
