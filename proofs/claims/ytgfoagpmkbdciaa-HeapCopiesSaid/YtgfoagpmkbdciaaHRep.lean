/-
  A heap of items and the list that it stands for: places by names, what is put, taken, dropped; no program.
-/
import Derived.Test.YtgfoagpmkbdciaaHMath
namespace Go.Proofs.Ytgfoagpmkbdciaa
open Go.Sort HpM

/-- what names tell -/
abbrev Pl := Nm → Option Nat
def fset (f : Pl) (n : Nm) (v : Nat) : Pl := fun m => if m = n then some v else f m
def fdel (f : Pl) (n : Nm) : Pl := fun m => if m = n then none else f m
/-- each name tells where its item stands, and no other name tells anything -/
structure Plc (f : Pl) (d : Array It) : Prop where
  at_ : ∀ i, i < d.size → f (nm d[i]!) = some i
  only : ∀ n k, f n = some k → k < d.size ∧ nm d[k]! = n
theorem Plc.inj {f : Pl} {d : Array It} (h : Plc f d) {i j : Nat} (hi : i < d.size) (hj : j < d.size) (he : nm d[i]! = nm d[j]!) : i = j := by
  have a := h.at_ i hi
  rw [he, h.at_ j hj] at a
  exact (Option.some.inj a).symm
theorem Plc.none {f : Pl} {d : Array It} (h : Plc f d) {n : Nm} (hn : ∀ i, i < d.size → nm d[i]! ≠ n) : f n = none := by
  cases e : f n with
  | none => rfl
  | some k => exact absurd (h.only n k e).2 (hn k (h.only n k e).1)
theorem Plc.empty : Plc (fun _ => Option.none) #[] := ⟨fun i hi => absurd hi (Nat.not_lt_zero _), fun n k h => by cases h⟩
theorem Plc.swap {f : Pl} {d : Array It} (h : Plc f d) {i j : Nat} (hi : i < d.size) (hj : j < d.size) :
    Plc (fset (fset f (nm (swp d i j)[i]!) i) (nm (swp d i j)[j]!) j) (swp d i j) := by
  have g := swp_get d hi hj
  have gj : (swp d i j)[j]! = d[i]! := by rw [g, if_pos rfl]
  have gi : (swp d i j)[i]! = d[j]! := by
    rw [g]
    split
    · next e => rw [e]
    · rw [if_pos rfl]
  constructor
  · intro k hk
    rw [swp_size] at hk
    unfold fset
    by_cases e1 : k = j
    · subst e1
      rw [if_pos rfl]
    · by_cases e2 : k = i
      · subst e2
        rw [gi, gj, if_neg (fun e => e1 (h.inj hj hk e).symm), if_pos rfl]
      · have : (swp d i j)[k]! = d[k]! := by rw [g, if_neg e1, if_neg e2]
        rw [this, gi, gj, if_neg (fun e => e2 (h.inj hk hi e)), if_neg (fun e => e1 (h.inj hk hj e))]
        exact h.at_ k hk
  · intro n k hk
    rw [swp_size]
    unfold fset at hk
    split at hk
    · next e =>
      cases hk
      exact ⟨hj, e.symm⟩
    · next e1 =>
      split at hk
      · next e =>
        cases hk
        exact ⟨hi, e.symm⟩
      · next e2 =>
        obtain ⟨a, b⟩ := h.only n k hk
        refine ⟨a, ?_⟩
        have k1 : k ≠ i := fun e => e1 (by rw [gj, ← e, b])
        have k2 : k ≠ j := fun e => e2 (by rw [gi, ← e, b])
        rw [g, if_neg k2, if_neg k1]
        exact b
theorem push_get (d : Array It) (x : It) (k : Nat) (hk : k < d.size) : (d.push x)[k]! = d[k]! := by
  rw [getElem!_pos _ k (by simp; omega), getElem!_pos d k hk, Array.getElem_push_lt hk]
theorem push_last (d : Array It) (x : It) : (d.push x)[d.size]! = x := by
  rw [getElem!_pos _ d.size (by simp)]
  simp
theorem pop_get (d : Array It) (k : Nat) (hk : k < d.pop.size) : d.pop[k]! = d[k]! := by
  have : k < d.size := by simp at hk; omega
  rw [getElem!_pos _ k hk, getElem!_pos d k this, Array.getElem_pop]
theorem Plc.push {f : Pl} {d : Array It} {x : It} (h : Plc f d) (hx : f (nm x) = Option.none) : Plc (fset f (nm x) d.size) (d.push x) := by
  constructor
  · intro i hi
    have hi' : i < d.size + 1 := by simpa using hi
    unfold fset
    by_cases e : i = d.size
    · subst e
      rw [push_last, if_pos rfl]
    · rw [push_get d x i (by omega), if_neg]
      · exact h.at_ i (by omega)
      · intro e2
        rw [← e2, h.at_ i (by omega)] at hx
        cases hx
  · intro n k hk
    unfold fset at hk
    split at hk
    · next e =>
      cases hk
      exact ⟨by simp, by rw [push_last]; exact e.symm⟩
    · obtain ⟨a, b⟩ := h.only n k hk
      exact ⟨by simp; omega, by rw [push_get d x k a]; exact b⟩
theorem Plc.pop {f : Pl} {d : Array It} (h : Plc f d) (hd : 0 < d.size) : Plc (fdel f (nm d[d.size - 1]!)) d.pop := by
  constructor
  · intro i hi
    have hi' : i < d.size - 1 := by simpa using hi
    rw [pop_get d i hi]
    unfold fdel
    rw [if_neg (fun e => by have := h.inj (by omega) (by omega) e; omega)]
    exact h.at_ i (by omega)
  · intro n k hk
    unfold fdel at hk
    split at hk
    · cases hk
    · next e =>
      obtain ⟨a, b⟩ := h.only n k hk
      have : k ≠ d.size - 1 := fun e2 => e (by rw [← e2, b])
      have hk' : k < d.pop.size := by simp; omega
      exact ⟨hk', by rw [pop_get d k hk']; exact b⟩

theorem mem_iff_get {d : Array It} {x : It} : x ∈ d.toList ↔ ∃ i, i < d.size ∧ d[i]! = x := by
  constructor
  · intro h
    obtain ⟨i, hi, e⟩ := List.getElem_of_mem h
    have hi' : i < d.size := by simpa using hi
    exact ⟨i, hi', by rw [getElem!_pos d i hi']; simpa using e⟩
  · rintro ⟨i, hi, e⟩
    rw [getElem!_pos d i hi] at e
    rw [← e]
    simp
theorem get_list {d : Array It} {i : Nat} (hi : i < d.size) : d.toList[i]'(by simpa using hi) = d[i]! := by
  rw [getElem!_pos d i hi]
  simp

/-- a heap's items and the list for which they stand -/
structure Rep (f : Pl) (d : Array It) (L : List It) : Prop where
  plc : Plc f d
  perm : d.toList.Perm L
  asc : Asc1 iLt L
  hp : HP iLt d
theorem Rep.empty : Rep (fun _ => none) #[] [] := ⟨Plc.empty, List.Perm.refl _, List.Pairwise.nil, fun _ _ h => absurd h (Nat.not_lt_zero _)⟩
theorem Rep.size {f : Pl} {d : Array It} {L : List It} (h : Rep f d L) : d.size = L.length := by
  have := h.perm.length_eq
  simpa using this
theorem Rep.mem {f : Pl} {d : Array It} {L : List It} (h : Rep f d L) {x : It} : x ∈ L ↔ ∃ i, i < d.size ∧ d[i]! = x := by
  rw [← h.perm.mem_iff, mem_iff_get]
/-- two of one name are one -/
theorem Rep.one {f : Pl} {d : Array It} {L : List It} (h : Rep f d L) {x y : It} (hx : x ∈ L) (hy : y ∈ L) (he : nm x = nm y) : x = y := by
  obtain ⟨i, hi, rfl⟩ := h.mem.1 hx
  obtain ⟨j, hj, rfl⟩ := h.mem.1 hy
  rw [h.plc.inj hi hj he]
theorem Rep.has {f : Pl} {d : Array It} {L : List It} (h : Rep f d L) (n : Nm) : (f n).isSome = true ↔ ∃ x ∈ L, nm x = n := by
  constructor
  · intro hs
    obtain ⟨k, hk⟩ := Option.isSome_iff_exists.1 hs
    obtain ⟨a, b⟩ := h.plc.only n k hk
    exact ⟨_, h.mem.2 ⟨k, a, rfl⟩, b⟩
  · rintro ⟨x, hx, rfl⟩
    obtain ⟨i, hi, rfl⟩ := h.mem.1 hx
    rw [h.plc.at_ i hi]
    rfl
theorem Rep.least {f : Pl} {d : Array It} {x : It} {t : List It} (h : Rep f d (x :: t)) : d[0]! = x := by
  have hs := h.size
  have h0 : 0 < d.size := by rw [hs]; simp
  obtain ⟨i, hi, e⟩ := h.mem.1 (show x ∈ x :: t by simp)
  have a := h.hp.root iLt_swo i hi
  rw [e] at a
  exact asc_head h.asc (h.mem.2 ⟨0, h0, rfl⟩) a
/-- of the leaves none comes behind it: it is the last one -/
theorem Rep.most {f : Pl} {d : Array It} {x y : It} {t : List It} (h : Rep f d (t ++ [x])) (hy : ∃ i, d.size / 2 ≤ i ∧ i < d.size ∧ d[i]! = y)
    (hm : ∀ i, d.size / 2 ≤ i → i < d.size → iLt y d[i]! = false) : y = x := by
  obtain ⟨i, _, hi, rfl⟩ := hy
  obtain ⟨j, hj, e⟩ := h.mem.1 (show x ∈ t ++ [x] by simp)
  have hleaf : d.size / 2 ≤ j := by
    by_cases hc : 2 * j + 1 < d.size
    · exfalso
      have a := h.hp (2 * j + 1) (by omega) hc
      unfold Ok at a
      rw [show (2 * j + 1 - 1) / 2 = j by omega, e] at a
      have b := asc_last h.asc (h.mem.2 ⟨2 * j + 1, hc, rfl⟩) a
      have := h.plc.inj hc hj (by rw [b, e])
      omega
    · omega
  have := hm j hleaf hj
  rw [e] at this
  exact asc_last h.asc (h.mem.2 ⟨i, hi, rfl⟩) this
/-- sorted, they are the list -/
theorem Rep.sorted {f : Pl} {d : Array It} {L l : List It} (h : Rep f d L) (hp : l.Perm d.toList) (hs : l.Pairwise fun x y => iLt y x = false) : l = L :=
  asc_eq iLt_swo h.asc (hp.trans h.perm) hs
/-- an item put -/
theorem Rep.put {f f' : Pl} {d d' : Array It} {L : List It} {x : It} (h : Rep f d L) (hx : f (nm x) = none) (hf : Plc f' d') (hp : d'.toList.Perm (d.push x).toList) (hh : HP iLt d') : Rep f' d' (ins iLt L x) := by
  refine ⟨hf, ?_, ?_, hh⟩
  · refine hp.trans ?_
    rw [Array.toList_push]
    exact (h.perm.append_right [x]).trans (ins_perm L x).symm
  · refine ins_asc iLt_swo h.asc fun y hy hl => iLt_of_nlt hl fun e => ?_
    have := (h.has (nm x)).2 ⟨y, hy, e⟩
    rw [hx] at this
    cases this
/-- an item taken away -/
theorem Rep.drop {f f' : Pl} {d d' : Array It} {L : List It} {x : It} (h : Rep f d L) (hf : Plc f' d') (hp : d.toList.Perm (x :: d'.toList)) (hh : HP iLt d') : Rep f' d' (L.erase x) := by
  refine ⟨hf, ?_, ?_, hh⟩
  · have := h.perm.symm.trans hp
    have e := this.erase x
    rw [List.erase_cons_head] at e
    exact e.symm
  · exact h.asc.sublist (List.erase_sublist)
theorem swp_perm (d : Array It) {i j : Nat} (hi : i < d.size) (hj : j < d.size) : (swp d i j).toList.Perm d.toList := by
  have h := swp_permIn (α := It) d 0 d.size i j (Nat.zero_le _) hi (Nat.zero_le _) hj (Nat.le_refl _)
  have := h.2.2
  rwa [show (swp d i j).extract 0 d.size = swp d i j from Array.extract_eq_self_of_le (by rw [swp_size]; exact Nat.le_refl _), show d.extract 0 d.size = d from Array.extract_eq_self_of_le (Nat.le_refl _)] at this
theorem pop_perm (d : Array It) (h : 0 < d.size) : d.toList.Perm (d[d.size - 1]! :: d.pop.toList) := by
  have e : d.toList = d.pop.toList ++ [d[d.size - 1]!] := by
    have hne : d.toList ≠ [] := by
      intro e
      have : d.size = 0 := by rw [← Array.length_toList, e]; rfl
      omega
    rw [Array.toList_pop]
    conv => lhs; rw [← List.dropLast_concat_getLast hne]
    congr 1
    rw [List.getLast_eq_getElem, get_list (by simp; omega)]
    simp
  conv => lhs; rw [e]
  exact List.perm_append_singleton _ _
end Go.Proofs.Ytgfoagpmkbdciaa
