/-
  The mathematics of reading programs' texts. It names no program.
-/
import Derived.Test.YtlgbkbmjfmomkaaDoorCMath
import Derived.Lib.IndexMore
import Derived.Lib.ParseIntB
import Derived.Lib.ItoaLen
namespace CodM
open Go

/-- what stands ahead of the first b, and behind it -/
def cutAt (b : UInt8) : List UInt8 → Option (List UInt8 × List UInt8)
  | [] => none
  | x :: t => if x = b then some ([], t) else (cutAt b t).map fun p => (x :: p.1, p.2)
theorem cutAt_some {b : UInt8} : ∀ {l x r : List UInt8}, cutAt b l = some (x, r) → l = x ++ b :: r ∧ b ∉ x
  | [], x, r, h => by simp [cutAt] at h
  | y :: t, x, r, h => by
    unfold cutAt at h
    split at h
    · rename_i e; subst e; cases h; simp
    · rename_i e
      obtain ⟨⟨x', r'⟩, h1, h2⟩ := Option.map_eq_some_iff.1 h
      cases h2
      obtain ⟨h3, h4⟩ := cutAt_some h1
      refine ⟨by rw [h3]; rfl, ?_⟩
      simp only [List.mem_cons, not_or]
      exact ⟨fun h => e h.symm, h4⟩
theorem cutAt_none {b : UInt8} : ∀ {l : List UInt8}, cutAt b l = none → b ∉ l
  | [], _ => by simp
  | y :: t, h => by
    unfold cutAt at h
    split at h
    · cases h
    · rename_i e
      simp only [List.mem_cons, not_or]
      exact ⟨fun h => e h.symm, cutAt_none (Option.map_eq_none_iff.1 h)⟩
theorem cutAt_of {b : UInt8} : ∀ (x r : List UInt8), b ∉ x → cutAt b (x ++ b :: r) = some (x, r)
  | [], r, _ => by simp [cutAt]
  | y :: t, r, h => by
    simp only [List.mem_cons, not_or] at h
    show cutAt b (y :: (t ++ b :: r)) = _
    unfold cutAt
    rw [if_neg (fun e => h.1 e.symm), cutAt_of t r h.2]
    rfl
theorem index_cut (b : UInt8) : ∀ l : List UInt8, Lib.index l [b] = match cutAt b l with | none => -1 | some (x, _) => (x.length : Int)
  | [] => rfl
  | y :: t => by
    unfold Lib.index cutAt
    have ih := index_cut b t
    by_cases e : y = b
    · subst e; simp
    · have : ([b] : List UInt8).isPrefixOf (y :: t) = false := by simp [List.isPrefixOf]; exact fun h => e h.symm
      rw [this, if_neg (by decide), if_neg e, ih]
      rcases cutAt b t with _ | ⟨x, r⟩
      · rfl
      · simp only [Option.map_some]
        have : ((x.length : Int) == -1) = false := by rw [beq_eq_false_iff_ne]; omega
        rw [this]
        simp
theorem lib_cut_some {b : UInt8} {l x r : List UInt8} (h : cutAt b l = some (x, r)) : Lib.cut l [b] = (x, r, true) := by
  have hi := index_cut b l
  rw [h] at hi
  simp only at hi
  obtain ⟨h1, _⟩ := cutAt_some h
  unfold Lib.cut
  rw [hi, if_pos (by omega)]
  simp only [Int.toNat_natCast, List.length_singleton]
  rw [h1]
  simp
theorem lib_cut_none {b : UInt8} {l : List UInt8} (h : cutAt b l = none) : Lib.cut l [b] = (l, [], false) := by
  have hi := index_cut b l
  rw [h] at hi
  simp only at hi
  unfold Lib.cut
  rw [hi, if_neg (by omega)]

/- numbers -/
theorem digit_mem : ∀ (u : Nat), ∀ x ∈ Lib.decDigits u, 48 ≤ x.toNat ∧ x.toNat ≤ 57 := by
  intro u
  induction u using Nat.strongRecOn with
  | _ u ih =>
    intro x hx
    rw [Lib.decDigits] at hx
    split at hx
    · rename_i h
      rw [List.mem_singleton.1 hx, UInt8.toNat_ofNat', Nat.mod_eq_of_lt (by omega)]
      omega
    · rename_i h
      rcases List.mem_append.1 hx with hx | hx
      · exact ih (u / 10) (by omega) x hx
      · rw [List.mem_singleton.1 hx, UInt8.toNat_ofNat', Nat.mod_eq_of_lt (by omega)]
        omega
theorem decDigits_ne (u : Nat) : Lib.decDigits u ≠ [] := by
  rw [Lib.decDigits]
  split <;> simp
theorem parseUintM_snoc (M : Nat) (d : UInt8) : ∀ (l : List UInt8) (acc : Nat), Lib.parseUintM M acc (l ++ [d]) = match Lib.parseUintM M acc l with
    | .ok a => Lib.parseUintM M a [d]
    | .syntax => .syntax
    | .range => .range
  | [], acc => by simp [Lib.parseUintM]
  | c :: r, acc => by
    show Lib.parseUintM M acc (c :: (r ++ [d])) = _
    rw [Lib.parseUintM, Lib.parseUintM.eq_2 M acc c r]
    split
    · split
      · rfl
      · split
        · rfl
        · exact parseUintM_snoc M d r _
    · rfl
theorem parseUint_dec (u : Nat) (h : u ≤ 18446744073709551615) : Lib.parseUintM 18446744073709551615 0 (Lib.decDigits u) = .ok u := by
  induction u using Nat.strongRecOn with
  | _ u ih =>
    rw [Lib.decDigits]
    split
    · rename_i h10
      have e : (UInt8.ofNat (48 + u)).toNat = 48 + u := by rw [UInt8.toNat_ofNat', Nat.mod_eq_of_lt (by omega)]
      rw [Lib.parseUintM, e, if_pos (by omega), if_neg (by omega), if_neg (by omega), Lib.parseUintM]
      congr 1
      omega
    · rename_i h10
      rw [parseUintM_snoc, ih (u / 10) (by omega) (by omega)]
      have e : (UInt8.ofNat (48 + u % 10)).toNat = 48 + u % 10 := by rw [UInt8.toNat_ofNat', Nat.mod_eq_of_lt (by omega)]
      simp only
      rw [Lib.parseUintM, e, if_pos (by omega), if_neg (by omega), if_neg (by omega), Lib.parseUintM]
      congr 1
      omega
theorem parse_itoa (v : Int) (h0 : -9223372036854775808 ≤ v) (h1 : v ≤ 9223372036854775807) : Lib.parseIntB 64 (Lib.itoa v) = .ok v := by
  unfold Lib.itoa
  split
  · rename_i hn
    have hu : v.natAbs ≤ 9223372036854775808 := by omega
    unfold Lib.parseIntB
    simp only
    have e45 : (45 : UInt8).toNat = 45 := rfl
    have hpp : Lib.parseUintB 64 (Lib.decDigits v.natAbs) = .ok v.natAbs := by
      unfold Lib.parseUintB
      rw [if_neg (decDigits_ne _), show (2 : Nat) ^ 64 - 1 = 18446744073709551615 from by decide, parseUint_dec _ (by omega)]
    simp only [e45, or_true, if_true, hpp, not_true, false_and, if_false, true_and]
    rw [if_neg (by show ¬ (9223372036854775808 < v.natAbs); omega)]
    congr 1
    omega
  · rename_i hn
    have hu : v.toNat ≤ 9223372036854775807 := by omega
    have hp := parseUint_dec v.toNat (by omega)
    rcases hd : Lib.decDigits v.toNat with _ | ⟨c, r⟩
    · exact absurd hd (decDigits_ne _)
    · have hc := digit_mem v.toNat c (by rw [hd]; simp)
      rw [hd] at hp
      unfold Lib.parseIntB
      simp only
      rw [if_neg (by omega)]
      unfold Lib.parseUintB
      rw [if_neg (by simp), show (2 : Nat) ^ 64 - 1 = 18446744073709551615 from by decide, hp]
      simp only
      rw [if_neg (by rintro ⟨_, h⟩; have : 9223372036854775808 ≤ v.toNat := h; omega), if_neg (by rintro ⟨h, _⟩; omega), if_neg (by omega)]
      congr 1
      omega
/-- the number that digits write -/
def numRd (l : List UInt8) : Option Int := match Lib.parseIntB 64 l with
  | .ok v => if Lib.itoa v = l then some v else none
  | _ => none
theorem numRd_itoa (v : Int) (h0 : -9223372036854775808 ≤ v) (h1 : v ≤ 9223372036854775807) : numRd (Lib.itoa v) = some v := by
  unfold numRd
  rw [parse_itoa v h0 h1]
  simp
theorem numRd_some {l : List UInt8} {v : Int} (h : numRd l = some v) : l = Lib.itoa v := by
  unfold numRd at h
  split at h
  · split at h
    · rename_i e; cases h; exact e.symm
    · cases h
  · cases h
theorem itoa_mem (v : Int) : ∀ x ∈ Lib.itoa v, x.toNat = 45 ∨ (48 ≤ x.toNat ∧ x.toNat ≤ 57) := by
  intro x hx
  unfold Lib.itoa at hx
  split at hx
  · rcases List.mem_cons.1 hx with rfl | hx
    · exact .inl (by simp)
    · exact .inr (digit_mem _ x hx)
  · exact .inr (digit_mem _ x hx)
theorem itoa_no (v : Int) (b : UInt8) (hb : b.toNat < 45) : b ∉ Lib.itoa v := fun h => by
  have := itoa_mem v b h
  omega
end CodM
