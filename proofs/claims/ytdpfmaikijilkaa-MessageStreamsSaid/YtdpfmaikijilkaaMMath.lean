/-
  Numbers as bytes, the highest first; wires that write or read; no program.
-/
import Derived.Lib.SliceRun
import Derived.RowKit
namespace Go.Proofs.Ytdpfmaikijilkaa
open Go Go.RowKit

/-- a number of 64 bits -/
def I64 (n : Int) : Prop := -9223372036854775808 ≤ n ∧ n ≤ 9223372036854775807
/-- one of 32 bits without a sign -/
def U32 (n : Int) : Prop := 0 ≤ n ∧ n ≤ 4294967295
theorem wrap64_mod {n : Int} (h : I64 n) : wrap64 (n % 18446744073709551616) = n := by unfold I64 at h; unfold wrap64; omega
theorem wrap64_id {n : Int} (h : I64 n) : wrap64 n = n := by unfold I64 at h; unfold wrap64; omega
theorem wrap64_I (n : Int) : I64 (wrap64 n) := by unfold I64 wrap64; omega
theorem wrap64_mod' (n : Int) (h0 : 0 ≤ n) (h1 : n < 18446744073709551616) : wrap64 n % 18446744073709551616 = n := by unfold wrap64; omega

def byteI (z : Int) : UInt8 := UInt8.ofNat (z % 256).toNat
theorem byteI_val (z : Int) : ((byteI z).toNat : Int) = z % 256 := by
  unfold byteI
  have : (z % 256).toNat < 256 := by omega
  rw [UInt8.toNat_ofNat', Nat.mod_eq_of_lt (by omega)]
  omega
theorem u8_ext {a b : UInt8} (h : (a.toNat : Int) = b.toNat) : a = b := UInt8.toNat_inj.1 (by omega)
theorem byteI_of (x : UInt8) (V : Int) : byteI (V * 256 + x.toNat) = x := by
  have := x.toNat_lt
  refine u8_ext ?_
  rw [byteI_val]
  omega
theorem byteI_u8 (x : UInt8) : byteI x.toNat = x := by
  have := byteI_of x 0
  simpa using this
/-- so many bytes of a number, the highest first -/
def beR : Nat → Int → List UInt8
  | 0, _ => []
  | k + 1, n => beR k (n / 256) ++ [byteI n]
theorem beR_len (s : Nat) (n : Int) : (beR s n).length = s := by
  induction s generalizing n with
  | zero => rfl
  | succ k ih => simp [beR, ih]
theorem beR_get (s : Nat) (n : Int) (k : Nat) (h : k < s) : (beR s n)[k]? = some (byteI (n / 256 ^ (s - 1 - k))) := by
  induction s generalizing n with
  | zero => omega
  | succ s ih =>
    unfold beR
    by_cases hk : k < s
    · rw [List.getElem?_append_left (by rw [beR_len]; exact hk), ih (n / 256) hk, Int.ediv_ediv_of_nonneg (by decide), show s + 1 - 1 - k = (s - 1 - k) + 1 by omega, Int.pow_succ, Int.mul_comm]
    · obtain rfl : k = s := by omega
      rw [List.getElem?_append_right (by rw [beR_len]; exact Nat.le_refl _), beR_len]
      simp
theorem beR_step (s : Nat) (n : Int) (k : Nat) (h : k < s) : (beR s n).take (k + 1) = (beR s n).take k ++ [byteI (n / 256 ^ (s - 1 - k))] := by
  have hl : k < (beR s n).length := by rw [beR_len]; exact h
  rw [List.take_succ_eq_append_getElem hl]
  have := beR_get s n k h
  rw [List.getElem?_eq_getElem hl, Option.some.injEq] at this
  rw [this]
/-- the number of some bytes, the highest first -/
def numOf (l : List UInt8) : Int := l.foldl (fun (v : Int) (x : UInt8) => v * 256 + (x.toNat : Int)) 0
theorem numOf_snoc (l : List UInt8) (x : UInt8) : numOf (l ++ [x]) = numOf l * 256 + x.toNat := by unfold numOf; simp
theorem numOf_nil : numOf [] = 0 := rfl
theorem numOf_one (x : UInt8) : numOf [x] = x.toNat := by simp [numOf]
theorem snoc_ind {P : List UInt8 → Prop} (h0 : P []) (h1 : ∀ l x, P l → P (l ++ [x])) (l : List UInt8) : P l := by
  obtain ⟨m, rfl⟩ : ∃ m, l = m.reverse := ⟨l.reverse, by simp⟩
  induction m with
  | nil => exact h0
  | cons x t ih =>
    rw [List.reverse_cons]
    exact h1 _ _ ih
theorem numOf_bd (l : List UInt8) : 0 ≤ numOf l ∧ numOf l < 256 ^ l.length := by
  refine snoc_ind (P := fun l => 0 ≤ numOf l ∧ numOf l < 256 ^ l.length) ⟨by decide, by decide⟩ (fun l x ih => ?_) l
  have := x.toNat_lt
  rw [numOf_snoc, List.length_append, List.length_singleton, Int.pow_succ]
  omega
theorem be_num (l : List UInt8) : beR l.length (numOf l) = l := by
  refine snoc_ind (P := fun l => beR l.length (numOf l) = l) rfl (fun l x ih => ?_) l
  have := x.toNat_lt
  rw [numOf_snoc, List.length_append, List.length_singleton]
  show beR l.length ((numOf l * 256 + x.toNat) / 256) ++ [byteI (numOf l * 256 + x.toNat)] = _
  rw [show (numOf l * 256 + (x.toNat : Int)) / 256 = numOf l by omega, ih, byteI_of]
theorem num_be (s : Nat) (n : Int) : numOf (beR s n) = n % 256 ^ s := by
  induction s generalizing n with
  | zero => simp [beR, numOf_nil, Int.emod_one]
  | succ s ih =>
    show numOf (beR s (n / 256) ++ [byteI n]) = _
    rw [numOf_snoc, ih, byteI_val, Int.pow_succ]
    have h := Int.emod_add_mul_ediv n 256
    have h2 := Int.emod_add_mul_ediv (n / 256) (256 ^ s)
    have h3 : (n / 256) / 256 ^ s = n / (256 ^ s * 256) := by rw [Int.ediv_ediv_of_nonneg (by decide), Int.mul_comm]
    rw [h3] at h2
    have h4 := Int.emod_add_mul_ediv n (256 ^ s * 256)
    have e : 256 ^ s * 256 * (n / (256 ^ s * 256)) = 256 * (256 ^ s * (n / (256 ^ s * 256))) := by rw [Int.mul_comm (256 ^ s) 256, Int.mul_assoc]
    rw [e] at h4
    omega

/-- a wire that writes behind what is there, or reads what is left -/
inductive Wi where
  | wr (out : List UInt8)
  | rd (left : List UInt8)
def Wi.num : Wi → Int → Nat → Option (Int × Wi)
  | .wr o, n, s => some (n, .wr (o ++ beR s n))
  | .rd l, _, s => if s ≤ l.length then some (numOf (l.take s), .rd (l.drop s)) else none
def Wi.rest : Wi → List UInt8 → Option (List UInt8 × Wi)
  | .wr o, b => if 1 ≤ b.length ∧ b.length ≤ 4091 then some (b, .wr (o ++ b)) else none
  | .rd l, _ => if 1 ≤ l.length ∧ l.length ≤ 4091 then some (l, .rd []) else none
def Wi.bytes : Wi → List UInt8
  | .wr o => o
  | .rd l => l
/-- what passes over a wire at one place: a number of 4 bytes, of 8, of one within bounds, of one or any -/
def wordW (S : Wi) (v : Int) : Option (Int × Wi) := S.num v 4
def wholeW (S : Wi) (v : Int) : Option (Int × Wi) := (S.num (v % 18446744073709551616) 8).map fun p => (wrap64 p.1, p.2)
def octW (S : Wi) (v most : Int) : Option (Int × Wi) := (S.num (v % 18446744073709551616) 1).bind fun p => if 0 ≤ wrap64 p.1 ∧ wrap64 p.1 ≤ most then some (wrap64 p.1, p.2) else none
def anyW (S : Wi) (v : Int) : Option (Int × Wi) := if v = 255 then none else (octW S (if v = -1 then 255 else v) 255).map fun p => (if p.1 = 255 then -1 else p.1, p.2)
theorem wordW_bd {S S' : Wi} {v v' : Int} (h : wordW S v = some (v', S')) (hv : U32 v) : U32 v' := by
  unfold wordW at h
  cases S with
  | wr o => simp [Wi.num] at h; rw [← h.1]; exact hv
  | rd l =>
    simp only [Wi.num] at h
    split at h
    · simp at h
      have := numOf_bd (l.take 4)
      rw [show (l.take 4).length = 4 by rw [List.length_take]; omega] at this
      unfold U32
      rw [← h.1]
      have e : (256 : Int) ^ 4 = 4294967296 := by decide
      omega
    · cases h
theorem wholeW_bd {S S' : Wi} {v v' : Int} (h : wholeW S v = some (v', S')) : I64 v' := by
  unfold wholeW at h
  simp only [Option.map_eq_some_iff] at h
  obtain ⟨p, _, e⟩ := h
  cases e
  exact wrap64_I _
theorem octW_bd {S S' : Wi} {v m v' : Int} (h : octW S v m = some (v', S')) : 0 ≤ v' ∧ v' ≤ m ∧ I64 v' := by
  unfold octW at h
  simp only [Option.bind_eq_some_iff] at h
  obtain ⟨p, _, e⟩ := h
  split at e
  · rename_i hb
    cases e
    exact ⟨hb.1, hb.2, wrap64_I _⟩
  · cases e
theorem anyW_bd {S S' : Wi} {v v' : Int} (h : anyW S v = some (v', S')) : I64 v' := by
  unfold anyW at h
  split at h
  · cases h
  · simp only [Option.map_eq_some_iff] at h
    obtain ⟨⟨p, q⟩, h1, e⟩ := h
    cases e
    have := (octW_bd h1).2.2
    split
    · unfold I64; omega
    · exact this
/-- what is written is let be as it was -/
theorem wordW_wr (o : List UInt8) (v : Int) : wordW (.wr o) v = some (v, .wr (o ++ beR 4 v)) := rfl
theorem beR_mod (s : Nat) (n : Int) (M : Int) (h : ∃ q, M = 256 ^ s * q) : beR s (n % M) = beR s n := by
  obtain ⟨q, rfl⟩ := h
  have e1 := be_num (beR s (n % (256 ^ s * q)))
  have e2 := be_num (beR s n)
  rw [beR_len, num_be] at e1 e2
  rw [← e1, ← e2, Int.emod_emod_of_dvd n ⟨q, rfl⟩]
theorem wholeW_wr (o : List UInt8) (v : Int) (h : I64 v) : wholeW (.wr o) v = some (v, .wr (o ++ beR 8 v)) := by
  unfold wholeW Wi.num
  simp only [Option.map_some, wrap64_mod h]
  rw [beR_mod 8 v _ ⟨1, by decide⟩]
theorem octW_wr (o : List UInt8) (v m : Int) (h : I64 v) : octW (.wr o) v m = if 0 ≤ v ∧ v ≤ m then some (v, .wr (o ++ [byteI v])) else none := by
  unfold octW Wi.num
  simp only [Option.bind_some, wrap64_mod h]
  rw [beR_mod 1 v _ ⟨72057594037927936, by decide⟩]
  rfl
theorem anyW_wr (o : List UInt8) (v : Int) (h : I64 v) : anyW (.wr o) v = if -1 ≤ v ∧ v ≤ 254 then some (v, .wr (o ++ [byteI v])) else none := by
  unfold anyW
  by_cases h1 : v = 255
  · subst h1; simp
  · rw [if_neg h1]
    by_cases h2 : v = -1
    · subst h2
      rw [if_pos rfl, octW_wr o 255 255 (by unfold I64; omega)]
      rfl
    · rw [if_neg h2, octW_wr o v 255 h]
      by_cases h3 : 0 ≤ v ∧ v ≤ 255
      · rw [if_pos h3, if_pos ⟨by omega, by omega⟩]
        simp [h1]
      · rw [if_neg h3, if_neg (by omega)]
        rfl
theorem wordW_rd (l : List UInt8) (v : Int) : wordW (.rd l) v = if 4 ≤ l.length then some (numOf (l.take 4), .rd (l.drop 4)) else none := rfl
theorem wholeW_rd (l : List UInt8) (v : Int) : wholeW (.rd l) v = if 8 ≤ l.length then some (wrap64 (numOf (l.take 8)), .rd (l.drop 8)) else none := by
  unfold wholeW Wi.num
  dsimp only
  by_cases h : 8 ≤ l.length
  · rw [if_pos h, if_pos h]; rfl
  · rw [if_neg h, if_neg h]; rfl
theorem num_take1 (l : List UInt8) (x : UInt8) (t : List UInt8) (h : l = x :: t) : numOf (l.take 1) = x.toNat := by subst h; simp [numOf]
def octN (p : Option (Int × Wi)) (m : Int) : Option (Int × Wi) := p.bind fun p => if 0 ≤ wrap64 p.1 ∧ wrap64 p.1 ≤ m then some (wrap64 p.1, p.2) else none
theorem wrap64_u8 (x : UInt8) : wrap64 (x.toNat : Int) = x.toNat := by
  have hx := x.toNat_lt
  unfold wrap64
  omega
theorem octN_one (x : UInt8) (t : List UInt8) (m : Int) : octN (some ((x.toNat : Int), .rd t)) m = if (x.toNat : Int) ≤ m then some ((x.toNat : Int), .rd t) else none := by
  obtain ⟨k, hk⟩ : ∃ k : Int, k = (x.toNat : Int) := ⟨_, rfl⟩
  have h0 : 0 ≤ k := by omega
  have hw : wrap64 k = k := by rw [hk]; exact wrap64_u8 x
  rw [← hk]
  unfold octN
  simp only [Option.bind_some, hw]
  by_cases h : k ≤ m
  · rw [if_pos ⟨h0, h⟩, if_pos h]
  · rw [if_neg (fun e => h e.2), if_neg h]
theorem octW_eq (S : Wi) (v m : Int) : octW S v m = octN (S.num (v % 18446744073709551616) 1) m := rfl
theorem num1_rd (l : List UInt8) (u : Int) : (Wi.rd l).num u 1 = match l with
    | [] => none
    | x :: t => some ((x.toNat : Int), .rd t) := by
  cases l with
  | nil => rfl
  | cons x t =>
    show (if 1 ≤ (x :: t).length then some (numOf ((x :: t).take 1), Wi.rd ((x :: t).drop 1)) else none) = _
    rw [if_pos (by simp)]
    simp [numOf]
theorem octW_rd (l : List UInt8) (v m : Int) : octW (.rd l) v m = match l with
    | [] => none
    | x :: t => if (x.toNat : Int) ≤ m then some ((x.toNat : Int), .rd t) else none := by
  rw [octW_eq, num1_rd]
  cases l with
  | nil => rfl
  | cons x t =>
    exact octN_one x t m
theorem anyW_rd (l : List UInt8) : anyW (.rd l) 0 = match l with
    | [] => none
    | x :: t => some (if x = 255 then -1 else (x.toNat : Int), .rd t) := by
  cases l with
  | nil => simp [anyW, octW_rd]
  | cons x t =>
    have hx := x.toNat_lt
    simp only [anyW, octW_rd, show ¬ (0 : Int) = 255 by decide, if_false, show (x.toNat : Int) ≤ 255 from by omega, if_true, Option.map_some]
    by_cases h : x = 255
    · subst h; rfl
    · rw [if_neg h, if_neg (fun e => h (u8_ext (by rw [e]; rfl)))]
end Go.Proofs.Ytdpfmaikijilkaa
