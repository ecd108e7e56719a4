/-
  The mathematics of the code layer: programs, what may be, their texts. It names no program.
-/
import Derived.Lib.ItoaNum
namespace CodM
open Go

abbrev Ins := Int × Int
structure Prg where
  vars : Int
  kinds : List (List Ins)

def wordsL : List (List UInt8) := [[112, 117, 115, 104], [108, 111, 97, 100], [115, 116, 111, 114, 101], [116, 105, 109, 101], [100, 97, 116, 97], [115, 101, 108, 102], [114, 97, 110, 100], [97, 100, 100], [115, 117, 98], [109, 117, 108], [108, 101, 115, 115], [115, 97, 109, 101], [106, 117, 109, 112], [122, 101, 114, 111], [115, 101, 110, 100], [116, 101, 108, 108], [101, 110, 100]]
def wordAt (k : Nat) : List UInt8 := wordsL.getD k []
def word (o : Int) : List UInt8 := if 1 ≤ o ∧ o ≤ 17 then wordAt (o - 1).toNat else []
def numbered (o : Int) : Bool := o == 1 || o == 2 || o == 3 || o == 13 || o == 14 || o == 15
/-- how many numbers may be, from 0 on -/
def many (nk vars n : Int) (o : Int) : Int := if o = 2 ∨ o = 3 then vars else if o = 15 then nk else if o = 13 ∨ o = 14 then n + 1 else 1
def mayNum (nk vars n : Int) (x : Ins) : Bool := decide (x.1 = 1) || (decide (0 ≤ x.2) && decide (x.2 < many nk vars n x.1))
def mayIns (nk vars n : Int) (x : Ins) : Bool := decide (1 ≤ x.1 ∧ x.1 ≤ 17) && mayNum nk vars n x
def mayKind (nk vars : Int) (l : List Ins) : Bool := decide (l.length ≤ 128) && l.all (mayIns nk vars l.length)
def mayHead (p : Prg) : Bool := decide (0 ≤ p.vars ∧ p.vars ≤ 8 ∧ 1 ≤ p.kinds.length ∧ p.kinds.length ≤ 8)
def may (nk : Int) (p : Prg) : Bool := mayHead p && p.kinds.all (mayKind nk p.vars)

def line (x : Ins) : List UInt8 := [32, 32] ++ word x.1 ++ (if numbered x.1 then 32 :: Lib.itoa x.2 else []) ++ [10]
def kindText (l : List Ins) : List UInt8 := [107, 105, 110, 100, 10] ++ l.flatMap line
def text (p : Prg) : List UInt8 := [118, 97, 114, 115, 32] ++ Lib.itoa p.vars ++ [10] ++ p.kinds.flatMap kindText

theorem wordsL_length : wordsL.length = 17 := rfl
theorem word_in (k : Nat) (h : k < 17) : word ((k : Int) + 1) = wordAt k := by
  unfold word
  rw [if_pos (by omega)]
  congr 1
  omega
theorem word_out (o : Int) (h : o < 1 ∨ 17 < o) : word o = [] := by unfold word; rw [if_neg (by omega)]
theorem wordAt_ne (k : Nat) (h : k < 17) : wordAt k ≠ [] := by
  have : ∀ k : Fin 17, wordAt k.1 ≠ [] := by decide
  exact this ⟨k, h⟩
theorem word_length (o : Int) : (word o).length ≤ 5 := by
  unfold word
  split
  · rename_i h
    have : ∀ k : Fin 17, (wordAt k.1).length ≤ 5 := by decide
    exact this ⟨(o - 1).toNat, by omega⟩
  · simp
theorem op_cases (o : Int) (h : 1 ≤ o ∧ o ≤ 17) : ∃ k : Nat, k < 17 ∧ o = (k : Int) + 1 := ⟨(o - 1).toNat, by omega, by omega⟩
theorem all_step {α : Type} (f : α → Bool) (l : List α) (k : Nat) (d : α) (h : k < l.length) : (l.take (k + 1)).all f = ((l.take k).all f && f (l.getD k d)) := by
  rw [List.take_succ_eq_append_getElem h, List.all_append]
  simp [List.getD, h]
theorem all_no {α : Type} (f : α → Bool) (l : List α) (k : Nat) (d : α) (h : k < l.length) (hf : f (l.getD k d) = false) : l.all f = false := by
  rw [List.all_eq_false]
  exact ⟨l.getD k d, by simp [List.getD, h], by rw [hf]; decide⟩
theorem all_end {α : Type} (f : α → Bool) (l : List α) (k : Nat) (h : l.length ≤ k) (hf : (l.take k).all f = true) : l.all f = true := by
  rwa [List.take_of_length_le h] at hf
theorem numbered_eq (o : Int) : (word o == [112, 117, 115, 104] || word o == [108, 111, 97, 100] || word o == [115, 116, 111, 114, 101] || word o == [106, 117, 109, 112] || word o == [122, 101, 114, 111] || word o == [115, 101, 110, 100]) = numbered o := by
  by_cases h : 1 ≤ o ∧ o ≤ 17
  · obtain ⟨k, hk, rfl⟩ := op_cases o h
    rw [word_in k hk]
    have : ∀ k : Fin 17, (wordAt k.1 == [112, 117, 115, 104] || wordAt k.1 == [108, 111, 97, 100] || wordAt k.1 == [115, 116, 111, 114, 101] || wordAt k.1 == [106, 117, 109, 112] || wordAt k.1 == [122, 101, 114, 111] || wordAt k.1 == [115, 101, 110, 100]) = numbered ((k.1 : Int) + 1) := by decide
    exact this ⟨k, hk⟩
  · rw [word_out o (by omega)]
    have : numbered o = false := by unfold numbered; simp; omega
    rw [this]
    rfl
end CodM
