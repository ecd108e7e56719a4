/-
  Plain mathematics of CRC-32 on natural numbers: the bit step, that it is linear over xor, what a byte does, what noughts do. No program is named here.
-/
import Derived.Test.YtdpfmaikijilkaaRows
import Derived.WalkKit
import Derived.WalkSpells
import Derived.WalkLawsBesides
import Derived.Laws.BitsAllLaws
import Derived.Lib.Hide
import Derived.Deep.WholeRow
import Derived.Deep.LoopGhost
import Derived.Lib.SlBytesConst
import Derived.Laws.BytesArg
import Derived.Laws.AppendOwnNone
import Derived.Deep.AppendSrc
import Derived.Deep.Upon
import Derived.Deep.MidRow
import Derived.BigQuiet
import Derived.Deep.AppendLies
namespace CrcM

def poly : Nat := 3988292384
def ones : Nat := 4294967295
def top : Nat := 4294967296

def sh (r : Nat) : Nat := if r % 2 = 1 then (r / 2) ^^^ poly else r / 2
def it : Nat → Nat → Nat
  | 0, r => r
  | n + 1, r => it n (sh r)
def s8 (r : Nat) : Nat := it 8 r
def nt (r : Nat) : Nat := ones ^^^ r
def byte (c b : Nat) : Nat := nt (s8 (nt c ^^^ b))
def reg : Nat → List Nat → Nat
  | r, [] => r
  | r, b :: bs => reg (s8 (r ^^^ b)) bs
def more (c : Nat) (l : List Nat) : Nat := nt (reg (nt c) l)

theorem xor_div (x y : Nat) : (x ^^^ y) / 2 = (x / 2) ^^^ (y / 2) := by
  have := Nat.shiftRight_xor_distrib (a := x) (b := y) (i := 1)
  simpa [Nat.shiftRight_succ] using this

theorem xor_mod (x y : Nat) : (x ^^^ y) % 2 = (x % 2 + y % 2) % 2 := by
  have h := Nat.testBit_xor x y 0
  simp only [Nat.testBit_zero] at h
  rcases Nat.mod_two_eq_zero_or_one x with hx | hx <;> rcases Nat.mod_two_eq_zero_or_one y with hy | hy <;>
    rcases Nat.mod_two_eq_zero_or_one (x ^^^ y) with hz | hz <;> simp [hx, hy, hz] at h ⊢

theorem xor4 (a b c d : Nat) : (a ^^^ b) ^^^ (c ^^^ d) = (a ^^^ c) ^^^ (b ^^^ d) := by
  simp only [Nat.xor_assoc]
  congr 1
  rw [← Nat.xor_assoc, Nat.xor_comm b c, Nat.xor_assoc]

theorem sh_xor (x y : Nat) : sh (x ^^^ y) = sh x ^^^ sh y := by
  unfold sh
  rw [xor_mod, xor_div]
  rcases Nat.mod_two_eq_zero_or_one x with hx | hx <;> rcases Nat.mod_two_eq_zero_or_one y with hy | hy <;> simp [hx, hy]
  · rw [Nat.xor_assoc]
  · rw [Nat.xor_assoc, Nat.xor_assoc, Nat.xor_comm poly]
  · rw [xor4, Nat.xor_self, Nat.xor_zero]

theorem sh_lt (r : Nat) (h : r < top) : sh r < top := by
  unfold sh
  have h2 : r / 2 < 2 ^ 32 := by unfold top at h; omega
  split
  · exact Nat.xor_lt_two_pow (n := 32) h2 (by decide)
  · exact h2

theorem it_zero (n : Nat) : it n 0 = 0 := by
  induction n with
  | zero => rfl
  | succ n ih => show it n (sh 0) = 0; exact ih

theorem it_xor (n x y : Nat) : it n (x ^^^ y) = it n x ^^^ it n y := by
  induction n generalizing x y with
  | zero => rfl
  | succ n ih => show it n (sh (x ^^^ y)) = it n (sh x) ^^^ it n (sh y); rw [sh_xor, ih]

theorem it_lt (n r : Nat) (h : r < top) : it n r < top := by
  induction n generalizing r with
  | zero => exact h
  | succ n ih => exact ih _ (sh_lt r h)

theorem it_add (n m r : Nat) : it (n + m) r = it m (it n r) := by
  induction n generalizing r with
  | zero => rw [Nat.zero_add]; rfl
  | succ n ih => rw [Nat.succ_add]; exact ih (sh r)

theorem it_succ (n r : Nat) : it (n + 1) r = sh (it n r) := it_add n 1 r

theorem sh_even (q : Nat) : sh (2 * q) = q := by
  unfold sh
  rw [if_neg (by omega)]
  omega

theorem it_pow (n q : Nat) : it n (2 ^ n * q) = q := by
  induction n with
  | zero => simp [it]
  | succ n ih => show it n (sh (2 ^ (n + 1) * q)) = q; rw [show 2 ^ (n + 1) * q = 2 * (2 ^ n * q) from by rw [Nat.pow_succ, Nat.mul_comm (2 ^ n) 2, Nat.mul_assoc], sh_even, ih]

theorem parts (k x : Nat) : (2 ^ k * (x / 2 ^ k)) ^^^ (x % 2 ^ k) = x := by
  apply Nat.eq_of_testBit_eq
  intro i
  rw [Nat.testBit_xor, Nat.testBit_two_pow_mul, Nat.testBit_mod_two_pow, Nat.testBit_div_two_pow]
  by_cases h : i < k
  · simp [h, Nat.not_le.2 h]
  · simp [h, Nat.not_lt.1 h]

theorem s8_split (r : Nat) : (r / 256) ^^^ s8 (r % 256) = s8 r := by
  have h := parts 8 r
  have e : s8 r = it 8 ((2 ^ 8 * (r / 2 ^ 8)) ^^^ (r % 2 ^ 8)) := by rw [h]; rfl
  rw [e, it_xor, it_pow]
  rfl

theorem s8_xor (x y : Nat) : s8 (x ^^^ y) = s8 x ^^^ s8 y := it_xor 8 x y
theorem s8_lt (r : Nat) (h : r < top) : s8 r < top := it_lt 8 r h

theorem xor_lt (x y : Nat) (hx : x < top) (hy : y < top) : x ^^^ y < top := Nat.xor_lt_two_pow (n := 32) hx hy
theorem nt_lt (x : Nat) (hx : x < top) : nt x < top := xor_lt _ _ (by decide) hx
theorem xor_twice (o x : Nat) : o ^^^ (o ^^^ x) = x := by rw [← Nat.xor_assoc, Nat.xor_self, Nat.zero_xor]
theorem nt_eq (x : Nat) : nt x = ones ^^^ x := rfl
theorem nt_nt (x : Nat) : nt (nt x) = x := by rw [nt_eq, nt_eq]; exact xor_twice ones x
theorem nt_zero (x : Nat) : nt x = nt 0 ^^^ x := by
  have h : ∀ o y : Nat, o ^^^ y = (o ^^^ 0) ^^^ y := fun o y => by rw [Nat.xor_zero]
  exact h ones x
theorem byte_lt (c b : Nat) (hc : c < top) (hb : b < top) : byte c b < top := by
  unfold byte
  exact nt_lt _ (s8_lt _ (xor_lt _ _ (nt_lt _ hc) hb))

/-- what the table does to a register and a byte -/
theorem s8_byte (r b : Nat) : (r / 256) ^^^ s8 ((r % 256) ^^^ b) = s8 (r ^^^ b) := by
  rw [s8_xor, ← Nat.xor_assoc, s8_split, s8_xor]

theorem reg_append (r : Nat) (l m : List Nat) : reg r (l ++ m) = reg (reg r l) m := by
  induction l generalizing r with
  | nil => rfl
  | cons b bs ih => exact ih _

theorem reg_lt (r : Nat) (l : List Nat) (h : r < top) (hl : ∀ b ∈ l, b < 256) : reg r l < top := by
  induction l generalizing r with
  | nil => exact h
  | cons b bs ih =>
    have hb := hl b (by simp)
    exact ih _ (s8_lt _ (xor_lt _ _ h (by unfold top; omega))) (fun x hx => hl x (by simp [hx]))

theorem more_nil (c : Nat) : more c [] = c := nt_nt c
theorem more_append (c : Nat) (l m : List Nat) : more c (l ++ m) = more (more c l) m := by
  unfold more
  rw [nt_nt, reg_append]
theorem more_snoc (c : Nat) (l : List Nat) (b : Nat) : more c (l ++ [b]) = byte (more c l) b := by
  rw [more_append]
  rfl
theorem more_lt (c : Nat) (l : List Nat) (h : c < top) (hl : ∀ b ∈ l, b < 256) : more c l < top := nt_lt _ (reg_lt _ _ (nt_lt _ h) hl)

theorem s8_eq (r : Nat) : s8 r = it 8 r := rfl
theorem it_0 (r : Nat) : it 0 r = r := rfl
theorem reg_nil (r : Nat) : reg r [] = r := rfl
theorem reg_cons (r b : Nat) (bs : List Nat) : reg r (b :: bs) = reg (s8 (r ^^^ b)) bs := rfl
attribute [irreducible] it s8

/-- a register's way through bytes, apart into what it was and what came -/
theorem reg_split (r : Nat) (l : List Nat) : reg r l = it (8 * l.length) r ^^^ reg 0 l := by
  induction l generalizing r with
  | nil => rw [reg_nil, reg_nil, List.length_nil, Nat.mul_zero, it_0, Nat.xor_zero]
  | cons b bs ih =>
    have e : it (8 * (b :: bs).length) r = it (8 * bs.length) (s8 r) := by
      rw [show 8 * (b :: bs).length = 8 + 8 * bs.length from by rw [List.length_cons]; omega, it_add, ← s8_eq]
    rw [reg_cons, reg_cons, e, ih, ih (s8 (0 ^^^ b)), Nat.zero_xor, s8_xor, it_xor, Nat.xor_assoc]

/-- P1.2: the sum of two texts by those of both -/
theorem join (a : Nat) (l : List Nat) : it (8 * l.length) a ^^^ more 0 l = more a l := by
  unfold more
  rw [reg_split (nt 0), reg_split (nt a), nt_zero a, it_xor]
  generalize it (8 * l.length) a = A
  generalize it (8 * l.length) (nt 0) = B
  generalize reg 0 l = R
  have h : ∀ o : Nat, A ^^^ (o ^^^ (B ^^^ R)) = o ^^^ ((B ^^^ A) ^^^ R) := by
    intro o
    rw [← Nat.xor_assoc, Nat.xor_comm A o, Nat.xor_assoc, ← Nat.xor_assoc A, Nat.xor_comm A B]
  exact h ones

theorem reg_noughts (r n : Nat) : reg r (List.replicate n 0) = it (8 * n) r := by
  induction n generalizing r with
  | zero => rw [List.replicate_zero, reg_nil, Nat.mul_zero, it_0]
  | succ n ih => rw [List.replicate_succ, reg_cons, ih, Nat.xor_zero, show 8 * (n + 1) = 8 + 8 * n from by omega, it_add, ← s8_eq]

/-- what a matrix does: a row a bit -/
def tm : List Nat → Nat → Nat
  | [], _ => 0
  | x :: xs, r => (if r % 2 = 1 then x else 0) ^^^ tm xs (r / 2)

theorem tm_zero (m : List Nat) : tm m 0 = 0 := by
  induction m with
  | nil => rfl
  | cons x xs ih => simp [tm, ih]

def rows (f : Nat → Nat) (s n : Nat) : List Nat := (List.range' s n).map (fun i => f (2 ^ i))

theorem rows_length (f : Nat → Nat) (s n : Nat) : (rows f s n).length = n := by simp [rows]

theorem tm_rows (f : Nat → Nat) (hf : ∀ x y, f (x ^^^ y) = f x ^^^ f y) (hz : f 0 = 0) (n s r : Nat) (hr : r < 2 ^ n) : tm (rows f s n) r = f (2 ^ s * r) := by
  induction n generalizing s r with
  | zero =>
    obtain rfl : r = 0 := by simpa using hr
    simp [rows, tm, hz]
  | succ n ih =>
    have e : rows f s (n + 1) = f (2 ^ s) :: rows f (s + 1) n := by simp [rows, List.range'_succ]
    rw [e]
    show (if r % 2 = 1 then f (2 ^ s) else 0) ^^^ tm (rows f (s + 1) n) (r / 2) = _
    rw [ih (s + 1) (r / 2) (by rw [Nat.pow_succ] at hr; omega)]
    have hp := parts 1 r
    simp only [Nat.pow_one] at hp
    have h2 : 2 ^ s * r = (2 ^ s * (r % 2)) ^^^ (2 ^ (s + 1) * (r / 2)) := by
      have := parts (s + 1) (2 ^ s * r)
      have d : 2 ^ s * r / 2 ^ (s + 1) = r / 2 := by rw [Nat.pow_succ, ← Nat.div_div_eq_div_mul, Nat.mul_div_cancel_left _ (Nat.two_pow_pos s)]
      have m : 2 ^ s * r % 2 ^ (s + 1) = 2 ^ s * (r % 2) := by rw [Nat.pow_succ, Nat.mul_mod_mul_left]
      rw [d, m, Nat.xor_comm] at this
      exact this.symm
    rw [h2, hf]
    rcases Nat.mod_two_eq_zero_or_one r with h | h <;> simp [h, hz]

/-- the matrix of so many shifts -/
def mat (n : Nat) : List Nat := rows (it n) 0 32

theorem mat_length (n : Nat) : (mat n).length = 32 := rows_length _ _ _
theorem tm_mat (n r : Nat) (h : r < top) : tm (mat n) r = it n r := by
  unfold mat
  rw [tm_rows (it n) (it_xor n) (it_zero n) 32 0 r h]
  simp
theorem mat_get (n i : Nat) (h : i < 32) : (mat n).getD i 0 = it n (2 ^ i) := by
  simp [mat, rows, List.getD, h]
theorem mat_get' (n i : Nat) (h : i < 32) : (mat n)[i]?.getD 0 = it n (2 ^ i) := by
  simp [mat, rows, h]
theorem two_lt (i : Nat) (h : i < 32) : 2 ^ i < top := Nat.pow_lt_pow_right (by omega) h
theorem mat_lt (n i : Nat) (h : i < 32) : (mat n).getD i 0 < top := by rw [mat_get n i h]; exact it_lt n _ (two_lt i h)
theorem mat_sq (n i : Nat) (h : i < 32) : tm (mat n) ((mat n).getD i 0) = (mat (n + n)).getD i 0 := by
  rw [mat_get n i h, mat_get _ i h, tm_mat n _ (it_lt n _ (two_lt i h)), it_add]

/-- the table of 256 bytes -/
def tab : List Nat := (List.range 256).map s8
theorem tab_get (i : Nat) (h : i < 256) : tab.getD i 0 = s8 i := by simp [tab, List.getD, h]
theorem tab_length : tab.length = 256 := by simp [tab]

/-- the table, half made: behind k doublings, and j entries of the next one -/
def half (k j : Nat) (ts : List Nat) : Prop :=
  ts.length = 256 ∧ (∀ m, m < 256 → m % 2 ^ (8 - k) = 0 → ts.getD m 0 = s8 m) ∧ ∀ m, m < 2 ^ (8 - k) * j → m < 256 → m % 2 ^ (7 - k) = 0 → ts.getD m 0 = s8 m

theorem half_start : half 0 0 (List.replicate 256 0) := by
  refine ⟨by rw [List.length_replicate], ?_, ?_⟩
  · intro m h1 h2
    have h3 : m % 256 = 0 := h2
    obtain rfl : m = 0 := by omega
    rw [s8_eq, it_zero]
    rfl
  · intro m h; simp at h

theorem half_next (k : Nat) (hk : k < 8) (ts : List Nat) (h : half k (2 ^ k) ts) : half (k + 1) 0 ts := by
  refine ⟨h.1, ?_, ?_⟩
  · intro m h1 h2
    refine h.2.2 m ?_ h1 (by rw [show 7 - k = 8 - (k + 1) from by omega]; exact h2)
    rw [← Nat.pow_add, show 8 - k + k = 8 from by omega]
    exact h1
  · intro m hm; simp at hm

theorem half_end (ts : List Nat) (h : half 8 0 ts) : ts = tab := by
  apply List.ext_getElem
  · rw [h.1, tab_length]
  · intro i h1 h2
    have a := h.2.1 i (by rw [h.1] at h1; exact h1) (by simp [Nat.mod_one])
    have b := tab_get i (by rw [h.1] at h1; exact h1)
    rw [← b] at a
    simpa [List.getD, h1, h2] using a

theorem reg_one (k : Nat) (hk : k < 8) : it (k + 1) 1 = s8 (2 ^ (7 - k)) := by
  rw [s8_eq]
  have e : (7 - k) + (k + 1) = 8 := by omega
  have h := it_add (7 - k) (k + 1) (2 ^ (7 - k))
  rw [e] at h
  rw [h]
  have := it_pow (7 - k) 1
  rw [Nat.mul_one] at this
  rw [this]

theorem xor_plus (t x : Nat) (h : x % 2 ^ (t + 1) = 0) : x ^^^ 2 ^ t = x + 2 ^ t := by
  have hp : 2 ^ t < 2 ^ (t + 1) := Nat.pow_lt_pow_right (by omega) (by omega)
  have := parts (t + 1) (x + 2 ^ t)
  have hd : x = 2 ^ (t + 1) * (x / 2 ^ (t + 1)) := by have := Nat.div_add_mod x (2 ^ (t + 1)); omega
  generalize x / 2 ^ (t + 1) = q at hd
  subst hd
  rw [Nat.mul_add_div (Nat.two_pow_pos _), Nat.mul_add_mod, Nat.div_eq_of_lt hp, Nat.mod_eq_of_lt hp, Nat.add_zero] at this
  exact this

theorem half_step (k j : Nat) (hk : k < 8) (hj : j < 2 ^ k) (ts : List Nat) (h : half k j ts) :
    half k (j + 1) (ts.set (2 ^ (8 - k) * j + 2 ^ (7 - k)) (ts.getD (2 ^ (8 - k) * j) 0 ^^^ it (k + 1) 1)) := by
  obtain ⟨hl, ha, hb⟩ := h
  have e8 : 2 ^ (8 - k) = 2 * 2 ^ (7 - k) := by rw [show 8 - k = (7 - k) + 1 from by omega, Nat.pow_succ, Nat.mul_comm]
  have hlt : 2 ^ (8 - k) * j + 2 ^ (8 - k) ≤ 256 := by
    rw [← Nat.mul_succ]
    calc 2 ^ (8 - k) * (j + 1) ≤ 2 ^ (8 - k) * 2 ^ k := Nat.mul_le_mul_left _ hj
      _ = 256 := by rw [← Nat.pow_add, show 8 - k + k = 8 from by omega]
  have hv : ts.getD (2 ^ (8 - k) * j) 0 ^^^ it (k + 1) 1 = s8 (2 ^ (8 - k) * j + 2 ^ (7 - k)) := by
    have hpos := Nat.two_pow_pos (8 - k)
    rw [ha _ (by omega) (Nat.mul_mod_right _ _), reg_one k hk, ← s8_xor, xor_plus (7 - k) _ (by rw [show 7 - k + 1 = 8 - k from by omega]; exact Nat.mul_mod_right _ _)]
  rw [hv]
  have hpos := Nat.two_pow_pos (7 - k)
  refine ⟨by rw [List.length_set]; exact hl, ?_, ?_⟩
  · intro m h1 h2
    rw [List.getD_eq_getElem?_getD, List.getElem?_set]
    split
    · rename_i he
      subst he
      simp [show 2 ^ (8 - k) * j + 2 ^ (7 - k) < ts.length from by omega]
    · rw [← List.getD_eq_getElem?_getD]; exact ha m h1 h2
  · intro m h1 h2 h3
    rw [List.getD_eq_getElem?_getD, List.getElem?_set]
    split
    · rename_i he
      subst he
      simp [show 2 ^ (8 - k) * j + 2 ^ (7 - k) < ts.length from by omega]
    · rename_i hne
      rw [← List.getD_eq_getElem?_getD]
      by_cases hm : m < 2 ^ (8 - k) * j
      · exact hb m hm h2 h3
      · refine ha m h2 ?_
        have hd : m = 2 ^ (7 - k) * (m / 2 ^ (7 - k)) := by have := Nat.div_add_mod m (2 ^ (7 - k)); omega
        generalize m / 2 ^ (7 - k) = q at hd
        subst hd
        rw [Nat.mul_succ] at h1
        rw [e8, Nat.mul_assoc, Nat.mul_left_comm] at h1 hm hne
        have q1 : 2 * j ≤ q := by
          rcases Nat.lt_or_ge q (2 * j) with hq | hq
          · exact absurd (Nat.mul_lt_mul_of_pos_left hq hpos) hm
          · exact hq
        have q2 : q < 2 * j + 2 := by
          rcases Nat.lt_or_ge q (2 * j + 2) with hq | hq
          · exact hq
          · have := Nat.mul_le_mul_left (2 ^ (7 - k)) hq
            rw [Nat.mul_add] at this
            omega
        have q3 : q ≠ 2 * j + 1 := by
          rintro rfl
          apply hne
          rw [Nat.mul_add, Nat.mul_one]
        obtain rfl : q = 2 * j := by omega
        rw [e8, show 2 ^ (7 - k) * (2 * j) = 2 * 2 ^ (7 - k) * j from by rw [Nat.mul_left_comm, Nat.mul_assoc]]
        exact Nat.mul_mod_right _ _

theorem known : more 0 [49, 50, 51, 52, 53, 54, 55, 56, 57] = 3421780262 := by decide +kernel

end CrcM
namespace Go.Proofs.Ytdpfmaikijilkaa.Fr
open Go.RowKit CrcM

/-- the number r, as the walk has it, is n, a number of 32 bits -/
def U (r : Int) (n : Nat) : Prop := r = (n : Int) ∧ n < top
theorem U.lo {r : Int} {n : Nat} (h : U r n) : 0 ≤ r := by rw [h.1]; omega
theorem U.hi {r : Int} {n : Nat} (h : U r n) : r < 4294967296 := by have := h.2; unfold top at this; rw [h.1]; omega
theorem U.mk (n : Nat) (h : n < top) : U (n : Int) n := ⟨rfl, h⟩
theorem U.of (r : Int) (h0 : 0 ≤ r) (h1 : r < 4294967296) : U r r.toNat := ⟨by omega, by unfold top; omega⟩
theorem U.eq {r : Int} {n m : Nat} (h : U r n) (e : n = m) : U r m := e ▸ h
theorem U.same {r s : Int} {n : Nat} (h : U r n) (k : U s n) : r = s := h.1.trans k.1.symm
theorem U.xor {a b : Int} {m n : Nat} (h : U a m) (k : U b n) : U (bits .xor .u32 a b) (m ^^^ n) := by
  obtain ⟨rfl, hm⟩ := h
  obtain ⟨rfl, hn⟩ := k
  exact ⟨u32_xor_nat m n hm hn, xor_lt m n hm hn⟩
theorem U.not {a : Int} {m : Nat} (h : U a m) : U (bits .xor .u32 IntKind.u32.max a) (nt m) := by
  obtain ⟨rfl, hm⟩ := h
  exact ⟨u32_xor_nat ones m (by decide) hm, nt_lt m hm⟩
theorem U.half {a : Int} {m : Nat} (h : U a m) : U (a / 2) (m / 2) := by
  obtain ⟨rfl, hm⟩ := h
  exact ⟨rfl, by unfold top at *; omega⟩
theorem U.xp {a : Int} {m : Nat} (h : U a m) : U (bits .xor .u32 a 3988292384) (m ^^^ poly) := by
  obtain ⟨rfl, hm⟩ := h
  exact ⟨u32_xor_nat m poly hm (by decide), xor_lt m poly hm (by decide)⟩
theorem U.odd {a : Int} {m : Nat} (h : U a m) : bits .and .u32 a 1 = ((m % 2 : Nat) : Int) := by
  obtain ⟨rfl, hm⟩ := h
  have := u32_and_nat m 1 hm (by decide)
  rw [nat_mask1] at this
  exact this
theorem U.ofByte {b : Int} {n : Nat} (h : b = (n : Int)) (hn : n < 256) : U b n := ⟨h, by unfold top; omega⟩
theorem sh_odd (x : Nat) (h : x % 2 = 1) : x / 2 ^^^ CrcM.poly = sh x := by unfold sh; rw [if_pos h]
theorem sh_ev (x : Nat) (h : ¬ x % 2 = 1) : x / 2 = sh x := by unfold sh; rw [if_neg h]

/-- it answers the number n, and leaves the world alone -/
def TellsU (n : Nat) (w : World) (e : Ending) (w' : World) : Prop := ∃ r : Int, e = .returned (.int .u32 r) ∧ U r n ∧ w = w'

set_option maxHeartbeats 400000 in
theorem shifted_any (a : Int) (m : Nat) (w : World) (h : U a m) :
    Calls Try.prog 97 #[.int .u32 a] w (TellsU (sh m) w) := by
  have h0 := h.lo
  have h1 := h.hi
  by_cases ho : m % 2 = 1
  · have ht : (bits .and .u32 a 1 == 1) = true := by rw [h.odd, ho]; rfl
    have hs := Lib.hid (h.half.xp.eq (sh_odd m ho))
    clear ho h
    go_enter Try.func97, Try.ntmps97
    go_wp2
    go_ret
    exact ⟨_, rfl, hs.out, rfl⟩
  · have ht : (bits .and .u32 a 1 == 1) = false := by rw [h.odd]; simp; omega
    have hs := Lib.hid (h.half.eq (sh_ev m ho))
    clear ho h
    go_enter Try.func97, Try.ntmps97
    go_wp2
    go_ret
    exact ⟨_, rfl, hs.out, rfl⟩

set_option maxHeartbeats 400000 in
theorem byte_any (c b : Int) (m n : Nat) (w : World) (hc : U c m) (hb : b = (n : Int)) (hn : n < 256) :
    Calls Try.prog 94 #[.int .u32 c, .int .u8 b] w (TellsU (byte m n) w) := by
  have h0 := hc.lo
  have h1 := hc.hi
  have h2 : 0 ≤ b := by omega
  have h3 : b < 256 := by omega
  have hx := Lib.hid (hc.not.xor (U.ofByte hb hn))
  have hfin : Hid (byte m n = nt (it 8 (nt m ^^^ n))) := by rw [← s8_eq]; exact rfl
  clear hc hb hn
  generalize nt m ^^^ n = r0 at hx hfin
  go_enter Try.func94, Try.ntmps94
  go_wp2
  go_loop [0, 5, 6] (fun c i o => ∃ (k : Nat) (r : Int), k ≤ 8 ∧ i = .int .i64 k ∧ c = .int .u32 r ∧ U r (it k r0)) (fun _ i _ => 8 - (intOf i).toNat)
  case atStart => exact ⟨0, _, by omega, rfl, rfl, hx.out.eq (it_0 r0).symm⟩
  case round =>
    obtain ⟨k, r, hk, rfl, rfl, hu⟩ := hrel
    have hr0 := hu.lo
    have hr1 := hu.hi
    have hs := Lib.hid (it_succ k r0)
    have H := Lib.hid hu
    have hnot := Lib.hid hu.not
    have hodd : r % 2 = ((it k r0 % 2 : Nat) : Int) := by rw [hu.1]; omega
    by_cases hlt8 : k < 8
    · by_cases ho : it k r0 % 2 = 1
      · have ht : ((r % 2) == 1) = true := by rw [hodd, ho]; rfl
        have hp := Lib.hid ((hu.half.xp.eq (sh_odd _ ho)).eq hs.out.symm)
        clear ho hu hodd
        go_wp2
        go_round
        case rel => exact ⟨k + 1, _, by omega, by go_num, rfl, hp.out⟩
        case measure => simp [intOf]; omega
      · have ht : ((r % 2) == 1) = false := by rw [hodd]; simp; omega
        have hp := Lib.hid ((hu.half.eq (sh_ev _ ho)).eq hs.out.symm)
        clear ho hu hodd
        go_wp2
        go_round
        case rel => exact ⟨k + 1, _, by omega, by go_num, rfl, hp.out⟩
        case measure => simp [intOf]; omega
    · have hn8 : ¬ ((k : Int) < 8) := by omega
      have hp := Lib.hid (hnot.out.eq (show nt (it k r0) = byte m n from by rw [hfin.out, show k = 8 from by omega]))
      clear hk hu hodd hlt8
      go_wp2
      go_ret
      exact ⟨_, rfl, hp.out, rfl⟩
end Go.Proofs.Ytdpfmaikijilkaa.Fr
namespace Go.Proofs.Ytdpfmaikijilkaa.Fr
open Go.RowKit CrcM

def cellsU (ts : List Nat) : Array Value := (ts.map fun (n : Nat) => Value.int .u32 ((n : Nat) : Int)).toArray
theorem cellsU_size (ts : List Nat) : (cellsU ts).size = ts.length := by simp [cellsU]
theorem cellsU_get (ts : List Nat) (i : Nat) (h : i < ts.length) : (cellsU ts)[i]? = some (.int .u32 (ts.getD i 0 : Nat)) := by
  simp [cellsU, h, List.getD]
theorem cellsU_set (ts : List Nat) (i n : Nat) (r : Int) (hr : r = (n : Int)) : (cellsU ts).setIfInBounds i (.int .u32 r) = cellsU (ts.set i n) := by
  subst hr
  simp [cellsU, List.map_set]
theorem cellsU_one (ts : List Nat) : (cellsU ts).all (·.oneCell') = true := by
  simp [cellsU, Value.oneCell']

theorem below_setRow {B : Nat} {a w : World} (h : Below B a w) {g : Nat} (hg : B ≤ g) (cs : Array Value) : Below B a (w.setRow g cs) :=
  ⟨h.os, h.tape, h.output, by rw [setRow_size]; exact h.size, fun k hk => (setRow_other w g k cs (by omega)).trans (h.block k hk)⟩

theorem info35 : (Try.prog.info? 135).map (fun i => (i.zero, i.size)) = some (some (.agg (cellsU (List.replicate 256 0))), 256) := by kernel_rfl

/-- how far the doublings are: the bit that comes next -/
def Bit (k : Nat) (b : Int) : Prop := (k < 8 ∧ b = ((2 ^ (7 - k) : Nat) : Int)) ∨ (k = 8 ∧ b = 0)
theorem Bit.lo {k : Nat} {b : Int} (h : Bit k b) : 0 ≤ b := by
  rcases h with ⟨_, rfl⟩ | ⟨_, rfl⟩
  · exact Int.natCast_nonneg _
  · omega
theorem Bit.hi {k : Nat} {b : Int} (h : Bit k b) : b ≤ 128 := by
  rcases h with ⟨_, rfl⟩ | ⟨_, rfl⟩
  · have : 2 ^ (7 - k) ≤ 2 ^ 7 := Nat.pow_le_pow_right (by omega) (by omega)
    omega
  · omega
theorem Bit.pos {k : Nat} {b : Int} (h : Bit k b) (hk : k < 8) : 0 < b := by
  rcases h with ⟨_, rfl⟩ | ⟨_, rfl⟩
  · have := Nat.two_pow_pos (7 - k); omega
  · omega
theorem Bit.none {k : Nat} {b : Int} (h : Bit k b) (hk : ¬ k < 8) : b = 0 ∧ k = 8 := by
  rcases h with ⟨_, rfl⟩ | ⟨_, rfl⟩
  · omega
  · omega
theorem Bit.first : Bit 0 128 := .inl ⟨by omega, rfl⟩
theorem Bit.next {k : Nat} {b : Int} (h : Bit k b) (hk : k < 8) : Bit (k + 1) (b / 2) := by
  rcases h with ⟨_, rfl⟩ | ⟨_, rfl⟩
  · by_cases h7 : k = 7
    · subst h7; exact .inr ⟨rfl, rfl⟩
    · refine .inl ⟨by omega, ?_⟩
      rw [show 7 - k = (7 - (k + 1)) + 1 from by omega, Nat.pow_succ]
      omega
  · omega
/-- the place of the inner loop -/
def Ix (k j : Nat) (i : Int) : Prop := j ≤ 2 ^ k ∧ i = ((2 ^ (8 - k) * j : Nat) : Int)
theorem Ix.first (k : Nat) : Ix k 0 0 := ⟨Nat.zero_le _, by simp⟩
theorem Ix.lo {k j : Nat} {i : Int} (h : Ix k j i) : 0 ≤ i := by rw [h.2]; omega
theorem Ix.hi {k j : Nat} {i : Int} (h : Ix k j i) (hk : k < 8) : i ≤ 256 := by
  rw [h.2]
  have : 2 ^ (8 - k) * j ≤ 2 ^ (8 - k) * 2 ^ k := Nat.mul_le_mul_left _ h.1
  rw [← Nat.pow_add, show 8 - k + k = 8 from by omega] at this
  omega
theorem Ix.on {k j : Nat} {i : Int} (h : Ix k j i) (hk : k < 8) : i < 256 ↔ j < 2 ^ k := by
  have e : 2 ^ (8 - k) * 2 ^ k = 256 := by rw [← Nat.pow_add, show 8 - k + k = 8 from by omega]
  have hp := Nat.two_pow_pos (8 - k)
  rw [h.2]
  constructor
  · intro hi
    have h2 : 2 ^ (8 - k) * j < 2 ^ (8 - k) * 2 ^ k := by omega
    exact Nat.lt_of_mul_lt_mul_left h2
  · intro hj
    have h2 := Nat.mul_lt_mul_of_pos_left hj hp
    omega
theorem Ix.room {k j : Nat} {i b : Int} (h : Ix k j i) (hb : Bit k b) (hk : k < 8) (hj : j < 2 ^ k) : i + b < 256 := by
  have e : 2 ^ (8 - k) * 2 ^ k = 256 := by rw [← Nat.pow_add, show 8 - k + k = 8 from by omega]
  have e8 : 2 ^ (8 - k) = 2 * 2 ^ (7 - k) := by rw [show 8 - k = (7 - k) + 1 from by omega, Nat.pow_succ, Nat.mul_comm]
  have h2 := Nat.mul_le_mul_left (2 ^ (8 - k)) hj
  rw [Nat.mul_succ] at h2
  have hp := Nat.two_pow_pos (7 - k)
  rcases hb with ⟨_, rfl⟩ | ⟨_, rfl⟩
  · rw [h.2]; omega
  · omega
theorem Ix.next {k j : Nat} {i b : Int} (h : Ix k j i) (hb : Bit k b) (hk : k < 8) (hj : j < 2 ^ k) : Ix k (j + 1) (i + 2 * b) := by
  have e8 : 2 ^ (8 - k) = 2 * 2 ^ (7 - k) := by rw [show 8 - k = (7 - k) + 1 from by omega, Nat.pow_succ, Nat.mul_comm]
  refine ⟨by omega, ?_⟩
  rcases hb with ⟨_, rfl⟩ | ⟨_, rfl⟩
  · rw [h.2, Nat.mul_succ]; omega
  · omega

theorem half_at {k j : Nat} {i : Int} {ts : List Nat} (h : half k j ts) (hi : Ix k j i) (hlt : i < 256) : ts.getD i.toNat 0 = s8 i.toNat := by
  have e : i.toNat = 2 ^ (8 - k) * j := by rw [hi.2]; exact Int.toNat_natCast _
  exact h.2.1 i.toNat (by omega) (by rw [e]; exact Nat.mul_mod_right _ _)

theorem half_put {k j : Nat} {i b r : Int} {ts : List Nat} (h : half k j ts) (hi : Ix k j i) (hb : Bit k b) (hk : k < 8) (hj : j < 2 ^ k) (hr : U r (sh (it k 1))) (v : Int) (hv : U v (ts.getD i.toNat 0)) :
    ∃ ts', (cellsU ts).setIfInBounds (i + b).toNat (.int .u32 (bits .xor .u32 v r)) = cellsU ts' ∧ half k (j + 1) ts' := by
  have e : i.toNat = 2 ^ (8 - k) * j := by rw [hi.2]; exact Int.toNat_natCast _
  have eb : (i + b).toNat = 2 ^ (8 - k) * j + 2 ^ (7 - k) := by
    rcases hb with ⟨_, rfl⟩ | ⟨_, rfl⟩
    · rw [hi.2, ← Int.natCast_add]; exact Int.toNat_natCast _
    · omega
  have hs := half_step k j hk hj ts h
  refine ⟨_, ?_, hs⟩
  rw [eb]
  refine cellsU_set _ _ _ _ ?_
  have := (hv.xor hr).1
  rw [this, e, it_succ]

theorem info35s : (Try.prog.info? 135).map (·.size) = some 256 := (zero_of_info info35).2

/-- it answers the table, and writes nothing that was there -/
def TellsTable (w : World) (e : Ending) (w' : World) : Prop := e = .returned (.agg (cellsU tab)) ∧ Below w.heap.size w w'

set_option maxRecDepth 100000 in
set_option maxHeartbeats 400000 in
theorem newTable_any (w : World) :
    Calls Try.prog 96 #[] w (TellsTable w) := by
  have hz35 := (zero_of_info info35).1
  obtain ⟨Z, hZ⟩ : ∃ Z, Z = cellsU (List.replicate 256 0) := ⟨_, rfl⟩
  rw [← hZ] at hz35
  have HZ := Lib.hid hZ
  clear hZ
  go_enter Try.func96, Try.ntmps96
  go_wp2
  go_loopw [2, 3, 4] (fun r b i wr => ∃ (k : Nat) (rv bv : Int) (ts : List Nat), r = .int .u32 rv ∧ b = .int .i64 bv ∧ U rv (it k 1) ∧ Bit k bv ∧ half k 0 ts ∧ wr.heap[w.heap.size]? = some (.cells Z 135 (0, 0)) ∧ wr.heap[w.heap.size + 1]? = some (.cells (cellsU ts) 135 (0, 0)) ∧ Below w.heap.size w wr) (fun _ b _ _ => (intOf b).toNat)
  case atStart => exact ⟨0, 1, 128, List.replicate 256 0, rfl, rfl, ⟨by rw [it_0]; rfl, by rw [it_0]; decide⟩, Bit.first, half_start, heap_alloc2_old _ _ _, by rw [← HZ.out]; exact heap_alloc2_new _ _ _, ((Below.refl _ _).alloc (Nat.le_refl _) _).alloc (by simp) _⟩
  case round =>
    obtain ⟨k, rv, bv, ts, rfl, rfl, hu, hbit, hhalf, hg0, hg1, hbel⟩ := hrel
    have hb0 := hbit.lo
    have hb1 := hbit.hi
    have H1 := Lib.hid hbit
    have H2 := Lib.hid hhalf
    have H3 := Lib.hid hg0
    have H4 := Lib.hid hg1
    have H5 := Lib.hid hbel
    have H6 := Lib.hid hu
    have hr0 := hu.lo
    have hr1 := hu.hi
    clear hbit hhalf hg0 hg1 hbel hu
    by_cases hk : k < 8
    · have hpos := H1.out.pos hk
      go_wp2_with ((go_at_call 97; refine (shifted_any _ _ _ H6.out).mono ?_; rintro e w' ⟨r, rfl, hu, rfl⟩; have H7 := Lib.hid hu; clear hu))
      obtain ⟨wo, rfl⟩ : ∃ wo : World, wo = wr := ⟨_, rfl⟩
      have hq0 := H7.out.lo
      have hq1 := H7.out.hi
      go_loopw [4] (fun i wi => ∃ (j : Nat) (iv : Int) (ts' : List Nat), i = .int .i64 iv ∧ Ix k j iv ∧ half k j ts' ∧ wi.heap[w.heap.size]? = some (.cells Z 135 (0, 0)) ∧ wi.heap[w.heap.size + 1]? = some (.cells (cellsU ts') 135 (0, 0)) ∧ Below w.heap.size w wi) (fun i _ => (256 - intOf i).toNat)
      case atStart => exact ⟨0, 0, ts, rfl, Ix.first k, H2.out, H3.out, H4.out, H5.out⟩
      case round =>
        obtain ⟨j, iv, ts', rfl, hix, hhalf, hg0, hg1, hbel⟩ := hrel
        have hi0 := hix.lo
        have hi1 := hix.hi hk
        have J1 := Lib.hid hix
        have J2 := Lib.hid hhalf
        have J3 := Lib.hid hg0
        have J4 := Lib.hid hg1
        have J5 := Lib.hid hbel
        clear hix hhalf hg0 hg1 hbel
        by_cases hlt : iv < 256
        · have hj := (J1.out.on hk).1 hlt
          have hroom := J1.out.room H1.out hk hj
          have hlen := J2.out.1
          have hA : wr.cell? ⟨w.heap.size + 1, iv.toNat, none⟩ = some (.int .u32 (ts'.getD iv.toNat 0 : Nat)) := by
            rw [cell_of_row _ _ _ _ _ _ J4.out]; exact cellsU_get _ _ (by omega)
          have hB : wr.cell? ⟨w.heap.size + 1, (iv + bv).toNat, none⟩ = some (.int .u32 (ts'.getD (iv + bv).toNat 0 : Nat)) := by
            rw [cell_of_row _ _ _ _ _ _ J4.out]; exact cellsU_get _ _ (by omega)
          have hF : wr.frozen? ⟨w.heap.size + 1, (iv + bv).toNat, none⟩ = false := frozen_of_row _ _ _ _ _ J4.out
          have hU : U (ts'.getD iv.toNat 0 : Nat) (ts'.getD iv.toNat 0) := ⟨rfl, by rw [half_at J2.out J1.out hlt]; exact s8_lt _ (by unfold top; omega)⟩
          generalize hv : ((ts'.getD iv.toNat 0 : Nat) : Int) = v at hA hU
          generalize ((ts'.getD (iv + bv).toNat 0 : Nat) : Int) = v2 at hB
          have hv0 := hU.lo
          have hv1 := hU.hi
          obtain ⟨ts2, e2, h2⟩ := half_put J2.out J1.out H1.out hk hj H7.out v hU
          have HN := Lib.hid (J1.out.next H1.out hk hj)
          have HE := Lib.hid e2
          have HH := Lib.hid h2
          clear hj hlen hU hv e2 h2
          go_wp2
          go_roundw
          case rel => exact ⟨j + 1, _, ts2, rfl, HN.out, HH.out, by rw [heap_setCell_other _ _ _ _ (by simp)]; exact J3.out, by rw [heap_setCell_same _ _ _ _ _ _ J4.out, HE.out], J5.out.setCell (by simp) _⟩
          case measure => simp [intOf]; omega
        · have hge : (256 : Int) ≤ iv := by omega
          have HHn : Hid (half (k + 1) 0 ts') := by
            have hj : ¬ j < 2 ^ k := fun h => hlt ((J1.out.on hk).2 h)
            have hj2 : j = 2 ^ k := by have := J1.out.1; omega
            exact half_next k hk ts' (hj2 ▸ J2.out)
          have HB := Lib.hid (H1.out.next hk)
          have HU := Lib.hid (H7.out.eq (it_succ k 1).symm)
          clear hlt
          go_wp2
          go_roundw
          case rel => exact ⟨k + 1, _, _, ts', rfl, rfl, HU.out, HB.out, HHn.out, J3.out, J4.out, J5.out⟩
          case measure => simp [intOf]; omega
    · obtain ⟨rfl, rfl⟩ := H1.out.none hk
      have HT := Lib.hid (half_end ts H2.out)
      have HS := Lib.hid info35s
      go_wp2_with (first
        | (refine wpList_load_row rfl 135 (.tmp 1) rfl (w.heap.size + 1) rfl 135 (cellsU ts) (0, 0) _ H4.out Try.underlying135 rfl (by rw [info35s, HT.out, cellsU_size, tab_length]) ?_)
        | (refine wpList_store_row rfl 135 (.tmp 0) (.tmp 26) rfl w.heap.size (cellsU ts) rfl rfl 135 Z H3.out (by rw [info35s, HT.out, cellsU_size, tab_length]) (by rw [HZ.out, HT.out, cellsU_size, cellsU_size, tab_length, List.length_replicate]) (cellsU_one _) ?_))
      refine bodyPost_ret (v := .agg (cellsU tab)) ?_ rfl ⟨rfl, below_setRow H5.out (Nat.le_refl _) _⟩
      rw [HT.out]
      exact results_cell_row rfl _ _ w.heap.size 135 (cellsU tab) (0, 0) _ rfl (setRow_heap _ _ _ _ _ _ H3.out) Try.underlying135 rfl (by rw [info35s, cellsU_size, tab_length])
end Go.Proofs.Ytdpfmaikijilkaa.Fr
namespace Go.Proofs.Ytdpfmaikijilkaa.Fr
open Go.RowKit CrcM

/-- the slice at a, of so many bytes, reads as l -/
def Bts (w : World) (a : Option Addr) (len : Nat) (l : List Nat) : Prop :=
  l.length = len ∧ (∀ b ∈ l, b < 256) ∧ len ≤ 9223372036854775807 ∧
  (len = 0 ∨ ∃ B off, a = some ⟨B, off, none⟩ ∧ B < w.heap.size ∧ ∀ i, i < len → w.cell? ⟨B, off + i, none⟩ = some (.int .u8 (l.getD i 0 : Nat)))

/-- it answers the number n, and writes nothing that was there -/
def TellsN (n : Nat) (w : World) (e : Ending) (w' : World) : Prop := ∃ r : Int, e = .returned (.int .u32 r) ∧ U r n ∧ Below w.heap.size w w'

theorem take_step (l : List Nat) (k : Nat) (h : k < l.length) : l.take (k + 1) = l.take k ++ [l.getD k 0] := by
  rw [List.take_succ_eq_append_getElem h]; simp [List.getD, h]

theorem getD_mem (l : List Nat) (k : Nat) (h : k < l.length) : l.getD k 0 ∈ l := by
  simp [List.getD, h]

theorem step_byte {rv xv : Int} {n b : Nat} (hu : U rv n) (hv : (b : Int) = xv) (hb : b < 256) :
    ∃ tv : Int, 0 ≤ bits .xor .u8 (rv % 256) xv ∧ bits .xor .u8 (rv % 256) xv < 256 ∧ (cellsU tab)[(bits .xor .u8 (rv % 256) xv).toNat]? = some (.int .u32 tv) ∧ 0 ≤ tv ∧ tv < 4294967296 ∧
      U (bits .xor .u32 (rv / 256) tv) (s8 (n ^^^ b)) := by
  obtain ⟨rfl, hn⟩ := hu
  subst hv
  have e : bits .xor .u8 ((n : Int) % 256) (b : Int) = (((n % 256) ^^^ b : Nat) : Int) := u8_xor_nat (n % 256) b (by omega) hb
  have hlt : (n % 256) ^^^ b < 256 := Nat.xor_lt_two_pow (n := 8) (by omega) hb
  have ht : s8 ((n % 256) ^^^ b) < top := s8_lt _ (by unfold top; omega)
  refine ⟨((s8 ((n % 256) ^^^ b) : Nat) : Int), ?_, ?_, ?_, ?_, ?_, ?_⟩
  · rw [e]; exact Int.natCast_nonneg _
  · rw [e]; omega
  · rw [e, Int.toNat_natCast, cellsU_get _ _ (by rw [tab_length]; exact hlt), tab_get _ hlt]
  · exact Int.natCast_nonneg _
  · unfold top at ht; omega
  · have hq : U ((n : Int) / 256) (n / 256) := ⟨rfl, by unfold top at *; omega⟩
    exact (hq.xor (U.mk _ ht)).eq (s8_byte n b)

theorem reg_next {m : Nat} {l : List Nat} {k : Nat} {r : Int} (h : U r (s8 (reg (nt m) (l.take k) ^^^ l.getD k 0))) (hk : k < l.length) : U r (reg (nt m) (l.take (k + 1))) := by
  refine h.eq ?_
  rw [take_step l k hk, reg_append]
  rfl

set_option maxRecDepth 100000 in
set_option maxHeartbeats 400000 in
theorem more_some (c : Int) (m : Nat) (B off len cap : Nat) (l : List Nat) (w : World) (hc : U c m) (hl : l.length = len) (hb : ∀ b ∈ l, b < 256) (hlen : len ≤ 9223372036854775807)
    (hB : B < w.heap.size) (hcell : ∀ i, i < len → w.cell? ⟨B, off + i, none⟩ = some (.int .u8 (l.getD i 0 : Nat))) :
    Calls Try.prog 95 #[.int .u32 c, .slice (some ⟨B, off, none⟩) len cap] w (TellsN (more m l) w) := by
  have hz35 := (zero_of_info info35).1
  have h0 := hc.lo
  have h1 := hc.hi
  have HC := Lib.hid hc
  have HL := Lib.hid hl
  have HB := Lib.hid hb
  have HX := Lib.hid hcell
  clear hc hl hb hcell
  go_enter Try.func95, Try.ntmps95
  go_wp2_with (first
    | (go_at_call 96; refine (newTable_any _).mono ?_; rintro e w1 ⟨rfl, hbel⟩; have HW := Lib.hid hbel; clear hbel)
    | (refine wpList_store_row rfl 135 (.tmp 5) (.tmp 9) rfl _ (cellsU tab) rfl rfl 135 (cellsU (List.replicate 256 0)) (heap_alloc_new _ _) (by rw [info35s, cellsU_size, tab_length]) (by rw [cellsU_size, cellsU_size, tab_length, List.length_replicate]) (cellsU_one _) ?_; rw [World.setRow_alloc_new]))
  go_loop [6, 8, 14] (fun r x i => ∃ (k : Nat) (rv : Int), k ≤ len ∧ i = .int .i64 k ∧ r = .int .u32 rv ∧ U rv (reg (nt m) (l.take k))) (fun _ _ i => len - (intOf i).toNat)
  case atStart => exact ⟨0, _, by omega, rfl, rfl, HC.out.not⟩
  case round =>
    obtain ⟨k, rv, hk, rfl, rfl, hu⟩ := hrel
    have hr0 := hu.lo
    have hr1 := hu.hi
    by_cases hlt : k < len
    · have hx := HX.out k hlt
      have hB1 : B < w1.heap.size := by have := HW.out.size; omega
      have hx1 : w1.cell? ⟨B, off + k, none⟩ = some (.int .u8 (l.getD k 0 : Nat)) := by rw [HW.out.cell hB]; exact hx
      have hbk := HB.out _ (getD_mem l k (by rw [HL.out]; exact hlt))
      generalize hv : ((l.getD k 0 : Nat) : Int) = xv at hx hx1
      have hb0 : 0 ≤ xv := by omega
      have hb1 : xv < 256 := by omega
      obtain ⟨tv, hi0, hi1, ht, ht0, ht1, hun⟩ := step_byte hu hv hbk
      have HN := Lib.hid (reg_next hun (by rw [HL.out]; exact hlt))
      clear hu hv hx hbk hun
      go_wp2
      go_round
      case rel => exact ⟨k + 1, _, by omega, by go_num, rfl, HN.out⟩
      case measure => simp [intOf]; omega
    · have hge : ¬ ((k : Int) < (len : Int)) := by omega
      have HF := Lib.hid (hu.not.eq (show nt (reg (nt m) (l.take k)) = more m l from by rw [List.take_of_length_le (by rw [HL.out]; omega)]; rfl))
      clear hu hlt
      go_wp2
      go_ret
      exact ⟨_, rfl, HF.out, HW.out.alloc HW.out.size _⟩

set_option maxRecDepth 100000 in
set_option maxHeartbeats 400000 in
theorem more_none (c : Int) (m : Nat) (a : Option Addr) (cap : Nat) (w : World) (hc : U c m) :
    Calls Try.prog 95 #[.int .u32 c, .slice a 0 cap] w (TellsN m w) := by
  have hz35 := (zero_of_info info35).1
  have h0 := hc.lo
  have h1 := hc.hi
  have HC := Lib.hid (hc.not.not.eq (nt_nt m))
  clear hc
  go_enter Try.func95, Try.ntmps95
  go_wp2_with (first
    | (go_at_call 96; refine (newTable_any _).mono ?_; rintro e w1 ⟨rfl, hbel⟩; have HW := Lib.hid hbel; clear hbel)
    | (refine wpList_store_row rfl 135 (.tmp 5) (.tmp 9) rfl _ (cellsU tab) rfl rfl 135 (cellsU (List.replicate 256 0)) (heap_alloc_new _ _) (by rw [info35s, cellsU_size, tab_length]) (by rw [cellsU_size, cellsU_size, tab_length, List.length_replicate]) (cellsU_one _) ?_; rw [World.setRow_alloc_new]))
  refine wp_loop_rounds 1 ?_
  rw [rounds_succ]
  go_wp2
  go_ret
  exact ⟨_, rfl, HC.out, HW.out.alloc HW.out.size _⟩

theorem more_any (c : Int) (m : Nat) (a : Option Addr) (len cap : Nat) (l : List Nat) (w : World) (hc : U c m) (h : Bts w a len l) :
    Calls Try.prog 95 #[.int .u32 c, .slice a len cap] w (TellsN (more m l) w) := by
  obtain ⟨hl, hb, hlen, rfl | ⟨B, off, rfl, hB, hcell⟩⟩ := h
  · obtain rfl : l = [] := List.length_eq_zero_iff.1 hl
    rw [more_nil]
    exact more_none c m a cap w hc
  · exact more_some c m B off len cap l w hc hl hb hlen hB hcell

set_option maxHeartbeats 400000 in
theorem sum_any (a : Option Addr) (len cap : Nat) (l : List Nat) (w : World) (h : Bts w a len l) :
    Calls Try.prog 92 #[.slice a len cap] w (TellsN (more 0 l) w) := by
  have H := Lib.hid h
  clear h
  go_enter Try.func92, Try.ntmps92
  go_wp2_with (go_at_call 95; refine (more_any 0 0 _ _ _ _ _ ⟨rfl, by decide⟩ H.out).mono ?_; rintro e w1 ⟨r, rfl, hu, hbel⟩; have HU := Lib.hid hu; have HW := Lib.hid hbel; clear hu hbel)
  go_ret
  exact ⟨_, rfl, HU.out, HW.out⟩

set_option maxRecDepth 100000 in
set_option maxHeartbeats 400000 in
theorem rmore_some (c : Int) (m : Nat) (B off len cap : Nat) (l : List Nat) (w : World) (hc : U c m) (hl : l.length = len) (hb : ∀ b ∈ l, b < 256) (hlen : len ≤ 9223372036854775807)
    (hcell : ∀ i, i < len → w.cell? ⟨B, off + i, none⟩ = some (.int .u8 (l.getD i 0 : Nat))) :
    Calls Try.prog 90 #[.int .u32 c, .slice (some ⟨B, off, none⟩) len cap] w (TellsU (more m l) w) := by
  have h0 := hc.lo
  have h1 := hc.hi
  have HC := Lib.hid hc
  have HL := Lib.hid hl
  have HB := Lib.hid hb
  have HX := Lib.hid hcell
  clear hc hl hb hcell
  go_enter Try.func90, Try.ntmps90
  go_wp2
  go_loop [0, 5] (fun r i => ∃ (k : Nat) (rv : Int), k ≤ len ∧ i = .int .i64 k ∧ r = .int .u32 rv ∧ U rv (more m (l.take k))) (fun _ i => len - (intOf i).toNat)
  case atStart => exact ⟨0, _, by omega, rfl, rfl, HC.out.eq (by rw [List.take_zero, more_nil])⟩
  case round =>
    obtain ⟨k, rv, hk, rfl, rfl, hu⟩ := hrel
    have hr0 := hu.lo
    have hr1 := hu.hi
    by_cases hlt : k < len
    · have hx := HX.out k hlt
      have hbk := HB.out _ (getD_mem l k (by rw [HL.out]; exact hlt))
      have hs : Hid (byte (more m (l.take k)) (l.getD k 0) = more m (l.take (k + 1))) := by
        rw [take_step l k (by rw [HL.out]; exact hlt), more_snoc]; exact rfl
      generalize hv : ((l.getD k 0 : Nat) : Int) = xv at hx
      have hb0 : 0 ≤ xv := by omega
      have hb1 : xv < 256 := by omega
      have HU := Lib.hid hu
      have HV := Lib.hid hv
      have HK := Lib.hid hbk
      clear hu hv hbk
      go_wp2_with (go_at_call 94; refine (byte_any _ _ _ _ _ HU.out HV.out.symm HK.out).mono ?_; rintro e w1 ⟨r, rfl, hu, rfl⟩; have HN := Lib.hid hu; clear hu)
      go_round
      case rel => exact ⟨k + 1, _, by omega, by go_num, rfl, HN.out.eq hs.out⟩
      case measure => simp [intOf]; omega
    · have hge : ¬ ((k : Int) < (len : Int)) := by omega
      have HF := Lib.hid (hu.eq (show more m (l.take k) = more m l from by rw [List.take_of_length_le (by rw [HL.out]; omega)]))
      clear hu hlt
      go_wp2
      go_ret
      exact ⟨_, rfl, HF.out, rfl⟩

set_option maxHeartbeats 400000 in
theorem rmore_none (c : Int) (m : Nat) (a : Option Addr) (cap : Nat) (w : World) (hc : U c m) :
    Calls Try.prog 90 #[.int .u32 c, .slice a 0 cap] w (TellsU m w) := by
  have h0 := hc.lo
  have h1 := hc.hi
  have HC := Lib.hid hc
  clear hc
  go_enter Try.func90, Try.ntmps90
  go_wp2
  refine wp_loop_rounds 1 ?_
  rw [rounds_succ]
  go_wp2
  go_ret
  exact ⟨_, rfl, HC.out, rfl⟩

theorem rmore_any (c : Int) (m : Nat) (a : Option Addr) (len cap : Nat) (l : List Nat) (w : World) (hc : U c m) (h : Bts w a len l) :
    Calls Try.prog 90 #[.int .u32 c, .slice a len cap] w (TellsU (more m l) w) := by
  obtain ⟨hl, hb, hlen, rfl | ⟨B, off, rfl, _, hcell⟩⟩ := h
  · obtain rfl : l = [] := List.length_eq_zero_iff.1 hl
    rw [more_nil]
    exact rmore_none c m a cap w hc
  · exact rmore_some c m B off len cap l w hc hl hb hlen hcell

set_option maxHeartbeats 400000 in
theorem rsum_any (a : Option Addr) (len cap : Nat) (l : List Nat) (w : World) (h : Bts w a len l) :
    Calls Try.prog 73 #[.slice a len cap] w (TellsU (more 0 l) w) := by
  have H := Lib.hid h
  clear h
  go_enter Try.func73, Try.ntmps73
  go_wp2_with (go_at_call 90; refine (rmore_any 0 0 _ _ _ _ _ ⟨rfl, by decide⟩ H.out).mono ?_; rintro e w1 ⟨r, rfl, hu, rfl⟩; have HU := Lib.hid hu; clear hu)
  go_ret
  exact ⟨_, rfl, HU.out, rfl⟩

/-- it answers true, and writes nothing that was there -/
def TellsTrue (w : World) (e : Ending) (w' : World) : Prop := e = .returned (.bool true) ∧ Below w.heap.size w w'

end Go.Proofs.Ytdpfmaikijilkaa.Fr
namespace Go.Proofs.Ytdpfmaikijilkaa.Fr
open Go.RowKit CrcM

theorem Bts.below {w w' : World} {a : Option Addr} {len : Nat} {l : List Nat} (h : Bts w a len l) (hb : Below w.heap.size w w') : Bts w' a len l := by
  obtain ⟨h1, h2, h3, h4⟩ := h
  refine ⟨h1, h2, h3, ?_⟩
  rcases h4 with h4 | ⟨B, off, rfl, hB, hc⟩
  · exact .inl h4
  · exact .inr ⟨B, off, rfl, Nat.lt_of_lt_of_le hB hb.size, fun i hi => (hb.cell (p := ⟨B, off + i, none⟩) hB).trans (hc i hi)⟩
theorem Bts.drew {w : World} {a : Option Addr} {len : Nat} {l : List Nat} (h : Bts w a len l) : Bts w.drew a len l := h
theorem Bts.take {w : World} {a : Option Addr} {len : Nat} {l : List Nat} (h : Bts w a len l) (k : Nat) (hk : k ≤ len) : Bts w a k (l.take k) := by
  obtain ⟨h1, h2, h3, h4⟩ := h
  refine ⟨by rw [List.length_take]; omega, fun b hb => h2 b (List.mem_of_mem_take hb), by omega, ?_⟩
  rcases h4 with h4 | ⟨B, off, rfl, hB, hc⟩
  · exact .inl (by omega)
  · refine .inr ⟨B, off, rfl, hB, fun i hi => ?_⟩
    rw [hc i (by omega)]
    simp [List.getD, hi]
theorem Bts.drop {w : World} {B off : Nat} {len : Nat} {l : List Nat} (h : Bts w (some ⟨B, off, none⟩) len l) (k : Nat) (hk : k ≤ len) : Bts w (some ⟨B, off + k, none⟩) (len - k) (l.drop k) := by
  obtain ⟨h1, h2, h3, h4⟩ := h
  refine ⟨by rw [List.length_drop]; omega, fun b hb => h2 b (List.mem_of_mem_drop hb), by omega, ?_⟩
  rcases h4 with h4 | ⟨B', off', he, hB, hc⟩
  · exact .inl (by omega)
  · cases he
    refine .inr ⟨B, off + k, rfl, hB, fun i hi => ?_⟩
    rw [show off + k + i = off + (k + i) from by omega, hc (k + i) (by omega)]
    simp [List.getD, List.getElem?_drop]
theorem Bts.nought (w : World) (a : Option Addr) : Bts w a 0 [] := ⟨rfl, by simp, by omega, .inl rfl⟩

theorem Bts.at_ {w : World} {B off len : Nat} {l : List Nat} (h : Bts w (some ⟨B, off, none⟩) len l) :
    ∀ j u, (l.map fun (n : Nat) => Value.int .u8 (n : Int))[j]? = some u → w.cell? ((⟨B, off, none⟩ : Addr).add j) = some u := by
  intro j u hu
  obtain ⟨h1, h2, h3, h4⟩ := h
  have hj : j < l.length := by
    rcases Nat.lt_or_ge j l.length with h | h
    · exact h
    · simp [h] at hu
  rcases h4 with h4 | ⟨B', off', he, hB, hc⟩
  · omega
  · cases he
    have hadd : (⟨B, off, none⟩ : Addr).add j = ⟨B, off + j, none⟩ := by unfold Addr.add; split <;> simp_all
    rw [hadd, hc j (by omega)]
    simp [hj] at hu
    subst hu
    simp [List.getD, hj]

def strOf (l : List Nat) : ByteArray := strOfNums (l.map fun (n : Nat) => (n : Int))
theorem Bts.str {w : World} {a : Option Addr} {len : Nat} {l : List Nat} (h : Bts w a len l) (cap : Nat) :
    (convert 24 9 (.slice a len cap)).run Try.prog w = .ok (.string (strOf l)) w := by
  obtain ⟨h1, h2, h3, rfl | ⟨B, off, rfl, hB, hc⟩⟩ := h
  · obtain rfl : l = [] := List.length_eq_zero_iff.1 h1
    rw [run_convert_bytes_string w 24 9 5 _ 0 cap Try.underlying24 Try.underlying5 Try.underlying9]
    cases a with
    | none => simp [Conv.bytesToString]; rfl
    | some x =>
      rw [run_bytesToString w x 0 cap [] (by simp [loadCells, loadCellsFrom])]
      rfl
  · refine run_convert_bytes_arg w 24 5 Try.underlying24 Try.underlying5 B off len cap _ (by simpa using h1) (fun i hi => ?_) 9 Try.underlying9
    rw [hc i hi]
    simp [List.getD, show i < l.length from by omega]

theorem info5 : (Try.prog.info? 5).map (fun i => (i.zero, i.size, i.bytes)) = some (some (.int .u8 0), 1, 1) := by kernel_rfl

theorem own_bts {w : World} {base : Nat} {v : Value} {len : Nat} {l : List Nat} (h : w.ownsRow base 5 1 v len (l.map fun (n : Nat) => Value.int .u8 (n : Int))) (hl : l.length = len) (hb : ∀ b ∈ l, b < 256) (hlen : len ≤ 9223372036854775807) :
    ∃ a cap, v = .slice a len cap ∧ Bts w a len l := by
  obtain ⟨h1, ⟨rfl, rfl⟩ | ⟨g, cap, cur, rfl, _, hg, _, _, _, ht⟩⟩ := h
  · exact ⟨none, 0, rfl, hl, hb, hlen, .inl rfl⟩
  · refine ⟨_, cap, rfl, hl, hb, hlen, .inr ⟨g, 0, rfl, lt_of_block hg, fun i hi => ?_⟩⟩
    rw [cell_of_row _ _ _ _ _ _ hg, Nat.zero_add]
    have e : (cur.toList.take (len * 1))[i]? = (l.map fun (n : Nat) => Value.int .u8 (n : Int))[i]? := by rw [ht]
    rw [List.getElem?_take, if_pos (by omega)] at e
    simp [show i < l.length from by omega] at e
    simp [e, List.getD, show i < l.length from by omega]

end Go.Proofs.Ytdpfmaikijilkaa.Fr
namespace FrM
open CrcM

/-- the frame of a payload -/
def enc (p : List Nat) : List Nat :=
  [p.length / 256, p.length % 256, more 0 p / 16777216, more 0 p / 65536 % 256, more 0 p / 256 % 256, more 0 p % 256] ++ p

/-- a number of several bytes, the highest first -/
def num : List Nat → Nat := List.foldl (fun n x => 256 * n + x) 0

inductive V where
  | wait
  | bad (e : Nat)
  | got (n : Nat)

/-- the length that the head of a stream bears -/
def len (r : List Nat) : Nat := 256 * r.getD 0 0 + r.getD 1 0

def look (r : List Nat) : V :=
  if r.length < 2 then .wait
  else if len r < 1 ∨ 4096 < len r then .bad 10
  else if r.length < 6 + len r then .wait
  else if num ((r.drop 2).take 4) ≠ more 0 ((r.drop 6).take (len r)) then .bad 11
  else .got (len r)

theorem getD_append (r x : List Nat) (i : Nat) (h : i < r.length) : (r ++ x).getD i 0 = r.getD i 0 := by
  simp [List.getD, List.getElem?_append_left h]
theorem len_append (r x : List Nat) (h : 2 ≤ r.length) : len (r ++ x) = len r := by
  unfold len; rw [getD_append r x 0 (by omega), getD_append r x 1 (by omega)]
theorem part_append (r x : List Nat) (i n : Nat) (h : i + n ≤ r.length) : ((r ++ x).drop i).take n = (r.drop i).take n := by
  rw [List.drop_append_of_le_length (by omega), List.take_append_of_le_length (by rw [List.length_drop]; omega)]

theorem look_got {r : List Nat} {n : Nat} (h : look r = .got n) : n = len r ∧ 1 ≤ n ∧ n ≤ 4096 ∧ 6 + n ≤ r.length ∧ num ((r.drop 2).take 4) = more 0 ((r.drop 6).take n) := by
  unfold look at h
  split at h
  · cases h
  · split at h
    · cases h
    · split at h
      · cases h
      · split at h
        · cases h
        · cases h
          exact ⟨rfl, by omega, by omega, by omega, by rename_i h1; exact Decidable.not_not.1 h1⟩
theorem look_got_of {r : List Nat} (h1 : 1 ≤ len r) (h2 : len r ≤ 4096) (h3 : 6 + len r ≤ r.length) (h4 : num ((r.drop 2).take 4) = more 0 ((r.drop 6).take (len r))) : look r = .got (len r) := by
  unfold look
  rw [if_neg (by omega), if_neg (by omega), if_neg (by omega), if_neg (by simpa using h4)]
theorem look_short {r : List Nat} (h : r.length < 2) : look r = .wait := by unfold look; rw [if_pos h]
theorem look_len {r : List Nat} (h : 2 ≤ r.length) (h2 : len r < 1 ∨ 4096 < len r) : look r = .bad 10 := by unfold look; rw [if_neg (by omega), if_pos h2]
theorem look_part {r : List Nat} (h : 2 ≤ r.length) (h2 : ¬ (len r < 1 ∨ 4096 < len r)) (h3 : r.length < 6 + len r) : look r = .wait := by
  unfold look; rw [if_neg (by omega), if_neg h2, if_pos h3]
theorem look_sum {r : List Nat} (h2 : ¬ (len r < 1 ∨ 4096 < len r)) (h3 : 6 + len r ≤ r.length) (h4 : num ((r.drop 2).take 4) ≠ more 0 ((r.drop 6).take (len r))) : look r = .bad 11 := by
  unfold look; rw [if_neg (by omega), if_neg h2, if_neg (by omega), if_pos h4]

theorem look_got_append {r : List Nat} {n : Nat} (h : look r = .got n) (x : List Nat) : look (r ++ x) = .got n ∧ ((r ++ x).drop 6).take n = (r.drop 6).take n := by
  obtain ⟨rfl, h1, h2, h3, h4⟩ := look_got h
  have hl := len_append r x (by omega)
  have hp := part_append r x 6 (len r) (by omega)
  refine ⟨?_, hp⟩
  rw [← hl]
  refine look_got_of (by omega) (by omega) (by rw [List.length_append]; omega) ?_
  rw [hl, hp, part_append r x 2 4 (by omega)]
  exact h4
theorem look_bad_append {r : List Nat} {e : Nat} (h : look r = .bad e) (x : List Nat) : look (r ++ x) = .bad e := by
  unfold look at h
  split at h
  · cases h
  · split at h
    · cases h
      exact look_len (by rw [List.length_append]; omega) (by rw [len_append r x (by omega)]; assumption)
    · split at h
      · cases h
      · split at h
        · cases h
          have hl := len_append r x (by omega)
          refine look_sum (by rw [hl]; assumption) (by rw [hl, List.length_append]; omega) ?_
          rw [hl, part_append r x 6 (len r) (by omega), part_append r x 2 4 (by omega)]
          assumption
        · cases h
theorem look_bad {r : List Nat} {e : Nat} (h : look r = .bad e) : (e = 10 ∨ e = 11) ∧ 2 ≤ r.length := by
  unfold look at h
  split at h
  · cases h
  · split at h
    · cases h; exact ⟨.inl rfl, by omega⟩
    · split at h
      · cases h
      · split at h
        · cases h; exact ⟨.inr rfl, by omega⟩
        · cases h

/-- so much of a stream is told: these payloads, in so many bytes -/
inductive Got (l : List Nat) : List (List Nat) → Nat → Prop
  | none : Got l [] 0
  | more {ps : List (List Nat)} {k n : Nat} : Got l ps k → look (l.drop k) = .got n → Got l (ps ++ [((l.drop k).drop 6).take n]) (k + (6 + n))

theorem Got.le {l : List Nat} {ps : List (List Nat)} {k : Nat} (h : Got l ps k) : k ≤ l.length ∧ 7 * ps.length ≤ k := by
  induction h with
  | none => simp
  | more h hl ih =>
    obtain ⟨_, h1, _, h3, _⟩ := look_got hl
    rw [List.length_drop] at h3
    simp
    omega
theorem Got.append {l : List Nat} {ps : List (List Nat)} {k : Nat} (h : Got l ps k) (x : List Nat) : Got (l ++ x) ps k := by
  induction h with
  | none => exact .none
  | more h hl ih =>
    have hk := h.le.1
    obtain ⟨h1, h2⟩ := look_got_append hl x
    rw [← List.drop_append_of_le_length hk] at h1 h2
    rw [← h2]
    exact ih.more h1
theorem Got.trans {l : List Nat} {ps qs : List (List Nat)} {k m : Nat} (h : Got l ps k) (h2 : Got (l.drop k) qs m) : Got l (ps ++ qs) (k + m) := by
  induction h2 with
  | none => simpa using h
  | more h2 hl ih =>
    rw [List.drop_drop] at hl
    have := ih.more hl
    rw [List.append_assoc] at this
    rw [show ∀ a b c : Nat, a + (b + c) = a + b + c from fun a b c => by omega]
    simp only [List.drop_drop] at this ⊢
    simp only [Nat.add_assoc] at this ⊢
    exact this
theorem Got.inv {l : List Nat} {ps : List (List Nat)} {k : Nat} (h : Got l ps k) : (ps = [] ∧ k = 0) ∨ ∃ qs m n, Got l qs m ∧ look (l.drop m) = .got n ∧ ps = qs ++ [((l.drop m).drop 6).take n] ∧ k = m + (6 + n) := by
  cases h with
  | none => exact .inl ⟨rfl, rfl⟩
  | more h hl => exact .inr ⟨_, _, _, h, hl, rfl, rfl⟩
/-- of two, one goes on from the other -/
theorem Got.same {l : List Nat} : ∀ (n : Nat) {ps qs : List (List Nat)} {k m : Nat}, ps.length = n → qs.length = n → Got l ps k → Got l qs m → ps = qs ∧ k = m := by
  intro n
  induction n with
  | zero =>
    intro ps qs k m h1 h2 h3 h4
    have e1 := List.length_eq_zero_iff.1 h1
    have e2 := List.length_eq_zero_iff.1 h2
    subst e1; subst e2
    rcases h3.inv with ⟨_, rfl⟩ | ⟨_, _, _, _, _, h, _⟩
    · rcases h4.inv with ⟨_, rfl⟩ | ⟨_, _, _, _, _, h, _⟩
      · exact ⟨rfl, rfl⟩
      · simp at h
    · simp at h
  | succ n ih =>
    intro ps qs k m h1 h2 h3 h4
    rcases h3.inv with ⟨rfl, _⟩ | ⟨ps', k', a, g1, l1, rfl, rfl⟩
    · simp at h1
    · rcases h4.inv with ⟨rfl, _⟩ | ⟨qs', m', b, g2, l2, rfl, rfl⟩
      · simp at h2
      · simp at h1 h2
        obtain ⟨rfl, rfl⟩ := ih h1 h2 g1 g2
        rw [l1] at l2
        cases l2
        exact ⟨rfl, rfl⟩
theorem Got.upto {l : List Nat} {ps : List (List Nat)} {k : Nat} (h : Got l ps k) : ∀ j, j < ps.length → ∃ qs m n, qs.length = j ∧ Got l qs m ∧ look (l.drop m) = .got n := by
  induction h with
  | none => intro j hj; simp at hj
  | @more ps k n h hl ih =>
    intro j hj
    by_cases e : j = ps.length
    · exact ⟨ps, k, n, e.symm, h, hl⟩
    · exact ih j (by simp at hj; omega)

/-- all is told: what is wrong then (0: nothing) -/
def Ends (r : List Nat) (e : Nat) : Prop := (e = 0 ∧ look r = .wait) ∨ look r = .bad e
def Tld (l : List Nat) (ps : List (List Nat)) (e k : Nat) : Prop := Got l ps k ∧ Ends (l.drop k) e

theorem Ends.not {r : List Nat} {e n : Nat} (h : Ends r e) (h2 : look r = .got n) : False := by
  rcases h with ⟨_, h⟩ | h <;> rw [h] at h2 <;> cases h2
theorem Ends.eq {r : List Nat} {e f : Nat} (h : Ends r e) (h2 : Ends r f) : e = f := by
  rcases h with ⟨rfl, h⟩ | h <;> rcases h2 with ⟨rfl, g⟩ | g <;> rw [h] at g <;> cases g <;> rfl
theorem Tld.eq {l : List Nat} {ps qs : List (List Nat)} {e f k m : Nat} (h : Tld l ps e k) (h2 : Tld l qs f m) : ps = qs ∧ e = f ∧ k = m := by
  rcases Nat.lt_trichotomy ps.length qs.length with hl | hl | hl
  · obtain ⟨rs, j, n, e1, g, hg⟩ := h2.1.upto _ hl
    obtain ⟨rfl, rfl⟩ := Got.same _ rfl e1 h.1 g
    exact (h.2.not hg).elim
  · obtain ⟨rfl, rfl⟩ := Got.same _ rfl hl.symm h.1 h2.1
    exact ⟨rfl, h.2.eq h2.2, rfl⟩
  · obtain ⟨rs, j, n, e1, g, hg⟩ := h.1.upto _ hl
    obtain ⟨rfl, rfl⟩ := Got.same _ rfl e1 h2.1 g
    exact (h2.2.not hg).elim
theorem Tld.bad_append {l : List Nat} {ps : List (List Nat)} {e k : Nat} (h : Tld l ps e k) (he : e ≠ 0) (x : List Nat) : Tld (l ++ x) ps e k := by
  refine ⟨h.1.append x, ?_⟩
  rcases h.2 with ⟨rfl, _⟩ | hb
  · exact absurd rfl he
  · rw [List.drop_append_of_le_length h.1.le.1]
    exact .inr (look_bad_append hb x)
theorem Tld.trans {l : List Nat} {ps qs : List (List Nat)} {e k m : Nat} (h : Got l ps k) (h2 : Tld (l.drop k) qs e m) : Tld l (ps ++ qs) e (k + m) := by
  refine ⟨h.trans h2.1, ?_⟩
  have := h2.2
  rw [List.drop_drop] at this
  exact this
end FrM
namespace Go.Proofs.Ytdpfmaikijilkaa.Fr
open Go.RowKit CrcM FrM

/-- nothing that was there has turned, but in the blocks S -/
structure But (S : Nat → Prop) (w w' : World) : Prop where
  os : w'.os = w.os
  tape : w'.tape = w.tape
  output : w'.output = w.output
  size : w.heap.size ≤ w'.heap.size
  block : ∀ k, k < w.heap.size → ¬ S k → w'.heap[k]? = w.heap[k]?

theorem But.refl (S : Nat → Prop) (w : World) : But S w w := ⟨rfl, rfl, rfl, Nat.le_refl _, fun _ _ _ => rfl⟩
theorem But.next {S T : Nat → Prop} {a b c : World} (h : But S a b) (k : But T b c) (hT : ∀ j, j < a.heap.size → T j → S j) : But S a c :=
  ⟨k.os.trans h.os, k.tape.trans h.tape, k.output.trans h.output, Nat.le_trans h.size k.size,
    fun i hi hs => (k.block i (Nat.lt_of_lt_of_le hi h.size) (fun t => hs (hT i hi t))).trans (h.block i hi hs)⟩
theorem But.trans {S : Nat → Prop} {a b c : World} (h : But S a b) (k : But S b c) : But S a c := h.next k fun _ _ t => t
theorem But.mono {S T : Nat → Prop} {a b : World} (h : But S a b) (hT : ∀ j, j < a.heap.size → S j → T j) : But T a b :=
  ⟨h.os, h.tape, h.output, h.size, fun k hk ht => h.block k hk fun s => ht (hT k hk s)⟩
theorem But.of {S : Nat → Prop} {a b : World} (h : Below a.heap.size a b) : But S a b := ⟨h.os, h.tape, h.output, h.size, fun k hk _ => h.block k hk⟩
theorem But.grown {a b : World} {row : Option Nat} (h : a.grownBy b row) : But (fun k => some k = row) a b := ⟨h.os, h.tape, h.output, h.size, h.block⟩
theorem But.below {S : Nat → Prop} {a b : World} (h : But S a b) (B : Nat) (hB : B ≤ a.heap.size) (hS : ∀ k, S k → B ≤ k) : Below B a b :=
  ⟨h.os, h.tape, h.output, h.size, fun k hk => h.block k (by omega) fun s => by have := hS k s; omega⟩
theorem But.alloc {S : Nat → Prop} {a b : World} (h : But S a b) (o : Obj) : But S a (b.alloc o) :=
  h.trans ⟨rfl, rfl, rfl, by simp, fun k hk _ => Below.heap_alloc _ _ _ hk⟩
theorem But.drew {S : Nat → Prop} {a b : World} (h : But S a b) : But S a b.drew := ⟨h.os, h.tape, h.output, h.size, h.block⟩
theorem But.setCell {S : Nat → Prop} {a b : World} (h : But S a b) {p : Addr} (hp : S p.block) (u : Value) : But S a (b.setCell p u) :=
  h.trans ⟨rfl, rfl, rfl, by simp [World.setCell], fun k _ hs => Below.heap_setCell _ _ _ _ (fun e => hs (e ▸ hp))⟩
theorem But.heap {S : Nat → Prop} {a b : World} (h : But S a b) {k : Nat} {o : Obj} (hk : a.heap[k]? = some o) (hs : ¬ S k) : b.heap[k]? = some o :=
  (h.block k (lt_of_block hk) hs).trans hk

theorem Bts.but {S : Nat → Prop} {w w' : World} {a : Option Addr} {len : Nat} {l : List Nat} (h : Bts w a len l) (hb : But S w w') (hs : ∀ x, a = some x → ¬ S x.block) : Bts w' a len l := by
  obtain ⟨h1, h2, h3, h4⟩ := h
  refine ⟨h1, h2, h3, ?_⟩
  rcases h4 with h4 | ⟨B, off, rfl, hB, hc⟩
  · exact .inl h4
  · exact .inr ⟨B, off, rfl, Nat.lt_of_lt_of_le hB hb.size, fun i hi => (World.cell?_of_block (w := w) (hb.block B hB (hs _ rfl))).trans (hc i hi)⟩

/-- a byte slice, in block b if it is not nil, that may be written -/
def Row8 (w : World) (b : Nat) (v : Value) (l : List Nat) : Prop :=
  (v = .slice none 0 0 ∧ l = []) ∨
  ∃ off cap cur, v = .slice (some ⟨b, off, none⟩) l.length cap ∧ w.heap[b]? = some (.cells cur 5 (0, 0)) ∧ l.length ≤ cap ∧ cap ≤ maxLen ∧ off + cap ≤ cur.size ∧
    ∀ i, i < l.length → cur[off + i]? = some (.int .u8 (l.getD i 0 : Nat))

theorem Row8.bts {w : World} {b : Nat} {v : Value} {l : List Nat} (h : Row8 w b v l) (hb : ∀ x ∈ l, x < 256) :
    ∃ a cap, v = .slice a l.length cap ∧ Bts w a l.length l ∧ l.length ≤ cap ∧ (∀ x, a = some x → x.block = b) ∧ (a = none → l = [] ∧ cap = 0) ∧ (∀ x, a = some x → ∃ off, x = ⟨b, off, none⟩) := by
  rcases h with ⟨rfl, rfl⟩ | ⟨off, cap, cur, rfl, hh, h1, h2, h3, h4⟩
  · exact ⟨none, 0, rfl, Bts.nought _ _, Nat.le_refl _, (fun x e => by cases e), (fun _ => ⟨rfl, rfl⟩), (fun x e => by cases e)⟩
  · unfold maxLen at h2
    refine ⟨_, cap, rfl, ⟨rfl, hb, by omega, .inr ⟨b, off, rfl, lt_of_block hh, fun i hi => ?_⟩⟩, h1, (fun x e => by cases e; rfl), (fun e => by cases e), (fun x e => by cases e; exact ⟨off, rfl⟩)⟩
    rw [cell_of_row _ _ _ _ _ _ hh]
    exact h4 i hi

theorem Row8.but {S : Nat → Prop} {w w' : World} {b : Nat} {v : Value} {l : List Nat} (h : Row8 w b v l) (hb : But S w w') (hs : ¬ S b) : Row8 w' b v l := by
  rcases h with h | ⟨off, cap, cur, rfl, hh, h1, h2, h3, h4⟩
  · exact .inl h
  · exact .inr ⟨off, cap, cur, rfl, hb.heap hh hs, h1, h2, h3, h4⟩
theorem Row8.below {B : Nat} {w w' : World} {b : Nat} {v : Value} {l : List Nat} (h : Row8 w b v l) (hb : Below B w w') (hs : b < B) : Row8 w' b v l := by
  rcases h with h | ⟨off, cap, cur, rfl, hh, h1, h2, h3, h4⟩
  · exact .inl h
  · exact .inr ⟨off, cap, cur, rfl, (hb.block b hs).trans hh, h1, h2, h3, h4⟩

theorem setCells_heap (b : Nat) (t : TypeId) : ∀ (vs : List Value) (o : Nat) (w : World) (cur : Array Value), w.heap[b]? = some (.cells cur t (0, 0)) → o + vs.length ≤ cur.size →
    ∃ cur', (w.setCells b o vs).heap[b]? = some (.cells cur' t (0, 0)) ∧ cur'.size = cur.size ∧ (∀ i, i < o → cur'[i]? = cur[i]?) ∧ (∀ i, i < vs.length → cur'[o + i]? = vs[i]?)
  | [], o, w, cur, h, hs => ⟨cur, h, rfl, fun _ _ => rfl, fun i hi => by simp at hi⟩
  | v :: r, o, w, cur, h, hs => by
    simp at hs
    have h1 := heap_setCell_same w b o cur t v h
    obtain ⟨cur', a1, a2, a3, a4⟩ := setCells_heap b t r (o + 1) (w.setCell ⟨b, o, none⟩ v) (cur.setIfInBounds o v) h1 (by simp; omega)
    refine ⟨cur', a1, by rw [a2]; simp, fun i hi => ?_, fun i hi => ?_⟩
    · rw [a3 i (by omega), Array.getElem?_setIfInBounds_ne (by omega)]
    · cases i with
      | zero => rw [Nat.add_zero, a3 o (by omega)]; simp [show o < cur.size from by omega]
      | succ i => rw [show o + (i + 1) = o + 1 + i from by omega, a4 i (by simp at hi; omega)]; simp
theorem setCells_but (b : Nat) : ∀ (vs : List Value) (o : Nat) (w : World), w.grownBy (w.setCells b o vs) (some b)
  | [], o, w => ⟨rfl, rfl, rfl, Nat.le_refl _, fun _ _ _ => rfl⟩
  | v :: r, o, w => by
    obtain ⟨h1, h2, h3, h4, h5⟩ := setCells_but b r (o + 1) (w.setCell ⟨b, o, none⟩ v)
    refine ⟨h1, h2, h3, ?_, fun k hk hne => ?_⟩
    · rw [World.setCells]; simp [World.setCell] at h4 ⊢; exact h4
    · rw [World.setCells, h5 k (by simp [World.setCell]; exact hk) hne]
      exact Below.heap_setCell _ _ _ _ (fun e => hne (by rw [e]))

def cellsB (l : List Nat) : List Value := l.map fun (n : Nat) => Value.int .u8 (n : Int)
theorem cellsB_one (l : List Nat) : ∀ u ∈ cellsB l, u.oneCell' = true := by
  intro u hu; obtain ⟨n, _, rfl⟩ := List.mem_map.1 hu; rfl
theorem cellsB_length (l : List Nat) : (cellsB l).length = l.length := by simp [cellsB]
theorem cellsB_get (l : List Nat) (i : Nat) (h : i < l.length) : (cellsB l)[i]? = some (.int .u8 (l.getD i 0 : Nat)) := by simp [cellsB, List.getD, h]

theorem Bts.src {w : World} {a : Option Addr} {len : Nat} {l : List Nat} (h : Bts w a len l) (cap : Nat) : Src Try.prog 1 24 (.slice a len cap) len (cellsB l) w := by
  obtain ⟨h1, h2, h3, h4⟩ := h
  cases a with
  | none =>
    rcases h4 with rfl | ⟨_, _, e, _⟩
    · obtain rfl : l = [] := List.length_eq_zero_iff.1 h1
      exact Src.ofNil w Try.underlying24 cap
    · cases e
  | some x =>
    refine Src.ofSlice w Try.underlying24 x len cap (cellsB l) (by rw [cellsB_length]; omega) ?_ (cellsB_one l)
    rcases h4 with rfl | ⟨B, off, e, hB, hc⟩
    · obtain rfl : l = [] := List.length_eq_zero_iff.1 h1
      intro j u hu
      simp [cellsB] at hu
    · cases e
      exact Bts.at_ ⟨h1, h2, h3, .inr ⟨B, off, rfl, hB, hc⟩⟩

theorem getD_left (l m : List Nat) (i : Nat) (h : i < l.length) : (l ++ m).getD i 0 = l.getD i 0 := by simp [List.getD, List.getElem?_append_left h]
theorem getD_right (l m : List Nat) (i : Nat) : (l ++ m).getD (l.length + i) 0 = m.getD i 0 := by
  simp [List.getD, List.getElem?_append_right (Nat.le_add_right _ _)]

theorem run_append_row8 (w : World) (ty : TypeId) (b : Nat) (v : Value) (l : List Nat) (hr : Row8 w b v l) (a : Option Addr) (len cap : Nat) (src : List Nat) (hs : Bts w a len src) (hsz : l.length + len ≤ 1000000000) :
    ∃ v' w' b', (Builtin.append_ #[24, 24] ty #[v, .slice a len cap]).run Try.prog w = .ok v' w' ∧ Row8 w' b' v' (l ++ src) ∧ w.grownBy w' v.ownBlock ∧ ((b' = b ∧ (v = .slice none 0 0 → v' = .slice none 0 0)) ∨ (b' = w.heap.size ∧ b' < w'.heap.size)) := by
  obtain ⟨i, hi, hz0, hz1, hz2⟩ := info_parts info5
  have S := hs.src cap
  have hl := hs.1
  have hS : Src Try.prog i.size 24 (.slice a len cap) len (cellsB src) w := by rw [hz1]; exact S
  by_cases h0 : len = 0
  · subst h0
    obtain rfl : src = [] := List.length_eq_zero_iff.1 hl
    refine ⟨v, w, b, ?_, by rw [List.append_nil]; exact hr, ⟨rfl, rfl, rfl, Nat.le_refl _, fun _ _ _ => rfl⟩, .inl ⟨rfl, fun e => e⟩⟩
    rcases hr with ⟨rfl, rfl⟩ | ⟨off, c, cur, rfl, hh, h1, h2, h3, h4⟩
    · exact run_append_nothing w 24 24 ty 5 i Try.underlying24 hi none 0 0 (Nat.le_refl _) _ hS
    · exact run_append_nothing w 24 24 ty 5 i Try.underlying24 hi _ _ c h1 _ hS
  · have grow : ∀ (ad : Option Addr) (c : Nat), v = .slice ad l.length c → c < l.length + len → (Builtin.firstCells i.size l.length (.slice ad l.length c)).run Try.prog w.drew = .ok (cellsB l).toArray w.drew →
        ∃ v' w' b', (Builtin.append_ #[24, 24] ty #[v, .slice a len cap]).run Try.prog w = .ok v' w' ∧ Row8 w' b' v' (l ++ src) ∧ w.grownBy w' v.ownBlock ∧ ((b' = b ∧ (v = .slice none 0 0 → v' = .slice none 0 0)) ∨ (b' = w.heap.size ∧ b' < w'.heap.size)) := by
      rintro ad c rfl hc hold
      have hbig : Builtin.nextslicecap (l.length + len) c * i.bytes ≤ 281474976710656 := growslice_fits (by omega) (by rw [hz2]; omega)
      have hrun := run_append_grow_src (P := Try.prog) w 24 24 ty 5 i (.int .u8 0) Try.underlying24 hi hz0 ad l.length c (cellsB l) hold (.slice a len cap) len (cellsB src) hS hc (by omega) hbig
      have hge := grownCap_ge w (l.length + len) c 5
      have hcm := grownCap_le_maxLen w (l.length + len) c 5 (by unfold maxLen; omega)
      refine ⟨_, _, w.heap.size, hrun, .inr ⟨0, _, _, ?_, heap_alloc_new w.drew _, ?_, hcm, ?_, ?_⟩, ⟨rfl, rfl, rfl, by simp, fun k hk _ => heap_alloc_old w.drew _ hk⟩, .inr ⟨rfl, by simp⟩⟩
      · rw [List.length_append, hl]
      · rw [List.length_append, hl]; exact hge
      · simp only [Array.size_append, List.size_toArray, List.length_append, size_zeroCells, cellsB_length, hl, Nat.zero_add]
        simp [Value.cells]
        omega
      · intro j hj
        rw [List.length_append, hl] at hj
        rw [Nat.zero_add, Array.getElem?_append_left (by simp [cellsB_length, hl]; omega)]
        rw [show cellsB l ++ cellsB src = cellsB (l ++ src) from by simp [cellsB]]
        rw [List.getElem?_toArray]
        exact cellsB_get _ _ (by rw [List.length_append, hl]; exact hj)
    rcases hr with ⟨rfl, rfl⟩ | ⟨off, c, cur, rfl, hh, h1, h2, h3, h4⟩
    · exact grow none 0 rfl (by simp; omega) (run_firstCells_none w.drew _ _ _ _)
    · by_cases hroom : l.length + len ≤ c
      · have hfit : off + l.length + (cellsB src).length ≤ cur.size := by rw [cellsB_length, hl]; omega
        have hrun := run_append_room_src (P := Try.prog) w 24 24 ty 5 i Try.underlying24 hi b off l.length c (.slice a len cap) len (cellsB src) hS hroom
          (fun j hj => by rw [hz1, Nat.mul_one, cell_of_row _ _ _ _ _ _ hh]; simp; omega) (fun j hj => frozen_of_row _ _ _ _ _ hh)
        rw [hz1, Nat.mul_one] at hrun
        obtain ⟨cur', c1, c2, c3, c4⟩ := setCells_heap b 5 (cellsB src) (off + l.length) w cur hh hfit
        refine ⟨_, _, b, hrun, .inr ⟨off, c, cur', by rw [List.length_append, hl], c1, by rw [List.length_append, hl]; exact hroom, h2, by omega, fun j hj => ?_⟩, setCells_but b _ _ w, .inl ⟨rfl, fun e => by cases e⟩⟩
        rw [List.length_append, hl] at hj
        by_cases hjl : j < l.length
        · rw [c3 _ (by omega), h4 j hjl, getD_left l src j hjl]
        · obtain ⟨m, rfl⟩ : ∃ m, j = l.length + m := ⟨j - l.length, by omega⟩
          rw [← Nat.add_assoc, c4 m (by rw [cellsB_length, hl]; omega), cellsB_get _ _ (by omega), getD_right]
      · refine grow _ c rfl (by omega) ?_
        refine run_firstCells_some w.drew _ _ _ _ _ _ (by rw [cellsB_length, hz1, Nat.mul_one]) fun j u hu => ?_
        have hj : j < l.length := by
          rcases Nat.lt_or_ge j l.length with h | h
          · exact h
          · rw [List.getElem?_eq_none (by rw [cellsB_length]; exact h)] at hu; cases hu
        rw [Addr.add_mid, World.cell?_drew, cell_of_row _ _ _ _ _ _ hh, h4 j hj, ← cellsB_get l j hj]
        exact hu

theorem wpList_append_row8 {w : World} {ops : Array Oper} {rest : List Oper} {o : Oper} {act : Act} {Q : Exit → Act → World → Prop} (hgd : o.guard = none) (s x : Operand)
    (ho : o.op = .call { callee := .builtin .append, args := #[s, x], argTypes := #[24, 24] })
    (b : Nat) (v : Value) (l : List Nat) (a : Option Addr) (len cap : Nat) (src : List Nat) (hv : act.eval s = v) (hr : Row8 w b v l) (hx : act.eval x = .slice a len cap) (hs : Bts w a len src) (hsz : l.length + len ≤ 1000000000)
    (h : ∀ v' w' b', Row8 w' b' v' (l ++ src) → w.grownBy w' v.ownBlock → ((b' = b ∧ (v = .slice none 0 0 → v' = .slice none 0 0)) ∨ (b' = w.heap.size ∧ b' < w'.heap.size)) → wpList Try.prog ops Q rest (act.put o.dst v') w') : wpList Try.prog ops Q (o :: rest) act w := by
  refine wpList_plain hgd fun K hK => ?_
  obtain ⟨v', w', b', hrun, h1, h2, h3⟩ := run_append_row8 w o.type b v l hr a len cap src hs hsz
  unfold Oper.wp execOp
  simp only [ho, resolve, invoke, builtin, Sem.run_bind, Sem.run_pure, Result.andThen_ok, List.map_toArray, List.map_cons, List.map_nil, hv, hx, hrun]
  exact hK _ _ (h v' w' b' h1 h2 h3)

/-- a list of texts: slices, in blocks of S -/
def Txts (w : World) (S : Nat → Prop) (vs : List Value) (ps : List (List Nat)) : Prop :=
  vs.length = ps.length ∧ ∀ i, i < ps.length → ∃ a cap, vs[i]? = some (.slice a (ps.getD i []).length cap) ∧ Bts w a (ps.getD i []).length (ps.getD i []) ∧ (ps.getD i []).length ≤ cap ∧ ∀ x, a = some x → S x.block
theorem Txts.nil (w : World) (S : Nat → Prop) : Txts w S [] [] := ⟨rfl, fun i hi => by simp at hi⟩
theorem Txts.but {w w' : World} {S T : Nat → Prop} {vs : List Value} {ps : List (List Nat)} (h : Txts w S vs ps) (hb : But T w w') (hd : ∀ k, S k → ¬ T k) : Txts w' S vs ps := by
  refine ⟨h.1, fun i hi => ?_⟩
  obtain ⟨a, cap, h1, h2, h3, h4⟩ := h.2 i hi
  exact ⟨a, cap, h1, h2.but hb (fun x e => hd _ (h4 x e)), h3, h4⟩
theorem Txts.mono {w : World} {S T : Nat → Prop} {vs : List Value} {ps : List (List Nat)} (h : Txts w S vs ps) (hT : ∀ k, S k → T k) : Txts w T vs ps := by
  refine ⟨h.1, fun i hi => ?_⟩
  obtain ⟨a, cap, h1, h2, h3, h4⟩ := h.2 i hi
  exact ⟨a, cap, h1, h2, h3, fun x e => hT _ (h4 x e)⟩
theorem Txts.append {w : World} {S : Nat → Prop} {vs us : List Value} {ps qs : List (List Nat)} (h : Txts w S vs ps) (k : Txts w S us qs) : Txts w S (vs ++ us) (ps ++ qs) := by
  refine ⟨by rw [List.length_append, List.length_append, h.1, k.1], fun i hi => ?_⟩
  by_cases hl : i < ps.length
  · rw [show (ps ++ qs).getD i [] = ps.getD i [] from by simp [List.getD, List.getElem?_append_left hl], List.getElem?_append_left (by rw [h.1]; exact hl)]
    exact h.2 i hl
  · obtain ⟨j, rfl⟩ : ∃ j, i = ps.length + j := ⟨i - ps.length, by omega⟩
    rw [show (ps ++ qs).getD (ps.length + j) [] = qs.getD j [] from by simp [List.getD, List.getElem?_append_right (Nat.le_add_right _ _)]]
    have e : (vs ++ us)[ps.length + j]? = us[j]? := by rw [← h.1, List.getElem?_append_right (Nat.le_add_right _ _)]; simp
    rw [e]
    exact k.2 j (by rw [List.length_append] at hi; omega)
theorem Txts.one {w : World} {S : Nat → Prop} {a : Option Addr} {cap : Nat} {p : List Nat} (h : Bts w a p.length p) (hc : p.length ≤ cap) (hs : ∀ x, a = some x → S x.block) : Txts w S [.slice a p.length cap] [p] :=
  ⟨rfl, fun i hi => by
    obtain rfl : i = 0 := by simp at hi; exact hi
    exact ⟨a, cap, rfl, h, hc, hs⟩⟩
end Go.Proofs.Ytdpfmaikijilkaa.Fr
namespace Go.Proofs.Ytdpfmaikijilkaa.Fr
open Go.RowKit CrcM FrM

theorem size_any (n : Int) (w : World) (h0 : 0 ≤ n) (h1 : n ≤ 1000000000) : Calls Try.prog 93 #[.int .i64 n] w fun e w' => e = .returned (.int .i64 (6 + n)) ∧ w = w' := by
  go_enter Try.func93, Try.ntmps93
  go_wp2
  go_ret
  exact ⟨rfl, rfl⟩

theorem may_yes (n : Int) (w : World) (h0 : 1 ≤ n) (h1 : n ≤ 4096) : Calls Try.prog 91 #[.int .i64 n] w fun e w' => e = .returned (.bool true) ∧ w = w' := by
  go_enter Try.func91, Try.ntmps91
  go_wp2
  go_ret
  exact ⟨rfl, rfl⟩
theorem may_no (n : Int) (w : World) (h : n < 1 ∨ 4096 < n) : Calls Try.prog 91 #[.int .i64 n] w fun e w' => e = .returned (.bool false) ∧ w = w' := by
  by_cases h0 : n < 1
  · have h2 : ¬ 1 ≤ n := by omega
    clear h
    go_enter Try.func91, Try.ntmps91
    go_wp2
    go_ret
    exact ⟨rfl, rfl⟩
  · have h2 : 1 ≤ n := by omega
    have h3 : ¬ n ≤ 4096 := by omega
    clear h
    go_enter Try.func91, Try.ntmps91
    go_wp2
    go_ret
    exact ⟨rfl, rfl⟩

theorem Row8.lt {w : World} {b : Nat} {v : Value} {l : List Nat} (h : Row8 w b v l) : v = .slice none 0 0 ∨ b < w.heap.size := by
  rcases h with ⟨rfl, rfl⟩ | ⟨off, cap, cur, rfl, hb, _⟩
  · exact .inl rfl
  · exact .inr (lt_of_block hb)
theorem info22 : (Try.prog.info? 24).map (fun i => (i.zero, i.size, i.bytes)) = some (some (.slice none 0 0), 1, 24) := by kernel_rfl
end Go.Proofs.Ytdpfmaikijilkaa.Fr
namespace FrM
open CrcM

theorem enc_eq (r : List Nat) (hb : ∀ x ∈ r, x < 256) (h : 6 + len r ≤ r.length) :
    enc ((r.drop 6).take (len r)) = r.take (6 + len r) ↔ num ((r.drop 2).take 4) = more 0 ((r.drop 6).take (len r)) := by
  obtain ⟨a, b, c, d, e, f, t, rfl⟩ : ∃ a b c d e f t, r = a :: b :: c :: d :: e :: f :: t := by
    rcases r with _ | ⟨a, _ | ⟨b, _ | ⟨c, _ | ⟨d, _ | ⟨e, _ | ⟨f, t⟩⟩⟩⟩⟩⟩
    case cons.cons.cons.cons.cons.cons => exact ⟨a, b, c, d, e, f, t, rfl⟩
    all_goals (simp only [List.length_cons, List.length_nil] at h; omega)
  · have ha := hb a (by simp)
    have hb' := hb b (by simp)
    have hc := hb c (by simp)
    have hd := hb d (by simp)
    have he := hb e (by simp)
    have hf := hb f (by simp)
    have hl : len (a :: b :: c :: d :: e :: f :: t) = 256 * a + b := by simp [len]
    rw [hl] at h ⊢
    simp only [List.length_cons] at h
    have hm := more_lt 0 (((a :: b :: c :: d :: e :: f :: t).drop 6).take (256 * a + b)) (by decide) (fun x hx => hb x (List.mem_of_mem_drop (List.mem_of_mem_take hx)))
    have hpl : (((a :: b :: c :: d :: e :: f :: t).drop 6).take (256 * a + b)).length = 256 * a + b := by
      rw [List.length_take]; simp; omega
    have hn : num (((a :: b :: c :: d :: e :: f :: t).drop 2).take 4) = 256 * (256 * (256 * c + d) + e) + f := by simp [num]
    have ht : (a :: b :: c :: d :: e :: f :: t).take (6 + (256 * a + b)) = [a, b, c, d, e, f] ++ t.take (256 * a + b) := by
      rw [Nat.add_comm]; simp
    rw [hn, ht]
    simp only [enc, hpl]
    simp only [List.drop_succ_cons, List.drop_zero] at hm ⊢
    unfold top at hm
    generalize more 0 (t.take (256 * a + b)) = M at hm ⊢
    constructor
    · intro e1
      simp at e1
      omega
    · intro e1
      congr 1
      simp
      omega

theorem enc_bytes (p : List Nat) (hb : ∀ x ∈ p, x < 256) (hl : p.length ≤ 4096) : ∀ z ∈ enc p, z < 256 := by
  have hm := more_lt 0 p (by decide) hb
  unfold top at hm
  intro z hz
  unfold enc at hz
  rcases List.mem_append.1 hz with hz | hz
  · simp at hz
    omega
  · exact hb z hz
theorem enc_length (p : List Nat) : (enc p).length = 6 + p.length := by simp [enc]; omega

theorem enc_got {r : List Nat} {n : Nat} (hb : ∀ x ∈ r, x < 256) (h : look r = .got n) : enc ((r.drop 6).take n) = r.take (6 + n) := by
  obtain ⟨rfl, _, _, h3, h4⟩ := look_got h
  exact (enc_eq r hb h3).2 h4

theorem Got.enc {l : List Nat} (hb : ∀ x ∈ l, x < 256) {ps : List (List Nat)} {k : Nat} (h : Got l ps k) : (ps.map FrM.enc).flatten = l.take k := by
  induction h with
  | none => simp
  | more h hl ih =>
    rw [List.map_append, List.flatten_append, ih]
    simp only [List.map_cons, List.map_nil, List.flatten_cons, List.flatten_nil, List.append_nil]
    rw [enc_got (fun x hx => hb x (List.mem_of_mem_drop hx)) hl]
    exact (List.take_add).symm

theorem Got.each {l : List Nat} {ps : List (List Nat)} {k : Nat} (h : Got l ps k) : ∀ p ∈ ps, 1 ≤ p.length ∧ p.length ≤ 4096 := by
  induction h with
  | none => simp
  | more h hl ih =>
    intro p hp
    rcases List.mem_append.1 hp with hp | hp
    · exact ih p hp
    · obtain ⟨_, h1, h2, h3, _⟩ := look_got hl
      simp at hp
      subst hp
      rw [List.length_drop] at h3
      simp
      omega
end FrM
namespace Go.Proofs.Ytdpfmaikijilkaa.Fr
open Go.RowKit CrcM FrM
theorem strOf_inj {l m : List Nat} (hl : ∀ x ∈ l, x < 256) (hm : ∀ x ∈ m, x < 256) (h : (strOf l).toList = (strOf m).toList) : l = m := by
  have hd : ∀ l : List Nat, (strOf l).toList = l.map fun n => UInt8.ofNat n := by
    intro l
    have h1 : (strOf l).data.toList = l.map fun n => UInt8.ofNat n := by
      unfold strOf
      rw [strOfNums_data, List.map_map]
      rfl
    rw [← h1]
    exact ByteArray.toList_eq _
  rw [hd, hd] at h
  have hlen : l.length = m.length := by simpa using congrArg List.length h
  refine List.ext_getElem hlen fun i h1 h2 => ?_
  have e : (l.map fun n => UInt8.ofNat n)[i]? = (m.map fun n => UInt8.ofNat n)[i]? := by rw [h]
  simp [h1, h2] at e
  have a1 := hl _ (List.getElem_mem h1)
  have a2 := hm _ (List.getElem_mem h2)
  have := congrArg UInt8.toNat e
  simp at this
  omega
end Go.Proofs.Ytdpfmaikijilkaa.Fr
namespace Go.Proofs.Ytdpfmaikijilkaa.Fr
open Go.RowKit CrcM FrM

def TellsEnc (p : List Nat) (w : World) (e : Ending) (w' : World) : Prop :=
  ∃ v b, e = .returned (.tuple #[v, .int .i64 0]) ∧ Row8 w' b v (enc p) ∧ w.heap.size ≤ b ∧ Below w.heap.size w w'

theorem head_row8 (w : World) (len M : Nat) (r : Int) (hr : r = (M : Int)) :
    Row8 (w.alloc (.cells #[.int .u8 ((len : Int) / 256), .int .u8 ((len : Int) % 256), .int .u8 (r / 16777216), .int .u8 (r / 65536 % 256), .int .u8 (r / 256 % 256), .int .u8 (r % 256)] 5)) w.heap.size
      (.slice (some ⟨w.heap.size, 0, none⟩) 6 6) [len / 256, len % 256, M / 16777216, M / 65536 % 256, M / 256 % 256, M % 256] := by
  subst hr
  refine .inr ⟨0, 6, _, rfl, heap_alloc_new _ _, by simp, by decide, by simp, ?_⟩
  intro i hi
  match i, hi with
  | 0, _ | 1, _ | 2, _ | 3, _ | 4, _ | 5, _ => rfl

set_option maxHeartbeats 1000000 in
theorem renc_any (w : World) (a : Option Addr) (len cap : Nat) (p : List Nat) (h : Bts w a len p) (h1 : 1 ≤ len) (h2 : len ≤ 4096) :
    Calls Try.prog 46 #[.slice a len cap] w (TellsEnc p w) := by
  have H := Lib.hid h
  clear h
  go_enter Try.func46, Try.ntmps46
  go_wp2_with (first
    | (go_at_call 73; refine (rsum_any _ _ _ _ _ H.out).mono ?_; rintro e w1 ⟨r, rfl, hu, rfl⟩; have hr0 := hu.lo; have hr1 := hu.hi; have HU := Lib.hid hu; clear hu)
    | (at_builtin; refine wpList_append_row8 rfl _ _ rfl w.heap.size _ _ a len cap p rfl (head_row8 w len (more 0 p) r HU.out.1) rfl (H.out.below ((Below.refl _ _).alloc (Nat.le_refl _) _)) (by simp; omega) ?_; intro v' w2 b' hr2 hg2 hc2; have HR := Lib.hid hr2; have HG := Lib.hid hg2; have HC := Lib.hid hc2; clear hr2 hg2 hc2))
  go_ret2
  refine ⟨v', b', rfl, ?_, ?_, ((Below.refl _ _).alloc (Nat.le_refl _) _).grown HG.out (by simp) (fun k hk => by cases hk; exact Nat.le_refl _)⟩
  · have e : enc p = [len / 256, len % 256, more 0 p / 16777216, more 0 p / 65536 % 256, more 0 p / 256 % 256, more 0 p % 256] ++ p := by
      unfold enc; rw [H.out.1]
    rw [e]
    exact HR.out
  · rcases HC.out with ⟨rfl, _⟩ | ⟨rfl, _⟩
    · exact Nat.le_refl _
    · simp

theorem cells2_bts (w : World) (x y : Nat) (hx : x < 256) (hy : y < 256) (a b : Int) (ha : a = (x : Int)) (hb : b = (y : Int)) :
    Bts (w.alloc (.cells #[.int .u8 a, .int .u8 b] 5)) (some ⟨w.heap.size, 0, none⟩) 2 [x, y] := by
  subst ha; subst hb
  refine ⟨rfl, by simp; omega, by decide, .inr ⟨w.heap.size, 0, rfl, by simp, fun i hi => ?_⟩⟩
  rw [cell_of_row _ _ _ _ _ _ (heap_alloc_new _ _)]
  match i, hi with
  | 0, _ | 1, _ => rfl
theorem cells4_bts (w : World) (x y z u : Nat) (hx : x < 256) (hy : y < 256) (hz : z < 256) (hu : u < 256) (a b c d : Int) (ha : a = (x : Int)) (hb : b = (y : Int)) (hc : c = (z : Int)) (hd : d = (u : Int)) :
    Bts (w.alloc (.cells #[.int .u8 a, .int .u8 b, .int .u8 c, .int .u8 d] 5)) (some ⟨w.heap.size, 0, none⟩) 4 [x, y, z, u] := by
  subst ha; subst hb; subst hc; subst hd
  refine ⟨rfl, by simp; omega, by decide, .inr ⟨w.heap.size, 0, rfl, by simp, fun i hi => ?_⟩⟩
  rw [cell_of_row _ _ _ _ _ _ (heap_alloc_new _ _)]
  match i, hi with
  | 0, _ | 1, _ | 2, _ | 3, _ => rfl

theorem Row8.lt1 {w : World} {b : Nat} {v : Value} {l : List Nat} (h : Row8 w b v l) (hl : l ≠ []) : b < w.heap.size := by
  rcases h with ⟨_, rfl⟩ | ⟨off, cap, cur, rfl, hb, _⟩
  · exact absurd rfl hl
  · exact lt_of_block hb
theorem Row8.own1 {w : World} {b k : Nat} {v : Value} {l : List Nat} (h : Row8 w b v l) (hk : v.ownBlock = some k) : k = b := by
  rcases h with ⟨rfl, _⟩ | ⟨off, cap, cur, rfl, hb, _⟩
  · cases hk
  · cases hk; rfl
/-- an append behind a new block: nothing below B has turned, and the new slice lies from B on -/
theorem grown_row8 {w w2 w3 : World} {o : Obj} {B b b' : Nat} {v v' : Value} {l : List Nat} (hW : Below B w w2) (hB : B ≤ w2.heap.size) (hr : Row8 w2 b v l) (hb : B ≤ b) (hg : (w2.alloc o).grownBy w3 v.ownBlock)
    (hc : (b' = b ∧ (v = .slice none 0 0 → v' = .slice none 0 0)) ∨ (b' = (w2.alloc o).heap.size ∧ b' < w3.heap.size)) : Below B w w3 ∧ B ≤ b' := by
  refine ⟨(hW.alloc hB o).grown hg (by simp; omega) (fun k hk => by rw [hr.own1 hk]; exact hb), ?_⟩
  rcases hc with ⟨rfl, _⟩ | ⟨rfl, _⟩
  · exact hb
  · simp; omega

theorem row8_of_own {w : World} {base g cap : Nat} (h : w.ownsRow base 5 1 (.slice (some ⟨g, 0, none⟩) 0 cap) 0 []) : Row8 w g (.slice (some ⟨g, 0, none⟩) 0 cap) [] := by
  obtain ⟨_, ⟨e, _⟩ | ⟨g', cap', cur, e, _, hg, _, hm, hs, _⟩⟩ := h
  · cases e
  · cases e
    exact .inr ⟨0, cap, cur, rfl, hg, by simp, hm, by omega, by simp⟩

set_option maxRecDepth 100000 in
set_option maxHeartbeats 1000000 in
theorem enc_any (w : World) (a : Option Addr) (len cap : Nat) (p : List Nat) (h : Bts w a len p) (h1 : 1 ≤ len) (h2 : len ≤ 4096) :
    Calls Try.prog 74 #[.slice a len cap] w (TellsEnc p w) := by
  have H := Lib.hid h
  obtain ⟨i0, hi, hz0, hz1, hz2⟩ := info_parts info5
  have HI := Lib.hid hi
  have HZ0 := Lib.hid hz0
  have HZ1 := Lib.hid hz1
  have HZ2 := Lib.hid hz2
  clear h hi hz0 hz1 hz2
  go_enter Try.func74, Try.ntmps74
  go_wp2_with (first
    | (go_at_call 91; refine (may_yes _ _ (by omega) (by omega)).mono ?_; rintro e w' ⟨rfl, rfl⟩)
    | (go_at_call 92; refine (sum_any _ _ _ _ _ H.out).mono ?_; rintro e w1 ⟨r, rfl, hu, hbel⟩; have hr0 := hu.lo; have hr1 := hu.hi; have HU := Lib.hid hu; have HW := Lib.hid hbel; have HM := Lib.hid (show r = ((more 0 p : Nat) : Int) from hu.1); clear hu hbel)
    | (go_at_call 93; refine (size_any _ _ (by omega) (by omega)).mono ?_; rintro e w' ⟨rfl, rfl⟩)
    | (refine wpList_make_own _ rfl _ _ 24 rfl w1.heap.size 5 i0 (.int .u8 0) 1 Try.underlying24 HI.out HZ0.out HZ1.out .i64 .i64 _ (6 + len) rfl rfl (by omega) (by rw [HZ2.out]; omega) (by unfold maxLen; omega) (Nat.le_refl _) ?_; intro w2 hown2 hgrow2; have HR0 := Lib.hid (row8_of_own hown2); have HW2 := Lib.hid (HW.out.grown hgrow2 HW.out.size (fun k hk => by cases hk)); have HL0 := Lib.hid (HR0.out.lt.resolve_left (fun e => by cases e)); clear hown2 hgrow2)
    | (at_builtin; have HX := HR2; refine wpList_append_row8 rfl _ _ rfl b2 v2 _ a len cap p rfl HR2.out rfl ?_ ?_ ?_; (exact H.out.below HW4.out.1); (simp; omega); intro v3 w5 b3 hr3 hg3 hc3; have HR3 := Lib.hid hr3; have HG3 := Lib.hid hg3; have HC3 := Lib.hid hc3; clear hr3 hg3 hc3)
    | (at_builtin; have HX := HR1; refine wpList_append_row8 rfl _ _ rfl b1 v1 _ _ 4 4 [more 0 p / 16777216, more 0 p / 65536 % 256, more 0 p / 256 % 256, more 0 p % 256] rfl (HR1.out.below ((Below.refl _ _).alloc (Nat.le_refl _) _) (HR1.out.lt1 (by simp))) rfl ?_ ?_ ?_; (have := HU.out.2; have := HM.out; unfold top at *; exact cells4_bts _ _ _ _ _ (by omega) (by omega) (by omega) (by omega) _ _ _ _ (by rw [HM.out]; rfl) (by rw [HM.out]; rfl) (by rw [HM.out]; rfl) (by rw [HM.out]; rfl)); (simp); intro v2 w4 b2 hr2 hg2 hc2; have HR2 := Lib.hid hr2; have HW4 := Lib.hid (grown_row8 HW3.out.1 HW3.out.1.size HR1.out HW3.out.2 hg2 hc2); clear hr2 hg2 hc2)
    | (at_builtin; refine wpList_append_row8 rfl _ _ rfl w1.heap.size (.slice (some ⟨w1.heap.size, 0, none⟩) 0 (6 + len)) [] _ 2 2 [len / 256, len % 256] rfl (HR0.out.below ((Below.refl _ _).alloc (Nat.le_refl _) _) HL0.out) rfl ?_ ?_ ?_; exact cells2_bts _ _ _ (by omega) (by omega) _ _ rfl rfl; (simp); intro v1 w3 b1 hr1 hg1 hc1; have HR1 := Lib.hid hr1; have HW3 := Lib.hid (grown_row8 HW2.out HW2.out.size HR0.out HW.out.size hg1 hc1); clear hr1 hg1 hc1))
  go_ret2
  have hw4 := HW4.out
  refine ⟨v3, b3, rfl, ?_, ?_, hw4.1.grown HG3.out hw4.1.size (fun k hk => by rw [HR2.out.own1 hk]; exact hw4.2)⟩
  · have e : enc p = [] ++ [len / 256, len % 256] ++ [more 0 p / 16777216, more 0 p / 65536 % 256, more 0 p / 256 % 256, more 0 p % 256] ++ p := by
      unfold enc; rw [H.out.1]; rfl
    rw [e]
    exact HR3.out
  · rcases HC3.out with ⟨rfl, _⟩ | ⟨rfl, _⟩
    · exact hw4.2
    · exact hw4.1.size
end Go.Proofs.Ytdpfmaikijilkaa.Fr
namespace Go.Proofs.Ytdpfmaikijilkaa.Fr
open Go.RowKit CrcM FrM

def TellsTold (S : Nat → Prop) (l : List Nat) (w : World) (ev : Ending) (w' : World) : Prop :=
  ∃ v vs qs e m, ev = .returned (.tuple #[v, .int .i64 ((e : Nat) : Int), .int .i64 ((m : Nat) : Int)]) ∧ Tld l qs e m ∧ w'.ownsRow w.heap.size 24 1 v qs.length vs ∧ Txts w' S vs qs ∧ Below w.heap.size w w'

set_option maxHeartbeats 1000000 in
theorem told_short (S : Nat → Prop) (w : World) (a : Option Addr) (len cap : Nat) (l : List Nat) (h : l.length = len) (hl : len < 2) :
    Calls Try.prog 26 #[.slice a len cap] w (TellsTold S l w) := by
  have H := Lib.hid h
  clear h
  go_enter Try.func26, Try.ntmps26
  go_wp2
  refine wp_loop_rounds 1 ?_
  rw [rounds_succ]
  go_wp2
  go_ret3
  exact ⟨_, [], [], 0, 0, rfl, ⟨.none, .inl ⟨rfl, FrM.look_short (by have := H.out; simp; omega)⟩⟩, World.ownsRow_nil _ _ _ _, Txts.nil _ _, Below.refl _ _⟩

theorem own_below {w w' : World} {base : Nat} {e : TypeId} {size : Nat} {v : Value} {n : Nat} {xs : List Value} (h : w.ownsRow base e size v n xs) (hb : Below w.heap.size w w') : w'.ownsRow base e size v n xs :=
  h.kept (row := none) ⟨hb.os, hb.tape, hb.output, hb.size, fun k hk _ => hb.block k hk⟩ (by cases v.ownBlock <;> simp)

/-- the head of what is left of a stream -/
theorem at_head {w : World} {B off len m : Nat} {l : List Nat} (h : Bts w (some ⟨B, off, none⟩) len l) (hm : m + 2 ≤ len) :
    ∃ x y : Nat, x < 256 ∧ y < 256 ∧ w.cell? ⟨B, off + m, none⟩ = some (.int .u8 (x : Int)) ∧ w.cell? ⟨B, off + (m + 1), none⟩ = some (.int .u8 (y : Int)) ∧ FrM.len (l.drop m) = 256 * x + y ∧ B < w.heap.size := by
  obtain ⟨h1, h2, h3, h4⟩ := h
  rcases h4 with h4 | ⟨B', off', e, hB, hc⟩
  · omega
  · cases e
    refine ⟨l.getD m 0, l.getD (m + 1) 0, h2 _ (getD_mem l m (by omega)), h2 _ (getD_mem l (m + 1) (by omega)), hc m (by omega), hc (m + 1) (by omega), ?_, hB⟩
    simp [FrM.len, List.getD, List.getElem?_drop]

set_option maxHeartbeats 4000000 in
set_option maxRecDepth 100000 in
theorem told_long (S : Nat → Prop) (w : World) (hS : ∀ k, S k → k < w.heap.size) (B off len cap : Nat) (hBS : S B) (l : List Nat) (h : Bts w (some ⟨B, off, none⟩) len l) (hcap : len ≤ cap) (hl : len ≤ 100000) :
    Calls Try.prog 26 #[.slice (some ⟨B, off, none⟩) len cap] w (TellsTold S l w) := by
  have H := Lib.hid h
  have hlen := h.1
  obtain ⟨i0, hi, hz0, hz1, hz2⟩ := info_parts info22
  have HI := Lib.hid hi
  have HZ0 := Lib.hid hz0
  have HZ1 := Lib.hid hz1
  have HZ2 := Lib.hid hz2
  have HL := Lib.hid hlen
  clear h hi hz0 hz1 hz2 hlen
  go_enter Try.func26, Try.ntmps26
  go_wp2
  go_loopw [5, 6, 7, 8, 9] (fun out p n x y wr => ∃ (vs : List Value) (qs : List (List Nat)) (m : Nat), p = .int .i64 (m : Int) ∧ Got l qs m ∧ wr.ownsRow w.heap.size 24 1 out qs.length vs ∧ Txts wr S vs qs ∧ Below w.heap.size w wr) (fun _ p _ _ _ _ => len - (intOf p).toNat)
  case atStart => exact ⟨[], [], 0, rfl, .none, World.ownsRow_nil _ _ _ _, Txts.nil _ _, Below.refl _ _⟩
  case round =>
    obtain ⟨vs, qs, m, rfl, hgot, hown, htx, hbel⟩ := hrel
    have hle := hgot.le.1
    rw [HL.out] at hle
    have hq7 := hgot.le.2
    have HGot := Lib.hid hgot
    have HOwn := Lib.hid hown
    have HTx := Lib.hid htx
    have HBel := Lib.hid hbel
    have HB1 := Lib.hid (H.out.below hbel)
    clear hgot hown htx hbel
    by_cases hm : m + 2 ≤ len
    · obtain ⟨x, y, hx, hy, cx, cy, hn, hB⟩ := at_head HB1.out hm
      have HN := Lib.hid hn
      clear hn
      have HX := Lib.hid (show 2 ≤ (l.drop m).length from by have := HL.out; simp; omega)
      have HXL := Lib.hid (show (l.drop m).length = len - m from by have := HL.out; simp; omega)
      by_cases h1 : 256 * x + y < 1 ∨ 4096 < 256 * x + y
      · have HE := Lib.hid (look_len HX.out (by rw [HN.out]; exact h1))
        go_wp2
        go_region
        all_goals (try go_wp2)
        all_goals (go_ret3; exact ⟨u5, vs, qs, 10, m, rfl, ⟨HGot.out, .inr HE.out⟩, HOwn.out, HTx.out, HBel.out.drew⟩)
      · obtain ⟨n, hnn⟩ : ∃ n : Nat, n = 256 * x + y := ⟨_, rfl⟩
        have e : 256 * (x : Int) + (y : Int) = (n : Int) := by omega
        have hn1 : 1 ≤ n := by omega
        have hn2 : n ≤ 4096 := by omega
        have HN2 := Lib.hid (show FrM.len (l.drop m) = n from by rw [HN.out, hnn])
        have HEE := Lib.hid e
        clear e hnn
        go_wp2
        go_region
        rw [HEE.out]
        clear HEE h1 cx cy hx hy HN
        by_cases h2 : len < m + 6 + n
        · have HE := Lib.hid (look_part HX.out (by rw [HN2.out]; omega) (by rw [HN2.out, HXL.out]; omega))
          go_wp2
          go_ret3
          exact ⟨u5, vs, qs, 0, m, rfl, ⟨HGot.out, .inl ⟨rfl, HE.out⟩⟩, HOwn.out, HTx.out, HBel.out.drew⟩
        · have HP := Lib.hid ((HB1.out.drop (m + 6) (by omega)).take n (by omega))
          have HQ := Lib.hid ((HB1.out.drop m (by omega)).take (6 + n) (by omega))
          go_wp2_with (go_at_call 46; refine (renc_any _ _ _ _ ((l.drop (m + 6)).take n) HP.out.drew hn1 hn2).mono ?_; rintro ev w1 ⟨v1, b1, rfl, hr, hb, hbel1⟩; have HR := Lib.hid hr; have HBB := Lib.hid hb; have HW1 : Hid (Below wr.heap.size wr w1) := ⟨hbel1.os, hbel1.tape, hbel1.output, hbel1.size, hbel1.block⟩; clear hr hb hbel1)
          have HEB : Hid (∀ z ∈ enc ((l.drop (m + 6)).take n), z < 256) := enc_bytes _ HP.out.2.1 (by rw [HP.out.1]; exact hn2)
          obtain ⟨a1, n1, cap1, rfl, hs1⟩ : ∃ a1 n1 cap1, v1 = .slice a1 n1 cap1 ∧ (convert 24 9 (.slice a1 n1 cap1)).run Try.prog w1.drew = .ok (.string (strOf (enc ((l.drop (m + 6)).take n)))) w1.drew := by
            obtain ⟨a1, cap1, e, hbt1, _⟩ := HR.out.bts HEB.out
            exact ⟨a1, _, cap1, e, hbt1.drew.str cap1⟩
          have hs2 : (convert 24 9 (.slice (some ⟨B, off + m, none⟩) (m + 6 + n - m) (cap - m))).run Try.prog w1.drew = .ok (.string (strOf ((l.drop m).take (6 + n)))) w1.drew := by
            rw [show m + 6 + n - m = 6 + n from by omega]
            exact (HQ.out.below HW1.out).drew.str (cap - m)
          have HR8 := Lib.hid (show 6 + FrM.len (l.drop m) ≤ (l.drop m).length from by rw [HN2.out, HXL.out]; omega)
          have HBY := Lib.hid (show ∀ z ∈ l.drop m, z < 256 from fun z hz => HB1.out.2.1 z (List.mem_of_mem_drop hz))
          have HPE : Hid ((l.drop (m + 6)).take n = ((l.drop m).drop 6).take n) := by show _ = _; rw [List.drop_drop]
          have HEQ := Lib.hid (enc_eq (l.drop m) HBY.out HR8.out)
          by_cases h3 : enc ((l.drop (m + 6)).take n) = (l.drop m).take (6 + n)
          · rw [h3] at hs1
            have HV : Hid (FrM.look (l.drop m) = .got n) := by
              have h4 := HEQ.out.1 (by rw [HN2.out, ← HPE.out]; exact h3)
              have := look_got_of (by rw [HN2.out]; exact hn1) (by rw [HN2.out]; exact hn2) HR8.out h4
              rw [HN2.out] at this
              exact this
            generalize strOf ((l.drop m).take (6 + n)) = Z at hs1 hs2
            clear h3
            go_region
            clear hs1 hs2
            have HO1 := Lib.hid (own_below HOwn.out HW1.out.drew)
            have HBW := Lib.hid (HBel.out.trans (HW1.out.drew.mono HBel.out.size))
            have hq8 : qs.length ≤ 15000 := by omega
            go_wp2_with (at_builtin; refine wpList_append_lies _ rfl _ _ 64 rfl w.heap.size 24 i0 (.slice none 0 0) 1 24 Try.underlying64 HI.out HZ0.out HZ1.out HZ2.out rfl (by decide) u5 qs.length vs rfl (HO1.out.alloc _) ⟨w1.heap.size, 0, none⟩ 1 1 [.slice (some ⟨B, off + (m + 6), none⟩) n (cap - (m + 6))] rfl rfl (cell_one_new _ _ _) (by simp [Value.oneCell']) (by decide) (by unfold maxLen; omega) (by omega) ?_ _ rfl ?_; (have := HBW.out.size; simp; simp at this; omega); intro g cap2 w2 hown2 hgrow2 hat2 hlt2; have HO2 := Lib.hid hown2; have HG2 := Lib.hid hgrow2; clear hown2 hgrow2 hat2 hlt2)
            go_roundw
            case rel =>
              have hlt := HOwn.out.lt
              have hB2 : But (fun k => some k = u5.ownBlock) w1.drew w2 := (But.next (But.alloc (But.refl (fun k => some k = u5.ownBlock) w1.drew) _) (But.grown HG2.out) (fun _ _ h => h))
              have hBl : Below w.heap.size w w2 := HBW.out.trans (hB2.below w.heap.size HBW.out.size (fun k hk => (hlt k hk.symm).1))
              refine ⟨vs ++ [.slice (some ⟨B, off + (m + 6), none⟩) n (cap - (m + 6))], qs ++ [((l.drop m).drop 6).take n], m + (6 + n), by simp; omega, HGot.out.more HV.out, by rw [List.length_append, List.length_singleton]; exact HO2.out, ?_, hBl⟩
              have hlt2 : ∀ k, k < w.heap.size → ¬ some k = u5.ownBlock := fun k hk e => by have := (hlt k e.symm).1; omega
              refine Txts.append ((HTx.out.but (But.of (S := fun _ => False) HW1.out.drew) (fun _ _ h => h)).but hB2 (fun k hk => hlt2 k (hS k hk))) ?_
              have hbts := ((H.out.below hBl).drop (m + 6) (by omega)).take n (by omega)
              rw [← HPE.out]
              have hl : ((l.drop (m + 6)).take n).length = n := hbts.1
              have hone := Txts.one (S := S) (cap := cap - (m + 6)) (show Bts w2 (some ⟨B, off + (m + 6), none⟩) ((l.drop (m + 6)).take n).length ((l.drop (m + 6)).take n) from by rw [hl]; exact hbts) (by rw [hl]; omega) (fun x e => by cases e; exact hBS)
              rw [hl] at hone
              exact hone
            case measure => simp [intOf]; omega
          · have HV : Hid (FrM.look (l.drop m) = .bad 11) := by
              refine look_sum (by rw [HN2.out]; omega) HR8.out (fun h4 => h3 ?_)
              have := HEQ.out.2 h4
              rw [HN2.out, ← HPE.out] at this
              exact this
            have hne : ((strOf (enc ((l.drop (m + 6)).take n))).toList == (strOf ((l.drop m).take (6 + n))).toList) = false := by
              rw [beq_eq_false_iff_ne]
              exact fun e => h3 (strOf_inj HEB.out HQ.out.2.1 e)
            generalize strOf (enc ((l.drop (m + 6)).take n)) = S1 at hs1 hne
            generalize strOf ((l.drop m).take (6 + n)) = S2 at hs2 hne
            clear h3
            go_region
            clear hs1 hs2
            all_goals (try go_wp2)
            all_goals (go_ret3; exact ⟨u5, vs, qs, 11, m, rfl, ⟨HGot.out, .inr HV.out⟩, own_below HOwn.out HW1.out.drew, HTx.out.but (But.of (S := fun _ => False) HW1.out.drew) (fun _ _ h => h), HBel.out.trans (HW1.out.drew.mono HBel.out.size)⟩)
    · have hm2 : ¬ (m : Int) + 2 ≤ (len : Int) := by omega
      go_wp2
      go_ret3
      exact ⟨u5, vs, qs, 0, m, rfl, ⟨HGot.out, .inl ⟨rfl, FrM.look_short (by have := HL.out; simp; omega)⟩⟩, HOwn.out, HTx.out, HBel.out⟩

theorem told_any (S : Nat → Prop) (w : World) (hS : ∀ k, S k → k < w.heap.size) (a : Option Addr) (len cap : Nat) (l : List Nat) (h : Bts w a len l) (hBS : ∀ x, a = some x → 2 ≤ len → S x.block) (hcap : len ≤ cap) (hl : len ≤ 100000) :
    Calls Try.prog 26 #[.slice a len cap] w (TellsTold S l w) := by
  by_cases h2 : len < 2
  · exact told_short S w a len cap l h.1 h2
  · obtain ⟨B, off, rfl⟩ : ∃ B off, a = some ⟨B, off, none⟩ := by
      obtain ⟨_, _, _, h4 | ⟨B, off, e, _, _⟩⟩ := h
      · omega
      · exact ⟨B, off, e⟩
    exact told_long S w hS B off len cap (hBS _ rfl (by omega)) l h hcap hl
end Go.Proofs.Ytdpfmaikijilkaa.Fr
