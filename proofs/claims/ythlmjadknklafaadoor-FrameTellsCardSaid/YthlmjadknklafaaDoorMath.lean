/-
  Plain mathematics of CRC-32 on natural numbers: the bit step, that it is linear over xor, what a byte does, what noughts do. No program is named here.
-/
namespace CrcM

def poly : Nat := 3988292384
def ones : Nat := 4294967295
def top : Nat := 4294967296

def sh (r : Nat) : Nat := if r % 2 = 1 then (r / 2) ^^^ poly else r / 2
def it : Nat → Nat → Nat
  | 0, r => r
  | n + 1, r => it n (sh r)
def s8 (r : Nat) : Nat := it 8 r
def nt (r : Nat) : Nat := ones ^^^ r
def byte (c b : Nat) : Nat := nt (s8 (nt c ^^^ b))
def reg : Nat → List Nat → Nat
  | r, [] => r
  | r, b :: bs => reg (s8 (r ^^^ b)) bs
def more (c : Nat) (l : List Nat) : Nat := nt (reg (nt c) l)

theorem xor_div (x y : Nat) : (x ^^^ y) / 2 = (x / 2) ^^^ (y / 2) := by
  have := Nat.shiftRight_xor_distrib (a := x) (b := y) (i := 1)
  simpa [Nat.shiftRight_succ] using this

theorem xor_mod (x y : Nat) : (x ^^^ y) % 2 = (x % 2 + y % 2) % 2 := by
  have h := Nat.testBit_xor x y 0
  simp only [Nat.testBit_zero] at h
  rcases Nat.mod_two_eq_zero_or_one x with hx | hx <;> rcases Nat.mod_two_eq_zero_or_one y with hy | hy <;>
    rcases Nat.mod_two_eq_zero_or_one (x ^^^ y) with hz | hz <;> simp [hx, hy, hz] at h ⊢

theorem xor4 (a b c d : Nat) : (a ^^^ b) ^^^ (c ^^^ d) = (a ^^^ c) ^^^ (b ^^^ d) := by
  simp only [Nat.xor_assoc]
  congr 1
  rw [← Nat.xor_assoc, Nat.xor_comm b c, Nat.xor_assoc]

theorem sh_xor (x y : Nat) : sh (x ^^^ y) = sh x ^^^ sh y := by
  unfold sh
  rw [xor_mod, xor_div]
  rcases Nat.mod_two_eq_zero_or_one x with hx | hx <;> rcases Nat.mod_two_eq_zero_or_one y with hy | hy <;> simp [hx, hy]
  · rw [Nat.xor_assoc]
  · rw [Nat.xor_assoc, Nat.xor_assoc, Nat.xor_comm poly]
  · rw [xor4, Nat.xor_self, Nat.xor_zero]

theorem sh_lt (r : Nat) (h : r < top) : sh r < top := by
  unfold sh
  have h2 : r / 2 < 2 ^ 32 := by unfold top at h; omega
  split
  · exact Nat.xor_lt_two_pow (n := 32) h2 (by decide)
  · exact h2

theorem it_zero (n : Nat) : it n 0 = 0 := by
  induction n with
  | zero => rfl
  | succ n ih => show it n (sh 0) = 0; exact ih

theorem it_xor (n x y : Nat) : it n (x ^^^ y) = it n x ^^^ it n y := by
  induction n generalizing x y with
  | zero => rfl
  | succ n ih => show it n (sh (x ^^^ y)) = it n (sh x) ^^^ it n (sh y); rw [sh_xor, ih]

theorem it_lt (n r : Nat) (h : r < top) : it n r < top := by
  induction n generalizing r with
  | zero => exact h
  | succ n ih => exact ih _ (sh_lt r h)

theorem it_add (n m r : Nat) : it (n + m) r = it m (it n r) := by
  induction n generalizing r with
  | zero => rw [Nat.zero_add]; rfl
  | succ n ih => rw [Nat.succ_add]; exact ih (sh r)

theorem it_succ (n r : Nat) : it (n + 1) r = sh (it n r) := it_add n 1 r

theorem sh_even (q : Nat) : sh (2 * q) = q := by
  unfold sh
  rw [if_neg (by omega)]
  omega

theorem it_pow (n q : Nat) : it n (2 ^ n * q) = q := by
  induction n with
  | zero => simp [it]
  | succ n ih => show it n (sh (2 ^ (n + 1) * q)) = q; rw [show 2 ^ (n + 1) * q = 2 * (2 ^ n * q) from by rw [Nat.pow_succ, Nat.mul_comm (2 ^ n) 2, Nat.mul_assoc], sh_even, ih]

theorem parts (k x : Nat) : (2 ^ k * (x / 2 ^ k)) ^^^ (x % 2 ^ k) = x := by
  apply Nat.eq_of_testBit_eq
  intro i
  rw [Nat.testBit_xor, Nat.testBit_two_pow_mul, Nat.testBit_mod_two_pow, Nat.testBit_div_two_pow]
  by_cases h : i < k
  · simp [h, Nat.not_le.2 h]
  · simp [h, Nat.not_lt.1 h]

theorem s8_split (r : Nat) : (r / 256) ^^^ s8 (r % 256) = s8 r := by
  have h := parts 8 r
  have e : s8 r = it 8 ((2 ^ 8 * (r / 2 ^ 8)) ^^^ (r % 2 ^ 8)) := by rw [h]; rfl
  rw [e, it_xor, it_pow]
  rfl

theorem s8_xor (x y : Nat) : s8 (x ^^^ y) = s8 x ^^^ s8 y := it_xor 8 x y
theorem s8_lt (r : Nat) (h : r < top) : s8 r < top := it_lt 8 r h

theorem xor_lt (x y : Nat) (hx : x < top) (hy : y < top) : x ^^^ y < top := Nat.xor_lt_two_pow (n := 32) hx hy
theorem nt_lt (x : Nat) (hx : x < top) : nt x < top := xor_lt _ _ (by decide) hx
theorem xor_twice (o x : Nat) : o ^^^ (o ^^^ x) = x := by rw [← Nat.xor_assoc, Nat.xor_self, Nat.zero_xor]
theorem nt_eq (x : Nat) : nt x = ones ^^^ x := rfl
theorem nt_nt (x : Nat) : nt (nt x) = x := by rw [nt_eq, nt_eq]; exact xor_twice ones x
theorem nt_zero (x : Nat) : nt x = nt 0 ^^^ x := by
  have h : ∀ o y : Nat, o ^^^ y = (o ^^^ 0) ^^^ y := fun o y => by rw [Nat.xor_zero]
  exact h ones x
theorem byte_lt (c b : Nat) (hc : c < top) (hb : b < top) : byte c b < top := by
  unfold byte
  exact nt_lt _ (s8_lt _ (xor_lt _ _ (nt_lt _ hc) hb))

/-- what the table does to a register and a byte -/
theorem s8_byte (r b : Nat) : (r / 256) ^^^ s8 ((r % 256) ^^^ b) = s8 (r ^^^ b) := by
  rw [s8_xor, ← Nat.xor_assoc, s8_split, s8_xor]

theorem reg_append (r : Nat) (l m : List Nat) : reg r (l ++ m) = reg (reg r l) m := by
  induction l generalizing r with
  | nil => rfl
  | cons b bs ih => exact ih _

theorem reg_lt (r : Nat) (l : List Nat) (h : r < top) (hl : ∀ b ∈ l, b < 256) : reg r l < top := by
  induction l generalizing r with
  | nil => exact h
  | cons b bs ih =>
    have hb := hl b (by simp)
    exact ih _ (s8_lt _ (xor_lt _ _ h (by unfold top; omega))) (fun x hx => hl x (by simp [hx]))

theorem more_nil (c : Nat) : more c [] = c := nt_nt c
theorem more_append (c : Nat) (l m : List Nat) : more c (l ++ m) = more (more c l) m := by
  unfold more
  rw [nt_nt, reg_append]
theorem more_snoc (c : Nat) (l : List Nat) (b : Nat) : more c (l ++ [b]) = byte (more c l) b := by
  rw [more_append]
  rfl
theorem more_lt (c : Nat) (l : List Nat) (h : c < top) (hl : ∀ b ∈ l, b < 256) : more c l < top := nt_lt _ (reg_lt _ _ (nt_lt _ h) hl)

theorem s8_eq (r : Nat) : s8 r = it 8 r := rfl
theorem it_0 (r : Nat) : it 0 r = r := rfl
theorem reg_nil (r : Nat) : reg r [] = r := rfl
theorem reg_cons (r b : Nat) (bs : List Nat) : reg r (b :: bs) = reg (s8 (r ^^^ b)) bs := rfl
attribute [irreducible] it s8

/-- a register's way through bytes, apart into what it was and what came -/
theorem reg_split (r : Nat) (l : List Nat) : reg r l = it (8 * l.length) r ^^^ reg 0 l := by
  induction l generalizing r with
  | nil => rw [reg_nil, reg_nil, List.length_nil, Nat.mul_zero, it_0, Nat.xor_zero]
  | cons b bs ih =>
    have e : it (8 * (b :: bs).length) r = it (8 * bs.length) (s8 r) := by
      rw [show 8 * (b :: bs).length = 8 + 8 * bs.length from by rw [List.length_cons]; omega, it_add, ← s8_eq]
    rw [reg_cons, reg_cons, e, ih, ih (s8 (0 ^^^ b)), Nat.zero_xor, s8_xor, it_xor, Nat.xor_assoc]

/-- P1.2: the sum of two texts by those of both -/
theorem join (a : Nat) (l : List Nat) : it (8 * l.length) a ^^^ more 0 l = more a l := by
  unfold more
  rw [reg_split (nt 0), reg_split (nt a), nt_zero a, it_xor]
  generalize it (8 * l.length) a = A
  generalize it (8 * l.length) (nt 0) = B
  generalize reg 0 l = R
  have h : ∀ o : Nat, A ^^^ (o ^^^ (B ^^^ R)) = o ^^^ ((B ^^^ A) ^^^ R) := by
    intro o
    rw [← Nat.xor_assoc, Nat.xor_comm A o, Nat.xor_assoc, ← Nat.xor_assoc A, Nat.xor_comm A B]
  exact h ones

theorem reg_noughts (r n : Nat) : reg r (List.replicate n 0) = it (8 * n) r := by
  induction n generalizing r with
  | zero => rw [List.replicate_zero, reg_nil, Nat.mul_zero, it_0]
  | succ n ih => rw [List.replicate_succ, reg_cons, ih, Nat.xor_zero, show 8 * (n + 1) = 8 + 8 * n from by omega, it_add, ← s8_eq]

/-- what a matrix does: a row a bit -/
def tm : List Nat → Nat → Nat
  | [], _ => 0
  | x :: xs, r => (if r % 2 = 1 then x else 0) ^^^ tm xs (r / 2)

theorem tm_zero (m : List Nat) : tm m 0 = 0 := by
  induction m with
  | nil => rfl
  | cons x xs ih => simp [tm, ih]

def rows (f : Nat → Nat) (s n : Nat) : List Nat := (List.range' s n).map (fun i => f (2 ^ i))

theorem rows_length (f : Nat → Nat) (s n : Nat) : (rows f s n).length = n := by simp [rows]

theorem tm_rows (f : Nat → Nat) (hf : ∀ x y, f (x ^^^ y) = f x ^^^ f y) (hz : f 0 = 0) (n s r : Nat) (hr : r < 2 ^ n) : tm (rows f s n) r = f (2 ^ s * r) := by
  induction n generalizing s r with
  | zero =>
    obtain rfl : r = 0 := by simpa using hr
    simp [rows, tm, hz]
  | succ n ih =>
    have e : rows f s (n + 1) = f (2 ^ s) :: rows f (s + 1) n := by simp [rows, List.range'_succ]
    rw [e]
    show (if r % 2 = 1 then f (2 ^ s) else 0) ^^^ tm (rows f (s + 1) n) (r / 2) = _
    rw [ih (s + 1) (r / 2) (by rw [Nat.pow_succ] at hr; omega)]
    have hp := parts 1 r
    simp only [Nat.pow_one] at hp
    have h2 : 2 ^ s * r = (2 ^ s * (r % 2)) ^^^ (2 ^ (s + 1) * (r / 2)) := by
      have := parts (s + 1) (2 ^ s * r)
      have d : 2 ^ s * r / 2 ^ (s + 1) = r / 2 := by rw [Nat.pow_succ, ← Nat.div_div_eq_div_mul, Nat.mul_div_cancel_left _ (Nat.two_pow_pos s)]
      have m : 2 ^ s * r % 2 ^ (s + 1) = 2 ^ s * (r % 2) := by rw [Nat.pow_succ, Nat.mul_mod_mul_left]
      rw [d, m, Nat.xor_comm] at this
      exact this.symm
    rw [h2, hf]
    rcases Nat.mod_two_eq_zero_or_one r with h | h <;> simp [h, hz]

/-- the matrix of so many shifts -/
def mat (n : Nat) : List Nat := rows (it n) 0 32

theorem mat_length (n : Nat) : (mat n).length = 32 := rows_length _ _ _
theorem tm_mat (n r : Nat) (h : r < top) : tm (mat n) r = it n r := by
  unfold mat
  rw [tm_rows (it n) (it_xor n) (it_zero n) 32 0 r h]
  simp
theorem mat_get (n i : Nat) (h : i < 32) : (mat n).getD i 0 = it n (2 ^ i) := by
  simp [mat, rows, List.getD, h]
theorem mat_get' (n i : Nat) (h : i < 32) : (mat n)[i]?.getD 0 = it n (2 ^ i) := by
  simp [mat, rows, h]
theorem two_lt (i : Nat) (h : i < 32) : 2 ^ i < top := Nat.pow_lt_pow_right (by omega) h
theorem mat_lt (n i : Nat) (h : i < 32) : (mat n).getD i 0 < top := by rw [mat_get n i h]; exact it_lt n _ (two_lt i h)
theorem mat_sq (n i : Nat) (h : i < 32) : tm (mat n) ((mat n).getD i 0) = (mat (n + n)).getD i 0 := by
  rw [mat_get n i h, mat_get _ i h, tm_mat n _ (it_lt n _ (two_lt i h)), it_add]

/-- the table of 256 bytes -/
def tab : List Nat := (List.range 256).map s8
theorem tab_get (i : Nat) (h : i < 256) : tab.getD i 0 = s8 i := by simp [tab, List.getD, h]
theorem tab_length : tab.length = 256 := by simp [tab]

/-- the table, half made: behind k doublings, and j entries of the next one -/
def half (k j : Nat) (ts : List Nat) : Prop :=
  ts.length = 256 ∧ (∀ m, m < 256 → m % 2 ^ (8 - k) = 0 → ts.getD m 0 = s8 m) ∧ ∀ m, m < 2 ^ (8 - k) * j → m < 256 → m % 2 ^ (7 - k) = 0 → ts.getD m 0 = s8 m

theorem half_start : half 0 0 (List.replicate 256 0) := by
  refine ⟨by rw [List.length_replicate], ?_, ?_⟩
  · intro m h1 h2
    have h3 : m % 256 = 0 := h2
    obtain rfl : m = 0 := by omega
    rw [s8_eq, it_zero]
    rfl
  · intro m h; simp at h

theorem half_next (k : Nat) (hk : k < 8) (ts : List Nat) (h : half k (2 ^ k) ts) : half (k + 1) 0 ts := by
  refine ⟨h.1, ?_, ?_⟩
  · intro m h1 h2
    refine h.2.2 m ?_ h1 (by rw [show 7 - k = 8 - (k + 1) from by omega]; exact h2)
    rw [← Nat.pow_add, show 8 - k + k = 8 from by omega]
    exact h1
  · intro m hm; simp at hm

theorem half_end (ts : List Nat) (h : half 8 0 ts) : ts = tab := by
  apply List.ext_getElem
  · rw [h.1, tab_length]
  · intro i h1 h2
    have a := h.2.1 i (by rw [h.1] at h1; exact h1) (by simp [Nat.mod_one])
    have b := tab_get i (by rw [h.1] at h1; exact h1)
    rw [← b] at a
    simpa [List.getD, h1, h2] using a

theorem reg_one (k : Nat) (hk : k < 8) : it (k + 1) 1 = s8 (2 ^ (7 - k)) := by
  rw [s8_eq]
  have e : (7 - k) + (k + 1) = 8 := by omega
  have h := it_add (7 - k) (k + 1) (2 ^ (7 - k))
  rw [e] at h
  rw [h]
  have := it_pow (7 - k) 1
  rw [Nat.mul_one] at this
  rw [this]

theorem xor_plus (t x : Nat) (h : x % 2 ^ (t + 1) = 0) : x ^^^ 2 ^ t = x + 2 ^ t := by
  have hp : 2 ^ t < 2 ^ (t + 1) := Nat.pow_lt_pow_right (by omega) (by omega)
  have := parts (t + 1) (x + 2 ^ t)
  have hd : x = 2 ^ (t + 1) * (x / 2 ^ (t + 1)) := by have := Nat.div_add_mod x (2 ^ (t + 1)); omega
  generalize x / 2 ^ (t + 1) = q at hd
  subst hd
  rw [Nat.mul_add_div (Nat.two_pow_pos _), Nat.mul_add_mod, Nat.div_eq_of_lt hp, Nat.mod_eq_of_lt hp, Nat.add_zero] at this
  exact this

theorem half_step (k j : Nat) (hk : k < 8) (hj : j < 2 ^ k) (ts : List Nat) (h : half k j ts) :
    half k (j + 1) (ts.set (2 ^ (8 - k) * j + 2 ^ (7 - k)) (ts.getD (2 ^ (8 - k) * j) 0 ^^^ it (k + 1) 1)) := by
  obtain ⟨hl, ha, hb⟩ := h
  have e8 : 2 ^ (8 - k) = 2 * 2 ^ (7 - k) := by rw [show 8 - k = (7 - k) + 1 from by omega, Nat.pow_succ, Nat.mul_comm]
  have hlt : 2 ^ (8 - k) * j + 2 ^ (8 - k) ≤ 256 := by
    rw [← Nat.mul_succ]
    calc 2 ^ (8 - k) * (j + 1) ≤ 2 ^ (8 - k) * 2 ^ k := Nat.mul_le_mul_left _ hj
      _ = 256 := by rw [← Nat.pow_add, show 8 - k + k = 8 from by omega]
  have hv : ts.getD (2 ^ (8 - k) * j) 0 ^^^ it (k + 1) 1 = s8 (2 ^ (8 - k) * j + 2 ^ (7 - k)) := by
    have hpos := Nat.two_pow_pos (8 - k)
    rw [ha _ (by omega) (Nat.mul_mod_right _ _), reg_one k hk, ← s8_xor, xor_plus (7 - k) _ (by rw [show 7 - k + 1 = 8 - k from by omega]; exact Nat.mul_mod_right _ _)]
  rw [hv]
  have hpos := Nat.two_pow_pos (7 - k)
  refine ⟨by rw [List.length_set]; exact hl, ?_, ?_⟩
  · intro m h1 h2
    rw [List.getD_eq_getElem?_getD, List.getElem?_set]
    split
    · rename_i he
      subst he
      simp [show 2 ^ (8 - k) * j + 2 ^ (7 - k) < ts.length from by omega]
    · rw [← List.getD_eq_getElem?_getD]; exact ha m h1 h2
  · intro m h1 h2 h3
    rw [List.getD_eq_getElem?_getD, List.getElem?_set]
    split
    · rename_i he
      subst he
      simp [show 2 ^ (8 - k) * j + 2 ^ (7 - k) < ts.length from by omega]
    · rename_i hne
      rw [← List.getD_eq_getElem?_getD]
      by_cases hm : m < 2 ^ (8 - k) * j
      · exact hb m hm h2 h3
      · refine ha m h2 ?_
        have hd : m = 2 ^ (7 - k) * (m / 2 ^ (7 - k)) := by have := Nat.div_add_mod m (2 ^ (7 - k)); omega
        generalize m / 2 ^ (7 - k) = q at hd
        subst hd
        rw [Nat.mul_succ] at h1
        rw [e8, Nat.mul_assoc, Nat.mul_left_comm] at h1 hm hne
        have q1 : 2 * j ≤ q := by
          rcases Nat.lt_or_ge q (2 * j) with hq | hq
          · exact absurd (Nat.mul_lt_mul_of_pos_left hq hpos) hm
          · exact hq
        have q2 : q < 2 * j + 2 := by
          rcases Nat.lt_or_ge q (2 * j + 2) with hq | hq
          · exact hq
          · have := Nat.mul_le_mul_left (2 ^ (7 - k)) hq
            rw [Nat.mul_add] at this
            omega
        have q3 : q ≠ 2 * j + 1 := by
          rintro rfl
          apply hne
          rw [Nat.mul_add, Nat.mul_one]
        obtain rfl : q = 2 * j := by omega
        rw [e8, show 2 ^ (7 - k) * (2 * j) = 2 * 2 ^ (7 - k) * j from by rw [Nat.mul_left_comm, Nat.mul_assoc]]
        exact Nat.mul_mod_right _ _

theorem known : more 0 [49, 50, 51, 52, 53, 54, 55, 56, 57] = 3421780262 := by decide +kernel

end CrcM
