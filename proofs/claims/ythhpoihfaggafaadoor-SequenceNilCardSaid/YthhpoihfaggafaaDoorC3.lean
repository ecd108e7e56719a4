/-
  Programs in memory; the walk of mayNumber.
-/
import Derived.Test.YthhpoihfaggafaaDoorC2
namespace Go.Proofs.YthhpoihfaggafaaDoor
open Go.RowKit CodM

def I64 (n : Int) : Prop := -9223372036854775808 ≤ n ∧ n ≤ 9223372036854775807

/-- the slice at a, of n instructions, reads as l -/
def InsAt (w : World) (a : Option Addr) (n : Nat) (l : List Ins) : Prop :=
  l.length = n ∧ (∀ x ∈ l, I64 x.1 ∧ I64 x.2) ∧ n ≤ 9223372036854775807 ∧
  (n = 0 ∨ ∃ B off, a = some ⟨B, off, none⟩ ∧ B < w.heap.size ∧ ∀ i, i < n → w.cell? ⟨B, off + i * 2, none⟩ = some (.int .i64 (l.getD i (0, 0)).1) ∧ w.cell? ⟨B, off + i * 2 + 1, none⟩ = some (.int .i64 (l.getD i (0, 0)).2))
/-- a slice's value is as Go's are: no longer than its room; nil has none -/
def SlOk (a : Option Addr) (n c : Nat) : Prop := n ≤ c ∧ (a = none → c = 0)
/-- the slice at a, of n kinds, reads as ks -/
def KindsAt (w : World) (a : Option Addr) (n : Nat) (ks : List (List Ins)) : Prop :=
  ks.length = n ∧ n ≤ 9223372036854775807 ∧
  (n = 0 ∨ ∃ B off, a = some ⟨B, off, none⟩ ∧ B < w.heap.size ∧ ∀ i, i < n → ∃ a' n' c', w.cell? ⟨B, off + i, none⟩ = some (.slice a' n' c') ∧ SlOk a' n' c' ∧ InsAt w a' n' (ks.getD i []))
/-- a program's value: its variables, its kinds -/
def ProgAt (w : World) (a : Option Addr) (n : Nat) (p : Prg) : Prop := I64 p.vars ∧ KindsAt w a n p.kinds

theorem InsAt.below {w w' : World} {a : Option Addr} {n : Nat} {l : List Ins} (h : InsAt w a n l) {b : Nat} (hb : Below b w w') (hs : w.heap.size ≤ b) : InsAt w' a n l := by
  obtain ⟨h1, h2, h3, h4⟩ := h
  refine ⟨h1, h2, h3, ?_⟩
  rcases h4 with h4 | ⟨B, off, rfl, hB, hc⟩
  · exact .inl h4
  · exact .inr ⟨B, off, rfl, Nat.lt_of_lt_of_le hB hb.size, fun i hi => ⟨(hb.cell (p := ⟨B, off + i * 2, none⟩) (Nat.lt_of_lt_of_le hB hs)).trans (hc i hi).1, (hb.cell (p := ⟨B, off + i * 2 + 1, none⟩) (Nat.lt_of_lt_of_le hB hs)).trans (hc i hi).2⟩⟩
theorem KindsAt.below {w w' : World} {a : Option Addr} {n : Nat} {l : List (List Ins)} (h : KindsAt w a n l) {b : Nat} (hb : Below b w w') (hs : w.heap.size ≤ b) : KindsAt w' a n l := by
  obtain ⟨h1, h2, h4⟩ := h
  refine ⟨h1, h2, ?_⟩
  rcases h4 with h4 | ⟨B, off, rfl, hB, hc⟩
  · exact .inl h4
  · refine .inr ⟨B, off, rfl, Nat.lt_of_lt_of_le hB hb.size, fun i hi => ?_⟩
    obtain ⟨a', n', c', e1, e2, e3⟩ := hc i hi
    exact ⟨a', n', c', (hb.cell (p := ⟨B, off + i, none⟩) (Nat.lt_of_lt_of_le hB hs)).trans e1, e2, e3.below hb hs⟩
theorem ProgAt.below {w w' : World} {a : Option Addr} {n : Nat} {p : Prg} (h : ProgAt w a n p) {b : Nat} (hb : Below b w w') (hs : w.heap.size ≤ b) : ProgAt w' a n p := ⟨h.1, h.2.below hb hs⟩
theorem InsAt.cell {w : World} {a : Option Addr} {n : Nat} {l : List Ins} (h : InsAt w a n l) (i : Nat) (hi : i < n) :
    ∃ B off, a = some ⟨B, off, none⟩ ∧ B < w.heap.size ∧ w.cell? ⟨B, off + i * 2, none⟩ = some (.int .i64 (l.getD i (0, 0)).1) ∧ w.cell? ⟨B, off + i * 2 + 1, none⟩ = some (.int .i64 (l.getD i (0, 0)).2) := by
  obtain ⟨h1, h2, h3, h4⟩ := h
  rcases h4 with h4 | ⟨B, off, rfl, hB, hc⟩
  · omega
  · exact ⟨B, off, rfl, hB, (hc i hi).1, (hc i hi).2⟩
theorem KindsAt.cell {w : World} {a : Option Addr} {n : Nat} {l : List (List Ins)} (h : KindsAt w a n l) (i : Nat) (hi : i < n) :
    ∃ B off a' n' c', a = some ⟨B, off, none⟩ ∧ B < w.heap.size ∧ w.cell? ⟨B, off + i, none⟩ = some (.slice a' n' c') ∧ SlOk a' n' c' ∧ InsAt w a' n' (l.getD i []) := by
  obtain ⟨h1, h2, h4⟩ := h
  rcases h4 with h4 | ⟨B, off, rfl, hB, hc⟩
  · omega
  · obtain ⟨a', n', c', e1, e2, e3⟩ := hc i hi
    exact ⟨B, off, a', n', c', rfl, hB, e1, e2, e3⟩
theorem InsAt.bounds {w : World} {a : Option Addr} {n : Nat} {l : List Ins} (h : InsAt w a n l) (i : Nat) (hi : i < n) : I64 (l.getD i (0, 0)).1 ∧ I64 (l.getD i (0, 0)).2 := by
  have hl : i < l.length := by rw [h.1]; exact hi
  exact h.2.1 _ (by simp [List.getD, hl])

theorem cellN {w7 W : World} {p : Addr} {v : Value} (h : w7.cell? p = some v) (hb : Below w7.heap.size w7 W) : W.cell? p = some v := (hb.cell (World.block_lt_of_cell? w7 _ h)).trans h
def insV (x : Ins) : Value := .agg #[.int .i64 x.1, .int .i64 x.2]

theorem mn_one (nk v m n : Int) : mayNum nk v m (1, n) = true := rfl
set_option maxHeartbeats 1000000 in
theorem mayNumber_any (o n vars nk many : Int) (w : World) (hn : I64 n) (hm0 : 0 ≤ many) (hm1 : many ≤ 128) :
    Calls Tryd.prog 135 #[.agg #[.int .i64 o, .int .i64 n], .int .i64 vars, .int .i64 nk, .int .i64 many] w (TellsBB (mayNum nk vars many (o, n)) w) := by
  obtain ⟨hn0, hn1⟩ := hn
  by_cases h1 : o = 1
  · subst h1
    go_enter Tryd.func135, Tryd.ntmps135; go_wp2; go_ret
    exact ⟨rfl, (Below.refl _ _).alloc (Nat.le_refl _) _⟩
  by_cases h2 : o = 2
  · subst h2
    obtain ⟨r, hr⟩ : ∃ r, r = mayNum nk vars many (2, n) := ⟨_, rfl⟩
    rw [← hr]
    have HR := Lib.hid hr
    clear hr
    go_enter Tryd.func135, Tryd.ntmps135; go_wp2
    all_goals (go_ret; refine ⟨?_, (Below.refl _ _).alloc (Nat.le_refl _) _⟩; rw [HR.out]; simp [mayNum, CodM.many]; try omega)
  by_cases h3 : o = 3
  · subst h3
    obtain ⟨r, hr⟩ : ∃ r, r = mayNum nk vars many (3, n) := ⟨_, rfl⟩
    rw [← hr]
    have HR := Lib.hid hr
    clear hr
    go_enter Tryd.func135, Tryd.ntmps135; go_wp2
    all_goals (go_ret; refine ⟨?_, (Below.refl _ _).alloc (Nat.le_refl _) _⟩; rw [HR.out]; simp [mayNum, CodM.many]; try omega)
  by_cases h15 : o = 15
  · subst h15
    obtain ⟨r, hr⟩ : ∃ r, r = mayNum nk vars many (15, n) := ⟨_, rfl⟩
    rw [← hr]
    have HR := Lib.hid hr
    clear hr
    go_enter Tryd.func135, Tryd.ntmps135; go_wp2
    all_goals (go_ret; refine ⟨?_, (Below.refl _ _).alloc (Nat.le_refl _) _⟩; rw [HR.out]; simp [mayNum, CodM.many]; try omega)
  by_cases h13 : o = 13
  · subst h13
    obtain ⟨r, hr⟩ : ∃ r, r = mayNum nk vars many (13, n) := ⟨_, rfl⟩
    rw [← hr]
    have HR := Lib.hid hr
    clear hr
    go_enter Tryd.func135, Tryd.ntmps135; go_wp2
    all_goals (go_ret; refine ⟨?_, (Below.refl _ _).alloc (Nat.le_refl _) _⟩; rw [HR.out]; simp [mayNum, CodM.many]; try omega)
  by_cases h14 : o = 14
  · subst h14
    obtain ⟨r, hr⟩ : ∃ r, r = mayNum nk vars many (14, n) := ⟨_, rfl⟩
    rw [← hr]
    have HR := Lib.hid hr
    clear hr
    go_enter Tryd.func135, Tryd.ntmps135; go_wp2
    all_goals (go_ret; refine ⟨?_, (Below.refl _ _).alloc (Nat.le_refl _) _⟩; rw [HR.out]; simp [mayNum, CodM.many]; try omega)
  have g1 : (o == 1) = false := by simpa using h1
  have g2 : (o == 2) = false := by simpa using h2
  have g3 : (o == 3) = false := by simpa using h3
  have g4 : (o == 13) = false := by simpa using h13
  have g5 : (o == 14) = false := by simpa using h14
  have g6 : (o == 15) = false := by simpa using h15
  obtain ⟨r, hr⟩ : ∃ r, r = mayNum nk vars many (o, n) := ⟨_, rfl⟩
  have hr' : r = (decide (0 ≤ n) && decide (n < 1)) := by rw [hr]; simp [mayNum, CodM.many, h1, h2, h3, h13, h14, h15]
  rw [← hr]
  have HR := Lib.hid hr'
  clear hr hr' h1 h2 h3 h13 h14 h15
  go_enter Tryd.func135, Tryd.ntmps135; go_wp2
  all_goals (go_ret; refine ⟨?_, (Below.refl _ _).alloc (Nat.le_refl _) _⟩; rw [HR.out]; simp; try omega)
end Go.Proofs.YthhpoihfaggafaaDoor
