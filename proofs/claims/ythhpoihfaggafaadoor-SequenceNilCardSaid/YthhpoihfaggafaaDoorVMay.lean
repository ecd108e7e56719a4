/-
  The walks of within, and of order's May.
-/
import Derived.Test.YthhpoihfaggafaaDoorC3
import Derived.ProofKit
import Derived.ChangeOld
import Derived.Below
import Derived.Lib.Hide
namespace Go.Proofs.YthhpoihfaggafaaDoor
open Go Go.RowKit Go.Proofs CodM

def inB (n lo hi : Int) : Bool := decide (lo ≤ n ∧ n ≤ hi)
def SameB (t : Bool) (w : World) (e : Ending) (w' : World) : Prop := e = .returned (.bool t) ∧ w = w'
theorem ret_b {a b : Bool} (h : a = b) : Ending.returned (.bool a) = .returned (.bool b) := by rw [h]

theorem within64_any (n lo hi : Int) (w : World) : Calls Tryd.prog 72 #[.int .i64 n, .int .i64 lo, .int .i64 hi] w (SameB (inB n lo hi) w) := by
  obtain ⟨t, ht⟩ : ∃ t, t = inB n lo hi := ⟨_, rfl⟩
  rw [← ht]
  have HT := Lib.hid ht
  clear ht
  by_cases h1 : lo ≤ n
  · by_cases h2 : n ≤ hi
    · go_enter Tryd.func72, Tryd.ntmps72
      go_wp2
      go_ret
      exact ⟨ret_b (by rw [HT.out]; exact (decide_eq_true (p := lo ≤ n ∧ n ≤ hi) ⟨h1, h2⟩).symm), rfl⟩
    · have hd : decide (n ≤ hi) = false := decide_eq_false h2
      have H2 := Lib.hid h2
      clear h2
      go_enter Tryd.func72, Tryd.ntmps72
      go_wp2
      go_ret
      exact ⟨ret_b (by rw [HT.out]; exact (decide_eq_false (p := lo ≤ n ∧ n ≤ hi) (by have := H2.out; omega)).symm), rfl⟩
  · have hd : decide (lo ≤ n) = false := decide_eq_false h1
    have H1 := Lib.hid h1
    clear h1
    go_enter Tryd.func72, Tryd.ntmps72
    go_wp2
    go_ret
    exact ⟨ret_b (by rw [HT.out]; exact (decide_eq_false (p := lo ≤ n ∧ n ≤ hi) (by have := H1.out; omega)).symm), rfl⟩

theorem withinInt_any (n lo hi : Int) (w : World) : Calls Tryd.prog 73 #[.int .i64 n, .int .i64 lo, .int .i64 hi] w (SameB (inB n lo hi) w) := by
  obtain ⟨t, ht⟩ : ∃ t, t = inB n lo hi := ⟨_, rfl⟩
  rw [← ht]
  have HT := Lib.hid ht
  clear ht
  by_cases h1 : lo ≤ n
  · by_cases h2 : n ≤ hi
    · go_enter Tryd.func73, Tryd.ntmps73
      go_wp2
      go_ret
      exact ⟨ret_b (by rw [HT.out]; exact (decide_eq_true (p := lo ≤ n ∧ n ≤ hi) ⟨h1, h2⟩).symm), rfl⟩
    · have hd : decide (n ≤ hi) = false := decide_eq_false h2
      have H2 := Lib.hid h2
      clear h2
      go_enter Tryd.func73, Tryd.ntmps73
      go_wp2
      go_ret
      exact ⟨ret_b (by rw [HT.out]; exact (decide_eq_false (p := lo ≤ n ∧ n ≤ hi) (by have := H2.out; omega)).symm), rfl⟩
  · have hd : decide (lo ≤ n) = false := decide_eq_false h1
    have H1 := Lib.hid h1
    clear h1
    go_enter Tryd.func73, Tryd.ntmps73
    go_wp2
    go_ret
    exact ⟨ret_b (by rw [HT.out]; exact (decide_eq_false (p := lo ≤ n ∧ n ≤ hi) (by have := H1.out; omega)).symm), rfl⟩
/-- may an event be, of so many processes? -/
def mayEv (t o s ds kd : Int) (procs : Int) : Bool := decide (0 ≤ t ∧ t ≤ 1099511627776 ∧ 0 ≤ o ∧ o ≤ 17 ∧ 0 ≤ s ∧ s ≤ 4611686018427387904 ∧ 1 ≤ ds ∧ ds ≤ procs ∧ 0 ≤ kd ∧ kd ≤ 7)

theorem mayE_parts (t o s ds kd procs : Int) : mayEv t o s ds kd procs = (inB t 0 1099511627776 && inB o 0 17 && inB s 0 4611686018427387904 && inB ds 1 procs && inB kd 0 7) := by
  unfold mayEv inB
  rw [Bool.eq_iff_iff]
  simp only [Bool.and_eq_true, decide_eq_true_eq]
  omega
set_option maxHeartbeats 2000000 in
theorem omay_any (t o s ds kd dt procs : Int) (w : World) : Calls Tryd.prog 37 #[.agg #[.int .i64 t, .int .i64 o, .int .i64 s, .int .i64 ds, .int .i64 kd, .int .i64 dt], .int .i64 procs] w (TellsBB (mayEv t o s ds kd procs) w) := by
  obtain ⟨u, hu⟩ : ∃ u, u = mayEv t o s ds kd procs := ⟨_, rfl⟩
  rw [← hu]
  have HT := Lib.hid hu
  clear hu
  rcases b0 : inB t 0 1099511627776 with _ | _
  · have V0 := Lib.hid b0
    clear b0
    go_enter Tryd.func37, Tryd.ntmps37
    go_wp2_with (first
      | (go_at_call 72; refine (within64_any _ _ _ _).mono ?_; rintro e w1 ⟨rfl, rfl⟩; first | rw [V0.out])
      | (go_at_call 73; refine (withinInt_any _ _ _ _).mono ?_; rintro e w1 ⟨rfl, rfl⟩; first | rw [V0.out]))
    go_ret
    exact ⟨ret_b (by rw [HT.out, mayE_parts, V0.out]; simp), (Below.refl _ _).alloc (Nat.le_refl _) _⟩
  · have V0 := Lib.hid b0
    clear b0
    rcases b1 : inB o 0 17 with _ | _
    · have V1 := Lib.hid b1
      clear b1
      go_enter Tryd.func37, Tryd.ntmps37
      go_wp2_with (first
        | (go_at_call 72; refine (within64_any _ _ _ _).mono ?_; rintro e w1 ⟨rfl, rfl⟩; first | rw [V0.out] | rw [V1.out])
        | (go_at_call 73; refine (withinInt_any _ _ _ _).mono ?_; rintro e w1 ⟨rfl, rfl⟩; first | rw [V0.out] | rw [V1.out]))
      go_ret
      exact ⟨ret_b (by rw [HT.out, mayE_parts, V0.out, V1.out]; simp), (Below.refl _ _).alloc (Nat.le_refl _) _⟩
    · have V1 := Lib.hid b1
      clear b1
      rcases b2 : inB s 0 4611686018427387904 with _ | _
      · have V2 := Lib.hid b2
        clear b2
        go_enter Tryd.func37, Tryd.ntmps37
        go_wp2_with (first
          | (go_at_call 72; refine (within64_any _ _ _ _).mono ?_; rintro e w1 ⟨rfl, rfl⟩; first | rw [V0.out] | rw [V1.out] | rw [V2.out])
          | (go_at_call 73; refine (withinInt_any _ _ _ _).mono ?_; rintro e w1 ⟨rfl, rfl⟩; first | rw [V0.out] | rw [V1.out] | rw [V2.out]))
        go_ret
        exact ⟨ret_b (by rw [HT.out, mayE_parts, V0.out, V1.out, V2.out]; simp), (Below.refl _ _).alloc (Nat.le_refl _) _⟩
      · have V2 := Lib.hid b2
        clear b2
        rcases b3 : inB ds 1 procs with _ | _
        · have V3 := Lib.hid b3
          clear b3
          go_enter Tryd.func37, Tryd.ntmps37
          go_wp2_with (first
            | (go_at_call 72; refine (within64_any _ _ _ _).mono ?_; rintro e w1 ⟨rfl, rfl⟩; first | rw [V0.out] | rw [V1.out] | rw [V2.out] | rw [V3.out])
            | (go_at_call 73; refine (withinInt_any _ _ _ _).mono ?_; rintro e w1 ⟨rfl, rfl⟩; first | rw [V0.out] | rw [V1.out] | rw [V2.out] | rw [V3.out]))
          go_ret
          exact ⟨ret_b (by rw [HT.out, mayE_parts, V0.out, V1.out, V2.out, V3.out]; simp), (Below.refl _ _).alloc (Nat.le_refl _) _⟩
        · have V3 := Lib.hid b3
          clear b3
          rcases b4 : inB kd 0 7 with _ | _
          · have V4 := Lib.hid b4
            clear b4
            go_enter Tryd.func37, Tryd.ntmps37
            go_wp2_with (first
              | (go_at_call 72; refine (within64_any _ _ _ _).mono ?_; rintro e w1 ⟨rfl, rfl⟩; first | rw [V0.out] | rw [V1.out] | rw [V2.out] | rw [V3.out] | rw [V4.out])
              | (go_at_call 73; refine (withinInt_any _ _ _ _).mono ?_; rintro e w1 ⟨rfl, rfl⟩; first | rw [V0.out] | rw [V1.out] | rw [V2.out] | rw [V3.out] | rw [V4.out]))
            go_ret
            exact ⟨ret_b (by rw [HT.out, mayE_parts, V0.out, V1.out, V2.out, V3.out, V4.out]; simp), (Below.refl _ _).alloc (Nat.le_refl _) _⟩
          · have V4 := Lib.hid b4
            clear b4
            go_enter Tryd.func37, Tryd.ntmps37
            go_wp2_with (first
              | (go_at_call 72; refine (within64_any _ _ _ _).mono ?_; rintro e w1 ⟨rfl, rfl⟩; first | rw [V0.out] | rw [V1.out] | rw [V2.out] | rw [V3.out] | rw [V4.out])
              | (go_at_call 73; refine (withinInt_any _ _ _ _).mono ?_; rintro e w1 ⟨rfl, rfl⟩; first | rw [V0.out] | rw [V1.out] | rw [V2.out] | rw [V3.out] | rw [V4.out]))
            go_ret
            exact ⟨ret_b (by rw [HT.out, mayE_parts, V0.out, V1.out, V2.out, V3.out, V4.out]; simp), (Below.refl _ _).alloc (Nat.le_refl _) _⟩

end Go.Proofs.YthhpoihfaggafaaDoor
