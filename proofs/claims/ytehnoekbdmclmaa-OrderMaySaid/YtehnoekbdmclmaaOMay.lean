/-
  The walks of within, May (both) and Max; a region that draws its order, walked once in a class of worlds.
-/
import Derived.Test.YtehnoekbdmclmaaOCmp
import Derived.Deep.QuietTactic
namespace Go.Proofs.Ytehnoekbdmclmaa
open Go Go.RowKit Go.Sort Go.Proofs

/-- a world that leaves what lay in w0 -/
structure InB (w0 : World) where
  w : World
  h : Below w0.heap.size w0 w
instance (w0 : World) : Inhabited (InB w0) := ⟨⟨w0, Below.refl _ _⟩⟩
/-- the lexical walk of a region, shut against unfolding -/
structure WQ (P : Program) (ops : Array Oper) (C : World → Prop) (Q : Act → Prop) (l : List Oper) (a : Act) : Prop where
  out : wpQuiet P ops C Q l a
theorem WQ.nil {P : Program} {ops : Array Oper} {C : World → Prop} {Q : Act → Prop} {a : Act} (h : Q a) : WQ P ops C Q [] a := ⟨h⟩
theorem WQ.step {P : Program} {ops : Array Oper} {C : World → Prop} {Q : Act → Prop} {a : Act} {o : Oper} {rest : List Oper}
    (h : ∀ K : Act → Prop, (∀ a, WQ P ops C Q rest a → K a) → if Region.wanted o (yielded ops a.tmps) then o.quiet P a C K else K (a.put o.dst undef)) : WQ P ops C Q (o :: rest) a := by
  refine ⟨wpQuiet_step fun K hK => ?_⟩
  exact h K fun a ha => hK a ha.out
/-- a region that draws its order, walked once: its calls leave what lay -/
theorem wp_region_below {P : Program} {id : Nat} {Q : Exit → Act → World → Prop} {a : Act} {w : World} {l : List Oper} (hm : P.follows .mixedOrders = true) (hB : Region.lexB .any l.toArray = true)
    (h : WQ P l.toArray (fun w' => ∃ p : InB w, w' = p.w) (fun a' => ∀ w', (∃ p : InB w, w' = p.w) → Q .normal a' w') l a) : (Code.region id l.toArray true).wp P Q a w :=
  wp_region_quiet (C := fun w' => ∃ p : InB w, w' = p.w) hm hB ⟨⟨w.drew, (Below.refl _ _).drew⟩, rfl⟩ (by simpa using h.out)
/-- a call that leaves what lay, met in such a world -/
theorem Calls.inb {P : Program} {w0 : World} {f : FuncId} {args : Array Value} {p : InB w0} {v : Value}
    (h : Calls P f args p.w fun e w' => e = .returned v ∧ Below p.w.heap.size p.w w') : Calls P f args p.w fun e w'' => e = .returned v ∧ ∃ q : InB w0, w'' = q.w :=
  h.mono fun _ w' ⟨he, hb⟩ => ⟨he, ⟨w', p.h.trans (hb.mono p.h.size)⟩, rfl⟩

def inB (n lo hi : Int) : Bool := decide (lo ≤ n ∧ n ≤ hi)
def SameB (t : Bool) (w : World) (e : Ending) (w' : World) : Prop := e = .returned (.bool t) ∧ w = w'
theorem ret_b {a b : Bool} (h : a = b) : Ending.returned (.bool a) = .returned (.bool b) := by rw [h]

theorem within64_any (n lo hi : Int) (w : World) : Calls Try.prog 19 #[.int .i64 n, .int .i64 lo, .int .i64 hi] w (SameB (inB n lo hi) w) := by
  obtain ⟨t, ht⟩ : ∃ t, t = inB n lo hi := ⟨_, rfl⟩
  rw [← ht]
  have HT := Lib.hid ht
  clear ht
  by_cases h1 : lo ≤ n
  · by_cases h2 : n ≤ hi
    · go_enter Try.func19, Try.ntmps19
      go_wp2
      go_ret
      exact ⟨ret_b (by rw [HT.out]; exact (decide_eq_true (p := lo ≤ n ∧ n ≤ hi) ⟨h1, h2⟩).symm), rfl⟩
    · have hd : decide (n ≤ hi) = false := decide_eq_false h2
      have H2 := Lib.hid h2
      clear h2
      go_enter Try.func19, Try.ntmps19
      go_wp2
      go_ret
      exact ⟨ret_b (by rw [HT.out]; exact (decide_eq_false (p := lo ≤ n ∧ n ≤ hi) (by have := H2.out; omega)).symm), rfl⟩
  · have hd : decide (lo ≤ n) = false := decide_eq_false h1
    have H1 := Lib.hid h1
    clear h1
    go_enter Try.func19, Try.ntmps19
    go_wp2
    go_ret
    exact ⟨ret_b (by rw [HT.out]; exact (decide_eq_false (p := lo ≤ n ∧ n ≤ hi) (by have := H1.out; omega)).symm), rfl⟩

theorem withinInt_any (n lo hi : Int) (w : World) : Calls Try.prog 20 #[.int .i64 n, .int .i64 lo, .int .i64 hi] w (SameB (inB n lo hi) w) := by
  obtain ⟨t, ht⟩ : ∃ t, t = inB n lo hi := ⟨_, rfl⟩
  rw [← ht]
  have HT := Lib.hid ht
  clear ht
  by_cases h1 : lo ≤ n
  · by_cases h2 : n ≤ hi
    · go_enter Try.func20, Try.ntmps20
      go_wp2
      go_ret
      exact ⟨ret_b (by rw [HT.out]; exact (decide_eq_true (p := lo ≤ n ∧ n ≤ hi) ⟨h1, h2⟩).symm), rfl⟩
    · have hd : decide (n ≤ hi) = false := decide_eq_false h2
      have H2 := Lib.hid h2
      clear h2
      go_enter Try.func20, Try.ntmps20
      go_wp2
      go_ret
      exact ⟨ret_b (by rw [HT.out]; exact (decide_eq_false (p := lo ≤ n ∧ n ≤ hi) (by have := H2.out; omega)).symm), rfl⟩
  · have hd : decide (lo ≤ n) = false := decide_eq_false h1
    have H1 := Lib.hid h1
    clear h1
    go_enter Try.func20, Try.ntmps20
    go_wp2
    go_ret
    exact ⟨ret_b (by rw [HT.out]; exact (decide_eq_false (p := lo ≤ n ∧ n ≤ hi) (by have := H1.out; omega)).symm), rfl⟩
/-- may an event be, of so many processes? -/
def mayE (t o s ds kd : Int) (procs : Int) : Bool := decide (0 ≤ t ∧ t ≤ 1099511627776 ∧ 0 ≤ o ∧ o ≤ 17 ∧ 0 ≤ s ∧ s ≤ 4611686018427387904 ∧ 1 ≤ ds ∧ ds ≤ procs ∧ 0 ≤ kd ∧ kd ≤ 7)

set_option maxHeartbeats 2000000 in
theorem rmay_any (t o s ds kd dt procs : Int) (w : World) : Calls Try.prog 12 #[.agg #[.int .i64 t, .int .i64 o, .int .i64 s, .int .i64 ds, .int .i64 kd, .int .i64 dt], .int .i64 procs] w (TellsBB (mayE t o s ds kd procs) w) := by
  obtain ⟨u, hu⟩ : ∃ u, u = mayE t o s ds kd procs := ⟨_, rfl⟩
  rw [← hu]
  have HT := Lib.hid hu
  clear hu
  by_cases h0 : t < 0
  · have d0 : decide (t < 0) = true := decide_eq_true h0
    go_enter Try.func12, Try.ntmps12
    go_wp2
    go_ret
    exact ⟨ret_b (by rw [HT.out]; exact (decide_eq_false (p := 0 ≤ t ∧ t ≤ 1099511627776 ∧ 0 ≤ o ∧ o ≤ 17 ∧ 0 ≤ s ∧ s ≤ 4611686018427387904 ∧ 1 ≤ ds ∧ ds ≤ procs ∧ 0 ≤ kd ∧ kd ≤ 7) (by omega)).symm), (Below.refl _ _).alloc (Nat.le_refl _) _⟩
  · have d0 : decide (t < 0) = false := decide_eq_false h0
    by_cases h1 : 1099511627776 < t
    · have d1 : decide (1099511627776 < t) = true := decide_eq_true h1
      go_enter Try.func12, Try.ntmps12
      go_wp2
      go_ret
      exact ⟨ret_b (by rw [HT.out]; exact (decide_eq_false (p := 0 ≤ t ∧ t ≤ 1099511627776 ∧ 0 ≤ o ∧ o ≤ 17 ∧ 0 ≤ s ∧ s ≤ 4611686018427387904 ∧ 1 ≤ ds ∧ ds ≤ procs ∧ 0 ≤ kd ∧ kd ≤ 7) (by omega)).symm), (Below.refl _ _).alloc (Nat.le_refl _) _⟩
    · have d1 : decide (1099511627776 < t) = false := decide_eq_false h1
      by_cases h2 : o < 0
      · have d2 : decide (o < 0) = true := decide_eq_true h2
        go_enter Try.func12, Try.ntmps12
        go_wp2
        go_ret
        exact ⟨ret_b (by rw [HT.out]; exact (decide_eq_false (p := 0 ≤ t ∧ t ≤ 1099511627776 ∧ 0 ≤ o ∧ o ≤ 17 ∧ 0 ≤ s ∧ s ≤ 4611686018427387904 ∧ 1 ≤ ds ∧ ds ≤ procs ∧ 0 ≤ kd ∧ kd ≤ 7) (by omega)).symm), (Below.refl _ _).alloc (Nat.le_refl _) _⟩
      · have d2 : decide (o < 0) = false := decide_eq_false h2
        by_cases h3 : 17 < o
        · have d3 : decide (17 < o) = true := decide_eq_true h3
          go_enter Try.func12, Try.ntmps12
          go_wp2
          go_ret
          exact ⟨ret_b (by rw [HT.out]; exact (decide_eq_false (p := 0 ≤ t ∧ t ≤ 1099511627776 ∧ 0 ≤ o ∧ o ≤ 17 ∧ 0 ≤ s ∧ s ≤ 4611686018427387904 ∧ 1 ≤ ds ∧ ds ≤ procs ∧ 0 ≤ kd ∧ kd ≤ 7) (by omega)).symm), (Below.refl _ _).alloc (Nat.le_refl _) _⟩
        · have d3 : decide (17 < o) = false := decide_eq_false h3
          by_cases h4 : s < 0
          · have d4 : decide (s < 0) = true := decide_eq_true h4
            go_enter Try.func12, Try.ntmps12
            go_wp2
            go_ret
            exact ⟨ret_b (by rw [HT.out]; exact (decide_eq_false (p := 0 ≤ t ∧ t ≤ 1099511627776 ∧ 0 ≤ o ∧ o ≤ 17 ∧ 0 ≤ s ∧ s ≤ 4611686018427387904 ∧ 1 ≤ ds ∧ ds ≤ procs ∧ 0 ≤ kd ∧ kd ≤ 7) (by omega)).symm), (Below.refl _ _).alloc (Nat.le_refl _) _⟩
          · have d4 : decide (s < 0) = false := decide_eq_false h4
            by_cases h5 : 4611686018427387904 < s
            · have d5 : decide (4611686018427387904 < s) = true := decide_eq_true h5
              go_enter Try.func12, Try.ntmps12
              go_wp2
              go_ret
              exact ⟨ret_b (by rw [HT.out]; exact (decide_eq_false (p := 0 ≤ t ∧ t ≤ 1099511627776 ∧ 0 ≤ o ∧ o ≤ 17 ∧ 0 ≤ s ∧ s ≤ 4611686018427387904 ∧ 1 ≤ ds ∧ ds ≤ procs ∧ 0 ≤ kd ∧ kd ≤ 7) (by omega)).symm), (Below.refl _ _).alloc (Nat.le_refl _) _⟩
            · have d5 : decide (4611686018427387904 < s) = false := decide_eq_false h5
              by_cases g0 : 1 ≤ ds
              · have e0 : decide (1 ≤ ds) = true := decide_eq_true g0
                by_cases g1 : ds ≤ procs
                · have e1 : decide (ds ≤ procs) = true := decide_eq_true g1
                  by_cases g2 : 0 ≤ kd
                  · have e2 : decide (0 ≤ kd) = true := decide_eq_true g2
                    by_cases g3 : kd < 8
                    · have e3 : decide (kd < 8) = true := decide_eq_true g3
                      go_enter Try.func12, Try.ntmps12
                      go_wp2
                      go_ret
                      exact ⟨ret_b (by rw [HT.out]; exact (decide_eq_true (p := 0 ≤ t ∧ t ≤ 1099511627776 ∧ 0 ≤ o ∧ o ≤ 17 ∧ 0 ≤ s ∧ s ≤ 4611686018427387904 ∧ 1 ≤ ds ∧ ds ≤ procs ∧ 0 ≤ kd ∧ kd ≤ 7) (by omega)).symm), (Below.refl _ _).alloc (Nat.le_refl _) _⟩
                    · have e3 : decide (kd < 8) = false := decide_eq_false g3
                      go_enter Try.func12, Try.ntmps12
                      go_wp2
                      go_ret
                      exact ⟨ret_b (by rw [HT.out]; exact (decide_eq_false (p := 0 ≤ t ∧ t ≤ 1099511627776 ∧ 0 ≤ o ∧ o ≤ 17 ∧ 0 ≤ s ∧ s ≤ 4611686018427387904 ∧ 1 ≤ ds ∧ ds ≤ procs ∧ 0 ≤ kd ∧ kd ≤ 7) (by omega)).symm), (Below.refl _ _).alloc (Nat.le_refl _) _⟩
                  · have e2 : decide (0 ≤ kd) = false := decide_eq_false g2
                    go_enter Try.func12, Try.ntmps12
                    go_wp2
                    go_ret
                    exact ⟨ret_b (by rw [HT.out]; exact (decide_eq_false (p := 0 ≤ t ∧ t ≤ 1099511627776 ∧ 0 ≤ o ∧ o ≤ 17 ∧ 0 ≤ s ∧ s ≤ 4611686018427387904 ∧ 1 ≤ ds ∧ ds ≤ procs ∧ 0 ≤ kd ∧ kd ≤ 7) (by omega)).symm), (Below.refl _ _).alloc (Nat.le_refl _) _⟩
                · have e1 : decide (ds ≤ procs) = false := decide_eq_false g1
                  go_enter Try.func12, Try.ntmps12
                  go_wp2
                  go_ret
                  exact ⟨ret_b (by rw [HT.out]; exact (decide_eq_false (p := 0 ≤ t ∧ t ≤ 1099511627776 ∧ 0 ≤ o ∧ o ≤ 17 ∧ 0 ≤ s ∧ s ≤ 4611686018427387904 ∧ 1 ≤ ds ∧ ds ≤ procs ∧ 0 ≤ kd ∧ kd ≤ 7) (by omega)).symm), (Below.refl _ _).alloc (Nat.le_refl _) _⟩
              · have e0 : decide (1 ≤ ds) = false := decide_eq_false g0
                go_enter Try.func12, Try.ntmps12
                go_wp2
                go_ret
                exact ⟨ret_b (by rw [HT.out]; exact (decide_eq_false (p := 0 ≤ t ∧ t ≤ 1099511627776 ∧ 0 ≤ o ∧ o ≤ 17 ∧ 0 ≤ s ∧ s ≤ 4611686018427387904 ∧ 1 ≤ ds ∧ ds ≤ procs ∧ 0 ≤ kd ∧ kd ≤ 7) (by omega)).symm), (Below.refl _ _).alloc (Nat.le_refl _) _⟩

theorem mayE_parts (t o s ds kd procs : Int) : mayE t o s ds kd procs = (inB t 0 1099511627776 && inB o 0 17 && inB s 0 4611686018427387904 && inB ds 1 procs && inB kd 0 7) := by
  unfold mayE inB
  rw [Bool.eq_iff_iff]
  simp only [Bool.and_eq_true, decide_eq_true_eq]
  omega
set_option maxHeartbeats 2000000 in
theorem omay_any (t o s ds kd dt procs : Int) (w : World) : Calls Try.prog 13 #[.agg #[.int .i64 t, .int .i64 o, .int .i64 s, .int .i64 ds, .int .i64 kd, .int .i64 dt], .int .i64 procs] w (TellsBB (mayE t o s ds kd procs) w) := by
  obtain ⟨u, hu⟩ : ∃ u, u = mayE t o s ds kd procs := ⟨_, rfl⟩
  rw [← hu]
  have HT := Lib.hid hu
  clear hu
  rcases b0 : inB t 0 1099511627776 with _ | _
  · have V0 := Lib.hid b0
    clear b0
    go_enter Try.func13, Try.ntmps13
    go_wp2_with (first
      | (go_at_call 19; refine (within64_any _ _ _ _).mono ?_; rintro e w1 ⟨rfl, rfl⟩; first | rw [V0.out])
      | (go_at_call 20; refine (withinInt_any _ _ _ _).mono ?_; rintro e w1 ⟨rfl, rfl⟩; first | rw [V0.out]))
    go_ret
    exact ⟨ret_b (by rw [HT.out, mayE_parts, V0.out]; simp), (Below.refl _ _).alloc (Nat.le_refl _) _⟩
  · have V0 := Lib.hid b0
    clear b0
    rcases b1 : inB o 0 17 with _ | _
    · have V1 := Lib.hid b1
      clear b1
      go_enter Try.func13, Try.ntmps13
      go_wp2_with (first
        | (go_at_call 19; refine (within64_any _ _ _ _).mono ?_; rintro e w1 ⟨rfl, rfl⟩; first | rw [V0.out] | rw [V1.out])
        | (go_at_call 20; refine (withinInt_any _ _ _ _).mono ?_; rintro e w1 ⟨rfl, rfl⟩; first | rw [V0.out] | rw [V1.out]))
      go_ret
      exact ⟨ret_b (by rw [HT.out, mayE_parts, V0.out, V1.out]; simp), (Below.refl _ _).alloc (Nat.le_refl _) _⟩
    · have V1 := Lib.hid b1
      clear b1
      rcases b2 : inB s 0 4611686018427387904 with _ | _
      · have V2 := Lib.hid b2
        clear b2
        go_enter Try.func13, Try.ntmps13
        go_wp2_with (first
          | (go_at_call 19; refine (within64_any _ _ _ _).mono ?_; rintro e w1 ⟨rfl, rfl⟩; first | rw [V0.out] | rw [V1.out] | rw [V2.out])
          | (go_at_call 20; refine (withinInt_any _ _ _ _).mono ?_; rintro e w1 ⟨rfl, rfl⟩; first | rw [V0.out] | rw [V1.out] | rw [V2.out]))
        go_ret
        exact ⟨ret_b (by rw [HT.out, mayE_parts, V0.out, V1.out, V2.out]; simp), (Below.refl _ _).alloc (Nat.le_refl _) _⟩
      · have V2 := Lib.hid b2
        clear b2
        rcases b3 : inB ds 1 procs with _ | _
        · have V3 := Lib.hid b3
          clear b3
          go_enter Try.func13, Try.ntmps13
          go_wp2_with (first
            | (go_at_call 19; refine (within64_any _ _ _ _).mono ?_; rintro e w1 ⟨rfl, rfl⟩; first | rw [V0.out] | rw [V1.out] | rw [V2.out] | rw [V3.out])
            | (go_at_call 20; refine (withinInt_any _ _ _ _).mono ?_; rintro e w1 ⟨rfl, rfl⟩; first | rw [V0.out] | rw [V1.out] | rw [V2.out] | rw [V3.out]))
          go_ret
          exact ⟨ret_b (by rw [HT.out, mayE_parts, V0.out, V1.out, V2.out, V3.out]; simp), (Below.refl _ _).alloc (Nat.le_refl _) _⟩
        · have V3 := Lib.hid b3
          clear b3
          rcases b4 : inB kd 0 7 with _ | _
          · have V4 := Lib.hid b4
            clear b4
            go_enter Try.func13, Try.ntmps13
            go_wp2_with (first
              | (go_at_call 19; refine (within64_any _ _ _ _).mono ?_; rintro e w1 ⟨rfl, rfl⟩; first | rw [V0.out] | rw [V1.out] | rw [V2.out] | rw [V3.out] | rw [V4.out])
              | (go_at_call 20; refine (withinInt_any _ _ _ _).mono ?_; rintro e w1 ⟨rfl, rfl⟩; first | rw [V0.out] | rw [V1.out] | rw [V2.out] | rw [V3.out] | rw [V4.out]))
            go_ret
            exact ⟨ret_b (by rw [HT.out, mayE_parts, V0.out, V1.out, V2.out, V3.out, V4.out]; simp), (Below.refl _ _).alloc (Nat.le_refl _) _⟩
          · have V4 := Lib.hid b4
            clear b4
            go_enter Try.func13, Try.ntmps13
            go_wp2_with (first
              | (go_at_call 19; refine (within64_any _ _ _ _).mono ?_; rintro e w1 ⟨rfl, rfl⟩; first | rw [V0.out] | rw [V1.out] | rw [V2.out] | rw [V3.out] | rw [V4.out])
              | (go_at_call 20; refine (withinInt_any _ _ _ _).mono ?_; rintro e w1 ⟨rfl, rfl⟩; first | rw [V0.out] | rw [V1.out] | rw [V2.out] | rw [V3.out] | rw [V4.out]))
            go_ret
            exact ⟨ret_b (by rw [HT.out, mayE_parts, V0.out, V1.out, V2.out, V3.out, V4.out]; simp), (Below.refl _ _).alloc (Nat.le_refl _) _⟩

def KeyB (a b c : Int) (w : World) (e : Ending) (w' : World) : Prop := e = .returned (.agg #[.int .i64 a, .int .i64 b, .int .i64 c]) ∧ Below w.heap.size w w'
set_option maxHeartbeats 1000000 in
theorem max_any (w : World) : Calls Try.prog 14 #[] w (KeyB 1099511627777 0 0 w) := by
  go_enter Try.func14, Try.ntmps14
  go_wp2
  exact bodyPost_ret (v := .agg #[.int .i64 1099511627777, .int .i64 0, .int .i64 0]) (by simp [results, Try.results14, go_sem]) rfl ⟨rfl, (Below.refl _ _).alloc (Nat.le_refl _) _⟩
end Go.Proofs.Ytehnoekbdmclmaa
