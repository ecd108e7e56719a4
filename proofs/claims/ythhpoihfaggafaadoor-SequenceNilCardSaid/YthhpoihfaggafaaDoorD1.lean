/-
  The walks of slices.Equal and slices.EqualFunc at instructions, and of Same.
-/
import Derived.Test.YthhpoihfaggafaaDoorC3
import Derived.Laws.StructEq
import Derived.Lib.Slices
namespace Go.Proofs.YthhpoihfaggafaaDoor
open Go.RowKit CodM

theorem insNe (a b c d : Int) (w : World) : (binOp .neq 66 (.agg #[.int .i64 a, .int .i64 b]) (.agg #[.int .i64 c, .int .i64 d])).run Tryd.prog w = .ok (.bool (!(decide (a = c) && decide (b = d)))) w := by
  have u3 := Tryd.underlying64
  have u2 := Tryd.underlying2
  have a3 := Tryd.isAgg64
  have a2 := Tryd.isAgg2
  have z3 := Tryd.sizeOf64
  have z2 := Tryd.sizeOf2
  have hS : Tryd.prog.underlying 66 = some (.struct (Tryd.prog.fieldsOf 66)) := by kernel_rfl
  have hp : Tryd.prog.stoodInHeld 66 = false := by kernel_rfl
  rw [run_neq_struct, show (10000 : Nat) = 9999 + 1 from rfl, run_equalIn_agg w 9999 66 _ _ hS hp]
  simp only [Program.fieldsOf, Tryd.underlying66]
  go_simp
  by_cases h1 : a = c <;> by_cases h2 : b = d <;> simp [h1, h2]
theorem insEq (a b c d : Int) (w : World) : (binOp .eql 66 (.agg #[.int .i64 a, .int .i64 b]) (.agg #[.int .i64 c, .int .i64 d])).run Tryd.prog w = .ok (.bool (decide (a = c) && decide (b = d))) w := by
  have u3 := Tryd.underlying64
  have u2 := Tryd.underlying2
  have a3 := Tryd.isAgg64
  have a2 := Tryd.isAgg2
  have z3 := Tryd.sizeOf64
  have z2 := Tryd.sizeOf2
  have hS : Tryd.prog.underlying 66 = some (.struct (Tryd.prog.fieldsOf 66)) := by kernel_rfl
  have hp : Tryd.prog.stoodInHeld 66 = false := by kernel_rfl
  rw [run_eql_struct, show (10000 : Nat) = 9999 + 1 from rfl, run_equalIn_agg w 9999 66 _ _ hS hp]
  simp only [Program.fieldsOf, Tryd.underlying66]
  go_simp
  by_cases h1 : a = c <;> by_cases h2 : b = d <;> simp [h1, h2]
theorem insGuard : Tryd.prog.eqGuardType Tryd.prog.depth 66 = false := by kernel_rfl

theorem take_eq_step {α : Type} [DecidableEq α] (l r : List α) (k : Nat) (d : α) (hl : k < l.length) (hr : k < r.length) (h : l.take k = r.take k) (he : l.getD k d = r.getD k d) : l.take (k + 1) = r.take (k + 1) := by
  rw [List.take_succ_eq_append_getElem hl, List.take_succ_eq_append_getElem hr, h]
  simp [List.getD, hl, hr] at he
  rw [he]
theorem ne_at {α : Type} (l r : List α) (k : Nat) (d : α) (he : l.getD k d ≠ r.getD k d) : l ≠ r := fun h => he (by rw [h])

theorem below_drewN {B : Nat} {a w : World} (h : Below B a w) (q : Nat) : Below B a (w.drewN q) := ⟨h.os, h.tape, h.output, h.size, h.block⟩
def EqRel (w : World) (n : Nat) (l r : List Ins) (i : Value) (wr : World) : Prop := ∃ k : Nat, k ≤ n ∧ i = .int .i64 k ∧ l.take k = r.take k ∧ Below w.heap.size w wr

set_option maxHeartbeats 1000000 in
theorem equal_any (w : World) (a b : Option Addr) (n m c d : Nat) (l r : List Ins) (hl : InsAt w a n l) (hr : InsAt w b m r) :
    Calls Tryd.prog 130 #[.slice a n c, .slice b m d] w (TellsBB (decide (l = r)) w) := by
  have hnl := hl.1
  have hnr := hr.1
  have hmax := hl.2.2.1
  have hmax2 := hr.2.2.1
  by_cases hnm : n = m
  · subst hnm
    obtain ⟨t, ht⟩ : ∃ t, t = decide (l = r) := ⟨_, rfl⟩
    rw [← ht]
    have HT := Lib.hid ht
    have HL := Lib.hid hl
    have HR := Lib.hid hr
    have HNL := Lib.hid hnl
    have HNR := Lib.hid hnr
    clear ht hl hr hnl hnr hmax2
    go_enter Tryd.func130, Tryd.ntmps130
    go_wp2
    go_loopw [13] (fun i wr => EqRel w n l r i wr) (fun i _ => n - (intOf i).toNat)
    case atStart => exact ⟨0, Nat.zero_le _, rfl, rfl, Below.refl _ _⟩
    case round =>
      obtain ⟨k, hk, rfl, htk, hbel⟩ := hrel
      have HTK := Lib.hid htk
      have HBEL := Lib.hid hbel
      clear htk hbel
      by_cases hlt : k < n
      · obtain ⟨B1, off1, rfl, hB1, c1, c2⟩ := (HL.out.below HBEL.out (Nat.le_refl _)).cell k hlt
        obtain ⟨B2, off2, rfl, hB2, c3, c4⟩ := (HR.out.below HBEL.out (Nat.le_refl _)).cell k hlt
        obtain ⟨⟨o, x⟩, hx⟩ : ∃ x : Ins, x = l.getD k (0, 0) := ⟨_, rfl⟩
        obtain ⟨⟨p, y⟩, hy⟩ : ∃ x : Ins, x = r.getD k (0, 0) := ⟨_, rfl⟩
        rw [← hx] at c1 c2
        rw [← hy] at c3 c4
        have HX := Lib.hid hx
        have HY := Lib.hid hy
        clear hx hy
        simp only at c1 c2 c3 c4
        have hne := insNe o x p y
        have hgd := fun (op : BinOp) (x y : Operand) (xs ys : Array Value) (w : World) => run_eqGuard_agg (P := Tryd.prog) w op 66 x y xs ys insGuard
        by_cases he : o = p ∧ x = y
        · obtain ⟨rfl, rfl⟩ := he
          have hne' : ∀ w, (binOp .neq 66 (.agg #[.int .i64 o, .int .i64 x]) (.agg #[.int .i64 o, .int .i64 x])).run Tryd.prog w = .ok (.bool false) w := fun w => by rw [hne]; simp
          clear hne
          go_wp2
          go_quiet (fail)
          go_wp2
          go_roundw
          case rel =>
            exact ⟨k + 1, by omega, by go_num, take_eq_step l r k (0, 0) (by rw [HNL.out]; exact hlt) (by rw [HNR.out]; exact hlt) HTK.out (by rw [← HX.out, ← HY.out]), below_drewN HBEL.out _⟩
          case measure => simp [intOf]; omega
        · have hne' : ∀ w, (binOp .neq 66 (.agg #[.int .i64 o, .int .i64 x]) (.agg #[.int .i64 p, .int .i64 y])).run Tryd.prog w = .ok (.bool true) w := fun w => by
            rw [hne, show (decide (o = p) && decide (x = y)) = false from by simpa using he]; rfl
          have HE := Lib.hid he
          clear hne he
          go_wp2
          go_quiet (fail)
          go_wp2
          go_ret
          refine ⟨?_, below_drewN HBEL.out _⟩
          rw [HT.out, decide_eq_false (ne_at l r k (0, 0) (by rw [← HX.out, ← HY.out]; intro h; simp at h; exact HE.out h))]
          rfl
      · go_wp2
        go_ret
        refine ⟨?_, HBEL.out⟩
        have h := HTK.out
        rw [List.take_of_length_le (by rw [HNL.out]; omega), List.take_of_length_le (by rw [HNR.out]; omega)] at h
        rw [HT.out, decide_eq_true h]
        rfl
  · rw [decide_eq_false (fun h => hnm (by rw [← hnl, ← hnr, h]))]
    clear hl hr hnl hnr
    have hd : (n != m) = true := by simpa using hnm
    go_enter Tryd.func130, Tryd.ntmps130
    go_wp2
    go_ret
    exact ⟨rfl, Below.refl _ _⟩

def EqsRel (w : World) (n : Nat) (l r : List (List Ins)) (i : Value) (wr : World) : Prop := ∃ k : Nat, k ≤ n ∧ i = .int .i64 k ∧ l.take k = r.take k ∧ Below w.heap.size w wr
set_option maxHeartbeats 1000000 in
theorem equalFunc_any (w : World) (a b : Option Addr) (n m c d : Nat) (l r : List (List Ins)) (hl : KindsAt w a n l) (hr : KindsAt w b m r) :
    Calls Tryd.prog 129 #[.slice a n c, .slice b m d, .func (.func 130) #[] #[]] w (TellsBB (decide (l = r)) w) := by
  have hnl := hl.1
  have hnr := hr.1
  have hmax := hl.2.1
  have hmax2 := hr.2.1
  by_cases hnm : n = m
  · subst hnm
    obtain ⟨t, ht⟩ : ∃ t, t = decide (l = r) := ⟨_, rfl⟩
    rw [← ht]
    have HT := Lib.hid ht
    have HL := Lib.hid hl
    have HR := Lib.hid hr
    have HNL := Lib.hid hnl
    have HNR := Lib.hid hnr
    clear ht hl hr hnl hnr hmax2
    go_enter Tryd.func129, Tryd.ntmps129
    go_wp2
    go_loopw [17] (fun i wr => EqsRel w n l r i wr) (fun i _ => n - (intOf i).toNat)
    case atStart => exact ⟨0, Nat.zero_le _, rfl, rfl, Below.refl _ _⟩
    case round =>
      obtain ⟨k, hk, rfl, htk, hbel⟩ := hrel
      have HTK := Lib.hid htk
      have HBEL := Lib.hid hbel
      clear htk hbel
      by_cases hlt : k < n
      · obtain ⟨B1, off1, a1, n1, d1, rfl, hB1, c1, l1, i1⟩ := (HL.out.below HBEL.out (Nat.le_refl _)).cell k hlt
        obtain ⟨B2, off2, a2, n2, d2, rfl, hB2, c2, l2, i2⟩ := (HR.out.below HBEL.out (Nat.le_refl _)).cell k hlt
        have HI1 := Lib.hid i1
        have HI2 := Lib.hid i2
        clear i1 i2
        by_cases he : l.getD k [] = r.getD k []
        · have HE := Lib.hid he
          clear he
          go_wp2_with (first
            | (go_at_call 130; refine (equal_any _ _ _ _ _ _ _ _ _ HI1.out HI2.out).mono ?_; rintro e w1 ⟨rfl, hb⟩; rw [decide_eq_true HE.out]; have HB1 := Lib.hid hb; clear hb))
          go_roundw
          case rel =>
            exact ⟨k + 1, by omega, by go_num, take_eq_step l r k [] (by rw [HNL.out]; exact hlt) (by rw [HNR.out]; exact hlt) HTK.out HE.out, HBEL.out.trans (HB1.out.mono HBEL.out.size)⟩
          case measure => simp [intOf]; omega
        · have HE := Lib.hid he
          clear he
          go_wp2_with (first
            | (go_at_call 130; refine (equal_any _ _ _ _ _ _ _ _ _ HI1.out HI2.out).mono ?_; rintro e w1 ⟨rfl, hb⟩; rw [decide_eq_false HE.out]; have HB1 := Lib.hid hb; clear hb))
          go_ret
          refine ⟨?_, HBEL.out.trans (HB1.out.mono HBEL.out.size)⟩
          rw [HT.out, decide_eq_false (ne_at l r k [] HE.out)]
          rfl
      · go_wp2
        go_ret
        refine ⟨?_, HBEL.out⟩
        have h := HTK.out
        rw [List.take_of_length_le (by rw [HNL.out]; omega), List.take_of_length_le (by rw [HNR.out]; omega)] at h
        rw [HT.out, decide_eq_true h]
        rfl
  · rw [decide_eq_false (fun h => hnm (by rw [← hnl, ← hnr, h]))]
    clear hl hr hnl hnr
    have hd : (n != m) = true := by simpa using hnm
    go_enter Tryd.func129, Tryd.ntmps129
    go_wp2
    go_ret
    exact ⟨rfl, Below.refl _ _⟩

def sameP (p q : Prg) : Bool := decide (p.vars = q.vars) && decide (p.kinds = q.kinds)
set_option maxHeartbeats 1000000 in
theorem same_any (w : World) (a b : Option Addr) (n m c d : Nat) (p q : Prg) (hp : ProgAt w a n p) (hq : ProgAt w b m q) :
    Calls Tryd.prog 99 #[.agg #[.int .i64 p.vars, .slice a n c], .agg #[.int .i64 q.vars, .slice b m d]] w (TellsBB (sameP p q) w) := by
  obtain ⟨x, ks⟩ := p
  obtain ⟨y, ls⟩ := q
  simp only
  have HP := Lib.hid hp
  have HQ := Lib.hid hq
  clear hp hq
  by_cases he : x = y
  · subst he
    obtain ⟨t, ht⟩ : ∃ t, t = decide (ks = ls) := ⟨_, rfl⟩
    have hs : sameP ⟨x, ks⟩ ⟨x, ls⟩ = t := by unfold sameP; simp [ht]
    rw [hs]
    have HT := Lib.hid ht
    clear hs ht
    rcases hk : t with _ | _
    all_goals
      subst hk
      go_enter Tryd.func99, Tryd.ntmps99
      go_wp2_with (first
        | (go_at_call 129; refine (equalFunc_any _ _ _ _ _ _ _ ks ls (HP.out.2.below (((Below.refl _ _).alloc (Nat.le_refl _) _).alloc (by simp) _) (Nat.le_refl _)) (HQ.out.2.below (((Below.refl _ _).alloc (Nat.le_refl _) _).alloc (by simp) _) (Nat.le_refl _))).mono ?_; rintro e w1 ⟨rfl, hb⟩; rw [← HT.out]; have HB1 := Lib.hid hb; clear hb))
      go_ret
      exact ⟨rfl, (((Below.refl _ _).alloc (Nat.le_refl _) _).alloc (by simp) _).trans (HB1.out.mono (by simp; omega))⟩
  · have hs : sameP ⟨x, ks⟩ ⟨y, ls⟩ = false := by unfold sameP; simp [he]
    rw [hs]
    clear hs
    have hd : (x == y) = false := by simpa using he
    clear he
    go_enter Tryd.func99, Tryd.ntmps99
    go_wp2
    go_ret
    exact ⟨rfl, ((Below.refl _ _).alloc (Nat.le_refl _) _).alloc (by simp) _⟩
end Go.Proofs.YthhpoihfaggafaaDoor
