/-
  The walk of the chapter's rows.
-/
import Derived.Test.YtpcnfefeeolbpaaPW6
namespace Go.Proofs.Ytpcnfefeeolbpaa
open Go Go.Shelf Go.RowKit Go.Lib Go.Proofs

def TellsBB (t : Bool) (w : World) (e : Ending) (w' : World) : Prop := e = .returned (.bool t) ∧ Below w.heap.size w w'
/-- a pace of one's own, wherever the call began -/
structure Mine (w0 : World) (M : Nat) (p : Pc) (w : World) : Prop where
  at_ : ∃ d, PAt w M p d
  new : w0.heap.size ≤ M
  bel : Below w0.heap.size w0 w
theorem Mine.below {w0 w w' : World} {M : Nat} {p : Pc} (h : Mine w0 M p w) (hb : Below w.heap.size w w') : Mine w0 M p w' := by
  obtain ⟨⟨d, h1⟩, h2, h3⟩ := h
  exact ⟨⟨d, h1.below hb⟩, h2, h3.trans (hb.mono h3.size)⟩
theorem but_below {w0 w w' : World} {M : Nat} (h : Below w0.heap.size w0 w) (hM : w0.heap.size ≤ M) (hb : But (fun k => k = M) w w') : Below w0.heap.size w0 w' :=
  h.trans (hb.below h.size fun k hk => by omega)
/-- another pace, where one is written -/
theorem Mine.but {w0 w w' : World} {M N : Nat} {p : Pc} (h : Mine w0 N p w) (hM : w0.heap.size ≤ M) (hne : N ≠ M) (hb : But (fun k => k = M) w w') : Mine w0 N p w' := by
  obtain ⟨⟨d, h1⟩, h2, h3⟩ := h
  exact ⟨⟨d, (hb.block N h1.lt hne).trans h1.box, h1.den, h1.ok⟩, h2, but_below h3 hM hb⟩
theorem mNew (w0 w : World) (h : Below w0.heap.size w0 w) : Calls Try.prog 7 #[] w (fun e w' => ∃ M, e = .returned (.pointer (some ⟨M, 0, none⟩)) ∧ Mine w0 M pc0 w' ∧ w.heap.size ≤ M ∧ Below w.heap.size w w') :=
  (New_any w).mono fun _ _ ⟨M, h1, h2, h3, h4⟩ => ⟨M, h1, ⟨⟨0, h2⟩, Nat.le_trans h.size h3, h.trans (h4.mono h.size)⟩, h3, h4⟩
theorem mTick {w0 w : World} {M : Nat} {p : Pc} (h : Mine w0 M p w) (c : Int) (hc : c ≤ 9223372036854775807) : Calls Try.prog 10 #[.pointer (some ⟨M, 0, none⟩), .int .i64 c] w (fun e w' => e = .returned (.tuple #[]) ∧ Mine w0 M (p.tick c) w' ∧ But (fun k => k = M) w w') := by
  obtain ⟨⟨d, h1⟩, h2, h3⟩ := h
  exact (Tick_any w M p d h1 c hc).mono fun e w' ⟨k1, k2, k3⟩ => ⟨k1, ⟨⟨d, k2⟩, h2, but_below h3 h2 k3⟩, k3⟩
theorem mRate {w0 w : World} {M : Nat} {p : Pc} (h : Mine w0 M p w) (nu de : Int) : Calls Try.prog 12 #[.pointer (some ⟨M, 0, none⟩), .int .i64 nu, .int .i64 de] w (fun e w' => e = .returned (.int .i64 (rateE nu de)) ∧ Mine w0 M (p.rated nu de) w' ∧ But (fun k => k = M) w w') := by
  obtain ⟨⟨d, h1⟩, h2, h3⟩ := h
  exact (Rate_any w M p d h1 nu de).mono fun e w' ⟨k1, k2, k3⟩ => ⟨k1, ⟨k2, h2, but_below h3 h2 k3⟩, k3⟩
theorem mHz {w0 w : World} {M : Nat} {p : Pc} (h : Mine w0 M p w) : Calls Try.prog 9 #[.pointer (some ⟨M, 0, none⟩)] w (fun e w' => e = .returned (.int .i64 p.hz) ∧ Below w.heap.size w w') := by
  obtain ⟨⟨d, h1⟩, h2, h3⟩ := h
  exact Horizon_any w M p d h1

theorem st1 {w0 w : World} {M : Nat} (h : Mine w0 M pc0 w) : Calls Try.prog 12 #[.pointer (some ⟨M, 0, none⟩), .int .i64 3, .int .i64 2] w (fun e w' => e = .returned (.int .i64 0) ∧ Mine w0 M ⟨0, 0, 3, 2, 0⟩ w' ∧ But (fun k => k = M) w w') := mRate h 3 2
theorem st2 {w0 w : World} {M : Nat} (h : Mine w0 M ⟨0, 0, 3, 2, 0⟩ w) : Calls Try.prog 10 #[.pointer (some ⟨M, 0, none⟩), .int .i64 5] w (fun e w' => e = .returned (.tuple #[]) ∧ Mine w0 M ⟨0, 0, 3, 2, 5⟩ w' ∧ But (fun k => k = M) w w') := mTick h 5 (by omega)
theorem st3 {w0 w : World} {M : Nat} (h : Mine w0 M ⟨0, 0, 3, 2, 5⟩ w) : Calls Try.prog 9 #[.pointer (some ⟨M, 0, none⟩)] w (fun e w' => e = .returned (.int .i64 7) ∧ Below w.heap.size w w') := mHz h
theorem st4 {w0 w : World} {M : Nat} (h : Mine w0 M ⟨0, 0, 3, 2, 5⟩ w) : Calls Try.prog 12 #[.pointer (some ⟨M, 0, none⟩), .int .i64 0, .int .i64 1] w (fun e w' => e = .returned (.int .i64 0) ∧ Mine w0 M ⟨7, 5, 0, 1, 5⟩ w' ∧ But (fun k => k = M) w w') := mRate h 0 1
theorem st5 {w0 w : World} {M : Nat} (h : Mine w0 M ⟨7, 5, 0, 1, 5⟩ w) : Calls Try.prog 10 #[.pointer (some ⟨M, 0, none⟩), .int .i64 100] w (fun e w' => e = .returned (.tuple #[]) ∧ Mine w0 M ⟨7, 5, 0, 1, 100⟩ w' ∧ But (fun k => k = M) w w') := mTick h 100 (by omega)
theorem st6 {w0 w : World} {M : Nat} (h : Mine w0 M ⟨7, 5, 0, 1, 100⟩ w) : Calls Try.prog 9 #[.pointer (some ⟨M, 0, none⟩)] w (fun e w' => e = .returned (.int .i64 7) ∧ Below w.heap.size w w') := mHz h
theorem st7 {w0 w : World} {M : Nat} (h : Mine w0 M ⟨7, 5, 0, 1, 100⟩ w) : Calls Try.prog 10 #[.pointer (some ⟨M, 0, none⟩), .int .i64 50] w (fun e w' => e = .returned (.tuple #[]) ∧ Mine w0 M ⟨7, 5, 0, 1, 100⟩ w' ∧ But (fun k => k = M) w w') := mTick h 50 (by omega)
theorem st8 {w0 w : World} {M : Nat} (h : Mine w0 M ⟨7, 5, 0, 1, 100⟩ w) : Calls Try.prog 12 #[.pointer (some ⟨M, 0, none⟩), .int .i64 1, .int .i64 1] w (fun e w' => e = .returned (.int .i64 0) ∧ Mine w0 M ⟨7, 100, 1, 1, 100⟩ w' ∧ But (fun k => k = M) w w') := mRate h 1 1
theorem st9 {w0 w : World} {M : Nat} (h : Mine w0 M ⟨7, 100, 1, 1, 100⟩ w) : Calls Try.prog 10 #[.pointer (some ⟨M, 0, none⟩), .int .i64 110] w (fun e w' => e = .returned (.tuple #[]) ∧ Mine w0 M ⟨7, 100, 1, 1, 110⟩ w' ∧ But (fun k => k = M) w w') := mTick h 110 (by omega)
theorem st10 {w0 w : World} {M : Nat} (h : Mine w0 M ⟨7, 100, 1, 1, 110⟩ w) : Calls Try.prog 9 #[.pointer (some ⟨M, 0, none⟩)] w (fun e w' => e = .returned (.int .i64 17) ∧ Below w.heap.size w w') := mHz h

set_option maxHeartbeats 2000000 in
theorem known_any (w : World) : Calls Try.prog 6 #[] w (TellsBB true w) := by
  go_enter Try.func6, Try.ntmps6
  go_wp2_with (first
    | (go_at_call 9; ((with_reducible refine (st10 H9.out).mono ?_)); rintro e v10 ⟨rfl, hb⟩; have H10 := Lib.hid (H9.out.below hb); clear hb)
    | (go_at_call 10; ((with_reducible refine (st9 H8.out).mono ?_)); rintro e v9 ⟨rfl, hm, _⟩; have H9 := Lib.hid hm; clear hm)
    | (go_at_call 12; ((with_reducible refine (st8 H7.out).mono ?_)); rintro e v8 ⟨rfl, hm, _⟩; have H8 := Lib.hid hm; clear hm)
    | (go_at_call 10; ((with_reducible refine (st7 H6.out).mono ?_)); rintro e v7 ⟨rfl, hm, _⟩; have H7 := Lib.hid hm; clear hm)
    | (go_at_call 9; ((with_reducible refine (st6 H5.out).mono ?_)); rintro e v6 ⟨rfl, hb⟩; have H6 := Lib.hid (H5.out.below hb); clear hb)
    | (go_at_call 10; ((with_reducible refine (st5 H4.out).mono ?_)); rintro e v5 ⟨rfl, hm, _⟩; have H5 := Lib.hid hm; clear hm)
    | (go_at_call 12; ((with_reducible refine (st4 H3.out).mono ?_)); rintro e v4 ⟨rfl, hm, _⟩; have H4 := Lib.hid hm; clear hm)
    | (go_at_call 9; ((with_reducible refine (st3 H2.out).mono ?_)); rintro e v3 ⟨rfl, hb⟩; have H3 := Lib.hid (H2.out.below hb); clear hb)
    | (go_at_call 10; ((with_reducible refine (st2 H1.out).mono ?_)); rintro e v2 ⟨rfl, hm, _⟩; have H2 := Lib.hid hm; clear hm)
    | (go_at_call 12; ((with_reducible refine (st1 H0.out).mono ?_)); rintro e v1 ⟨rfl, hm, _⟩; have H1 := Lib.hid hm; clear hm)
    | (go_at_call 7; ((with_reducible refine (mNew w _ (Below.refl _ _)).mono ?_)); rintro e v0 ⟨M, rfl, hm, _, _⟩; have H0 := Lib.hid hm; clear hm))
  go_ret
  exact ⟨rfl, H10.out.bel⟩
end Go.Proofs.Ytpcnfefeeolbpaa
