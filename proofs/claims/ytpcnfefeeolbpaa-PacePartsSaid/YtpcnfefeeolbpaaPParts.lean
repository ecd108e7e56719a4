/-
  The walk of the law PaceParts.
-/
import Derived.Test.YtpcnfefeeolbpaaPOpen
import Derived.Deep.LoopGhost
namespace Go.Proofs.Ytpcnfefeeolbpaa
open Go Go.Shelf Go.RowKit Go.Lib Go.Proofs

theorem mSame {w0 w : World} {M N : Nat} {p q : Pc} (h : Mine w0 M p w) (h' : Mine w0 N q w) : Calls Try.prog 17 #[.pointer (some ⟨M, 0, none⟩), .pointer (some ⟨N, 0, none⟩)] w (fun e w' => e = .returned (.bool (decide (p = q))) ∧ Below w.heap.size w w') := by
  obtain ⟨⟨d, h1⟩, _, _⟩ := h
  obtain ⟨⟨d', h2⟩, _, _⟩ := h'
  exact Same_any w M N p q d d' h1 h2
theorem tick_zero {p : Pc} (ok : p.Ok) : p.tick 0 = p := tick_nop p 0 (by have := ok.ba0; have := ok.ba1; omega)
/-- round to round -/
structure PartAt (w0 : World) (M N : Nat) (q : Pc) (m : Int) (w : World) : Prop where
  m0 : 0 ≤ m
  m1 : m ≤ 9223372036854775807
  p : Mine w0 M (q.tick m) w
  o : Mine w0 N q w
def PartRel (w0 : World) (M N : Nat) (q : Pc) (L : Nat) (mv iv : Value) (w : World) : Prop := ∃ (k : Nat) (m : Int), k ≤ L ∧ iv = .int .i64 k ∧ mv = .int .i64 m ∧ PartAt w0 M N q m w

set_option maxHeartbeats 2000000 in
set_option maxRecDepth 100000 in
theorem parts_any (w : World) (a : Option Addr) (n c : Nat) (l : List N64) (hn : n ≤ maxLen) (hl : n ≤ 1000000 → CN.At w a n l) (num den : Int) :
    Calls Try.prog 5 #[.slice a n c, .int .i64 num, .int .i64 den] w (TellsBB true w) := by
  have HK : Hid (∀ W, Calls Try.prog 6 #[] W (TellsBB true W)) := Lib.hid fun W => known_any W
  unfold maxLen at hn
  by_cases hbig : 40 < n
  · have hd : decide (40 < n) = true := decide_eq_true hbig
    clear hl
    go_enter Try.func5, Try.ntmps5
    go_wp2_with (go_at_call 6; refine (HK.out _).mono ?_; rintro e v ⟨rfl, hb⟩; have HB := Lib.hid hb; clear hb)
    go_ret
    exact ⟨rfl, HB.out⟩
  have hd : decide (40 < n) = false := decide_eq_false hbig
  have HL : Hid (CN.At w a n l) := Lib.hid (hl (by omega))
  clear hl
  obtain ⟨q, hq⟩ : ∃ q, q = pc0.rated num den := ⟨_, rfl⟩
  obtain ⟨er, her⟩ : ∃ x, x = rateE num den := ⟨_, rfl⟩
  have HOK : Hid q.Ok := Lib.hid (hq ▸ pc0_ok.rated num den)
  have R1 : Hid (∀ W M, Mine w M pc0 W → Calls Try.prog 12 #[.pointer (some ⟨M, 0, none⟩), .int .i64 num, .int .i64 den] W (fun e w' => e = .returned (.int .i64 er) ∧ Mine w M q w' ∧ But (fun k => k = M) W w')) := Lib.hid fun W M h => by rw [hq, her]; exact mRate h num den
  clear hq her
  go_enter Try.func5, Try.ntmps5
  go_wp2_with (first
    | (go_at_call 12; ((with_reducible refine (R1.out _ _ H2.out.2.1).mono ?_)); rintro e v3 ⟨rfl, hm, hbt⟩; have H3 := Lib.hid (And.intro (H2.out.1.but H2.out.2.1.new H2.out.2.2 hbt) hm); clear hm hbt)
    | (go_at_call 12; ((with_reducible refine (R1.out _ _ H1.out.1).mono ?_)); rintro e v2 ⟨rfl, hm, hbt⟩; have H2 := Lib.hid (And.intro hm (And.intro (H1.out.2.1.but H1.out.1.new (Ne.symm H1.out.2.2) hbt) H1.out.2.2)); clear hm hbt)
    | (go_at_call 7; ((with_reducible refine (mNew w _ H0.out.bel).mono ?_)); rintro e v1 ⟨N, rfl, hm, hsz, hb⟩; have H1 := Lib.hid (And.intro (H0.out.below hb) (And.intro hm (show M ≠ N by obtain ⟨d, h⟩ := H0.out.at_; have := h.lt; omega))); clear hm hb hsz)
    | (go_at_call 7; ((with_reducible refine (mNew w _ (Below.refl _ _)).mono ?_)); rintro e v0 ⟨M, rfl, hm, _, _⟩; have H0 := Lib.hid hm; clear hm))
  have HNE : Hid (M ≠ N) := Lib.hid H2.out.2.2
  go_loopw [9, 10] (fun mv iv wr => PartRel w M N q n mv iv wr) (fun _ i _ => n - (intOf i).toNat)
  case atStart => exact ⟨0, 0, Nat.zero_le _, rfl, rfl, by omega, by omega, by rw [tick_zero HOK.out]; exact H3.out.1, H3.out.2⟩
  case round =>
    clear H0 H1 H2 H3
    rename_i wr
    obtain ⟨k, m, hk, rfl, rfl, hp⟩ := hrel
    have HP := Lib.hid hp
    have m0 := hp.m0
    have m1 := hp.m1
    clear hp
    by_cases hlt : k < n
    · obtain ⟨B, off, rfl, hB, x, hx, hc⟩ := (HL.out.below HP.out.p.bel).cell hlt
      have c0 : wr.cell? ⟨B, off + k, none⟩ = some (.int .i64 x.1) := by
        have := hc 0 (by decide)
        simpa [CN] using this
      have hx1 := x.2
      obtain ⟨y, hy⟩ : ∃ y, y = x.1 := ⟨_, rfl⟩
      rw [← hy] at c0 hx1
      have HX : Hid (y ≤ 9223372036854775807) := Lib.hid hx1
      have HT : Hid (∀ W p, Mine w M p W → Calls Try.prog 10 #[.pointer (some ⟨M, 0, none⟩), .int .i64 y] W (fun e w' => e = .returned (.tuple #[]) ∧ Mine w M (p.tick y) w' ∧ But (fun k => k = M) W w')) := Lib.hid fun W p h => mTick h y HX.out
      have HBW : Hid (B < w.heap.size) := Lib.hid (by
        obtain ⟨B', off', e, hB', _⟩ := HL.out.cell hlt
        cases e; exact hB')
      clear hB hx hc hy
      go_wp2_with (go_at_call 10; ((with_reducible refine (HT.out _ _ HP.out.p).mono ?_)); rintro e v1 ⟨rfl, hm, hbt⟩; have c0 : v1.cell? ⟨B, off + k, none⟩ = some (.int .i64 y) := (World.cell?_of_block (w := wr) (a := ⟨B, off + k, none⟩) (hbt.block B (World.block_lt_of_cell? wr _ c0) (by have := HP.out.p.new; have := HBW.out; omega))).trans c0; have HN := Lib.hid (And.intro hm (HP.out.o.but HP.out.p.new (Ne.symm HNE.out) hbt)); clear hm hbt)
      go_roundw
      case rel => exact ⟨k + 1, max m y, by omega, by go_num, rfl, by omega, by omega, by rw [← tick_tick]; exact HN.out.1, HN.out.2⟩
      case measure => simp [intOf]; omega
    · have HTo : Hid (∀ W p, Mine w N p W → Calls Try.prog 10 #[.pointer (some ⟨N, 0, none⟩), .int .i64 m] W (fun e w' => e = .returned (.tuple #[]) ∧ Mine w N (p.tick m) w' ∧ But (fun k => k = N) W w')) := Lib.hid fun W p h => mTick h m m1
      obtain ⟨qm, hqm⟩ : ∃ x, x = q.tick m := ⟨_, rfl⟩
      have HP1 : Hid (Mine w M qm wr) := Lib.hid (hqm ▸ HP.out.p)
      have HSa : Hid (∀ W M N, Mine w M qm W → Mine w N qm W → Calls Try.prog 17 #[.pointer (some ⟨M, 0, none⟩), .pointer (some ⟨N, 0, none⟩)] W (fun e w' => e = .returned (.bool true) ∧ Below W.heap.size W w')) := Lib.hid fun W M N h1 h2 => by have := mSame h1 h2; rwa [decide_eq_true (rfl : qm = qm)] at this
      obtain ⟨hz, hhz⟩ : ∃ x, x = qm.hz := ⟨_, rfl⟩
      have HHz : Hid (∀ W M, Mine w M qm W → Calls Try.prog 9 #[.pointer (some ⟨M, 0, none⟩)] W (fun e w' => e = .returned (.int .i64 hz) ∧ Below W.heap.size W w')) := Lib.hid fun W M h => hhz ▸ mHz h
      have HTo2 : Hid (∀ W, Mine w N q W → Calls Try.prog 10 #[.pointer (some ⟨N, 0, none⟩), .int .i64 m] W (fun e w' => e = .returned (.tuple #[]) ∧ Mine w N qm w' ∧ But (fun k => k = N) W w')) := Lib.hid fun W h => hqm ▸ HTo.out W q h
      clear hqm hhz HTo
      go_wp2_with (first
        | (go_at_call 6; refine (HK.out _).mono ?_; rintro e u6 ⟨rfl, hb⟩; have H6 := Lib.hid (H5.out.1.bel.trans (hb.mono H5.out.1.bel.size)); clear hb)
        | (go_at_call 9; ((with_reducible refine (HHz.out _ _ H4.out.2).mono ?_)); rintro e u5 ⟨rfl, hb⟩; have H5 := Lib.hid (And.intro (H4.out.1.below hb) (H4.out.2.below hb)); clear hb)
        | (go_at_call 9; ((with_reducible refine (HHz.out _ _ H3.out.1).mono ?_)); rintro e u4 ⟨rfl, hb⟩; have H4 := Lib.hid (And.intro (H3.out.1.below hb) (H3.out.2.below hb)); clear hb)
        | (go_at_call 17; ((with_reducible refine (HSa.out _ _ _ H2.out.2 H2.out.1).mono ?_)); rintro e u3 ⟨rfl, hb⟩; have H3 := Lib.hid (And.intro (H2.out.1.below hb) (H2.out.2.below hb)); clear hb)
        | (go_at_call 17; ((with_reducible refine (HSa.out _ _ _ H1.out.1 H1.out.2).mono ?_)); rintro e u2 ⟨rfl, hb⟩; have H2 := Lib.hid (And.intro (H1.out.1.below hb) (H1.out.2.below hb)); clear hb)
        | (go_at_call 10; ((with_reducible refine (HTo2.out _ HP.out.o).mono ?_)); rintro e u1 ⟨rfl, hm, hbt⟩; have H1 := Lib.hid (And.intro (HP1.out.but HP.out.o.new HNE.out hbt) hm); clear hm hbt))
      go_ret
      exact ⟨rfl, H6.out⟩
end Go.Proofs.Ytpcnfefeeolbpaa
