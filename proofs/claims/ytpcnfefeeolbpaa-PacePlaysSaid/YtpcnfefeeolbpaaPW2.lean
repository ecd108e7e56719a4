/-
  Paces in memory; the walks of State, gone, Horizon, Tick.
-/
import Derived.Test.YtpcnfefeeolbpaaPW1
import Derived.Test.YtpcnfefeeolbpaaPcMath
import Derived.Test.YtpcnfefeeolbpaaGQuiet
import Derived.Deep.WholeRow
import Derived.IntWalk
namespace Go.Proofs.Ytpcnfefeeolbpaa
open Go Go.Shelf Go.RowKit Go.Lib Go.Proofs

abbrev pcV (p : Pc) : Array Value := #[.int .i64 p.st, .int .i64 p.ba, .int .i64 p.nu, .int .i64 p.de, .int .i64 p.cl]
abbrev pcD (p : Pc) (d : Int) : Array Value := #[.int .i64 p.st, .int .i64 p.ba, .int .i64 p.nu, .int .i64 d, .int .i64 p.cl]
/-- a pace in its box: its den stays 0 till a rate is set -/
structure PAt (w : World) (M : Nat) (p : Pc) (d : Int) : Prop where
  box : w.heap[M]? = some (.cells (pcD p d) 48 (0, 0))
  den : d = p.de ∨ (d = 0 ∧ p.de = 1 ∧ p.nu = 0)
  ok : p.Ok
theorem PAt.lt {w : World} {M : Nat} {p : Pc} {d : Int} (h : PAt w M p d) : M < w.heap.size := (Array.getElem?_eq_some_iff.1 h.box).1
theorem PAt.below {w w' : World} {M : Nat} {p : Pc} {d : Int} (h : PAt w M p d) (hb : Below w.heap.size w w') : PAt w' M p d :=
  ⟨(hb.block _ h.lt).trans h.box, h.den, h.ok⟩
theorem PAt.cells {w : World} {M : Nat} {p : Pc} {d : Int} (h : PAt w M p d) : w.cell? ⟨M, 0, none⟩ = some (.int .i64 p.st) ∧ w.cell? ⟨M, 1, none⟩ = some (.int .i64 p.ba) ∧ w.cell? ⟨M, 2, none⟩ = some (.int .i64 p.nu) ∧ w.cell? ⟨M, 3, none⟩ = some (.int .i64 d) ∧ w.cell? ⟨M, 4, none⟩ = some (.int .i64 p.cl) := by
  refine ⟨?_, ?_, ?_, ?_, ?_⟩ <;> (rw [cell_of_row _ _ _ _ _ _ h.box]; rfl)
theorem keepc {W W' : World} {p : Addr} {v : Value} (hb : Below W.heap.size W W') (h : W.cell? p = some v) : W'.cell? p = some v := (hb.cell (World.block_lt_of_cell? W _ h)).trans h
theorem cell_keep {w0 : World} (p : InB w0) {a : Addr} {v : Value} (h : w0.cell? a = some v) : p.w.cell? a = some v := keepc p.h h

theorem PAt.max_ {w : World} {M : Nat} {p : Pc} {d : Int} (h : PAt w M p d) : max d 1 = p.de := by
  have := h.ok.de0
  rcases h.den with h1 | ⟨h1, h2, _⟩ <;> omega
set_option maxHeartbeats 1000000 in
set_option maxRecDepth 100000 in
theorem State_any (w : World) (M : Nat) (p : Pc) (d : Int) (h : PAt w M p d) : Calls Try.prog 18 #[.pointer (some ⟨M, 0, none⟩)] w (fun e w' => e = .returned (.agg (pcV p)) ∧ Below w.heap.size w w') := by
  obtain ⟨c0, c1, c2, c3, c4⟩ := h.cells
  have hM := h.lt
  have hmx := h.max_
  clear h
  obtain ⟨st, ba, nu, de, cl⟩ := p
  dsimp only at c0 c1 c2 c3 c4 hmx ⊢
  go_enter Try.func18, Try.ntmps18
  go_wp2
  exact bodyPost_ret (v := .agg #[.int .i64 st, .int .i64 ba, .int .i64 nu, .int .i64 de, .int .i64 cl]) (by simp [results, Try.results18, go_sem]) rfl ⟨rfl, ((Below.refl _ _).alloc (Nat.le_refl _) _).alloc (by simp) _⟩

theorem mul64_i (a b : Int) (w : World) (ha : 0 ≤ a) (ha2 : a ≤ 9223372036854775807) (hb : 0 ≤ b) (hb2 : b ≤ 1048576) :
    Calls Try.prog 22 #[.int .u64 a, .int .u64 b] w (fun e w' => e = .returned (.tuple #[.int .u64 (a * b / 18446744073709551616), .int .u64 (a * b % 18446744073709551616)]) ∧ w' = w) := by
  obtain ⟨A, rfl⟩ : ∃ A : Nat, a = A := ⟨a.toNat, by omega⟩
  obtain ⟨B, rfl⟩ : ∃ B : Nat, b = B := ⟨b.toNat, by omega⟩
  have h := Try.bits_Mul64 A B (by omega) (by omega) w
  rw [← Int.natCast_mul]
  exact h
theorem div64_i (hi lo y : Int) (w : World) (h0 : 0 ≤ hi) (h1 : hi < y) (h2 : y ≤ 1048576) (hl : 0 ≤ lo) (hl2 : lo < 18446744073709551616) :
    Calls Try.prog 23 #[.int .u64 hi, .int .u64 lo, .int .u64 y] w (fun e w' => (∃ r : Int, e = .returned (.tuple #[.int .u64 ((hi * 18446744073709551616 + lo) / y), .int .u64 r])) ∧ Below w.heap.size w w') := by
  obtain ⟨H, rfl⟩ : ∃ A : Nat, hi = A := ⟨hi.toNat, by omega⟩
  obtain ⟨L, rfl⟩ : ∃ A : Nat, lo = A := ⟨lo.toNat, by omega⟩
  obtain ⟨Y, rfl⟩ : ∃ A : Nat, y = A := ⟨y.toNat, by omega⟩
  exact div64_any H L Y (by omega) (by omega) (by omega) w
theorem prod_bd (a b : Int) (ha : 0 ≤ a) (ha2 : a ≤ 9223372036854775807) (hb : 0 ≤ b) (hb2 : b ≤ 1048576) : 0 ≤ a * b ∧ a * b ≤ 9223372036854775807 * 1048576 :=
  ⟨Int.mul_nonneg ha hb, Int.mul_le_mul ha2 hb2 hb (by omega)⟩
theorem great_quot (N de most : Int) (hd : 1 ≤ de) (h : de ≤ N / 18446744073709551616) (hm : most ≤ 1099511627776) : min (N / de) most = most := by
  have h1 : de * 18446744073709551616 ≤ N := (Int.le_ediv_iff_mul_le (by omega)).1 h
  have h2 : 18446744073709551616 ≤ N / de := (Int.le_ediv_iff_mul_le (by omega)).2 (by rw [Int.mul_comm]; exact h1)
  omega

theorem below_drewN {B : Nat} {w w' : World} (h : Below B w w') (n : Nat) : Below B w (w'.drewN n) := ⟨h.os, h.tape, h.output, h.size, h.block⟩
theorem field_den (a b c d e : Int) (w : World) : (Instr.field 27 (.agg #[.int .i64 a, .int .i64 b, .int .i64 c, .int .i64 d, .int .i64 e]) 3).run Try.prog w = .ok (.int .i64 d) w := by
  unfold Instr.field
  rw [Sem.run_bind, run_underlying Try.underlying27 w]
  have u2 := Try.underlying2
  have a2 := Try.isAgg2
  have z2 := Try.sizeOf2
  simp only [Result.andThen_ok]
  go_simp
  rfl
set_option maxHeartbeats 1000000 in
set_option maxRecDepth 100000 in
theorem gone_any (w : World) (M : Nat) (p : Pc) (d : Int) (h : PAt w M p d) : Calls Try.prog 20 #[.pointer (some ⟨M, 0, none⟩)] w (fun e w' => e = .returned (.int .i64 p.gone) ∧ Below w.heap.size w w') := by
  obtain ⟨c0, c1, c2, c3, c4⟩ := h.cells
  have HS : Hid (∀ W, Below w.heap.size w W → Calls Try.prog 18 #[.pointer (some ⟨M, 0, none⟩)] W (fun e w' => e = .returned (.agg (pcV p)) ∧ Below W.heap.size W w')) := Lib.hid fun W hb => State_any W M p d (h.below hb)
  have ok := h.ok
  clear h
  obtain ⟨g, hg⟩ : ∃ g, g = p.gone := ⟨_, rfl⟩
  rw [← hg]
  obtain ⟨st, ba, nu, de, cl⟩ := p
  obtain ⟨k1, k2, k3, k4, k5, k6, k7, k8, k9⟩ := ok
  dsimp only [pcV] at c0 c1 c2 c3 c4 HS k1 k2 k3 k4 k5 k6 k7 k8 k9
  obtain ⟨pb1, pb2⟩ := prod_bd (cl - ba) nu (by omega) (by omega) k5 k6
  have HMu : Hid (∀ W, Calls Try.prog 22 #[.int .u64 (cl - ba), .int .u64 nu] W (fun e w' => e = .returned (.tuple #[.int .u64 ((cl - ba) * nu / 18446744073709551616), .int .u64 ((cl - ba) * nu % 18446744073709551616)]) ∧ w' = W)) := Lib.hid fun W => mul64_i (cl - ba) nu W (by omega) (by omega) k5 k6
  have hgo : g = min ((cl - ba) * nu / de) (1099511627776 - st) := hg
  clear hg
  generalize (cl - ba) * nu = N at *
  obtain ⟨hi, hhi⟩ : ∃ x, x = N / 18446744073709551616 := ⟨_, rfl⟩
  obtain ⟨lo, hlo⟩ : ∃ x, x = N % 18446744073709551616 := ⟨_, rfl⟩
  rw [← hhi, ← hlo] at HMu
  have hF := field_den st ba nu de cl
  have q1 : 0 ≤ hi := by omega
  have q2 : hi ≤ 9223372036854775807 := by omega
  have q3 : 0 ≤ lo := by omega
  have HL : Hid (lo < 18446744073709551616) := Lib.hid (by omega)
  have hN : hi * 18446744073709551616 + lo = N := by omega
  obtain ⟨q, hq⟩ : ∃ q, q = N / de := ⟨_, rfl⟩
  have HDv : Hid (hi < de → ∀ W, Calls Try.prog 23 #[.int .u64 hi, .int .u64 lo, .int .u64 de] W (fun e w' => (∃ r : Int, e = .returned (.tuple #[.int .u64 q, .int .u64 r])) ∧ Below W.heap.size W w')) := Lib.hid fun h1 W => by
    have := div64_i hi lo de W q1 h1 k8 q3 HL.out
    rw [hN, ← hq] at this
    exact this
  have HG : Hid (de ≤ hi → g = 1099511627776 - st) := Lib.hid fun h => by rw [hgo]; exact great_quot N de _ k7 (by rw [← hhi]; exact h) (by omega)
  have HG2 : Hid (g = min q (1099511627776 - st)) := Lib.hid (by rw [hgo, hq])
  have hq0 : 0 ≤ q := by rw [hq]; exact Int.ediv_nonneg pb1 (by omega)
  clear hgo hhi hlo hN hq pb1 pb2
  by_cases hc : de ≤ hi
  · go_enter Try.func20, Try.ntmps20
    go_upto_region 3 with (go_at_call 18; refine (HS.out _ (Below.refl _ _)).mono ?_; rintro e w1 ⟨rfl, hb1⟩; have c0 := keepc hb1 c0; have c1 := keepc hb1 c1; have c2 := keepc hb1 c2; have c4 := keepc hb1 c4; have HB1 := Lib.hid hb1; clear hb1)
    go_quiet ((go_at_call 22; exact Calls.quiet_of_same (HMu.out _)))
    go_wp2
    go_ret
    exact ⟨by rw [HG.out hc]; rfl, below_drewN HB1.out _⟩
  · have hc' : hi < de := by omega
    go_enter Try.func20, Try.ntmps20
    go_upto_region 3 with (go_at_call 18; refine (HS.out _ (Below.refl _ _)).mono ?_; rintro e w1 ⟨rfl, hb1⟩; have c0 := keepc hb1 c0; have c1 := keepc hb1 c1; have c2 := keepc hb1 c2; have c4 := keepc hb1 c4; have HB1 := Lib.hid hb1; clear hb1)
    go_quiet ((go_at_call 22; exact Calls.quiet_of_same (HMu.out _)))
    go_wp2_with (go_at_call 23; refine (HDv.out hc' _).mono ?_; rintro e w2 ⟨⟨r, rfl⟩, hb2⟩; have HB2 := Lib.hid hb2; clear hb2)
    go_ret
    exact ⟨by rw [HG2.out]; rfl, (below_drewN HB1.out _).trans (HB2.out.mono (below_drewN HB1.out _).size)⟩

set_option maxHeartbeats 1000000 in
set_option maxRecDepth 100000 in
theorem Horizon_any (w : World) (M : Nat) (p : Pc) (d : Int) (h : PAt w M p d) : Calls Try.prog 9 #[.pointer (some ⟨M, 0, none⟩)] w (fun e w' => e = .returned (.int .i64 p.hz) ∧ Below w.heap.size w w') := by
  obtain ⟨c0, -, -, -, -⟩ := h.cells
  have HG : Hid (∀ q : InB w, Calls Try.prog 20 #[.pointer (some ⟨M, 0, none⟩)] q.w (fun e w' => e = .returned (.int .i64 p.gone) ∧ Below q.w.heap.size q.w w')) := Lib.hid fun q => gone_any q.w M p d (h.below q.h)
  obtain ⟨b1, b2⟩ := h.ok.gone_bd
  have b3 := h.ok.st0
  obtain ⟨g, hg⟩ : ∃ g, g = p.gone := ⟨_, rfl⟩
  obtain ⟨st, hst⟩ : ∃ g, g = p.st := ⟨_, rfl⟩
  have HZ : Hid (p.hz = st + g) := Lib.hid (by rw [hg, hst]; rfl)
  rw [← hg] at HG b1 b2
  rw [← hst] at c0 b2 b3
  have q0 : ∀ q : InB w, q.w.cell? ⟨M, 0, none⟩ = some (.int .i64 st) := fun q => cell_keep q c0
  have hsum : IntKind.i64.wrap (st + g) = st + g := IntWalk.i64_in _ (by omega)
  clear h hg hst
  go_enter Try.func9, Try.ntmps9
  go_wp2
  refine wp_region_below (by kernel_rfl) (by kernel_rfl) ?_
  repeat (refine WQ.step (fun K hK => ?_); go_simp; first | (refine hK _ ?_; clear hK K) | (apply Exists.intro; refine ⟨fun _ => ?_, hK _ ?_⟩; (go_at_call 20; exact Calls.inb (HG.out _)); clear hK K))
  refine WQ.nil ?_
  intro w8 hw'
  obtain ⟨pq, hpq⟩ := hw'
  have HP := Lib.hid pq.h
  rw [← hpq] at HP
  clear hpq pq q0 HG
  go_wp2
  go_ret
  exact ⟨by rw [HZ.out]; rfl, HP.out⟩
set_option maxHeartbeats 1000000 in
set_option maxRecDepth 100000 in
theorem Tick_any (w : World) (M : Nat) (p : Pc) (d : Int) (h : PAt w M p d) (c : Int) (hc : c ≤ 9223372036854775807) : Calls Try.prog 10 #[.pointer (some ⟨M, 0, none⟩), .int .i64 c] w (fun e w' => e = .returned (.tuple #[]) ∧ PAt w' M (p.tick c) d ∧ But (fun k => k = M) w w') := by
  obtain ⟨c0, c1, c2, c3, c4⟩ := h.cells
  have H := Lib.hid h
  have hfz : w.frozen? ⟨M, 4, none⟩ = false := frozen_of_row _ _ _ _ _ h.box
  clear h
  go_enter Try.func10, Try.ntmps10
  go_wp2
  go_end0
  have h := H.out
  exact ⟨rfl, ⟨heap_setCell_same w M 4 _ _ _ h.box, h.den, h.ok.tick c hc⟩, (But.refl (fun k => k = M) w).setCell (p := ⟨M, 4, none⟩) rfl _⟩
theorem tick_nop (p : Pc) (c : Int) (h : c ≤ p.cl) : p.tick c = p := by
  cases p
  simp only [Pc.tick] at *
  congr 1
  omega

theorem put5 {w : World} {M : Nat} {T : TypeId} {x0 x1 x2 x3 x4 : Value} (h : w.heap[M]? = some (.cells #[x0, x1, x2, x3, x4] T (0, 0))) (v0 v1 v2 v3 v4 : Value) :
    (((((w.setCell ⟨M, 0, none⟩ v0).setCell ⟨M, 1, none⟩ v1).setCell ⟨M, 2, none⟩ v2).setCell ⟨M, 3, none⟩ v3).setCell ⟨M, 4, none⟩ v4).heap[M]? = some (.cells #[v0, v1, v2, v3, v4] T (0, 0)) := by
  have h1 := heap_setCell_same w M 0 _ T v0 h
  have h2 := heap_setCell_same _ M 1 _ T v1 h1
  have h3 := heap_setCell_same _ M 2 _ T v2 h2
  have h4 := heap_setCell_same _ M 3 _ T v3 h3
  have h5 := heap_setCell_same _ M 4 _ T v4 h4
  exact h5
theorem but5 (w : World) (M : Nat) (v0 v1 v2 v3 v4 : Value) : But (fun k => k = M) w (((((w.setCell ⟨M, 0, none⟩ v0).setCell ⟨M, 1, none⟩ v1).setCell ⟨M, 2, none⟩ v2).setCell ⟨M, 3, none⟩ v3).setCell ⟨M, 4, none⟩ v4) :=
  (((((But.refl (fun k => k = M) w).setCell (p := ⟨M, 0, none⟩) rfl v0).setCell (p := ⟨M, 1, none⟩) rfl v1).setCell (p := ⟨M, 2, none⟩) rfl v2).setCell (p := ⟨M, 3, none⟩) rfl v3).setCell (p := ⟨M, 4, none⟩) rfl v4
/-- a rate that may not be changes nothing -/
def rateE (nu de : Int) : Int := if rateBad nu de = true then 2 else 0
def Pc.rated (p : Pc) (nu de : Int) : Pc := if rateBad nu de = true then p else p.rate nu de
theorem Pc.Ok.rated {p : Pc} (h : p.Ok) (nu de : Int) : (p.rated nu de).Ok := by
  unfold Pc.rated
  split
  · exact h
  · rename_i hb
    exact h.rate nu de (by simpa using hb)
theorem Pc.Ok.hz_rated {p : Pc} (h : p.Ok) (nu de : Int) : (p.rated nu de).hz = p.hz := by
  unfold Pc.rated
  split
  · rfl
  · exact h.hz_rate nu de

set_option maxHeartbeats 1000000 in
set_option maxRecDepth 100000 in
theorem Rate_good (w : World) (M : Nat) (p : Pc) (d : Int) (h : PAt w M p d) (nu de : Int) (hb : rateBad nu de = false) : Calls Try.prog 12 #[.pointer (some ⟨M, 0, none⟩), .int .i64 nu, .int .i64 de] w (fun e w' => e = .returned (.int .i64 0) ∧ PAt w' M (p.rate nu de) de ∧ But (fun k => k = M) w w') := by
  obtain ⟨c0, c1, c2, c3, c4⟩ := h.cells
  have HH : Hid (∀ W, Below w.heap.size w W → Calls Try.prog 9 #[.pointer (some ⟨M, 0, none⟩)] W (fun e w' => e = .returned (.int .i64 p.hz) ∧ Below W.heap.size W w')) := Lib.hid fun W hb => Horizon_any W M p d (h.below hb)
  have H := Lib.hid h
  have HB := Lib.hid hb
  have hb' := hb
  simp only [rateBad, Bool.or_eq_false_iff] at hb'
  obtain ⟨⟨⟨b1, b2⟩, b3⟩, b4⟩ := hb'
  clear h hb
  obtain ⟨hz, hhz⟩ : ∃ x, x = p.hz := ⟨_, rfl⟩
  rw [← hhz] at HH
  have HE := Lib.hid hhz
  clear hhz
  go_enter Try.func12, Try.ntmps12
  go_upto_region 5 with fail
  go_region_with ((go_at_call 9; ((with_reducible refine (HH.out _ ?_).mono ?_)); exact (Below.refl _ _).drew; rintro e w1 ⟨rfl, hb0⟩; have hb1 : Below w.heap.size w w1 := ((Below.refl w.heap.size w).drew).trans (hb0.mono (Nat.le_refl _)); clear hb0; have p1 := H.out.below hb1; have HP1 := Lib.hid p1; obtain ⟨a0, a1, a2, a3, a4⟩ := p1.cells; have z0 : w1.frozen? ⟨M, 0, none⟩ = false := frozen_of_row _ _ _ _ _ p1.box; have z1 : w1.frozen? ⟨M, 1, none⟩ = false := frozen_of_row _ _ _ _ _ p1.box; have z2 : w1.frozen? ⟨M, 2, none⟩ = false := frozen_of_row _ _ _ _ _ p1.box; have z3 : w1.frozen? ⟨M, 3, none⟩ = false := frozen_of_row _ _ _ _ _ p1.box; have z4 : w1.frozen? ⟨M, 4, none⟩ = false := frozen_of_row _ _ _ _ _ p1.box; have HB1 := Lib.hid hb1; clear hb1 p1))
  all_goals
    go_wp2
    go_ret
    have hr := put5 HP1.out.box (.int .i64 hz) (.int .i64 p.cl) (.int .i64 nu) (.int .i64 de) (.int .i64 p.cl)
    refine ⟨rfl, ⟨?_, .inl rfl, H.out.ok.rate nu de HB.out⟩, (But.of HB1.out).trans (but5 w1 M _ _ _ _ _)⟩
    rw [hr]
    rw [HE.out]
    rfl
set_option maxHeartbeats 1000000 in
set_option maxRecDepth 100000 in
theorem Rate_bad (w : World) (M : Nat) (nu de : Int) (hb : rateBad nu de = true) : Calls Try.prog 12 #[.pointer (some ⟨M, 0, none⟩), .int .i64 nu, .int .i64 de] w (fun e w' => e = .returned (.int .i64 2) ∧ w = w') := by
  have HB := Lib.hid hb
  clear hb
  cases b1 : decide (de < 1) with
  | true =>
    clear HB
    go_enter Try.func12, Try.ntmps12
    go_wp2
    go_ret
    exact ⟨rfl, rfl⟩
  | false =>
  cases b2 : decide (1048576 < de) with
  | true =>
    clear HB
    go_enter Try.func12, Try.ntmps12
    go_wp2
    go_ret
    exact ⟨rfl, rfl⟩
  | false =>
  cases b3 : decide (nu < 0) with
  | true =>
    clear HB
    go_enter Try.func12, Try.ntmps12
    go_wp2
    go_ret
    exact ⟨rfl, rfl⟩
  | false =>
  cases b4 : decide (1048576 < nu) with
  | true =>
    clear HB
    go_enter Try.func12, Try.ntmps12
    go_wp2
    go_ret
    exact ⟨rfl, rfl⟩
  | false =>
  have := HB.out
  simp [rateBad, b1, b2, b3, b4] at this
/-- the rate is set, or an error told -/
theorem Rate_any (w : World) (M : Nat) (p : Pc) (d : Int) (h : PAt w M p d) (nu de : Int) : Calls Try.prog 12 #[.pointer (some ⟨M, 0, none⟩), .int .i64 nu, .int .i64 de] w (fun e w' => e = .returned (.int .i64 (rateE nu de)) ∧ (∃ d', PAt w' M (p.rated nu de) d') ∧ But (fun k => k = M) w w') := by
  unfold rateE Pc.rated
  cases hb : rateBad nu de with
  | true =>
    rw [if_pos rfl, if_pos rfl]
    refine (Rate_bad w M nu de hb).mono ?_
    rintro e w' ⟨rfl, rfl⟩
    exact ⟨rfl, ⟨d, h⟩, But.refl _ _⟩
  | false =>
    rw [if_neg (by simp), if_neg (by simp)]
    exact (Rate_good w M p d h nu de hb).mono fun e w' ⟨h1, h2, h3⟩ => ⟨h1, ⟨_, h2⟩, h3⟩
end Go.Proofs.Ytpcnfefeeolbpaa
