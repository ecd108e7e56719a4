/-
  The walk of the law PaceFar.
-/
import Derived.Test.YtpcnfefeeolbpaaPW7
namespace Go.Proofs.Ytpcnfefeeolbpaa
open Go Go.Shelf Go.RowKit Go.Lib Go.Proofs

/-- the document's pace in its box -/
structure Bx (w0 : World) (b : Nat) (p : Pc) (w : World) : Prop where
  row : w.heap[b]? = some (.cells (pcV p) 27 (0, 0))
  new : w0.heap.size ≤ b
theorem Bx.below {w0 w w' : World} {b : Nat} {p : Pc} (h : Bx w0 b p w) (hb : Below w.heap.size w w') : Bx w0 b p w' :=
  ⟨(hb.block _ (Array.getElem?_eq_some_iff.1 h.row).1).trans h.row, h.new⟩
theorem Bx.but {w0 w w' : World} {b M : Nat} {p : Pc} (h : Bx w0 b p w) (hne : b ≠ M) (hb : But (fun k => k = M) w w') : Bx w0 b p w' :=
  ⟨(hb.block _ (Array.getElem?_eq_some_iff.1 h.row).1 hne).trans h.row, h.new⟩
/-- what the walk knows of it -/
theorem Bx.cells {w0 w : World} {b : Nat} {p : Pc} (h : Bx w0 b p w) : w.cell? ⟨b, 0, none⟩ = some (.int .i64 p.st) ∧ w.cell? ⟨b, 1, none⟩ = some (.int .i64 p.ba) ∧ w.cell? ⟨b, 2, none⟩ = some (.int .i64 p.nu) ∧ w.cell? ⟨b, 3, none⟩ = some (.int .i64 p.de) ∧ w.cell? ⟨b, 4, none⟩ = some (.int .i64 p.cl) :=
  ⟨(cell_of_row _ _ _ _ _ _ h.row).trans rfl, (cell_of_row _ _ _ _ _ _ h.row).trans rfl, (cell_of_row _ _ _ _ _ _ h.row).trans rfl, (cell_of_row _ _ _ _ _ _ h.row).trans rfl, (cell_of_row _ _ _ _ _ _ h.row).trans rfl⟩
theorem Bx.froz {w0 w : World} {b : Nat} {p : Pc} (h : Bx w0 b p w) : w.frozen? ⟨b, 0, none⟩ = false ∧ w.frozen? ⟨b, 1, none⟩ = false ∧ w.frozen? ⟨b, 2, none⟩ = false ∧ w.frozen? ⟨b, 3, none⟩ = false ∧ w.frozen? ⟨b, 4, none⟩ = false :=
  ⟨frozen_of_row _ _ _ _ _ h.row, frozen_of_row _ _ _ _ _ h.row, frozen_of_row _ _ _ _ _ h.row, frozen_of_row _ _ _ _ _ h.row, frozen_of_row _ _ _ _ _ h.row⟩
theorem Bx.put {w0 w : World} {b : Nat} {p : Pc} (h : Bx w0 b p w) (q : Pc) : Bx w0 b q (((((w.setCell ⟨b, 0, none⟩ (.int .i64 q.st)).setCell ⟨b, 1, none⟩ (.int .i64 q.ba)).setCell ⟨b, 2, none⟩ (.int .i64 q.nu)).setCell ⟨b, 3, none⟩ (.int .i64 q.de)).setCell ⟨b, 4, none⟩ (.int .i64 q.cl)) :=
  ⟨put5 h.row _ _ _ _ _, h.new⟩

set_option maxHeartbeats 2000000 in
set_option maxRecDepth 100000 in
theorem far_any (w : World) (clock num den on time : Int) (h1 : clock ≤ 9223372036854775807) (h2 : on ≤ 9223372036854775807) :
    Calls Try.prog 4 #[.int .i64 clock, .int .i64 num, .int .i64 den, .int .i64 on, .int .i64 time] w (TellsBB true w) := by
  obtain ⟨q1, hq1⟩ : ∃ q, q = pc0.tick clock := ⟨_, rfl⟩
  obtain ⟨q2, hq2⟩ : ∃ q, q = q1.rated num den := ⟨_, rfl⟩
  obtain ⟨q3, hq3⟩ : ∃ q, q = q2.tick on := ⟨_, rfl⟩
  have ok1 : q1.Ok := by rw [hq1]; exact pc0_ok.tick _ h1
  have ok2 : q2.Ok := by rw [hq2]; exact ok1.rated _ _
  have ok3 : q3.Ok := by rw [hq3]; exact ok2.tick _ h2
  obtain ⟨er, her⟩ : ∃ x, x = rateE num den := ⟨_, rfl⟩
  have T1 : Hid (∀ W M, Mine w M pc0 W → Calls Try.prog 10 #[.pointer (some ⟨M, 0, none⟩), .int .i64 clock] W (fun e w' => e = .returned (.tuple #[]) ∧ Mine w M q1 w' ∧ But (fun k => k = M) W w')) := Lib.hid fun W M h => hq1 ▸ mTick h clock h1
  have R1 : Hid (∀ W M, Mine w M q1 W → Calls Try.prog 12 #[.pointer (some ⟨M, 0, none⟩), .int .i64 num, .int .i64 den] W (fun e w' => e = .returned (.int .i64 er) ∧ Mine w M q2 w' ∧ But (fun k => k = M) W w')) := Lib.hid fun W M h => by rw [hq2, her]; exact mRate h num den
  have T2 : Hid (∀ W M, Mine w M q2 W → Calls Try.prog 10 #[.pointer (some ⟨M, 0, none⟩), .int .i64 on] W (fun e w' => e = .returned (.tuple #[]) ∧ Mine w M q3 w' ∧ But (fun k => k = M) W w')) := Lib.hid fun W M h => hq3 ▸ mTick h on h2
  have D1 : Hid (∀ W, Calls Try.prog 11 #[.agg (pcV pc0), .int .i64 clock] W (fun e w' => e = .returned (.agg (pcV q1)) ∧ Below W.heap.size W w')) := Lib.hid fun W => hq1 ▸ rTick_any W pc0 clock
  have D2 : Hid (∀ W, Calls Try.prog 13 #[.agg (pcV q1), .int .i64 num, .int .i64 den] W (fun e w' => e = .returned (.tuple #[.agg (pcV q2), .int .i64 er]) ∧ Below W.heap.size W w')) := Lib.hid fun W => by rw [hq2, her]; exact rRate_any W q1 ok1 num den
  have D3 : Hid (∀ W, Calls Try.prog 11 #[.agg (pcV q2), .int .i64 on] W (fun e w' => e = .returned (.agg (pcV q3)) ∧ Below W.heap.size W w')) := Lib.hid fun W => hq3 ▸ rTick_any W q2 on
  obtain ⟨wt, hwt⟩ : ∃ x, x = (q3.wait time).1 := ⟨_, rfl⟩
  obtain ⟨wb, hwb⟩ : ∃ x, x = (q3.wait time).2 := ⟨_, rfl⟩
  obtain ⟨hz, hhz⟩ : ∃ x, x = q3.hz := ⟨_, rfl⟩
  have P4 : Hid (∀ W M, Mine w M q3 W → Calls Try.prog 14 #[.pointer (some ⟨M, 0, none⟩), .int .i64 time] W (fun e w' => e = .returned (.tuple #[.int .i64 wt, .bool wb]) ∧ Below W.heap.size W w')) := Lib.hid fun W M h => by rw [hwt, hwb]; obtain ⟨d, h⟩ := h.at_; exact Wait_any W M q3 d h time
  have D4 : Hid (∀ W, Calls Try.prog 15 #[.agg (pcV q3), .int .i64 time] W (fun e w' => e = .returned (.tuple #[.int .i64 wt, .bool wb]) ∧ Below W.heap.size W w')) := Lib.hid fun W => by rw [hwt, hwb]; exact rWait_any W q3 ok3 time
  have P5 : Hid (∀ W M, Mine w M q3 W → Calls Try.prog 9 #[.pointer (some ⟨M, 0, none⟩)] W (fun e w' => e = .returned (.int .i64 hz) ∧ Below W.heap.size W w')) := Lib.hid fun W M h => hhz ▸ mHz h
  have D5 : Hid (∀ W, Calls Try.prog 19 #[.agg (pcV q3)] W (fun e w' => e = .returned (.int .i64 hz) ∧ Below W.heap.size W w')) := Lib.hid fun W => hhz ▸ rHorizon_any W q3 ok3
  have hzb : hz ≤ 1099511627776 := by rw [hhz]; exact ok3.hz_bd.2.2
  clear hq1 hq2 hq3 ok1 ok2 ok3 her hwt hwb hhz h1 h2
  dsimp only [pcV] at D1 D2 D3 D4 D5
  have HK : Hid (∀ W, Calls Try.prog 6 #[] W (TellsBB true W)) := Lib.hid fun W => known_any W
  go_enter Try.func4, Try.ntmps4
  go_upto_region 2 with (first
    | (go_at_call 7; ((with_reducible refine (mNew w _ (Below.refl _ _)).mono ?_)); rintro e v0 ⟨M, rfl, hm, _, _⟩; have H0 := Lib.hid hm; clear hm)
    | (go_at_call 8; ((with_reducible refine (rNew_any _).mono ?_)); rintro e v1 ⟨rfl, hb⟩; have H1 := Lib.hid (H0.out.below hb); clear hb))
  obtain ⟨b, hb⟩ : ∃ b, b = v1.heap.size := ⟨_, rfl⟩
  obtain ⟨V0, hV0⟩ : ∃ V, V = v1.alloc (.cells #[.int .i64 pc0.st, .int .i64 pc0.ba, .int .i64 pc0.nu, .int .i64 pc0.de, .int .i64 pc0.cl] 27) := ⟨_, rfl⟩
  have HB0 : Hid (Bx w b pc0 V0) := Lib.hid ⟨by rw [hV0, hb]; exact heap_alloc_new _ _, by rw [hb]; exact H1.out.bel.size⟩
  have HM0 : Hid (Mine w M pc0 V0) := Lib.hid (by rw [hV0]; exact H1.out.below ((Below.refl _ _).alloc (Nat.le_refl _) _))
  have HNE : Hid (b ≠ M) := Lib.hid (by obtain ⟨d, h⟩ := H1.out.at_; have := h.lt; omega)
  rw [← hV0, ← hb]
  clear hV0 hb H0 H1
  go_upto_region 4 with (first
    | (go_at_call 10; ((with_reducible refine (T1.out _ _ HM0.out).mono ?_)); rintro e a0 ⟨rfl, hm, hbt⟩; have HA0 := Lib.hid (And.intro hm (HB0.out.but HNE.out hbt)); obtain ⟨c0, c1, c2, c3, c4⟩ := HA0.out.2.cells; clear hm hbt)
    | (go_at_call 11; ((with_reducible refine (D1.out _).mono ?_)); rintro e d0 ⟨rfl, hb⟩; have HD0 := Lib.hid (And.intro (HA0.out.1.below hb) (HA0.out.2.below hb)); clear hb c0 c1 c2 c3 c4; obtain ⟨c0, c1, c2, c3, c4⟩ := HD0.out.2.cells; obtain ⟨z0, z1, z2, z3, z4⟩ := HD0.out.2.froz))
  obtain ⟨V1, hV⟩ : ∃ V, V = (((((d0.setCell ⟨b, 0, none⟩ (.int .i64 q1.st)).setCell ⟨b, 1, none⟩ (.int .i64 q1.ba)).setCell ⟨b, 2, none⟩ (.int .i64 q1.nu)).setCell ⟨b, 3, none⟩ (.int .i64 q1.de)).setCell ⟨b, 4, none⟩ (.int .i64 q1.cl)) := ⟨_, rfl⟩
  have HB1 : Hid (Bx w b q1 V1) := Lib.hid (by rw [hV]; exact HD0.out.2.put q1)
  have HM1 : Hid (Mine w M q1 V1) := Lib.hid (by rw [hV]; exact HD0.out.1.but HB0.out.new (Ne.symm HNE.out) (but5 _ _ _ _ _ _ _))
  rw [← hV]
  clear hV c0 c1 c2 c3 c4 z0 z1 z2 z3 z4 HA0 HD0
  go_upto_region 6 with (first
    | (go_at_call 12; ((with_reducible refine (R1.out _ _ HM1.out).mono ?_)); rintro e a1 ⟨rfl, hm, hbt⟩; have HA1 := Lib.hid (And.intro hm (HB1.out.but HNE.out hbt)); obtain ⟨c0, c1, c2, c3, c4⟩ := HA1.out.2.cells; clear hm hbt)
    | (go_at_call 13; ((with_reducible refine (D2.out _).mono ?_)); rintro e d1 ⟨rfl, hb⟩; have HD1 := Lib.hid (And.intro (HA1.out.1.below hb) (HA1.out.2.below hb)); clear hb c0 c1 c2 c3 c4; obtain ⟨c0, c1, c2, c3, c4⟩ := HD1.out.2.cells; obtain ⟨z0, z1, z2, z3, z4⟩ := HD1.out.2.froz))
  obtain ⟨V2, hV⟩ : ∃ V, V = (((((d1.setCell ⟨b, 0, none⟩ (.int .i64 q2.st)).setCell ⟨b, 1, none⟩ (.int .i64 q2.ba)).setCell ⟨b, 2, none⟩ (.int .i64 q2.nu)).setCell ⟨b, 3, none⟩ (.int .i64 q2.de)).setCell ⟨b, 4, none⟩ (.int .i64 q2.cl)) := ⟨_, rfl⟩
  have HB2 : Hid (Bx w b q2 V2) := Lib.hid (by rw [hV]; exact HD1.out.2.put q2)
  have HM2 : Hid (Mine w M q2 V2) := Lib.hid (by rw [hV]; exact HD1.out.1.but HB0.out.new (Ne.symm HNE.out) (but5 _ _ _ _ _ _ _))
  rw [← hV]
  clear hV c0 c1 c2 c3 c4 z0 z1 z2 z3 z4 HA1 HD1
  go_upto_region 8 with (first
    | (go_at_call 10; ((with_reducible refine (T2.out _ _ HM2.out).mono ?_)); rintro e a2 ⟨rfl, hm, hbt⟩; have HA2 := Lib.hid (And.intro hm (HB2.out.but HNE.out hbt)); obtain ⟨c0, c1, c2, c3, c4⟩ := HA2.out.2.cells; clear hm hbt)
    | (go_at_call 11; ((with_reducible refine (D3.out _).mono ?_)); rintro e d2 ⟨rfl, hb⟩; have HD2 := Lib.hid (And.intro (HA2.out.1.below hb) (HA2.out.2.below hb)); clear hb c0 c1 c2 c3 c4; obtain ⟨c0, c1, c2, c3, c4⟩ := HD2.out.2.cells; obtain ⟨z0, z1, z2, z3, z4⟩ := HD2.out.2.froz))
  obtain ⟨V3, hV⟩ : ∃ V, V = (((((d2.setCell ⟨b, 0, none⟩ (.int .i64 q3.st)).setCell ⟨b, 1, none⟩ (.int .i64 q3.ba)).setCell ⟨b, 2, none⟩ (.int .i64 q3.nu)).setCell ⟨b, 3, none⟩ (.int .i64 q3.de)).setCell ⟨b, 4, none⟩ (.int .i64 q3.cl)) := ⟨_, rfl⟩
  have HB3 : Hid (Bx w b q3 V3) := Lib.hid (by rw [hV]; exact HD2.out.2.put q3)
  have HM3 : Hid (Mine w M q3 V3) := Lib.hid (by rw [hV]; exact HD2.out.1.but HB0.out.new (Ne.symm HNE.out) (but5 _ _ _ _ _ _ _))
  rw [← hV]
  clear hV c0 c1 c2 c3 c4 z0 z1 z2 z3 z4 HA2 HD2
  go_upto_region 10 with (first
    | (go_at_call 14; ((with_reducible refine (P4.out _ _ HM3.out).mono ?_)); rintro e a3 ⟨rfl, hb⟩; have HA3 := Lib.hid (And.intro (HM3.out.below hb) (HB3.out.below hb)); obtain ⟨c0, c1, c2, c3, c4⟩ := HA3.out.2.cells; clear hb)
    | (go_at_call 15; ((with_reducible refine (D4.out _).mono ?_)); rintro e d3 ⟨rfl, hb⟩; have HD3 := Lib.hid (And.intro (HA3.out.1.below hb) (HA3.out.2.below hb)); clear hb c0 c1 c2 c3 c4))
  obtain ⟨c0, c1, c2, c3, c4⟩ := HD3.out.2.cells
  have k0 : ∀ q : InB d3, q.w.cell? ⟨b, 0, none⟩ = some (.int .i64 q3.st) := fun q => cell_keep q c0
  have k1 : ∀ q : InB d3, q.w.cell? ⟨b, 1, none⟩ = some (.int .i64 q3.ba) := fun q => cell_keep q c1
  have k2 : ∀ q : InB d3, q.w.cell? ⟨b, 2, none⟩ = some (.int .i64 q3.nu) := fun q => cell_keep q c2
  have k3 : ∀ q : InB d3, q.w.cell? ⟨b, 3, none⟩ = some (.int .i64 q3.de) := fun q => cell_keep q c3
  have k4 : ∀ q : InB d3, q.w.cell? ⟨b, 4, none⟩ = some (.int .i64 q3.cl) := fun q => cell_keep q c4
  have P6 : Hid (∀ q : InB d3, Calls Try.prog 9 #[.pointer (some ⟨M, 0, none⟩)] q.w (fun e w' => e = .returned (.int .i64 hz) ∧ Below q.w.heap.size q.w w')) := Lib.hid fun q => P5.out _ _ (HD3.out.1.below q.h)
  have D6 : Hid (∀ q : InB d3, Calls Try.prog 19 #[.agg #[.int .i64 q3.st, .int .i64 q3.ba, .int .i64 q3.nu, .int .i64 q3.de, .int .i64 q3.cl]] q.w (fun e w' => e = .returned (.int .i64 hz) ∧ Below q.w.heap.size q.w w')) := Lib.hid fun q => D5.out _
  have K6 : Hid (∀ q : InB d3, Calls Try.prog 6 #[] q.w (fun e w' => e = .returned (.bool true) ∧ Below q.w.heap.size q.w w')) := Lib.hid fun q => HK.out _
  have dz : decide (hz ≤ 1099511627776) = true := decide_eq_true hzb
  have HE := Lib.hid HD3.out.1.bel
  clear c0 c1 c2 c3 c4 hzb
  refine wp_region_below (by kernel_rfl) (by kernel_rfl) ?_
  repeat (refine WQ.step (fun K hK => ?_); go_simp; first | (refine hK _ ?_; clear hK K) | (apply Exists.intro; refine ⟨fun _ => ?_, hK _ ?_⟩; (first | (go_at_call 9; exact Calls.inb (P6.out _)) | (go_at_call 19; exact Calls.inb (D6.out _)) | (go_at_call 6; exact Calls.inb (K6.out _))); clear hK K))
  refine WQ.nil ?_
  intro w8 hw'
  obtain ⟨pq, hpq⟩ := hw'
  have HP := Lib.hid (HE.out.trans (pq.h.mono HE.out.size))
  rw [← hpq] at HP
  clear hpq pq k0 k1 k2 k3 k4 P6 D6 K6
  go_wp2
  go_ret
  exact ⟨rfl, HP.out⟩
end Go.Proofs.Ytpcnfefeeolbpaa
