/-
  The walks of the document's Rate and Wait.
-/
import Derived.Test.YtpcnfefeeolbpaaPW4
namespace Go.Proofs.Ytpcnfefeeolbpaa
open Go Go.Shelf Go.RowKit Go.Lib Go.Proofs

set_option maxHeartbeats 1000000 in
set_option maxRecDepth 100000 in
theorem rRate_bad (w : World) (p : Pc) (nu de : Int) (hb : rateBad nu de = true) : Calls Try.prog 13 #[.agg (pcV p), .int .i64 nu, .int .i64 de] w (fun e w' => e = .returned (.tuple #[.agg (pcV p), .int .i64 2]) ∧ Below w.heap.size w w') := by
  have HB := Lib.hid hb
  clear hb
  obtain ⟨st, ba, n0, d0, cl⟩ := p
  dsimp only [pcV]
  cases b1 : decide (de < 1) with
  | true =>
    clear HB
    go_enter Try.func13, Try.ntmps13
    go_wp2
    exact bodyPost_ret (v := .tuple #[.agg #[.int .i64 st, .int .i64 ba, .int .i64 n0, .int .i64 d0, .int .i64 cl], .int .i64 2]) (by simp [results, Try.results13, go_sem]) rfl ⟨rfl, ((Below.refl _ _).alloc (Nat.le_refl _) _).alloc (by simp) _⟩
  | false =>
  cases b2 : decide (1048576 < de) with
  | true =>
    clear HB
    go_enter Try.func13, Try.ntmps13
    go_wp2
    exact bodyPost_ret (v := .tuple #[.agg #[.int .i64 st, .int .i64 ba, .int .i64 n0, .int .i64 d0, .int .i64 cl], .int .i64 2]) (by simp [results, Try.results13, go_sem]) rfl ⟨rfl, ((Below.refl _ _).alloc (Nat.le_refl _) _).alloc (by simp) _⟩
  | false =>
  cases b3 : decide (nu < 0) with
  | true =>
    clear HB
    go_enter Try.func13, Try.ntmps13
    go_wp2
    exact bodyPost_ret (v := .tuple #[.agg #[.int .i64 st, .int .i64 ba, .int .i64 n0, .int .i64 d0, .int .i64 cl], .int .i64 2]) (by simp [results, Try.results13, go_sem]) rfl ⟨rfl, ((Below.refl _ _).alloc (Nat.le_refl _) _).alloc (by simp) _⟩
  | false =>
  cases b4 : decide (1048576 < nu) with
  | true =>
    clear HB
    go_enter Try.func13, Try.ntmps13
    go_wp2
    exact bodyPost_ret (v := .tuple #[.agg #[.int .i64 st, .int .i64 ba, .int .i64 n0, .int .i64 d0, .int .i64 cl], .int .i64 2]) (by simp [results, Try.results13, go_sem]) rfl ⟨rfl, ((Below.refl _ _).alloc (Nat.le_refl _) _).alloc (by simp) _⟩
  | false =>
  have := HB.out
  simp [rateBad, b1, b2, b3, b4] at this

set_option maxHeartbeats 1000000 in
set_option maxRecDepth 100000 in
theorem rRate_good (w : World) (p : Pc) (ok : p.Ok) (nu de : Int) (hb : rateBad nu de = false) : Calls Try.prog 13 #[.agg (pcV p), .int .i64 nu, .int .i64 de] w (fun e w' => e = .returned (.tuple #[.agg (pcV (p.rate nu de)), .int .i64 0]) ∧ Below w.heap.size w w') := by
  have HH : Hid (∀ W, Calls Try.prog 19 #[.agg (pcV p)] W (fun e w' => e = .returned (.int .i64 p.hz) ∧ Below W.heap.size W w')) := Lib.hid fun W => rHorizon_any W p ok
  have hb' := hb
  simp only [rateBad, Bool.or_eq_false_iff] at hb'
  obtain ⟨⟨⟨b1, b2⟩, b3⟩, b4⟩ := hb'
  clear hb
  unfold Pc.rate
  obtain ⟨hz, hhz⟩ : ∃ x, x = p.hz := ⟨_, rfl⟩
  rw [← hhz] at HH ⊢
  clear hhz ok
  obtain ⟨st, ba, n0, d0, cl⟩ := p
  dsimp only [pcV] at HH ⊢
  obtain ⟨w1, hw1⟩ : ∃ w1, w1 = (w.alloc (.cells #[.int .i64 st, .int .i64 ba, .int .i64 n0, .int .i64 d0, .int .i64 cl] 27)).alloc (.cells #[.int .i64 0, .int .i64 0, .int .i64 0, .int .i64 0, .int .i64 0] 27) := ⟨_, rfl⟩
  have hb1 : Below w.heap.size w w1 := by rw [hw1]; exact ((Below.refl _ _).alloc (Nat.le_refl _) _).alloc (by simp) _
  have z : (w.alloc (.cells #[.int .i64 st, .int .i64 ba, .int .i64 n0, .int .i64 d0, .int .i64 cl] 27)).heap.size = w.heap.size + 1 := by simp
  have x0 : w1.heap[w.heap.size]? = some (.cells #[.int .i64 st, .int .i64 ba, .int .i64 n0, .int .i64 d0, .int .i64 cl] 27 (0, 0)) := by
    rw [hw1, heap_alloc_old _ _ (by rw [z]; omega), heap_alloc_new]
  have x1 : w1.heap[w.heap.size + 1]? = some (.cells #[.int .i64 0, .int .i64 0, .int .i64 0, .int .i64 0, .int .i64 0] 27 (0, 0)) := by
    rw [hw1, ← z, heap_alloc_new]
  obtain ⟨b, hbz⟩ : ∃ b, b = w.heap.size := ⟨_, rfl⟩
  have HW := Lib.hid hw1
  rw [← hbz] at x0 x1
  have c0 : w1.cell? ⟨b, 0, none⟩ = some (.int .i64 st) := by rw [cell_of_row _ _ _ _ _ _ x0]; rfl
  have c1 : w1.cell? ⟨b, 1, none⟩ = some (.int .i64 ba) := by rw [cell_of_row _ _ _ _ _ _ x0]; rfl
  have c2 : w1.cell? ⟨b, 2, none⟩ = some (.int .i64 n0) := by rw [cell_of_row _ _ _ _ _ _ x0]; rfl
  have c3 : w1.cell? ⟨b, 3, none⟩ = some (.int .i64 d0) := by rw [cell_of_row _ _ _ _ _ _ x0]; rfl
  have c4 : w1.cell? ⟨b, 4, none⟩ = some (.int .i64 cl) := by rw [cell_of_row _ _ _ _ _ _ x0]; rfl
  have HX := Lib.hid x1
  have HB := Lib.hid hb1
  have HBZ := Lib.hid hbz
  clear hw1 hb1 x0 x1 hbz z
  go_enter Try.func13, Try.ntmps13
  go_upto_region 3 with fail
  rw [← HW.out, ← HBZ.out]
  go_region_with ((go_at_call 19; ((with_reducible refine (HH.out _).mono ?_)); rintro e w2 ⟨rfl, hb0⟩; have hb2 : Below w1.heap.size w1 w2 := ((Below.refl w1.heap.size w1).drew).trans (hb0.mono (Nat.le_refl _)); clear hb0; have a4 := keepc hb2 c4; have r1 := (hb2.block _ (Array.getElem?_eq_some_iff.1 HX.out).1).trans HX.out; have z0 : w2.frozen? ⟨b + 1, 0, none⟩ = false := frozen_of_row _ _ _ _ _ r1; have z1 : w2.frozen? ⟨b + 1, 1, none⟩ = false := frozen_of_row _ _ _ _ _ r1; have z2 : w2.frozen? ⟨b + 1, 2, none⟩ = false := frozen_of_row _ _ _ _ _ r1; have z3 : w2.frozen? ⟨b + 1, 3, none⟩ = false := frozen_of_row _ _ _ _ _ r1; have z4 : w2.frozen? ⟨b + 1, 4, none⟩ = false := frozen_of_row _ _ _ _ _ r1; have k0 : w2.cell? ⟨b + 1, 0, none⟩ = some (.int .i64 0) := (cell_of_row _ _ _ _ _ _ r1).trans rfl; have k1 : w2.cell? ⟨b + 1, 1, none⟩ = some (.int .i64 0) := (cell_of_row _ _ _ _ _ _ r1).trans rfl; have k2 : w2.cell? ⟨b + 1, 2, none⟩ = some (.int .i64 0) := (cell_of_row _ _ _ _ _ _ r1).trans rfl; have k3 : w2.cell? ⟨b + 1, 3, none⟩ = some (.int .i64 0) := (cell_of_row _ _ _ _ _ _ r1).trans rfl; have k4 : w2.cell? ⟨b + 1, 4, none⟩ = some (.int .i64 0) := (cell_of_row _ _ _ _ _ _ r1).trans rfl; have HR := Lib.hid r1; have HB2 := Lib.hid hb2; clear hb2 r1))
  all_goals
    go_wp2
    have hr := put5 HR.out (.int .i64 hz) (.int .i64 cl) (.int .i64 nu) (.int .i64 de) (.int .i64 cl)
    have hbt := but5 w2 (b + 1) (.int .i64 hz) (.int .i64 cl) (.int .i64 nu) (.int .i64 de) (.int .i64 cl)
    obtain ⟨W3, hW3⟩ : ∃ W3, W3 = (((((w2.setCell ⟨b + 1, 0, none⟩ (.int .i64 hz)).setCell ⟨b + 1, 1, none⟩ (.int .i64 cl)).setCell ⟨b + 1, 2, none⟩ (.int .i64 nu)).setCell ⟨b + 1, 3, none⟩ (.int .i64 de)).setCell ⟨b + 1, 4, none⟩ (.int .i64 cl)) := ⟨_, rfl⟩
    rw [← hW3] at hr hbt ⊢
    have f0 : W3.cell? ⟨b + 1, 0, none⟩ = some (.int .i64 hz) := (cell_of_row _ _ _ _ _ _ hr).trans rfl
    have f1 : W3.cell? ⟨b + 1, 1, none⟩ = some (.int .i64 cl) := (cell_of_row _ _ _ _ _ _ hr).trans rfl
    have f2 : W3.cell? ⟨b + 1, 2, none⟩ = some (.int .i64 nu) := (cell_of_row _ _ _ _ _ _ hr).trans rfl
    have f3 : W3.cell? ⟨b + 1, 3, none⟩ = some (.int .i64 de) := (cell_of_row _ _ _ _ _ _ hr).trans rfl
    have f4 : W3.cell? ⟨b + 1, 4, none⟩ = some (.int .i64 cl) := (cell_of_row _ _ _ _ _ _ hr).trans rfl
    have hb3 : Below w.heap.size w W3 := (HB.out.trans (HB2.out.mono HB.out.size)).trans (hbt.below (HB.out.trans (HB2.out.mono HB.out.size)).size (fun k hk => by have := HBZ.out; omega))
    clear hW3 hr hbt
    exact bodyPost_ret (v := .tuple #[.agg #[.int .i64 hz, .int .i64 cl, .int .i64 nu, .int .i64 de, .int .i64 cl], .int .i64 0]) (by simp [results, Try.results13, go_sem, f0, f1, f2, f3, f4]) rfl ⟨rfl, hb3⟩

/-- the document's rate -/
theorem rRate_any (w : World) (p : Pc) (ok : p.Ok) (nu de : Int) : Calls Try.prog 13 #[.agg (pcV p), .int .i64 nu, .int .i64 de] w (fun e w' => e = .returned (.tuple #[.agg (pcV (p.rated nu de)), .int .i64 (rateE nu de)]) ∧ Below w.heap.size w w') := by
  unfold rateE Pc.rated
  cases hb : rateBad nu de with
  | true =>
    rw [if_pos rfl, if_pos rfl]
    exact rRate_bad w p nu de hb
  | false =>
    rw [if_neg (by simp), if_neg (by simp)]
    exact rRate_good w p ok nu de hb

end Go.Proofs.Ytpcnfefeeolbpaa
