/-
  The walk of the document's Wait: by halves.
-/
import Derived.Test.YtpcnfefeeolbpaaPW5
namespace Go.Proofs.Ytpcnfefeeolbpaa
open Go Go.Shelf Go.RowKit Go.Lib Go.Proofs

/-- what holds between the halves -/
structure Half (hf : Int → Int) (t cl : Int) (w1 : World) (L H : Int) (wr : World) : Prop where
  lo : cl ≤ L
  le : L ≤ H
  hi : H ≤ 9223372036854775807
  at_ : t ≤ hf H
  no : ∀ x, cl ≤ x → x < L → hf x < t
  bel : Below w1.heap.size w1 wr
def HalfR (hf : Int → Int) (t cl : Int) (w1 : World) (lo hi : Value) (wr : World) : Prop := ∃ L H : Int, lo = .int .i64 L ∧ hi = .int .i64 H ∧ Half hf t cl w1 L H wr

set_option maxHeartbeats 2000000 in
set_option maxRecDepth 100000 in
theorem rWait_any (w : World) (p : Pc) (ok : p.Ok) (t : Int) : Calls Try.prog 15 #[.agg (pcV p), .int .i64 t] w (fun e w' => e = .returned (.tuple #[.int .i64 (p.wait t).1, .bool (p.wait t).2]) ∧ Below w.heap.size w w') := by
  obtain ⟨r, hr⟩ : ∃ r, r = p.wait t := ⟨_, rfl⟩
  rw [← hr]
  by_cases h1 : 1099511627776 < t
  · have HR := Lib.hid (show r = (0, false) by rw [hr]; exact ok.wait_none t (.inl h1))
    have d1 : decide (1099511627776 < t) = true := decide_eq_true h1
    clear hr
    go_enter Try.func15, Try.ntmps15
    go_wp2
    go_ret2
    exact ⟨by rw [HR.out]; rfl, (Below.refl _ _).alloc (Nat.le_refl _) _⟩
  have d1 : decide (1099511627776 < t) = false := decide_eq_false h1
  obtain ⟨tk, htk⟩ : ∃ f : Int → Value, f = fun c => .agg (pcV (p.tick c)) := ⟨_, rfl⟩
  obtain ⟨hf, hhf⟩ : ∃ f : Int → Int, f = fun c => (p.tick c).hz := ⟨_, rfl⟩
  have HT : Hid (∀ W c, Calls Try.prog 11 #[.agg (pcV p), .int .i64 c] W (fun e w' => e = .returned (tk c) ∧ Below W.heap.size W w')) := Lib.hid fun W c => by rw [htk]; exact rTick_any W p c
  have HH : Hid (∀ W c, c ≤ 9223372036854775807 → Calls Try.prog 19 #[tk c] W (fun e w' => e = .returned (.int .i64 (hf c)) ∧ Below W.heap.size W w')) := Lib.hid fun W c hc => by rw [htk, hhf]; exact rHorizon_any W _ (ok.tick c hc)
  have HN : Hid (hf 9223372036854775807 < t → r = (0, false)) := Lib.hid fun h => by rw [hr]; rw [hhf] at h; exact ok.wait_none t (.inr h)
  have HL : Hid (∀ L H wr w1, Half hf t p.cl w1 L H wr → ¬ L < H → r = (L, true)) := Lib.hid fun L H wr w1 h hn => by
    have e : L = H := by have := h.le; omega
    rw [hr]
    refine ok.wait_least t L (by omega) ⟨h.lo, by have := h.hi; omega, ?_, fun x h2 h3 => ?_⟩
    · have := h.at_; rw [hhf, ← e] at this; exact this
    · have := h.no x h2 h3; rw [hhf] at this; exact this
  have HM : Hid (∀ a b, a ≤ b → p.cl ≤ a → hf a ≤ hf b) := Lib.hid fun a b hab ha => by
    rw [hhf]
    have h := scal_mono (n := max p.cl a - p.ba) (n' := max p.cl b - p.ba) (most := 1099511627776 - p.st) (by omega) ok.nu0 ok.de0
    simp only [Pc.tick, Pc.hz, Pc.gone]
    omega
  have c0 := ok.ba0
  have c1 := ok.ba1
  have c2 := ok.cl1
  clear hr htk hhf ok h1
  obtain ⟨st, ba, nu, de, cl⟩ := p
  dsimp only [pcV] at HT HL HM c0 c1 c2 ⊢
  obtain ⟨w1, hw1⟩ : ∃ w1, w1 = w.alloc (.cells #[.int .i64 st, .int .i64 ba, .int .i64 nu, .int .i64 de, .int .i64 cl] 27) := ⟨_, rfl⟩
  have hb1 : Below w.heap.size w w1 := by rw [hw1]; exact (Below.refl _ _).alloc (Nat.le_refl _) _
  have hx1 : w1.heap[w.heap.size]? = some (.cells #[.int .i64 st, .int .i64 ba, .int .i64 nu, .int .i64 de, .int .i64 cl] 27 (0, 0)) := by rw [hw1]; exact heap_alloc_new _ _
  obtain ⟨b, hbz⟩ : ∃ b, b = w.heap.size := ⟨_, rfl⟩
  rw [← hbz] at hx1
  have HX : Hid (∀ W, Below w1.heap.size w1 W → W.cell? ⟨b, 0, none⟩ = some (.int .i64 st) ∧ W.cell? ⟨b, 1, none⟩ = some (.int .i64 ba) ∧ W.cell? ⟨b, 2, none⟩ = some (.int .i64 nu) ∧ W.cell? ⟨b, 3, none⟩ = some (.int .i64 de) ∧ W.cell? ⟨b, 4, none⟩ = some (.int .i64 cl)) := Lib.hid fun W hb => by
    have h := (hb.block _ (Array.getElem?_eq_some_iff.1 hx1).1).trans hx1
    exact ⟨(cell_of_row _ _ _ _ _ _ h).trans rfl, (cell_of_row _ _ _ _ _ _ h).trans rfl, (cell_of_row _ _ _ _ _ _ h).trans rfl, (cell_of_row _ _ _ _ _ _ h).trans rfl, (cell_of_row _ _ _ _ _ _ h).trans rfl⟩
  have HB := Lib.hid hb1
  have HW := Lib.hid hw1
  have HBZ := Lib.hid hbz
  obtain ⟨x0, x1, x2, x3, x4⟩ := HX.out w1 (Below.refl _ _)
  clear hb1 hx1 hw1 hbz
  go_enter Try.func15, Try.ntmps15
  go_upto_region 1 with fail
  rw [← HW.out, ← HBZ.out]
  by_cases hz : hf 9223372036854775807 < t
  · have d2 : decide (hf 9223372036854775807 < t) = true := decide_eq_true hz
    go_wp2_with (first
      | (go_at_call 11; ((with_reducible refine (HT.out _ _).mono ?_)); rintro e w2 ⟨rfl, hb2⟩; have HB2 := Lib.hid hb2; clear hb2)
      | (go_at_call 19; ((with_reducible refine (HH.out _ _ (Int.le_refl _)).mono ?_)); rintro e w3 ⟨rfl, hb3⟩; have HB3 := Lib.hid (HB2.out.trans (hb3.mono HB2.out.size)); clear hb3))
    go_ret2
    exact ⟨by rw [HN.out hz]; rfl, HB.out.trans (HB3.out.mono HB.out.size)⟩
  · have d2 : decide (hf 9223372036854775807 < t) = false := decide_eq_false hz
    go_wp2_with (first
      | (go_at_call 11; ((with_reducible refine (HT.out _ _).mono ?_)); rintro e w2 ⟨rfl, hb2⟩; have HB2 := Lib.hid hb2; clear hb2)
      | (go_at_call 19; ((with_reducible refine (HH.out _ _ (Int.le_refl _)).mono ?_)); rintro e w3 ⟨rfl, hb3⟩; have HB3 := Lib.hid (HB2.out.trans (hb3.mono HB2.out.size)); obtain ⟨y0, y1, y2, y3, y4⟩ := HX.out _ HB3.out; clear hb3))
    have HZ := Lib.hid hz
    clear hz d2 x0 x1 x2 x3 x4
    go_loopw [6, 7] (fun lo hi wr => HalfR hf t cl w1 lo hi wr) (fun lo hi _ => (intOf hi - intOf lo).toNat)
    case atStart => exact ⟨cl, 9223372036854775807, rfl, rfl, Int.le_refl _, c2, Int.le_refl _, by have := HZ.out; omega, fun x h2 h3 => by omega, HB3.out⟩
    case round =>
      rename_i wr
      obtain ⟨L, H, rfl, rfl, hh⟩ := hrel
      obtain ⟨x0, x1, x2, x3, x4⟩ := HX.out _ hh.bel
      have HHf := Lib.hid hh
      have b1 := hh.lo
      have b2 := hh.le
      have b3 := hh.hi
      clear hh
      by_cases hlt : L < H
      · obtain ⟨D, hD⟩ : ∃ x, x = H - L := ⟨_, rfl⟩
        obtain ⟨E, hE⟩ : ∃ x, x = D / 2 := ⟨_, rfl⟩
        obtain ⟨mid, hmid⟩ : ∃ x, x = L + E := ⟨_, rfl⟩
        obtain ⟨m1, hm1⟩ : ∃ x, x = mid + 1 := ⟨_, rfl⟩
        have e1 : H - L = D := hD.symm
        have e1' : IntKind.i64.wrap (H - L) = D := by rw [e1]; exact IntWalk.i64_in _ (by omega)
        have e2 : D / 2 = E := hE.symm
        have e2' : D.tdiv 2 = E := by rw [Int.tdiv_eq_ediv_of_nonneg (by omega)]; exact e2
        have e2'' : IntKind.i64.wrap E = E := IntWalk.i64_in _ (by omega)
        have e3 : L + E = mid := hmid.symm
        have e3' : IntKind.i64.wrap (L + E) = mid := by rw [e3]; exact IntWalk.i64_in _ (by omega)
        have e4 : mid + 1 = m1 := hm1.symm
        have e4' : IntKind.i64.wrap (mid + 1) = m1 := by rw [e4]; exact IntWalk.i64_in _ (by omega)
        have HQ := Lib.hid (show mid < H ∧ L ≤ mid ∧ mid ≤ 9223372036854775807 ∧ cl ≤ mid ∧ m1 = mid + 1 by omega)
        have HB0 := Lib.hid (And.intro b1 (And.intro b2 b3))
        have hdl : decide (L < H) = true := decide_eq_true hlt
        have n1 : 0 ≤ D := by omega
        have n2 : D ≤ 9223372036854775807 := by omega
        have n3 : 0 ≤ E := by omega
        have n4 : E ≤ 9223372036854775807 := by omega
        have n5 : 0 ≤ mid := by omega
        have n6 : mid ≤ 9223372036854775807 := by omega
        have n7 : 0 ≤ m1 := by omega
        have n8 : m1 ≤ 9223372036854775807 := by omega
        clear hD hE hmid hm1 b1 b2 b3 hlt
        by_cases hm : t ≤ hf mid
        · have dm : decide (t ≤ hf mid) = true := decide_eq_true hm
          have HMD := Lib.hid hm
          clear hm
          go_wp2_with (first
            | (go_at_call 11; ((with_reducible refine (HT.out _ _).mono ?_)); rintro e w2 ⟨rfl, hb2⟩; have HB2 := Lib.hid hb2; clear hb2)
            | (go_at_call 19; ((with_reducible refine (HH.out _ _ HQ.out.2.2.1).mono ?_)); rintro e w3 ⟨rfl, hb3⟩; have HB3 := Lib.hid (HB2.out.trans (hb3.mono HB2.out.size)); clear hb3))
          go_roundw
          case rel => exact ⟨L, mid, rfl, rfl, HB0.out.1, HQ.out.2.1, HQ.out.2.2.1, HMD.out, HHf.out.no, HHf.out.bel.trans (HB3.out.mono HHf.out.bel.size)⟩
          case measure => simp [intOf]; have := HQ.out; omega
        · have dm : decide (t ≤ hf mid) = false := decide_eq_false hm
          have HMD := Lib.hid hm
          clear hm
          go_wp2_with (first
            | (go_at_call 11; ((with_reducible refine (HT.out _ _).mono ?_)); rintro e w2 ⟨rfl, hb2⟩; have HB2 := Lib.hid hb2; clear hb2)
            | (go_at_call 19; ((with_reducible refine (HH.out _ _ HQ.out.2.2.1).mono ?_)); rintro e w3 ⟨rfl, hb3⟩; have HB3 := Lib.hid (HB2.out.trans (hb3.mono HB2.out.size)); clear hb3))
          go_roundw
          case rel => exact ⟨m1, H, rfl, rfl, by have := HQ.out; omega, by have := HQ.out; omega, HB0.out.2.2, HHf.out.at_, fun x h2 h3 => by
            have h4 := HM.out x mid (by have := HQ.out; omega) h2
            have := HMD.out
            omega, HHf.out.bel.trans (HB3.out.mono HHf.out.bel.size)⟩
          case measure => simp [intOf]; have := HQ.out; omega
      · go_wp2
        go_ret2
        exact ⟨by rw [HL.out _ _ _ _ HHf.out hlt]; rfl, HB.out.trans (HHf.out.bel.mono HB.out.size)⟩
end Go.Proofs.Ytpcnfefeeolbpaa
