/-
  The walk of the law OrderRises.
-/
import Derived.Test.YtehnoekbdmclmaaORise
namespace Go.Proofs.Ytehnoekbdmclmaa
open Go Go.RowKit Go.Sort Go.Proofs

set_option maxHeartbeats 4000000 in
set_option maxRecDepth 100000 in
theorem rises_law (w : World) (a : Option Addr) (n c : Nat) (l : List Ky) (hl : KyAt w a n l) : Calls Try.prog 6 #[.slice a n c] w (TellsBB true w) := by
  by_cases hbig : 100 < n
  · clear hl
    go_enter Try.func6, Try.ntmps6
    go_wp2_with (go_at_call 11; refine (known_any _).mono ?_; rintro e w1 ⟨rfl, hb⟩; have HB := Lib.hid hb; clear hb)
    go_ret
    exact ⟨rfl, HB.out⟩
  · have HL := Lib.hid hl
    clear hl
    go_enter Try.func6, Try.ntmps6
    go_wp2
    go_loopg [3, 4] n (fun kx s3 s4 wr => ∃ (k : Nat) (t : Bool), s3 = .bool t ∧ s4 = .int .i64 ((k : Int) + 1) ∧ (k = 0 ∨ k < n) ∧ n - k ≤ kx ∧ Aside (rz l (k + 1) = t ∧ Below w.heap.size w wr))
    case atStart => exact ⟨0, true, rfl, rfl, .inl rfl, Nat.le_refl _, ⟨rz_one _, Below.refl _ _⟩⟩
    case round =>
      obtain ⟨k, t, rfl, rfl, hk, hkx, A⟩ := hrel
      by_cases hlt : k + 1 < n
      · obtain ⟨B, off, rfl, hB, x0, x1, x2⟩ := HL.out.cell (show k < n by omega)
        obtain ⟨B', off', e, hB', y0, y1, y2⟩ := HL.out.cell hlt
        cases e
        have hltz : (k : Int) + 1 < (n : Int) := by omega
        have p1 : (0 : Int) ≤ (k : Int) + 1 := by omega
        have e1 : ((k : Int) + 1).toNat = k + 1 := by omega
        have hw1 : IntKind.i64.wrap (k : Int) = (k : Int) := by rw [IntKind.wrap_i64]; omega
        have hw2 : IntKind.i64.wrap ((k : Int) + 1 - 1) = (k : Int) := by rw [IntKind.wrap_i64]; omega
        have hkn : (k : Int) < (n : Int) := by omega
        obtain ⟨⟨u, v, z⟩, hx⟩ : ∃ x : Ky, x = l.getD k (0, 0, 0) := ⟨_, rfl⟩
        obtain ⟨⟨u', v', z'⟩, hy⟩ : ∃ x : Ky, x = l.getD (k + 1) (0, 0, 0) := ⟨_, rfl⟩
        rw [← hx] at x0 x1 x2
        rw [← hy] at y0 y1 y2
        have HX := Lib.hid hx
        have HY := Lib.hid hy
        have hbr : Below w.heap.size w wr := A.out.2
        have q0 := fun p : InB wr => ((hbr.trans (p.h.mono hbr.size)).cell (p := ⟨B, _, none⟩) hB).trans x0
        have q1 := fun p : InB wr => ((hbr.trans (p.h.mono hbr.size)).cell (p := ⟨B, _, none⟩) hB).trans x1
        have q2 := fun p : InB wr => ((hbr.trans (p.h.mono hbr.size)).cell (p := ⟨B, _, none⟩) hB).trans x2
        have q3 := fun p : InB wr => ((hbr.trans (p.h.mono hbr.size)).cell (p := ⟨B, _, none⟩) hB).trans y0
        have q4 := fun p : InB wr => ((hbr.trans (p.h.mono hbr.size)).cell (p := ⟨B, _, none⟩) hB).trans y1
        have q5 := fun p : InB wr => ((hbr.trans (p.h.mono hbr.size)).cell (p := ⟨B, _, none⟩) hB).trans y2
        clear hx hy x0 x1 x2 y0 y1 y2 hbr
        obtain ⟨t2, ht2⟩ : ∃ t2, t2 = kLt (u, v, z) (u', v', z') := ⟨_, rfl⟩
        have HT2 := Lib.hid ht2
        have HRZ : Hid (rz l (k + 2) = (t && t2)) := by
          show _ = _
          rw [rz_succ, A.out.1, ← HX.out, ← HY.out, ← ht2]
        clear ht2
        rcases t with _ | _
        all_goals
          rcases t2 with _ | _
          all_goals
            go_wp2_with fail
            refine wp_region_below (by kernel_rfl) (by kernel_rfl) ?_
            repeat (refine WQ.step (fun K hK => ?_); go_simp; first | (refine hK _ ?_; clear hK K) | (apply Exists.intro; refine ⟨fun _ => ?_, hK _ ?_⟩; (first | (go_at_call 7; exact inb_b (rless_is HT2.out.symm _))); clear hK K))
            refine WQ.nil ?_
            intro _ hw'
            obtain ⟨pq, hw''⟩ := hw'
            subst hw''
            go_wp2
            go_roundg (n - (k + 1))
            case measure => omega
            case rel => exact ⟨k + 1, _, rfl, by go_num, .inr hlt, Nat.le_refl _, ⟨HRZ.out, A.out.2.trans (pq.h.mono A.out.2.size)⟩⟩
      · have hltz : ¬ (k : Int) + 1 < (n : Int) := by omega
        have hrz : rz l n = t := by
          by_cases h0 : n = 0
          · have := A.out.1
            rw [show k = 0 by omega, rz_one] at this
            rw [h0, rz_zero, this]
          · rw [show n = k + 1 by omega, A.out.1]
        have HRZ := Lib.hid hrz
        clear hrz
        rcases t with _ | _
        all_goals
          go_wp2_with (first
            | (go_at_call 18; refine (rising_is HRZ.out (HL.out.below A.out.2) (by omega)).mono ?_; rintro e w1 ⟨rfl, hb⟩; have HB := Lib.hid (A.out.2.trans (hb.mono A.out.2.size)); clear hb)
            | (go_at_call 11; refine (known_any _).mono ?_; rintro e w2 ⟨rfl, hb⟩; have HB := Lib.hid (HB.out.trans (hb.mono HB.out.size)); clear hb))
          go_ret
          exact ⟨rfl, HB.out⟩
end Go.Proofs.Ytehnoekbdmclmaa
