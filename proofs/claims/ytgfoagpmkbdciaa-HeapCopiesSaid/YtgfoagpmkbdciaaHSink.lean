/-
  The walk of sink.
-/
import Derived.Test.YtgfoagpmkbdciaaHRise
namespace Go.Proofs.Ytgfoagpmkbdciaa
open Go Go.Shelf Go.RowKit Go.Lib Go.Sort Go.Proofs HpM

def SinkTo (G P1 P2 B M nC cap : Nat) (d : Array It) (w : World) (e : Ending) (w' : World) : Prop :=
  e = .returned (.tuple #[]) ∧ ∃ d' f', Moved w w' G P1 P2 B M nC cap d d' f' ∧ HP iLt d'

set_option maxHeartbeats 4000000 in
set_option maxRecDepth 100000 in
theorem sink_any (w : World) (G P1 P2 B M nC cap i : Nat) (d : Array It) (f : Pl) (h : HpW w G P1 P2 B M nC cap d f) (hi : i < d.size) (hu : Down iLt d i) :
    Calls Try.prog 46 #[.pointer (some ⟨G, 0, none⟩), .int .i64 i, .func (.func 45) #[] #[.pointer (some ⟨P1, 0, none⟩), .pointer (some ⟨P2, 0, none⟩)]] w (SinkTo G P1 P2 B M nC cap d w) := by
  have mixed : Try.prog.follows .mixedOrders = true := by kernel_rfl
  have A0 : Aside (Moved w w G P1 P2 B M nC cap d d f ∧ Down iLt d i) := ⟨⟨h, rfl, List.Perm.refl _, But.refl _ _⟩, hu⟩
  clear h hu
  go_enter Try.func46, Try.ntmps46
  go_wp2
  go_loopg [1] (d.size - i) (fun kx s1 wr => ∃ (m : Nat) (dk : Array It) (fk : Pl), s1 = .int .i64 m ∧ m < d.size ∧ d.size - m ≤ kx ∧ Aside (Moved w wr G P1 P2 B M nC cap d dk fk ∧ Down iLt dk m))
  case atStart => exact ⟨i, d, f, rfl, hi, Nat.le_refl _, A0⟩
  case round =>
    clear A0
    obtain ⟨m, dk, fk, rfl, hmd, hkx, A⟩ := hrel
    have hbig : m < 1000000 := by have := A.out.1.hp.big; have := A.out.1.size; omega
    go_wp2
    go_loopg [6, 7] 3 (fun ky s6 s7 wq => ∃ (t c : Nat), s6 = .int .i64 t ∧ s7 = .int .i64 c ∧ c ≤ 2 * m + 3 ∧ 2 * m + 1 ≤ c ∧ 2 * m + 4 - c ≤ ky ∧ Aside (Moved w wq G P1 P2 B M nC cap d dk fk ∧ LeastI iLt dk m t c))
    case atStart => exact ⟨m, 2 * m + 1, rfl, by go_num, by omega, Nat.le_refl _, by omega, ⟨A.out.1, LeastI.start _ _⟩⟩
    case round =>
      obtain ⟨t, c, rfl, rfl, hc3, hc1, hky, A2⟩ := hrel
      have hdk : dk.size = d.size := A2.out.1.size
      have htd : t < dk.size := A2.out.2.inr (by omega)
      have hcb : c < 10000000 := by omega
      have hle1 : dk.size ≤ d.size := by omega
      have hle2 : d.size ≤ dk.size := by omega
      clear hdk
      by_cases hin : c ≤ 2 * m + 2 ∧ c < dk.size
      · obtain ⟨h1, h2⟩ := hin
        have hg1 : decide ((c : Int) ≤ 2 * (m : Int) + 2) = true := by simp; omega
        have hg2 : decide ((c : Int) < (dk.size : Int)) = true := by simpa using h2
        have hcz : (c : Int) < (dk.size : Int) := by omega
        have htz : (t : Int) < (dk.size : Int) := by omega
        have cc := A2.out.1.hp.c0
        have c0 := fun n os => ((A2.out.1.hp.gw ⟨n, os, rfl⟩).c0 : (grow (wr.drewN n) os).cell? ⟨G, 0, none⟩ = _)
        have x7 := fun n os => ((A2.out.1.hp.sw.gw ⟨n, os, rfl⟩).row.cell (i := c) h2).seven
        have y7 := fun n os => ((A2.out.1.hp.sw.gw ⟨n, os, rfl⟩).row.cell (i := t) htd).seven
        obtain ⟨x, hx⟩ : ∃ x, x = dk[c]! := ⟨_, rfl⟩
        obtain ⟨y, hy⟩ : ∃ y, y = dk[t]! := ⟨_, rfl⟩
        rw [← hx] at x7
        rw [← hy] at y7
        have x0 := fun n os => (x7 n os).1
        have x1 := fun n os => (x7 n os).2.1
        have x2 := fun n os => (x7 n os).2.2.1
        have x3 := fun n os => (x7 n os).2.2.2.1
        have x4 := fun n os => (x7 n os).2.2.2.2.1
        have x5 := fun n os => (x7 n os).2.2.2.2.2.1
        have x6 := fun n os => (x7 n os).2.2.2.2.2.2
        have y0 := fun n os => (y7 n os).1
        have y1 := fun n os => (y7 n os).2.1
        have y2 := fun n os => (y7 n os).2.2.1
        have y3 := fun n os => (y7 n os).2.2.2.1
        have y4 := fun n os => (y7 n os).2.2.2.2.1
        have y5 := fun n os => (y7 n os).2.2.2.2.2.1
        have y6 := fun n os => (y7 n os).2.2.2.2.2.2
        have HXY := Lib.hid (And.intro hx hy)
        clear x7 y7 hx hy
        obtain ⟨q, hq⟩ : ∃ q, q = iCmp x y := ⟨_, rfl⟩
        have hl : decide (q < 0) = iLt x y := by rw [hq]; exact iCmp_neg x y
        have HQ := Lib.hid hq
        clear hq
        have HH := Lib.hid (And.intro h1 h2)
        clear h1
        cases hlt : iLt x y with
        | true =>
          rw [hlt] at hl
          have HLT := Lib.hid hlt
          clear hlt
          go_wp2_with fail
          refine wp_region_gw (by kernel_rfl) (by kernel_rfl) ?_
          iterate 16 (refine WQ.step (fun K hK => ?_); go_simp; first | (refine hK _ ?_; clear hK K) | (apply Exists.intro; refine ⟨fun _ => ?_, hK _ ?_⟩; (first | (go_at_call 40; exact icmp_g HQ.out wr _ _)); clear hK K))
          refine WQ.nil ?_
          intro _ hw'
          obtain ⟨⟨nq, osq⟩, hw''⟩ := hw'
          subst hw''
          have HM2 := Lib.hid (A2.out.1.gw ⟨nq, osq, rfl⟩ : Moved w (grow (wr.drewN nq) osq) G P1 P2 B M nC cap d dk fk)
          clear c0 x0 x1 x2 x3 x4 x5 x6 y0 y1 y2 y3 y4 y5 y6 cc
          generalize grow (wr.drewN nq) osq = w2 at HM2 ⊢
          go_wp2
          go_roundg (2 * m + 4 - (c + 1))
          case measure => omega
          case rel =>
            refine ⟨c, c + 1, rfl, by go_num, by have := HH.out.1; omega, by omega, by omega, ⟨HM2.out, A2.out.2.take iLt_swo HH.out.1 HH.out.2 ?_⟩⟩
            rw [← HXY.out.1, ← HXY.out.2]
            exact HLT.out
        | false =>
          rw [hlt] at hl
          have HLT := Lib.hid hlt
          clear hlt
          go_wp2_with fail
          refine wp_region_gw (by kernel_rfl) (by kernel_rfl) ?_
          iterate 16 (refine WQ.step (fun K hK => ?_); go_simp; first | (refine hK _ ?_; clear hK K) | (apply Exists.intro; refine ⟨fun _ => ?_, hK _ ?_⟩; (first | (go_at_call 40; exact icmp_g HQ.out wr _ _)); clear hK K))
          refine WQ.nil ?_
          intro _ hw'
          obtain ⟨⟨nq, osq⟩, hw''⟩ := hw'
          subst hw''
          have HM2 := Lib.hid (A2.out.1.gw ⟨nq, osq, rfl⟩ : Moved w (grow (wr.drewN nq) osq) G P1 P2 B M nC cap d dk fk)
          clear c0 x0 x1 x2 x3 x4 x5 x6 y0 y1 y2 y3 y4 y5 y6 cc
          generalize grow (wr.drewN nq) osq = w2 at HM2 ⊢
          go_wp2
          go_roundg (2 * m + 4 - (c + 1))
          case measure => omega
          case rel =>
            refine ⟨t, c + 1, rfl, by go_num, by have := HH.out.1; omega, by omega, by omega, ⟨HM2.out, A2.out.2.skip HH.out.1 ?_⟩⟩
            rw [← HXY.out.1, ← HXY.out.2]
            exact HLT.out
      · have hfin := A2.out.2.fin hin
        have HF := Lib.hid hfin
        clear hfin
        have cc := A2.out.1.hp.c0
        by_cases htm : t = m
        · subst htm
          by_cases h1 : c ≤ 2 * t + 2
          · have h2 : ¬ c < dk.size := fun h => hin ⟨h1, h⟩
            have hg1 : decide ((c : Int) ≤ 2 * (t : Int) + 2) = true := by simp; omega
            have hg2 : decide ((c : Int) < (dk.size : Int)) = false := by simp; omega
            go_wp2
            go_end0
            exact ⟨rfl, dk, fk, A2.out.1, down_done A.out.2 HF.out⟩
          · have hg1 : decide ((c : Int) ≤ 2 * (t : Int) + 2) = false := by simp; omega
            go_wp2
            go_end0
            exact ⟨rfl, dk, fk, A2.out.1, down_done A.out.2 HF.out⟩
        · have hne : decide ((t : Int) = (m : Int)) = false := by simp; omega
          have hne' : ((t : Int) == (m : Int)) = false := by simp; omega
          obtain ⟨o1, o2, o3, o4⟩ := A2.out.2.own.resolve_left htm
          have HO := Lib.hid (And.intro o1 (And.intro o2 (And.intro o3 o4)))
          have hms : m < dk.size := by omega
          have htm2 : m < t := by omega
          obtain ⟨d2, hd2⟩ : ∃ d2, d2 = swp dk m t := ⟨_, rfl⟩
          have HD2 := Lib.hid hd2
          clear hd2 o1 o4 htm
          by_cases h1 : c ≤ 2 * m + 2
          all_goals
            first
              | (have h2 : ¬ c < dk.size := fun h => hin ⟨h1, h⟩
                 have hg1 : decide ((c : Int) ≤ 2 * (m : Int) + 2) = true := by simp; omega
                 have hg2 : decide ((c : Int) < (dk.size : Int)) = false := by simp; omega)
              | (have hg1 : decide ((c : Int) ≤ 2 * (m : Int) + 2) = false := by simp; omega)
            clear hin
            go_wp2_with (go_at_call 45; refine (swap_any _ G P1 P2 B M nC cap m t dk fk A2.out.1.hp hms htd).mono ?_; rintro e w3 ⟨rfl, hs⟩; have HS := Lib.hid hs; clear hs)
            go_roundg (d.size - t)
            case measure => omega
            case rel =>
              refine ⟨t, d2, _, rfl, by omega, Nat.le_refl _, ⟨A2.out.1.swap hms htd HD2.out (HD2.out ▸ HS.out.1) HS.out.2, ?_⟩⟩
              rw [HD2.out]
              exact down_step iLt_swo A.out.2 HO.out.1 HO.out.2.1 HO.out.2.2.1 HO.out.2.2.2 HF.out
end Go.Proofs.Ytgfoagpmkbdciaa
