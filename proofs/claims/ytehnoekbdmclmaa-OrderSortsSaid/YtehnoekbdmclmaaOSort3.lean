/-
  The walk of symMerge, where the left run has one.
-/
import Derived.Test.YtehnoekbdmclmaaOSort2
import Derived.Deep.Cut
import Derived.Deep.CutRange
namespace Go.Proofs.Ytehnoekbdmclmaa
open Go Go.Shelf Go.RowKit Go.Lib Go.Sort Go.Proofs StM

section
variable {P : Program} {α : Type} [Inhabited α]

set_option maxHeartbeats 8000000 in
set_option maxRecDepth 1000000 in
theorem symMerge_l {k : Nat} (L : SP P k) (enc : α → List Value) (cf : α → α → Int) (g : Nat) (cb : Array Value) (hO : SWO (ltOf cf)) (blk off cap sz : Nat) (d0 : Array α) (w0 : World)
    (eg : ∀ args w, (callFunc g args).run P w = .ok (.enter g args) w) (hcmp : CmpLays P g cb enc k cf blk off sz w0) (R : RowK enc k w0 blk off d0) (hs : d0.size = sz) (hsz : sz < 2305843009213693952)
    (a m b : Nat) (d : Array α) (w : World) (hz : d.size = sz) (S : SWK enc k w0 blk off d w) (ham : a < m) (hmb : m < b) (hb : b ≤ sz) (hl : SortedIn (ltOf cf) a m d) (hr : SortedIn (ltOf cf) m b d) (hm1 : m = a + 1) :
    Calls P 26 #[.slice (some ⟨blk, off, none⟩) sz cap, .int .i64 a, .int .i64 m, .int .i64 b, .func (.func g) #[] cb] w (Srt enc k w0 blk off (SymTo (ltOf cf) a b d)) := by
  have mixed := L.mixed; have t0 := L.t0; have a0 := L.a0; have z0 := L.z0; have v0 := L.v0; have t3 := L.t3; have a3 := L.a3; have z3 := L.z3; have v3 := L.v3; have t4 := L.t4; have a4 := L.a4; have z4 := L.z4; have v4 := L.v4; have t22 := L.t22; have a22 := L.a22; have z22 := L.z22; have v22 := L.v22; have t25 := L.t25; have a25 := L.a25; have z25 := L.z25; have v25 := L.v25; have aE := L.aE; have zE := L.zE
  have t48 := L.t48; have a48 := L.a48; have z48 := L.z48; have v48 := L.v48
  have FG := L.fSym
  have HC : Aside _ := hcmp
  have HS := Lib.hid hs
  have HO : Aside _ := hO
  have HZ := Lib.hid hz
  have S0 : Aside (SWK enc k w0 blk off d w) := S
  have SL : Aside (SortedIn (ltOf cf) a m d) := hl
  have SR : Aside (SortedIn (ltOf cf) m b d) := hr
  clear hcmp hs hO hz S hl hr
  have hd : ((m : Int) - (a : Int) == 1) = true := by simp; omega
  have HM := Lib.hid hm1
  clear hm1
  go_enter FG, Try.ntmps26
  go_wp2
  go_loopg [10, 11] (b - m) (fun kx s10 s11 wr => ∃ (i j : Nat), s10 = .int .i64 i ∧ s11 = .int .i64 j ∧ m ≤ i ∧ i ≤ j ∧ j ≤ b ∧ j - i ≤ kx ∧ Aside (SWK enc k w0 blk off d wr ∧ (m < i → ltOf cf d[i - 1]! d[a]! = true) ∧ (j < b → ltOf cf d[j]! d[a]! = false)))
  case atStart => exact ⟨m, b, rfl, rfl, Nat.le_refl _, by omega, Nat.le_refl _, Nat.le_refl _, ⟨S0.out, fun h => absurd h (Nat.lt_irrefl _), fun h => absurd h (Nat.lt_irrefl _)⟩⟩
  case round =>
    clear S0
    obtain ⟨i, j, rfl, rfl, hmi, hij, hjb, hkx, A⟩ := hrel
    have S1 : Aside (SWK enc k w0 blk off d wr) := A.out.1
    by_cases hlt : i < j
    · obtain ⟨h, hh⟩ : ∃ h, h = (i + j) / 2 := ⟨_, rfl⟩
      have hi1 : i ≤ h := by omega
      have hi2 : h < j := by omega
      have eh : ((i : Int) + (j : Int)) / 2 = (h : Int) := by omega
      clear hh
      cases hL : ltOf cf d[h]! d[a]! with
      | true =>
        have e1a : ((h : Int)).toNat = h := by omega
        have p1a : (0 : Int) ≤ (h : Int) := by omega
        have b1a : (h : Int) < (sz : Int) := by omega
        have r1a : IntKind.i64.wrap ((h : Int)) = (h : Int) := by rw [IntKind.wrap_i64]; omega
        have e1c : ((a : Int)).toNat = a := by omega
        have p1c : (0 : Int) ≤ (a : Int) := by omega
        have b1c : (a : Int) < (sz : Int) := by omega
        have r1c : IntKind.i64.wrap ((a : Int)) = (a : Int) := by rw [IntKind.wrap_i64]; omega
        obtain ⟨x1, hx1⟩ : ∃ x, x = d[h]! := ⟨_, rfl⟩
        obtain ⟨y1, hy1⟩ : ∃ x, x = d[a]! := ⟨_, rfl⟩
        have l1a := S1.out.ld R (HZ.out.trans HS.out.symm) P (h) (by rw [HZ.out]; omega)
        have l1b := S1.out.ld R (HZ.out.trans HS.out.symm) P (a) (by rw [HZ.out]; omega)
        rw [← hx1] at l1a
        rw [← hy1] at l1b
        have hc1 := S1.out.cmp HC.out HZ.out x1 y1
        have hv1 : cf x1 y1 < 0 := by rw [hx1, hy1]; exact of_decide_eq_true hL
        have hd1 : decide (cf x1 y1 < 0) = true := decide_eq_true hv1
        have HL := Lib.hid hL
        clear hx1 hy1 hL
        go_wp2_with fail
        go_quiet_grown (first | (go_at_fn g; refine Calls.grown_of (hc1 _ _)))
        have S2 : Aside (SWK enc k w0 blk off d (grow (wr.drewN nq) osq)) := S1.out.grown nq osq
        clear l1a l1b hc1 S1
        generalize grow (wr.drewN nq) osq = w2 at S2 ⊢
        clear nq osq
        go_wp2
        go_roundg (j - (h + 1))
        case measure => omega
        case rel => exact ⟨h + 1, j, by go_num, rfl, by omega, by omega, hjb, Nat.le_refl _, ⟨S2.out, fun _ => by rw [Nat.add_sub_cancel]; exact HL.out, A.out.2.2⟩⟩
      | false =>
        have e1a : ((h : Int)).toNat = h := by omega
        have p1a : (0 : Int) ≤ (h : Int) := by omega
        have b1a : (h : Int) < (sz : Int) := by omega
        have r1a : IntKind.i64.wrap ((h : Int)) = (h : Int) := by rw [IntKind.wrap_i64]; omega
        have e1c : ((a : Int)).toNat = a := by omega
        have p1c : (0 : Int) ≤ (a : Int) := by omega
        have b1c : (a : Int) < (sz : Int) := by omega
        have r1c : IntKind.i64.wrap ((a : Int)) = (a : Int) := by rw [IntKind.wrap_i64]; omega
        obtain ⟨x1, hx1⟩ : ∃ x, x = d[h]! := ⟨_, rfl⟩
        obtain ⟨y1, hy1⟩ : ∃ x, x = d[a]! := ⟨_, rfl⟩
        have l1a := S1.out.ld R (HZ.out.trans HS.out.symm) P (h) (by rw [HZ.out]; omega)
        have l1b := S1.out.ld R (HZ.out.trans HS.out.symm) P (a) (by rw [HZ.out]; omega)
        rw [← hx1] at l1a
        rw [← hy1] at l1b
        have hc1 := S1.out.cmp HC.out HZ.out x1 y1
        have hv1 : ¬ cf x1 y1 < 0 := by rw [hx1, hy1]; exact of_decide_eq_false hL
        have hd1 : decide (cf x1 y1 < 0) = false := decide_eq_false hv1
        have HL := Lib.hid hL
        clear hx1 hy1 hL
        go_wp2_with fail
        go_quiet_grown (first | (go_at_fn g; refine Calls.grown_of (hc1 _ _)))
        have S2 : Aside (SWK enc k w0 blk off d (grow (wr.drewN nq) osq)) := S1.out.grown nq osq
        clear l1a l1b hc1 S1
        generalize grow (wr.drewN nq) osq = w2 at S2 ⊢
        clear nq osq
        go_wp2
        go_roundg (h - i)
        case measure => omega
        case rel => exact ⟨i, h, rfl, rfl, hmi, hi1, by omega, Nat.le_refl _, ⟨S2.out, A.out.2.1, fun _ => HL.out⟩⟩
    · have hij' : i = j := by omega
      have AI : Aside ((m < i → ltOf cf d[i - 1]! d[a]! = true) ∧ (i < b → ltOf cf d[i]! d[a]! = false)) := ⟨A.out.2.1, by rw [hij']; exact A.out.2.2⟩
      have hib : i ≤ b := by omega
      clear A hij' hkx
      go_wp2
      go_loopg [13] (b - a) (fun kx s13 wr => ∃ (q : Nat) (dk : Array α), s13 = .int .i64 q ∧ a ≤ q ∧ q + 1 ≤ i ∧ b - q ≤ kx ∧ Aside (dk.size = sz ∧ SWK enc k w0 blk off dk wr ∧ Rot a (a + 1) (q + 1) d dk))
      case atStart => exact ⟨a, d, rfl, Nat.le_refl _, by omega, Nat.le_refl _, ⟨HZ.out, S1.out, rot_none _ _ _⟩⟩
      case round =>
        clear S1
        obtain ⟨q, dk, rfl, haq, hqi, hkx, A⟩ := hrel
        have S1 : Aside (SWK enc k w0 blk off dk wr) := A.out.2.1
        have DS := Lib.hid A.out.1
        have AR : Aside (Rot a (a + 1) (q + 1) d dk) := A.out.2.2
        clear A
        by_cases hq : q + 1 < i
        · have hqz : (q : Int) < (i : Int) - 1 := by omega
          have e4a : ((q : Int)).toNat = q := by omega
          have p4a : (0 : Int) ≤ (q : Int) := by omega
          have b4a : (q : Int) < (sz : Int) := by omega
          have r4a : IntKind.i64.wrap ((q : Int)) = (q : Int) := by rw [IntKind.wrap_i64]; omega
          have e4c : ((q : Int) + 1).toNat = q + 1 := by omega
          have p4c : (0 : Int) ≤ (q : Int) + 1 := by omega
          have b4c : (q : Int) + 1 < (sz : Int) := by omega
          have r4c : IntKind.i64.wrap ((q : Int) + 1) = (q : Int) + 1 := by rw [IntKind.wrap_i64]; omega
          have S2 : Aside (SWK enc k w0 blk off (swp dk (q) (q + 1)) ((wr.drew.setCells blk (off + (q) * k) (enc dk[q + 1]!)).setCells blk (off + (q + 1) * k) (enc dk[q]!))) := S1.out.swapped R (q) (q + 1) (by rw [DS.out]; omega) (by rw [DS.out]; omega)
          have l4a := S1.out.ld1 R (DS.out.trans HS.out.symm) P (q) (by rw [DS.out]; omega)
          have l4b := S1.out.ld1 R (DS.out.trans HS.out.symm) P (q + 1) (by rw [DS.out]; omega)
          have s4a := S1.out.st1 R (DS.out.trans HS.out.symm) P (q) (by rw [DS.out]; omega) dk[q + 1]!
          have s4b := S1.out.st2 R (DS.out.trans HS.out.symm) P (q) (q + 1) (by rw [DS.out]; omega) (by rw [DS.out]; omega) dk[q + 1]! dk[q]!
          have n4a : (enc dk[q]!).length = k := R.hk _
          have n4b : (enc dk[q + 1]!).length = k := R.hk _
          generalize enc dk[q]! = cI4 at S2 l4a s4b n4a
          generalize enc dk[q + 1]! = cJ4 at S2 l4b s4a s4b n4b
          clear S1
          go_wp2_with fail
          go_big_region_o
          clear l4a l4b s4a s4b
          generalize (wr.drew.setCells blk (off + (q) * k) cJ4).setCells blk (off + (q + 1) * k) cI4 = w2 at S2 ⊢
          go_wp2
          go_roundg (b - (q + 1))
          case measure => omega
          case rel => exact ⟨q + 1, swp dk q (q + 1), by go_num, by omega, by omega, Nat.le_refl _, ⟨by rw [size_swp]; exact DS.out, S2.out, rot_up AR.out haq (by rw [HZ.out]; omega)⟩⟩
        · have hqz : ¬ (q : Int) < (i : Int) - 1 := by omega
          go_wp2
          go_end0
          have HM' := HM.out
          have hqi' : q + 1 = i := by omega
          refine ⟨rfl, dk, S1.out, ?_⟩
          have hrot := AR.out
          rw [hqi'] at hrot
          subst HM'
          exact sym_left HO.out SR.out hmi hib AI.out.1 AI.out.2 hrot
end
end Go.Proofs.Ytehnoekbdmclmaa
