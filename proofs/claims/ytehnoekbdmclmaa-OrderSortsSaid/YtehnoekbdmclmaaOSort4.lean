/-
  The walk of symMerge, where the right run has one.
-/
import Derived.Test.YtehnoekbdmclmaaOSort2
import Derived.Deep.Cut
import Derived.Deep.CutRange
namespace Go.Proofs.Ytehnoekbdmclmaa
open Go Go.Shelf Go.RowKit Go.Lib Go.Sort Go.Proofs StM

section
variable {P : Program} {α : Type} [Inhabited α]

set_option maxHeartbeats 8000000 in
set_option maxRecDepth 1000000 in
theorem symMerge_r {k : Nat} (L : SP P k) (enc : α → List Value) (cf : α → α → Int) (g : Nat) (cb : Array Value) (hO : SWO (ltOf cf)) (blk off cap sz : Nat) (d0 : Array α) (w0 : World)
    (eg : ∀ args w, (callFunc g args).run P w = .ok (.enter g args) w) (hcmp : CmpLays P g cb enc k cf blk off sz w0) (R : RowK enc k w0 blk off d0) (hs : d0.size = sz) (hsz : sz < 2305843009213693952)
    (a m b : Nat) (d : Array α) (w : World) (hz : d.size = sz) (S : SWK enc k w0 blk off d w) (ham : a < m) (hmb : m < b) (hb : b ≤ sz) (hl : SortedIn (ltOf cf) a m d) (hr : SortedIn (ltOf cf) m b d) (hm1 : ¬ m = a + 1) (hb1 : b = m + 1) :
    Calls P 26 #[.slice (some ⟨blk, off, none⟩) sz cap, .int .i64 a, .int .i64 m, .int .i64 b, .func (.func g) #[] cb] w (Srt enc k w0 blk off (SymTo (ltOf cf) a b d)) := by
  have mixed := L.mixed; have t0 := L.t0; have a0 := L.a0; have z0 := L.z0; have v0 := L.v0; have t3 := L.t3; have a3 := L.a3; have z3 := L.z3; have v3 := L.v3; have t4 := L.t4; have a4 := L.a4; have z4 := L.z4; have v4 := L.v4; have t22 := L.t22; have a22 := L.a22; have z22 := L.z22; have v22 := L.v22; have t25 := L.t25; have a25 := L.a25; have z25 := L.z25; have v25 := L.v25; have aE := L.aE; have zE := L.zE
  have t48 := L.t48; have a48 := L.a48; have z48 := L.z48; have v48 := L.v48
  have FG := L.fSym
  have HC : Aside _ := hcmp
  have HS := Lib.hid hs
  have HO : Aside _ := hO
  have HZ := Lib.hid hz
  have S0 : Aside (SWK enc k w0 blk off d w) := S
  have SL : Aside (SortedIn (ltOf cf) a m d) := hl
  have SR : Aside (SortedIn (ltOf cf) m b d) := hr
  clear hcmp hs hO hz S hl hr
  have hd : ((m : Int) - (a : Int) == 1) = false := by simp; omega
  have hd2 : ((b : Int) - (m : Int) == 1) = true := by simp; omega
  have HM := Lib.hid hb1
  have hmsz : m < sz := by omega
  clear hm1 hb1
  go_enter FG, Try.ntmps26
  go_wp2
  go_loopg [14, 15] (m - a) (fun kx s10 s11 wr => ∃ (i j : Nat), s10 = .int .i64 i ∧ s11 = .int .i64 j ∧ a ≤ i ∧ i ≤ j ∧ j ≤ m ∧ j - i ≤ kx ∧ Aside (SWK enc k w0 blk off d wr ∧ (a < i → ltOf cf d[m]! d[i - 1]! = false) ∧ (j < m → ltOf cf d[m]! d[j]! = true)))
  case atStart => exact ⟨a, m, rfl, rfl, Nat.le_refl _, by omega, Nat.le_refl _, Nat.le_refl _, ⟨S0.out, fun h => absurd h (Nat.lt_irrefl _), fun h => absurd h (Nat.lt_irrefl _)⟩⟩
  case round =>
    clear S0
    obtain ⟨i, j, rfl, rfl, hmi, hij, hjb, hkx, A⟩ := hrel
    have S1 : Aside (SWK enc k w0 blk off d wr) := A.out.1
    by_cases hlt : i < j
    · obtain ⟨h, hh⟩ : ∃ h, h = (i + j) / 2 := ⟨_, rfl⟩
      have hi1 : i ≤ h := by omega
      have hi2 : h < j := by omega
      have eh : ((i : Int) + (j : Int)) / 2 = (h : Int) := by omega
      clear hh
      cases hL : ltOf cf d[m]! d[h]! with
      | true =>
        have e2a : ((m : Int)).toNat = m := by omega
        have p2a : (0 : Int) ≤ (m : Int) := by omega
        have b2a : (m : Int) < (sz : Int) := by omega
        have r2a : IntKind.i64.wrap ((m : Int)) = (m : Int) := by rw [IntKind.wrap_i64]; omega
        have e2c : ((h : Int)).toNat = h := by omega
        have p2c : (0 : Int) ≤ (h : Int) := by omega
        have b2c : (h : Int) < (sz : Int) := by omega
        have r2c : IntKind.i64.wrap ((h : Int)) = (h : Int) := by rw [IntKind.wrap_i64]; omega
        obtain ⟨x2, hx2⟩ : ∃ x, x = d[m]! := ⟨_, rfl⟩
        obtain ⟨y2, hy2⟩ : ∃ x, x = d[h]! := ⟨_, rfl⟩
        have l2a := S1.out.ld R (HZ.out.trans HS.out.symm) P (m) (by rw [HZ.out]; omega)
        have l2b := S1.out.ld R (HZ.out.trans HS.out.symm) P (h) (by rw [HZ.out]; omega)
        rw [← hx2] at l2a
        rw [← hy2] at l2b
        have hc2 := S1.out.cmp HC.out HZ.out x2 y2
        have hv2 : cf x2 y2 < 0 := by rw [hx2, hy2]; exact of_decide_eq_true hL
        have hd2 : decide (cf x2 y2 < 0) = true := decide_eq_true hv2
        have HL := Lib.hid hL
        clear hx2 hy2 hL
        go_wp2_with fail
        go_quiet_grown (first | (go_at_fn g; refine Calls.grown_of (hc2 _ _)))
        have S2 : Aside (SWK enc k w0 blk off d (grow (wr.drewN nq) osq)) := S1.out.grown nq osq
        clear l2a l2b hc2 S1
        generalize grow (wr.drewN nq) osq = w2 at S2 ⊢
        clear nq osq
        go_wp2
        go_roundg (h - i)
        case measure => omega
        case rel => exact ⟨i, h, rfl, rfl, hmi, hi1, by omega, Nat.le_refl _, ⟨S2.out, A.out.2.1, fun _ => HL.out⟩⟩
      | false =>
        have e2a : ((m : Int)).toNat = m := by omega
        have p2a : (0 : Int) ≤ (m : Int) := by omega
        have b2a : (m : Int) < (sz : Int) := by omega
        have r2a : IntKind.i64.wrap ((m : Int)) = (m : Int) := by rw [IntKind.wrap_i64]; omega
        have e2c : ((h : Int)).toNat = h := by omega
        have p2c : (0 : Int) ≤ (h : Int) := by omega
        have b2c : (h : Int) < (sz : Int) := by omega
        have r2c : IntKind.i64.wrap ((h : Int)) = (h : Int) := by rw [IntKind.wrap_i64]; omega
        obtain ⟨x2, hx2⟩ : ∃ x, x = d[m]! := ⟨_, rfl⟩
        obtain ⟨y2, hy2⟩ : ∃ x, x = d[h]! := ⟨_, rfl⟩
        have l2a := S1.out.ld R (HZ.out.trans HS.out.symm) P (m) (by rw [HZ.out]; omega)
        have l2b := S1.out.ld R (HZ.out.trans HS.out.symm) P (h) (by rw [HZ.out]; omega)
        rw [← hx2] at l2a
        rw [← hy2] at l2b
        have hc2 := S1.out.cmp HC.out HZ.out x2 y2
        have hv2 : ¬ cf x2 y2 < 0 := by rw [hx2, hy2]; exact of_decide_eq_false hL
        have hd2 : decide (cf x2 y2 < 0) = false := decide_eq_false hv2
        have HL := Lib.hid hL
        clear hx2 hy2 hL
        go_wp2_with fail
        go_quiet_grown (first | (go_at_fn g; refine Calls.grown_of (hc2 _ _)))
        have S2 : Aside (SWK enc k w0 blk off d (grow (wr.drewN nq) osq)) := S1.out.grown nq osq
        clear l2a l2b hc2 S1
        generalize grow (wr.drewN nq) osq = w2 at S2 ⊢
        clear nq osq
        go_wp2
        go_roundg (j - (h + 1))
        case measure => omega
        case rel => exact ⟨h + 1, j, by go_num, rfl, by omega, by omega, hjb, Nat.le_refl _, ⟨S2.out, fun _ => by rw [Nat.add_sub_cancel]; exact HL.out, A.out.2.2⟩⟩
    · have hij' : i = j := by omega
      have AI : Aside ((a < i → ltOf cf d[m]! d[i - 1]! = false) ∧ (i < m → ltOf cf d[m]! d[i]! = true)) := ⟨A.out.2.1, by rw [hij']; exact A.out.2.2⟩
      have him : i ≤ m := by omega
      clear A hij' hkx
      go_wp2
      go_loopg [17] m (fun kx s13 wr => ∃ (q : Nat) (dk : Array α), s13 = .int .i64 q ∧ i ≤ q ∧ q ≤ m ∧ q ≤ kx ∧ Aside (dk.size = sz ∧ SWK enc k w0 blk off dk wr ∧ Rot q m (m + 1) d dk))
      case atStart => exact ⟨m, d, rfl, him, Nat.le_refl _, Nat.le_refl _, ⟨HZ.out, S1.out, rot_none' _ _ _⟩⟩
      case round =>
        clear S1
        obtain ⟨q0, dk, rfl, haq, hqi, hkx, A⟩ := hrel
        have S1 : Aside (SWK enc k w0 blk off dk wr) := A.out.2.1
        have DS := Lib.hid A.out.1
        have AR : Aside (Rot q0 m (m + 1) d dk) := A.out.2.2
        clear A
        by_cases hq : i < q0
        · obtain ⟨q, rfl⟩ : ∃ q, q0 = q + 1 := ⟨q0 - 1, by omega⟩
          have hwp : IntKind.i64.wrap (q : Int) = (q : Int) := by rw [IntKind.wrap_i64]; omega
          have hqz : (i : Int) < (q : Int) + 1 := by omega
          have e4a : ((q : Int) + 1).toNat = q + 1 := by omega
          have p4a : (0 : Int) ≤ (q : Int) + 1 := by omega
          have b4a : (q : Int) + 1 < (sz : Int) := by omega
          have r4a : IntKind.i64.wrap ((q : Int) + 1) = (q : Int) + 1 := by rw [IntKind.wrap_i64]; omega
          have e4c : ((q : Int)).toNat = q := by omega
          have p4c : (0 : Int) ≤ (q : Int) := by omega
          have b4c : (q : Int) < (sz : Int) := by omega
          have r4c : IntKind.i64.wrap ((q : Int)) = (q : Int) := by rw [IntKind.wrap_i64]; omega
          have S2 : Aside (SWK enc k w0 blk off (swp dk (q + 1) (q)) ((wr.drew.setCells blk (off + (q + 1) * k) (enc dk[q]!)).setCells blk (off + (q) * k) (enc dk[q + 1]!))) := S1.out.swapped R (q + 1) (q) (by rw [DS.out]; omega) (by rw [DS.out]; omega)
          have l4a := S1.out.ld1 R (DS.out.trans HS.out.symm) P (q + 1) (by rw [DS.out]; omega)
          have l4b := S1.out.ld1 R (DS.out.trans HS.out.symm) P (q) (by rw [DS.out]; omega)
          have s4a := S1.out.st1 R (DS.out.trans HS.out.symm) P (q + 1) (by rw [DS.out]; omega) dk[q]!
          have s4b := S1.out.st2 R (DS.out.trans HS.out.symm) P (q + 1) (q) (by rw [DS.out]; omega) (by rw [DS.out]; omega) dk[q]! dk[q + 1]!
          have n4a : (enc dk[q + 1]!).length = k := R.hk _
          have n4b : (enc dk[q]!).length = k := R.hk _
          generalize enc dk[q + 1]! = cI4 at S2 l4a s4b n4a
          generalize enc dk[q]! = cJ4 at S2 l4b s4a s4b n4b
          clear S1
          go_wp2_with fail
          go_big_region_o
          clear l4a l4b s4a s4b
          generalize (wr.drew.setCells blk (off + (q + 1) * k) cJ4).setCells blk (off + (q) * k) cI4 = w2 at S2 ⊢
          go_wp2
          go_roundg q
          case measure => omega
          case rel => exact ⟨q, swp dk (q + 1) q, by first | rfl | go_num, by omega, by omega, Nat.le_refl _, ⟨by rw [size_swp]; exact DS.out, S2.out, rot_down AR.out hqi (by rw [HZ.out]; exact hmsz)⟩⟩
        · have hqe : q0 = i := by omega
          go_wp2
          go_end0
          refine ⟨rfl, dk, S1.out, ?_⟩
          have hrot := AR.out
          rw [hqe] at hrot
          rw [HM.out]
          exact sym_right HO.out SL.out hmi him AI.out.1 AI.out.2 hrot
end
end Go.Proofs.Ytehnoekbdmclmaa
