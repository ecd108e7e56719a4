/-
  The walk of symMerge, where both runs have more.
-/
import Derived.Test.YtehnoekbdmclmaaOSort2
import Derived.Deep.Cut
import Derived.Deep.CutRange
namespace Go.Proofs.Ytehnoekbdmclmaa
open Go Go.Shelf Go.RowKit Go.Lib Go.Sort Go.Proofs StM

section
variable {P : Program} {α : Type} [Inhabited α]

set_option maxHeartbeats 8000000 in
set_option maxRecDepth 1000000 in
theorem symMerge_g {k : Nat} (L : SP P k) (enc : α → List Value) (cf : α → α → Int) (g : Nat) (cb : Array Value) (hO : SWO (ltOf cf)) (blk off cap sz : Nat) (d0 : Array α) (w0 : World)
    (eg : ∀ args w, (callFunc g args).run P w = .ok (.enter g args) w) (hcmp : CmpLays P g cb enc k cf blk off sz w0) (R : RowK enc k w0 blk off d0) (hs : d0.size = sz) (hsz : sz < 2305843009213693952)
    (a m b : Nat) (d : Array α) (w : World) (hz : d.size = sz) (S : SWK enc k w0 blk off d w) (ham : a < m) (hmb : m < b) (hb : b ≤ sz) (hl : SortedIn (ltOf cf) a m d) (hr : SortedIn (ltOf cf) m b d) (hm1 : ¬ m = a + 1) (hb1 : ¬ b = m + 1)
    (ih : ∀ (a' m' b' : Nat) (d' : Array α) (w' : World), b' - a' < b - a → d'.size = sz → SWK enc k w0 blk off d' w' → a' < m' → m' < b' → b' ≤ sz → SortedIn (ltOf cf) a' m' d' → SortedIn (ltOf cf) m' b' d' →
      Calls P 26 #[.slice (some ⟨blk, off, none⟩) sz cap, .int .i64 a', .int .i64 m', .int .i64 b', .func (.func g) #[] cb] w' (Srt enc k w0 blk off (SymTo (ltOf cf) a' b' d'))) :
    Calls P 26 #[.slice (some ⟨blk, off, none⟩) sz cap, .int .i64 a, .int .i64 m, .int .i64 b, .func (.func g) #[] cb] w (Srt enc k w0 blk off (SymTo (ltOf cf) a b d)) := by
  have mixed := L.mixed; have t0 := L.t0; have a0 := L.a0; have z0 := L.z0; have v0 := L.v0; have t3 := L.t3; have a3 := L.a3; have z3 := L.z3; have v3 := L.v3; have t4 := L.t4; have a4 := L.a4; have z4 := L.z4; have v4 := L.v4; have t22 := L.t22; have a22 := L.a22; have z22 := L.z22; have v22 := L.v22; have t25 := L.t25; have a25 := L.a25; have z25 := L.z25; have v25 := L.v25; have aE := L.aE; have zE := L.zE
  have t48 := L.t48; have a48 := L.a48; have z48 := L.z48; have v48 := L.v48
  have FG := L.fSym
  have HC : Aside _ := hcmp
  have HS := Lib.hid hs
  have HO : Aside _ := hO
  have HZ := Lib.hid hz
  have S0 : Aside (SWK enc k w0 blk off d w) := S
  have SL : Aside (SortedIn (ltOf cf) a m d) := hl
  have SR : Aside (SortedIn (ltOf cf) m b d) := hr
  clear hcmp hs hO hz S hl hr
  have eR : ∀ args w, (callFunc 27 args).run P w = .ok (.enter 27 args) w := enters_of L.fRot (by kernel_rfl) rfl
  have eY : ∀ args w, (callFunc 26 args).run P w = .ok (.enter 26 args) w := enters_of L.fSym (by kernel_rfl) rfl
  have IH : Aside _ := ih
  clear ih
  have hd : ((m : Int) - (a : Int) == 1) = false := by simp; omega
  have hd2 : ((b : Int) - (m : Int) == 1) = false := by simp; omega
  obtain ⟨mid, hmid⟩ : ∃ q, q = (a + b) / 2 := ⟨_, rfl⟩
  have emid : ((a : Int) + (b : Int)) / 2 = (mid : Int) := by omega
  have q1 : 2 * mid ≤ a + b := by omega
  have q2 : a + b ≤ 2 * mid + 1 := by omega
  have q3 : a < mid := by omega
  have q4 : mid < b := by omega
  clear hmid hm1 hb1
  obtain ⟨p, hp⟩ : ∃ q, q = mid + m - 1 := ⟨_, rfl⟩
  have ep : (mid : Int) + (m : Int) - 1 = (p : Int) := by omega
  have f6 : p + 1 = mid + m := by omega
  have HP := Lib.hid hp
  clear hp
  obtain ⟨s0, r0, hsr⟩ : ∃ s0 r0 : Nat, (mid < m ∧ s0 + b = mid + m ∧ r0 = mid) ∨ (m ≤ mid ∧ s0 = a ∧ r0 = m) := by
    by_cases h : mid < m
    · exact ⟨mid + m - b, mid, .inl ⟨h, by omega, rfl⟩⟩
    · exact ⟨a, m, .inr ⟨by omega, rfl, rfl⟩⟩
  have f1 : a ≤ s0 := by omega
  have f2 : s0 ≤ r0 := by omega
  have f3 : r0 ≤ m := by omega
  have f4 : r0 ≤ mid := by omega
  have f5 : mid + m ≤ b + s0 := by omega
  have HSR := Lib.hid hsr
  clear hsr
  by_cases hmm : mid < m
  all_goals
    go_enter FG, Try.ntmps26
    go_wp2
    go_loopg [20, 21] (r0 - s0) (fun kx s10 s11 wr => ∃ (i j : Nat), s10 = .int .i64 i ∧ s11 = .int .i64 j ∧ s0 ≤ i ∧ i ≤ j ∧ j ≤ r0 ∧ j - i ≤ kx ∧ Aside (SWK enc k w0 blk off d wr ∧ (s0 < i → ltOf cf d[p - (i - 1)]! d[i - 1]! = false) ∧ (j < r0 → ltOf cf d[p - j]! d[j]! = true)))
    case atStart => exact ⟨s0, r0, by have := HSR.out; congr 1; omega, by have := HSR.out; congr 1; omega, Nat.le_refl _, f2, Nat.le_refl _, Nat.le_refl _, ⟨S0.out, fun h => absurd h (Nat.lt_irrefl _), fun h => absurd h (Nat.lt_irrefl _)⟩⟩
    case round =>
      clear S0
      obtain ⟨i, j, rfl, rfl, hmi, hij, hjb, hkx, A⟩ := hrel
      have S1 : Aside (SWK enc k w0 blk off d wr) := A.out.1
      by_cases hlt : i < j
      · obtain ⟨h, hh⟩ : ∃ h, h = (i + j) / 2 := ⟨_, rfl⟩
        have hi1 : i ≤ h := by omega
        have hi2 : h < j := by omega
        have eh : ((i : Int) + (j : Int)) / 2 = (h : Int) := by omega
        clear hh
        obtain ⟨u, hu⟩ : ∃ q, q = p - h := ⟨_, rfl⟩
        have ru : IntKind.i64.wrap ((p : Int) - (h : Int)) = (u : Int) := by rw [IntKind.wrap_i64]; omega
        have hu1 : u < sz := by omega
        have HU := Lib.hid hu
        clear hu
        cases hL : ltOf cf d[u]! d[h]! with
        | true =>
          have e2a : ((u : Int)).toNat = u := by omega
          have p2a : (0 : Int) ≤ (u : Int) := by omega
          have b2a : (u : Int) < (sz : Int) := by omega
          have r2a : IntKind.i64.wrap ((u : Int)) = (u : Int) := by rw [IntKind.wrap_i64]; omega
          have e2c : ((h : Int)).toNat = h := by omega
          have p2c : (0 : Int) ≤ (h : Int) := by omega
          have b2c : (h : Int) < (sz : Int) := by omega
          have r2c : IntKind.i64.wrap ((h : Int)) = (h : Int) := by rw [IntKind.wrap_i64]; omega
          obtain ⟨x2, hx2⟩ : ∃ x, x = d[u]! := ⟨_, rfl⟩
          obtain ⟨y2, hy2⟩ : ∃ x, x = d[h]! := ⟨_, rfl⟩
          have l2a := S1.out.ld R (HZ.out.trans HS.out.symm) P (u) (by rw [HZ.out]; omega)
          have l2b := S1.out.ld R (HZ.out.trans HS.out.symm) P (h) (by rw [HZ.out]; omega)
          rw [← hx2] at l2a
          rw [← hy2] at l2b
          have hc2 := S1.out.cmp HC.out HZ.out x2 y2
          have hv2 : cf x2 y2 < 0 := by rw [hx2, hy2]; exact of_decide_eq_true hL
          have hd2 : decide (cf x2 y2 < 0) = true := decide_eq_true hv2
          have HL := Lib.hid hL
          clear hx2 hy2 hL
          go_wp2_with fail
          go_quiet_grown (first | (go_at_fn g; refine Calls.grown_of (hc2 _ _)))
          have S2 : Aside (SWK enc k w0 blk off d (grow (wr.drewN nq) osq)) := S1.out.grown nq osq
          clear l2a l2b hc2 S1
          generalize grow (wr.drewN nq) osq = w2 at S2 ⊢
          clear nq osq
          go_wp2
          go_roundg (h - i)
          case measure => omega
          case rel => exact ⟨i, h, rfl, rfl, hmi, hi1, by omega, Nat.le_refl _, ⟨S2.out, A.out.2.1, fun _ => by rw [← HU.out]; exact HL.out⟩⟩
        | false =>
          have e2a : ((u : Int)).toNat = u := by omega
          have p2a : (0 : Int) ≤ (u : Int) := by omega
          have b2a : (u : Int) < (sz : Int) := by omega
          have r2a : IntKind.i64.wrap ((u : Int)) = (u : Int) := by rw [IntKind.wrap_i64]; omega
          have e2c : ((h : Int)).toNat = h := by omega
          have p2c : (0 : Int) ≤ (h : Int) := by omega
          have b2c : (h : Int) < (sz : Int) := by omega
          have r2c : IntKind.i64.wrap ((h : Int)) = (h : Int) := by rw [IntKind.wrap_i64]; omega
          obtain ⟨x2, hx2⟩ : ∃ x, x = d[u]! := ⟨_, rfl⟩
          obtain ⟨y2, hy2⟩ : ∃ x, x = d[h]! := ⟨_, rfl⟩
          have l2a := S1.out.ld R (HZ.out.trans HS.out.symm) P (u) (by rw [HZ.out]; omega)
          have l2b := S1.out.ld R (HZ.out.trans HS.out.symm) P (h) (by rw [HZ.out]; omega)
          rw [← hx2] at l2a
          rw [← hy2] at l2b
          have hc2 := S1.out.cmp HC.out HZ.out x2 y2
          have hv2 : ¬ cf x2 y2 < 0 := by rw [hx2, hy2]; exact of_decide_eq_false hL
          have hd2 : decide (cf x2 y2 < 0) = false := decide_eq_false hv2
          have HL := Lib.hid hL
          clear hx2 hy2 hL
          go_wp2_with fail
          go_quiet_grown (first | (go_at_fn g; refine Calls.grown_of (hc2 _ _)))
          have S2 : Aside (SWK enc k w0 blk off d (grow (wr.drewN nq) osq)) := S1.out.grown nq osq
          clear l2a l2b hc2 S1
          generalize grow (wr.drewN nq) osq = w2 at S2 ⊢
          clear nq osq
          go_wp2
          go_roundg (j - (h + 1))
          case measure => omega
          case rel => exact ⟨h + 1, j, by go_num, rfl, by omega, by omega, hjb, Nat.le_refl _, ⟨S2.out, fun _ => by rw [Nat.add_sub_cancel, ← HU.out]; exact HL.out, A.out.2.2⟩⟩
      · have hij' : i = j := by omega
        have hc : Cut (ltOf cf) d s0 r0 p i := ⟨hmi, by omega, A.out.2.1, by rw [hij']; exact A.out.2.2⟩
        have HCU : Hid (Cut (ltOf cf) d (if mid < m then mid + m - b else a) (if mid < m then mid else m) (mid + m - 1) i) := by
          show Cut _ _ _ _ _ _
          rw [← HP.out]
          rcases HSR.out with ⟨h1, h2, h3⟩ | ⟨h1, h2, h3⟩
          · rw [if_pos h1, if_pos h1, show mid + m - b = s0 by omega]
            rw [h3] at hc
            exact hc
          · rw [if_neg (by omega), if_neg (by omega)]
            rw [h2, h3] at hc
            exact hc
        have him : i ≤ r0 := by omega
        obtain ⟨en, hen⟩ : ∃ q, q = mid + m - i := ⟨_, rfl⟩
        have een : (mid : Int) + (m : Int) - (i : Int) = (en : Int) := by omega
        have heb : en ≤ b := by omega
        have hem : m ≤ en := by omega
        have hed : mid ≤ en := by omega
        have HEN := Lib.hid hen
        clear A hij' hkx hc hen
        go_upto_region 39 with fail
        go_cut [185] from 178 to 185 (fun c wx => c = .bool (decide (i < m ∧ m < en)) ∧ wx = wr)
        case first =>
          by_cases c1 : i < m
          · by_cases c2 : m < en
            · go_wp2
              go_meet
              case rel => exact ⟨congrArg Value.bool (decide_eq_true (p := (i < m ∧ m < en)) ⟨c1, c2⟩).symm, rfl⟩
            · go_wp2
              go_meet
              case rel => exact ⟨congrArg Value.bool (decide_eq_false (p := (i < m ∧ m < en)) fun h => c2 h.2).symm, rfl⟩
          · go_wp2
            go_meet
            case rel => exact ⟨congrArg Value.bool (decide_eq_false (p := (i < m ∧ m < en)) fun h => c1 h.1).symm, rfl⟩
        case rest =>
          obtain ⟨rfl, rfl⟩ := hcut
          go_upto_if 185 with fail
          go_cut [20] from 178 to 191 (fun s20 wx => s20 = .int .i64 i ∧ Aside (∃ d1, d1.size = sz ∧ SWK enc k w0 blk off d1 wx ∧ ((i < m ∧ m < en ∧ Rot i m en d d1) ∨ (¬ (i < m ∧ m < en) ∧ d1 = d))))
          case first =>
            by_cases c1 : i < m ∧ m < en
            · have hd3 : decide (i < m ∧ m < en) = true := decide_eq_true c1
              have C1 := Lib.hid c1
              clear c1
              go_wp2_with (go_at_fn 27; refine (rotate_z L enc _ blk off cap i m en sz d0 d w0 _ R HS.out HZ.out S1.out C1.out.1 C1.out.2 (by omega) (by omega)).mono ?_; rintro e w1 ⟨rfl, d', S1', hR⟩; have H1 := Lib.hid (And.intro S1' hR); clear S1' hR)
              go_meet
              case rel => exact ⟨rfl, d', H1.out.2.1.trans HZ.out, H1.out.1, .inl ⟨C1.out.1, C1.out.2, H1.out.2⟩⟩
            · have hd3 : decide (i < m ∧ m < en) = false := decide_eq_false c1
              have C1 := Lib.hid c1
              clear c1
              go_wp2
              go_meet
              case rel => exact ⟨rfl, d, HZ.out, S1.out, .inr ⟨C1.out, rfl⟩⟩
          case rest =>
            obtain ⟨rfl, A1⟩ := hcut
            clear S1
            obtain ⟨d1, hz1, S1', k1⟩ := A1.out
            have HZ1 := Lib.hid hz1
            have S1 : Aside (SWK enc k w0 blk off d1 wc) := S1'
            have K1 := Lib.hid k1
            have SRT := Lib.hid (sym_parts SL.out SR.out ⟨q1, q2⟩ HCU.out (by rw [← HEN.out]; exact k1))
            clear hz1 S1' k1 A1
            go_upto_region 41 with fail
            go_cut [199] from 192 to 199 (fun c wx => c = .bool (decide (a < i ∧ i < mid)) ∧ wx = wc)
            case first =>
              by_cases c1 : a < i
              · by_cases c2 : i < mid
                · go_wp2
                  go_meet
                  case rel => exact ⟨congrArg Value.bool (decide_eq_true (p := (a < i ∧ i < mid)) ⟨c1, c2⟩).symm, rfl⟩
                · go_wp2
                  go_meet
                  case rel => exact ⟨congrArg Value.bool (decide_eq_false (p := (a < i ∧ i < mid)) fun h => c2 h.2).symm, rfl⟩
              · go_wp2
                go_meet
                case rel => exact ⟨congrArg Value.bool (decide_eq_false (p := (a < i ∧ i < mid)) fun h => c1 h.1).symm, rfl⟩
            case rest =>
              obtain ⟨rfl, rfl⟩ := hcut
              go_upto_if 199 with fail
              go_cut [20] from 192 to 205 (fun s20 wx => s20 = .int .i64 i ∧ Aside (∃ d2, d2.size = sz ∧ SWK enc k w0 blk off d2 wx ∧ ((a < i ∧ i < mid ∧ SymTo (ltOf cf) a mid d1 d2) ∨ (¬ (a < i ∧ i < mid) ∧ d2 = d1))))
              case first =>
                by_cases c1 : a < i ∧ i < mid
                · have hd3 : decide (a < i ∧ i < mid) = true := decide_eq_true c1
                  have C1 := Lib.hid c1
                  clear c1
                  go_wp2_with (go_at_fn 26; refine (IH.out a i mid d1 _ (by omega) HZ1.out S1.out C1.out.1 C1.out.2 (by omega) SRT.out.1 SRT.out.2.1).mono ?_; rintro e w1 ⟨rfl, d', S1', hR⟩; have H1 := Lib.hid (And.intro S1' hR); clear S1' hR)
                  go_meet
                  case rel => exact ⟨rfl, d', H1.out.2.kept.size.trans HZ1.out, H1.out.1, .inl ⟨C1.out.1, C1.out.2, H1.out.2⟩⟩
                · have hd3 : decide (a < i ∧ i < mid) = false := decide_eq_false c1
                  have C1 := Lib.hid c1
                  clear c1
                  go_wp2
                  go_meet
                  case rel => exact ⟨rfl, d1, HZ1.out, S1.out, .inr ⟨C1.out, rfl⟩⟩
              case rest =>
                obtain ⟨rfl, A2⟩ := hcut
                clear S1
                obtain ⟨d2, hz2, S2', k2⟩ := A2.out
                have HZ2 := Lib.hid hz2
                have S2 : Aside (SWK enc k w0 blk off d2 wc) := S2'
                have K2 := Lib.hid k2
                have SRT2 := Lib.hid (And.intro (sorted_at SRT.out.2.2.1 fun x hx _ => k2_out k2 x hx) (sorted_at SRT.out.2.2.2 fun x hx _ => k2_out k2 x (by have := HEN.out; omega)))
                have hne : en = mid + m - i := HEN.out
                rw [← hne] at SRT2
                clear hz2 S2' k2 A2 hne
                by_cases c1 : mid < en
                · by_cases c2 : en < b
                  · go_wp2_with (go_at_fn 26; refine (IH.out mid en b d2 _ (by omega) HZ2.out S2.out c1 c2 (by omega) SRT2.out.1 SRT2.out.2).mono ?_; rintro e w1 ⟨rfl, d', S1', hR⟩; have H1 := Lib.hid (And.intro S1' hR); clear S1' hR)
                    go_end0
                    exact ⟨rfl, d', H1.out.1, sym_step HO.out ham hmb SL.out SR.out ⟨q3, q4⟩ HCU.out ⟨q1, q2⟩ (by rw [← HEN.out]; exact K1.out) K2.out (.inl (by rw [← HEN.out]; exact ⟨c1, c2, H1.out.2⟩))⟩
                  · go_wp2
                    go_end0
                    exact ⟨rfl, d2, S2.out, sym_step HO.out ham hmb SL.out SR.out ⟨q3, q4⟩ HCU.out ⟨q1, q2⟩ (by rw [← HEN.out]; exact K1.out) K2.out (.inr (by rw [← HEN.out]; exact ⟨fun h => c2 h.2, rfl⟩))⟩
                · go_wp2
                  go_end0
                  exact ⟨rfl, d2, S2.out, sym_step HO.out ham hmb SL.out SR.out ⟨q3, q4⟩ HCU.out ⟨q1, q2⟩ (by rw [← HEN.out]; exact K1.out) K2.out (.inr (by rw [← HEN.out]; exact ⟨fun h => c1 h.1, rfl⟩))⟩
end
end Go.Proofs.Ytehnoekbdmclmaa
