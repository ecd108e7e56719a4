/-
  The walk of the law OrderSorts.
-/
import Derived.Test.YtehnoekbdmclmaaOSorts
namespace Go.Proofs.Ytehnoekbdmclmaa
open Go Go.RowKit Go.Sort Go.Proofs

/-- where the sorted row lies -/
def SAt (w1 w5 : World) (a : Option Addr) (n : Nat) (S : List Ev) : Prop := n = 0 ∨ ∃ G o, a = some ⟨G, o, none⟩ ∧ o = 0 ∧ w1.heap.size ≤ G ∧ G < w5.heap.size ∧ SRow w5 G S
/-- how far the law's loop has come -/
def LoopSt (w1 w5 wr : World) (a : Option Addr) (n k : Nat) (S : List Ev) (K : List Ky) (v : Value) (t : Bool) : Prop :=
  Below w1.heap.size w1 wr ∧ w5.heap.size ≤ wr.heap.size ∧ (n = 0 ∨ ∃ G o, a = some ⟨G, o, none⟩ ∧ o = 0 ∧ w1.heap.size ≤ G ∧ G < w5.heap.size ∧ SRow wr G S) ∧ KyOwn w5.heap.size wr v (K.take k) ∧ rz K k = t
theorem same_is {w : World} {a b : Option Addr} {n c d : Nat} {l : List Ev} (hl : EvAt w a n l) (hr : EvAt w b n l) : Calls Try.prog 16 #[.slice a n c, .slice b n d] w (TellsBB true w) := by
  have := same_any w a b n n c d l l hl hr
  rwa [decide_eq_true rfl] at this
theorem sorted_is {w : World} {a : Option Addr} {n c : Nat} (l : List Ev) (hl : EvAt w a n l) : Calls Try.prog 15 #[.slice a n c] w (EvTo (evSort l) w) := sorted_any w a n c l hl
theorem rz_first (K : List Ky) : rz K 1 = true := rz_one K

set_option maxHeartbeats 8000000 in
set_option maxRecDepth 100000 in
theorem sorts_in (w : World) (a : Option Addr) (n c : Nat) (l : List Ev) (hl : EvAt w a n l) (hn : n ≤ 100) : Calls Try.prog 5 #[.slice a n c] w (TellsBB true w) := by
  obtain ⟨i0, hi, hz0, hz1, hz2⟩ := info_parts infoK
  obtain ⟨v1, w1, hap, ho1, hb1⟩ := ev_copy w a n c l hl 33
  obtain ⟨a1, c1, rfl, _, hat1⟩ := ho1.at (by rw [hl.1]; omega)
  rw [hl.1] at hap hat1
  have hsl : (evSort l).length = n := by rw [sorted_len, hl.1]
  obtain ⟨S, hS⟩ : ∃ S, S = evSort l := ⟨_, rfl⟩
  rw [← hS] at hsl
  have HL := Lib.hid hl
  have HAP := Lib.hid hap
  have HB1 := Lib.hid hb1
  have HA1 := Lib.hid hat1
  have HSL := Lib.hid hsl
  have HS := Lib.hid hS
  clear hl hap hb1 hat1 ho1 hsl hS
  go_enter Try.func5, Try.ntmps5
  go_wp2_with (first
    | (at_builtin; refine wpList_run_append rfl _ _ 33 _ _ _ rfl rfl rfl HAP.out ?_)
    | (go_at_call 15; refine (sorted_is l HA1.out).mono ?_; rintro e w2 ⟨v2, rfl, ho2, hb2⟩; rw [← HS.out] at ho2; refine Hid.out ?_))
  obtain ⟨a2, c2, rfl, _, hat2⟩ := ho2.at (by rw [HSL.out]; omega)
  have HO2 := Lib.hid ho2
  rw [HSL.out] at hat2 ⊢
  have HA2 := Lib.hid hat2
  have HB2 := Lib.hid hb2
  clear ho2 hat2 hb2
  refine Lib.hid ?_
  go_wp2_with (go_at_call 17; refine (rsorted_any _ _ _ _ l ((HL.out.below HB1.out).below HB2.out) (by omega)).mono ?_; rintro e w3 ⟨v3, rfl, ho3, hb3⟩; rw [← HS.out] at ho3; refine Hid.out ?_)
  obtain ⟨a3, c3, rfl, _, hat3⟩ := ho3.at (by rw [HSL.out]; omega)
  rw [HSL.out] at hat3 ⊢
  have HA3 := Lib.hid hat3
  have HB3 := Lib.hid hb3
  clear ho3 hat3 hb3
  refine Lib.hid ?_
  go_wp2_with (go_at_call 16; ((with_reducible refine (same_is (HA2.out.below HB3.out) HA3.out).mono ?_)); rintro e w4 ⟨rfl, hb4⟩; have HB4 := Lib.hid hb4; clear hb4; refine Hid.out ?_)
  have HA14 := Lib.hid (((HA1.out.below HB2.out).below HB3.out).below HB4.out)
  have HL4 := Lib.hid ((((HL.out.below HB1.out).below HB2.out).below HB3.out).below HB4.out)
  refine Lib.hid ?_
  go_wp2_with (go_at_call 16; ((with_reducible refine (same_is HA14.out HL4.out).mono ?_)); rintro e w5 ⟨rfl, hb5⟩; have HB5 := Lib.hid hb5; clear hb5; refine Hid.out ?_)
  have HBW : Hid (Below w1.heap.size w1 w5) := ((HB2.out.trans (HB3.out.mono HB2.out.size)).trans (HB4.out.mono (HB2.out.trans (HB3.out.mono HB2.out.size)).size)).trans (HB5.out.mono ((HB2.out.trans (HB3.out.mono HB2.out.size)).trans (HB4.out.mono (HB2.out.trans (HB3.out.mono HB2.out.size)).size)).size)
  have HSA : Hid (SAt w1 w5 a2 n S) := by
    have ho5 : EvOwn w1.heap.size w5 (.slice a2 S.length c2) S := ((HO2.out.next HB3.out).next HB4.out).next HB5.out
    obtain ⟨h1, ⟨_, hn0⟩ | ⟨G, cap, cur, e, hG, hh, r⟩⟩ := id ho5
    · exact .inl (by rw [← HSL.out]; exact hn0)
    · cases e
      exact .inr ⟨G, 0, rfl, rfl, hG, heap_lt' hh, SRow.of ho5⟩
  obtain ⟨K, hK⟩ : ∃ K, K = S.map (·.1) := ⟨_, rfl⟩
  have HK := Lib.hid hK
  clear hK
  clear HAP HO2 HA2 HA3 HB2 HB3 HB4 HB5
  refine Lib.hid ?_
  go_wp2
  go_loopg [5, 6, 7] n (fun kx s5 s6 s7 wr => ∃ (k : Nat) (v : Value) (t : Bool), v = s5 ∧ s6 = .bool t ∧ s7 = .int .i64 k ∧ k ≤ n ∧ n - k ≤ kx ∧ LoopSt w1 w5 wr a2 n k S K v t)
  case atStart => exact ⟨0, .slice none 0 0, true, rfl, rfl, rfl, Nat.zero_le _, Nat.le_refl _, ⟨HBW.out, Nat.le_refl _, HSA.out, World.ownsRow_nil _ _ _ _, rz_zero _⟩⟩
  case round =>
    obtain ⟨k, v, t, rfl, rfl, rfl, hk, hkx, hst⟩ := hrel
    have A := Lib.hid hst
    clear hst
    by_cases hlt : k < n
    · obtain ⟨G, o, rfl, ho, hG1, hG5, hsr⟩ := A.out.2.2.1.resolve_left (by omega)
      have HOF := Lib.hid ho
      have HSR := Lib.hid hsr
      have hkS : k < S.length := by rw [HSL.out]; exact hlt
      obtain ⟨⟨⟨x0, x1, x2⟩, x3, x4, x5⟩, hx⟩ : ∃ x, S[k]? = some x := ⟨_, List.getElem?_eq_getElem hkS⟩
      have HX := Lib.hid hx
      have hKk : K[k]? = some (x0, x1, x2) := by rw [HK.out, List.getElem?_map, hx]; rfl
      have HKT : Hid (K.take (k + 1) = K.take k ++ [(x0, x1, x2)]) := by
        show _ = _
        rw [List.take_add_one, hKk]
        rfl
      have hKD : K.getD k (0, 0, 0) = (x0, x1, x2) := by simp [List.getD, hKk]
      have HKD := Lib.hid hKD
      have hzr : w5.heap.size ≤ wr.heap.size := A.out.2.1
      have hkl : (K.take k).length ≤ 100 := by rw [List.length_take]; omega
      have HTL : Hid ((K.take k).length = k) := by
        show _ = _
        rw [List.length_take, HK.out, List.length_map, HSL.out]
        omega
      obtain ⟨c0, c1, c2, ⟨dd, c5⟩, cf⟩ := hsr.cell ho hx
      have hp5 : w5.heap.size ≤ (wr.alloc (.cells (encK (x0, x1, x2)).toArray 23)).heap.size := by simp; omega
      clear ho hsr hx hkS hKk hKD
      go_wp2_with (first
        | (at_builtin; refine wpList_append_own _ rfl _ _ 37 rfl w5.heap.size 23 i0 _ 3 24 Try.underlying37 hi hz0 hz1 hz2 rfl (by decide) _ _ _ rfl (World.ownsRow.alloc A.out.2.2.2.1 _) ⟨_, 0, none⟩ 1 1 (encK (x0, x1, x2)) rfl rfl (ky_news _ (x0, x1, x2)) (encK_one _) (by unfold maxLen; omega) (by omega) (by simp; omega) ?_; intro v2 w2 hown hgrow _; refine Hid.out ?_))
      have hGr : G < wr.heap.size := Nat.lt_of_lt_of_le hG5 hzr
      have hblk : w2.heap[G]? = wr.heap[G]? := by
        rw [hgrow.block G (by simp; omega) (fun e => ?_)]
        · exact heap_alloc_old _ _ hGr
        · have := (World.ownsRow.lt A.out.2.2.2.1 G e.symm).1
          omega
      have HS2 : Hid (SRow w2 G S) := HSR.out.keep hblk
      have HK2 : Hid (KyOwn w5.heap.size w2 v2 (K.take k ++ [(x0, x1, x2)])) := KyOwn.of hown (by simp) (kyCells_snoc _ _)
      have hw15 : w1.heap.size ≤ w5.heap.size := HBW.out.size
      have HBW2 : Hid (Below w1.heap.size w1 w2) := (A.out.1.alloc (by omega) _).grown hgrow (by simp; omega) (fun k' hk' => Nat.le_trans hw15 (World.ownsRow.lt A.out.2.2.2.1 k' hk').1)
      have hz2 : w5.heap.size ≤ w2.heap.size := Nat.le_trans (by simp; omega) hgrow.size
      have HGL : Hid (G < w2.heap.size) := Nat.lt_of_lt_of_le hG5 hz2
      clear c0 c1 c2 c5 cf hown hgrow hblk hp5
      have q0 := fun p : InB w2 => ((HS2.out.keep (p.h.block _ HGL.out)).cell HOF.out HX.out).1
      have q1 := fun p : InB w2 => ((HS2.out.keep (p.h.block _ HGL.out)).cell HOF.out HX.out).2.1
      have q2 := fun p : InB w2 => ((HS2.out.keep (p.h.block _ HGL.out)).cell HOF.out HX.out).2.2.1
      rcases t with _ | _
      · have HRZ : Hid (rz K (k + 1) = false) := by
          show _ = _
          cases k with
          | zero => have := A.out.2.2.2.2; rw [rz_zero] at this; cases this
          | succ k => rw [rz_succ, A.out.2.2.2.2]; rfl
        refine Lib.hid ?_
        go_wp2_with fail
        refine wp_region_below (by kernel_rfl) (by kernel_rfl) ?_
        repeat (refine WQ.step (fun K hK => ?_); go_simp; first | (refine hK _ ?_; clear hK K) | (apply Exists.intro; refine ⟨fun _ => ?_, hK _ ?_⟩; (fail); clear hK K))
        refine WQ.nil ?_
        intro _ hw'
        obtain ⟨pq, hw''⟩ := hw'
        subst hw''
        have HSP : Hid (SRow pq.w G S) := HS2.out.keep (pq.h.block _ HGL.out)
        have HKP : Hid (KyOwn w5.heap.size pq.w v2 (K.take k ++ [(x0, x1, x2)])) := HK2.out.next pq.h
        have HBP : Hid (Below w1.heap.size w1 pq.w) := HBW2.out.trans (pq.h.mono HBW2.out.size)
        have hzp : w5.heap.size ≤ pq.w.heap.size := Nat.le_trans hz2 pq.h.size
        obtain ⟨c0, c1, c2, ⟨dd, c5⟩, cf⟩ := HSP.out.cell HOF.out HX.out
        go_wp2
        go_roundg (n - (k + 1))
        case measure => omega
        case rel =>
          refine ⟨k + 1, v2, false, rfl, rfl, by go_num, by omega, Nat.le_refl _, ⟨HBP.out.setCell hG1 _, ?_, .inr ⟨G, o, rfl, HOF.out, hG1, hG5, HSP.out.set HOF.out k _⟩, ?_, ?_⟩⟩
          · simpa using hzp
          · rw [HKT.out]
            exact HKP.out.set hG5 _ _
          · exact HRZ.out
      · by_cases hk0 : k = 0
        · have hd : ((k : Int) == 0) = true := by simp [hk0]
          have HRZ : Hid (rz K (k + 1) = true) := by show _ = _; rw [hk0]; exact rz_one _
          clear hk0
          refine Lib.hid ?_
          go_wp2_with fail
          refine wp_region_below (by kernel_rfl) (by kernel_rfl) ?_
          repeat (refine WQ.step (fun K hK => ?_); go_simp; first | (refine hK _ ?_; clear hK K) | (apply Exists.intro; refine ⟨fun _ => ?_, hK _ ?_⟩; (fail); clear hK K))
          refine WQ.nil ?_
          intro _ hw'
          obtain ⟨pq, hw''⟩ := hw'
          subst hw''
          have HSP : Hid (SRow pq.w G S) := HS2.out.keep (pq.h.block _ HGL.out)
          have HKP : Hid (KyOwn w5.heap.size pq.w v2 (K.take k ++ [(x0, x1, x2)])) := HK2.out.next pq.h
          have HBP : Hid (Below w1.heap.size w1 pq.w) := HBW2.out.trans (pq.h.mono HBW2.out.size)
          have hzp : w5.heap.size ≤ pq.w.heap.size := Nat.le_trans hz2 pq.h.size
          obtain ⟨c0, c1, c2, ⟨dd, c5⟩, cf⟩ := HSP.out.cell HOF.out HX.out
          go_wp2
          go_roundg (n - (k + 1))
          case measure => omega
          case rel =>
            refine ⟨k + 1, v2, true, rfl, rfl, by go_num, by omega, Nat.le_refl _, ⟨HBP.out.setCell hG1 _, ?_, .inr ⟨G, o, rfl, HOF.out, hG1, hG5, HSP.out.set HOF.out k _⟩, ?_, ?_⟩⟩
            · simpa using hzp
            · rw [HKT.out]
              exact HKP.out.set hG5 _ _
            · exact HRZ.out
        · have hd : ((k : Int) == 0) = false := by simp; omega
          obtain ⟨kp, hkp⟩ : ∃ kp, k = kp + 1 := ⟨k - 1, by omega⟩
          have hw1 : IntKind.i64.wrap ((k : Int) - 1) = (kp : Int) := by rw [IntKind.wrap_i64]; omega
          have hkps : kp < S.length := by rw [HSL.out]; omega
          have hkpn : (kp : Int) < (n : Int) := by omega
          have hkp0 : (0 : Int) ≤ (kp : Int) := by omega
          obtain ⟨⟨⟨y0, y1, y2⟩, y3, y4, y5⟩, hy⟩ : ∃ y, S[kp]? = some y := ⟨_, List.getElem?_eq_getElem hkps⟩
          have HY := Lib.hid hy
          have HYD : Hid (K.getD kp (0, 0, 0) = (y0, y1, y2)) := by show _ = _; rw [HK.out]; simp [List.getD, hy]
          have r0 := fun p : InB w2 => ((HS2.out.keep (p.h.block _ HGL.out)).cell HOF.out HY.out).1
          have r1 := fun p : InB w2 => ((HS2.out.keep (p.h.block _ HGL.out)).cell HOF.out HY.out).2.1
          have r2 := fun p : InB w2 => ((HS2.out.keep (p.h.block _ HGL.out)).cell HOF.out HY.out).2.2.1
          obtain ⟨t2, ht2⟩ : ∃ t2, t2 = kLt (y0, y1, y2) (x0, x1, x2) := ⟨_, rfl⟩
          have HT2 := Lib.hid ht2
          have HRZ : Hid (rz K (k + 1) = t2) := by
            show _ = _
            have h1 := A.out.2.2.2.2
            have h2 := HKD.out
            rw [hkp] at h1 h2
            rw [hkp, rz_succ, h1, HYD.out, h2, ← ht2]
            rfl
          clear hk0 hkp hy ht2
          rcases t2 with _ | _
          all_goals
            refine Lib.hid ?_
            go_wp2_with fail
            refine wp_region_below (by kernel_rfl) (by kernel_rfl) ?_
            repeat (refine WQ.step (fun K hK => ?_); go_simp; first | (refine hK _ ?_; clear hK K) | (apply Exists.intro; refine ⟨fun _ => ?_, hK _ ?_⟩; (first | (go_at_call 7; exact inb_b (rless_is HT2.out.symm _))); clear hK K))
            refine WQ.nil ?_
            intro _ hw'
            obtain ⟨pq, hw''⟩ := hw'
            subst hw''
            have HSP : Hid (SRow pq.w G S) := HS2.out.keep (pq.h.block _ HGL.out)
            have HKP : Hid (KyOwn w5.heap.size pq.w v2 (K.take k ++ [(x0, x1, x2)])) := HK2.out.next pq.h
            have HBP : Hid (Below w1.heap.size w1 pq.w) := HBW2.out.trans (pq.h.mono HBW2.out.size)
            have hzp : w5.heap.size ≤ pq.w.heap.size := Nat.le_trans hz2 pq.h.size
            obtain ⟨c0, c1, c2, ⟨dd, c5⟩, cf⟩ := HSP.out.cell HOF.out HX.out
            go_wp2
            go_roundg (n - (k + 1))
            case measure => omega
            case rel =>
              refine ⟨k + 1, v2, _, rfl, rfl, by go_num, by omega, Nat.le_refl _, ⟨HBP.out.setCell hG1 _, ?_, .inr ⟨G, o, rfl, HOF.out, hG1, hG5, HSP.out.set HOF.out k _⟩, ?_, ?_⟩⟩
              · simpa using hzp
              · rw [HKT.out]
                exact HKP.out.set hG5 _ _
              · exact HRZ.out
    · have hkn : k = n := by omega
      have HKT : Hid (K.take k = K ∧ K.length = n) := by
        have hkl : K.length = n := by rw [HK.out, List.length_map, HSL.out]
        exact ⟨List.take_of_length_le (by omega), hkl⟩
      have hown := A.out.2.2.2.1
      rw [HKT.out.1] at hown
      obtain ⟨ak, ck, rfl, hat⟩ := hown.at
      rw [HKT.out.2] at hat ⊢
      have HAT := Lib.hid hat
      have HRZ : Hid (rz K n = t) := by rw [← hkn]; exact A.out.2.2.2.2
      have HEL : Hid (EvAt wr a1 n l ∧ EvAt wr a n l) := ⟨HA1.out.below A.out.1, (HL.out.below HB1.out).below A.out.1⟩
      have HBR : Hid (Below w.heap.size w wr) := HB1.out.trans (A.out.1.mono HB1.out.size)
      clear hown hat hkn
      rcases t with _ | _
      all_goals
        go_wp2_with (first
          | (go_at_call 18; refine (rising_is HRZ.out HAT.out (by omega)).mono ?_; rintro e w6 ⟨rfl, hb6⟩; have HB6 := Lib.hid hb6; have HBR := Lib.hid (HBR.out.trans (hb6.mono HBR.out.size)); have HEL := Lib.hid (And.intro (HEL.out.1.below hb6) (HEL.out.2.below hb6)); clear hb6)
          | (go_at_call 16; ((with_reducible refine (same_is HEL.out.1 HEL.out.2).mono ?_)); rintro e w7 ⟨rfl, hb7⟩; have HBR := Lib.hid (HBR.out.trans (hb7.mono HBR.out.size)); clear hb7)
          | (go_at_call 11; refine (known_any _).mono ?_; rintro e w8 ⟨rfl, hb8⟩; have HBR := Lib.hid (HBR.out.trans (hb8.mono HBR.out.size)); clear hb8))
        go_ret
        exact ⟨rfl, HBR.out⟩

set_option maxHeartbeats 1000000 in
theorem sorts_out (w : World) (a : Option Addr) (n c : Nat) (hn : 100 < n) : Calls Try.prog 5 #[.slice a n c] w (TellsBB true w) := by
  go_enter Try.func5, Try.ntmps5
  go_wp2_with (go_at_call 11; refine (known_any _).mono ?_; rintro e w1 ⟨rfl, hb⟩; have HB := Lib.hid hb; clear hb)
  go_ret
  exact ⟨rfl, HB.out⟩
theorem sorts_law (w : World) (a : Option Addr) (n c : Nat) (l : List Ev) (hl : n ≤ 1000000 → EvAt w a n l) : Calls Try.prog 5 #[.slice a n c] w (TellsBB true w) := by
  by_cases hn : n ≤ 100
  · exact sorts_in w a n c l (hl (by omega)) hn
  · exact sorts_out w a n c (by omega)
end Go.Proofs.Ytehnoekbdmclmaa
