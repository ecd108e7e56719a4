/-
  The walk of the document's Same.
-/
import Derived.Test.YtfchfhkhflghbaaDTake
import Derived.Test.YtfchfhkhflghbaaDPut
import Derived.Test.YtfchfhkhflghbaaOSame
namespace Go.Proofs.Ytfchfhkhflghbaa
open Go Go.RowKit Go.Lib Go.Sort Go.Proofs

/-- what is left of the stream, as a slice -/
theorem left_slice {w : World} {a : Option Addr} {N c sent : Nat} {B : By} (hA : CB.At w a N B) (hna : a = none → c = 0 ∧ B = []) (hs : sent ≤ N) (hN : N ≤ c) (hN2 : N ≤ 100000) : ∃ s : Sl, (∀ W, (Instr.slice 30 (.slice a N c) (some (.int .i64 (sent : Nat))) none none).run Try.prog W = .ok (SlV s) W) ∧ ∀ W, Below w.heap.size w W → CB.At W s.1 s.2.1 (B.drop sent) := by
  have hl := hA.1
  have hu := Try.underlying30
  cases a with
  | none =>
    obtain ⟨rfl, rfl⟩ := hna rfl
    obtain rfl : N = 0 := hl.symm
    obtain rfl : sent = 0 := by omega
    exact ⟨(none, 0, 0), fun W => by go_simp, fun W _ => Cod.At.nil W⟩
  | some p =>
    obtain ⟨b, off, sp⟩ := p
    by_cases hc : c = sent
    · subst hc
      obtain rfl : N = c := by omega
      refine ⟨(some ⟨b, off, sp⟩, 0, 0), fun W => by go_simp, fun W _ => ⟨by simp; omega, Nat.zero_le _, .inl rfl⟩⟩
    · refine ⟨(some ((⟨b, off, sp⟩ : Addr).add sent), N - sent, c - sent), fun W => by go_simp, fun W hW => ?_⟩
      have := part_at (K := N - sent) (p' := (⟨b, off, sp⟩ : Addr).add sent) (hA.below hW) (by omega) (.inr rfl)
      rw [List.take_of_length_le (by rw [List.length_drop]; omega)] at this
      rw [show N - sent = (B.drop sent).length by rw [List.length_drop]; omega]
      exact this
theorem strB_bne (l m : List UInt8) : ((strB l).toList != (strB m).toList) = !decide (l = m) := by
  rw [bne, strB_beq]
/-- where the texts that wait end -/
def tl (y : Dt) : List Nat := y.2.1.drop (y.2.1.length - rlen y)
def rsame (y z : Dt) : Bool := decide (y.2.2.2 = z.2.2.2) && (decide (y.2.2.1 = z.2.2.1) && (decide (rlen y = rlen z) && (decide (y.1.drop y.2.2.1 = z.1.drop z.2.2.1) && decide (tl y = tl z))))
theorem rlen_le (y : Dt) : rlen y ≤ y.2.1.length := List.length_filter_le _ _
theorem drop_step (E : List Nat) (i : Nat) (hi : 1 ≤ i) (hl : i ≤ E.length) (u : Nat) (hu : E[E.length - i]? = some u) : E.drop (E.length - i) = u :: E.drop (E.length - (i - 1)) := by
  obtain ⟨h, rfl⟩ := List.getElem?_eq_some_iff.1 hu
  rw [List.drop_eq_getElem_cons h, show E.length - i + 1 = E.length - (i - 1) by omega]
set_option maxHeartbeats 1000000 in
set_option maxRecDepth 100000 in
theorem rsame_any {w : World} {R R2 : Nat} {S S2 : Nat → Prop} {y z : Dt} (h : Rf w R S y) (k : Rf w R2 S2 z) : Calls Try.prog 15 #[.pointer (some ⟨R, 0, none⟩), .pointer (some ⟨R2, 0, none⟩)] w (GwV (.bool (rsame y z)) w) := by
  have mixed : Try.prog.follows .mixedOrders = true := by kernel_rfl
  have H := Lib.hid h
  have K0 := Lib.hid k
  have hq1 := rlen_le y
  have hq2 := rlen_le z
  obtain ⟨q, hq⟩ : ∃ q, q = rlen y := ⟨_, rfl⟩
  obtain ⟨q2, hq'⟩ : ∃ q2, q2 = rlen z := ⟨_, rfl⟩
  obtain ⟨t, ht⟩ : ∃ t, t = rsame y z := ⟨_, rfl⟩
  rw [← ht]
  unfold rsame tl at ht
  rw [← hq, ← hq'] at ht
  rw [← hq] at hq1
  rw [← hq'] at hq2
  have HQ := Lib.hid hq
  have HQ2 := Lib.hid hq'
  have HL : Hid (∀ W, Below w.heap.size w W → Calls Try.prog 23 #[.pointer (some ⟨R, 0, none⟩)] W (GwV (.int .i64 (q : Nat)) W)) := fun W hW => rlen_n (H.out.below hW) q HQ.out
  have HL1 : Hid (∀ nq os, Calls Try.prog 23 #[.pointer (some ⟨R, 0, none⟩)] (grow (w.drewN nq) os) (fun e w'' => e = .returned (.int .i64 (q : Nat)) ∧ ∃ p : GrownBy, w'' = grow (w.drewN p.n) p.os)) := fun nq os => rlen_g H.out q HQ.out nq os
  have HL2 : Hid (∀ nq os, Calls Try.prog 23 #[.pointer (some ⟨R2, 0, none⟩)] (grow (w.drewN nq) os) (fun e w'' => e = .returned (.int .i64 (q2 : Nat)) ∧ ∃ p : GrownBy, w'' = grow (w.drewN p.n) p.os)) := fun nq os => rlen_g K0.out q2 HQ2.out nq os
  obtain ⟨a, c, d, e, hR, hA, hE, _, _, _, _, hna, _, hlc, _, _, _, l1, l2, l3, _⟩ := h
  obtain ⟨a2, c2, d2, ee2, hR2, hA2, hE2, _, _, _, _, hna2, _, hlc2, _, _, _, m1, m2, m3, _⟩ := k
  obtain ⟨Bs, Es, sent, most⟩ := y
  obtain ⟨Bs2, Es2, sent2, most2⟩ := z
  simp only at ht hq1 hq2 hR hA hE hna hlc l1 l2 l3 hR2 hA2 hE2 hna2 hlc2 m1 m2 m3
  obtain ⟨s1, hs1, hsA⟩ := left_slice (sent := sent) hA hna l3 hlc l1
  obtain ⟨s2, hs2, hsA2⟩ := left_slice (sent := sent2) hA2 hna2 m3 hlc2 m1
  obtain ⟨N, hN⟩ : ∃ N, N = Bs.length := ⟨_, rfl⟩
  obtain ⟨N2, hN2⟩ : ∃ N2, N2 = Bs2.length := ⟨_, rfl⟩
  obtain ⟨M, hM⟩ : ∃ M, M = Es.length := ⟨_, rfl⟩
  obtain ⟨M2, hM2⟩ : ∃ M2, M2 = Es2.length := ⟨_, rfl⟩
  rw [← hN] at hs1 hR
  rw [← hN2] at hs2 hR2
  rw [← hM] at hE hR ht hq1 l2
  rw [← hM2] at hE2 hR2 ht hq2 m2
  have hc1 : ∀ nq os, (convert 30 9 (SlV s1)).run Try.prog (grow (w.drewN nq) os) = .ok (.string (strB (Bs.drop sent))) (grow (w.drewN nq) os) := fun nq os => (hsA _ (Gw.of w nq os).below).str _
  have hc2 : ∀ nq os, (convert 30 9 (SlV s2)).run Try.prog (grow (w.drewN nq) os) = .ok (.string (strB (Bs2.drop sent2))) (grow (w.drewN nq) os) := fun nq os => (hsA2 _ (Gw.of w nq os).below).str _
  obtain ⟨x1, hx1⟩ : ∃ x1, x1 = SlV s1 := ⟨_, rfl⟩
  obtain ⟨x2, hx2⟩ : ∃ x2, x2 = SlV s2 := ⟨_, rfl⟩
  rw [← hx1] at hs1 hc1
  rw [← hx2] at hs2 hc2
  have hbn := strB_bne (Bs.drop sent) (Bs2.drop sent2)
  have hf : ∀ W, Below w.heap.size w W → W.heap[R]? = some (RO (.slice a N c) (.slice d M e) sent most) ∧ W.heap[R2]? = some (RO (.slice a2 N2 c2) (.slice d2 M2 ee2) sent2 most2) := fun W hW => ⟨(hW.block _ (heap_lt hR)).trans hR, (hW.block _ (heap_lt hR2)).trans hR2⟩
  have HF := Lib.hid hf
  obtain ⟨b0, b1, b2, b3⟩ := ro_cells hR
  obtain ⟨d0, d1, d2', d3⟩ := ro_cells hR2
  have g0 := fun nq os => (Gw.of w nq os).cell b0
  have g2 := fun nq os => (Gw.of w nq os).cell b2
  have g3 := fun nq os => (Gw.of w nq os).cell b3
  have k0 := fun nq os => (Gw.of w nq os).cell d0
  have k2 := fun nq os => (Gw.of w nq os).cell d2'
  have k3 := fun nq os => (Gw.of w nq os).cell d3
  have HE := Lib.hid (And.intro hE (And.intro hE2 (And.intro hM hM2)))
  have HB := Lib.hid (And.intro hq1 (And.intro hq2 (And.intro l2 m2)))
  have HT := Lib.hid ht
  clear hR hR2 hA hA2 hE hE2 hna hna2 hlc hlc2 l1 l2 l3 m1 m2 m3 hsA hsA2 hN hN2 hM hM2 hx1 hx2 hf b0 b1 b2 b3 d0 d1 d2' d3 hq hq' ht hq1 hq2
  by_cases hall : most = most2 ∧ sent = sent2 ∧ q = q2 ∧ Bs.drop sent = Bs2.drop sent2
  · obtain ⟨E0, E1, E2, E3⟩ := hall
    rw [decide_eq_true E3] at hbn
    have HEE : Hid (t = decide (Es.drop (M - q) = Es2.drop (M2 - q))) := by
      show _ = _
      rw [HT.out, decide_eq_true E0, decide_eq_true E1, decide_eq_true E2, decide_eq_true E3, ← E2]
      rfl
    subst E0 E1 E2
    go_enter Try.func15, Try.ntmps15
    go_wp2_with fail
    refine wp_region_gw mixed (by kernel_rfl) ?_
    iterate 50 (refine WQ.step (fun K hK => ?_); go_simp; first | (refine hK _ ?_; clear hK K) | (apply Exists.intro; refine ⟨fun _ => ?_, hK _ ?_⟩; (first | (go_at_call 23; with_reducible exact HL1.out _ _) | (go_at_call 23; with_reducible exact HL2.out _ _)); clear hK K))
    refine WQ.nil ?_
    intro _ hw'
    obtain ⟨⟨nq, osq⟩, hw''⟩ := hw'
    subst hw''
    have G2 : Hid (Gw w (grow (w.drewN nq) osq)) := Gw.of w nq osq
    clear g0 g2 g3 k0 k2 k3 hc1 hc2 hs1 hs2 hbn
    generalize grow (w.drewN nq) osq = w2 at G2 ⊢
    obtain ⟨w3, hw3⟩ : ∃ w3, w3 = w2 := ⟨_, rfl⟩
    rw [← hw3] at G2 ⊢
    clear hw3
    go_wp2
    go_loopg [5] (q + 1) (fun kx s5 wr => ∃ i : Nat, s5 = .int .i64 i ∧ 1 ≤ i ∧ i ≤ q + 1 ∧ q + 1 - i ≤ kx ∧ Aside (Es.drop (M - (i - 1)) = Es2.drop (M2 - (i - 1)) ∧ Gw w wr))
    case atStart => exact ⟨1, by go_num, Nat.le_refl _, by omega, by omega, by rw [Nat.sub_self, Nat.sub_zero, Nat.sub_zero, HE.out.2.2.1, HE.out.2.2.2, List.drop_length, List.drop_length], G2.out⟩
    case round =>
      obtain ⟨i, rfl, hi1, hi2, hkx, A⟩ := hrel
      have HD := Lib.hid A.out.1
      have HG := Lib.hid A.out.2
      clear A
      have hib : i < 200000 := by have := HB.out; omega
      by_cases hlt : i ≤ q
      · have hle : decide (i ≤ q) = true := by simpa using hlt
        have hiM : i ≤ M := by have := HB.out; omega
        have hiM2 : i ≤ M2 := by have := HB.out; omega
        obtain ⟨B1, o1, rfl, hB1, u, hu, hc1⟩ := HE.out.1.cell (i := M - i) (by omega)
        obtain ⟨B2, o2, rfl, hB2, v, hv, hc2⟩ := HE.out.2.1.cell (i := M2 - i) (by omega)
        have HP0 : Hid (∀ W, Below w.heap.size w W → W.cell? ⟨B1, o1 + (M - i), none⟩ = some (.int .i64 (u : Nat))) := fun W hW => (hW.cell (p := ⟨B1, o1 + (M - i), none⟩) hB1).trans (by have := hc1 0 (by decide); rw [show CN.k = 1 from rfl, Nat.mul_one] at this; exact this)
        have HP1 : Hid (∀ W, Below w.heap.size w W → W.cell? ⟨B2, o2 + (M2 - i), none⟩ = some (.int .i64 (v : Nat))) := fun W hW => (hW.cell (p := ⟨B2, o2 + (M2 - i), none⟩) hB2).trans (by have := hc2 0 (by decide); rw [show CN.k = 1 from rfl, Nat.mul_one] at this; exact this)
        have hw1 : IntKind.i64.wrap ((M : Int) - (i : Int)) = ((M - i : Nat) : Int) := by have := HB.out; rw [IntKind.wrap_i64]; omega
        have hw2 : IntKind.i64.wrap ((M2 : Int) - (i : Int)) = ((M2 - i : Nat) : Int) := by have := HB.out; rw [IntKind.wrap_i64]; omega
        have hj1 : M - i < M := by omega
        have hj2 : M2 - i < M2 := by omega
        have HU := Lib.hid (And.intro hu hv)
        clear hu hv hc1 hc2 hB1 hB2
        by_cases huv : u = v
        · have q1 : ((u : Int) != (v : Int)) = false := by simp; omega
          have q2 : (u != v) = false := by simp; omega
          have HUV := Lib.hid huv
          clear huv
          go_wp2_with (go_at_call 23; ((with_reducible refine (HL.out _ HG.out.below).mono ?_)); rintro e w5 ⟨rfl, h5⟩; have H5 := Lib.hid (HG.out.trans h5); have b1 := (ro_cells (HF.out _ H5.out.below).1).2.1; have d1 := (ro_cells (HF.out _ H5.out.below).2).2.1; have p0 := HP0.out _ H5.out.below; have p1 := HP1.out _ H5.out.below; clear h5)
          go_quiet (fail)
          go_wp2
          go_roundg (q + 1 - (i + 1))
          case measure => omega
          case rel =>
            refine ⟨i + 1, by go_num, by omega, by omega, Nat.le_refl _, ?_, H5.out.trans (Gw.drewN _ _)⟩
            have h1 := drop_step Es i hi1 (by rw [← HE.out.2.2.1]; exact hiM) u (by rw [← HE.out.2.2.1]; exact HU.out.1)
            have h2 := drop_step Es2 i hi1 (by rw [← HE.out.2.2.2]; exact hiM2) v (by rw [← HE.out.2.2.2]; exact HU.out.2)
            rw [← HE.out.2.2.1] at h1
            rw [← HE.out.2.2.2] at h2
            rw [Nat.add_sub_cancel, h1, h2, HD.out, HUV.out]
        · have q1 : ((u : Int) != (v : Int)) = true := by simp; omega
          have q2 : (u != v) = true := by simpa using huv
          have HUV := Lib.hid huv
          clear huv
          go_wp2_with (go_at_call 23; ((with_reducible refine (HL.out _ HG.out.below).mono ?_)); rintro e w5 ⟨rfl, h5⟩; have H5 := Lib.hid (HG.out.trans h5); have b1 := (ro_cells (HF.out _ H5.out.below).1).2.1; have d1 := (ro_cells (HF.out _ H5.out.below).2).2.1; have p0 := HP0.out _ H5.out.below; have p1 := HP1.out _ H5.out.below; clear h5)
          go_quiet (fail)
          go_wp2
          go_ret
          refine ⟨?_, H5.out.trans (Gw.drewN _ _)⟩
          rw [HEE.out, decide_eq_false (fun e => HUV.out ?_)]
          · rfl
          · have hB := HB.out
            have e1 : (Es.drop (M - q))[q - i]? = some u := by rw [List.getElem?_drop, show M - q + (q - i) = M - i by omega]; exact HU.out.1
            have e2 : (Es2.drop (M2 - q))[q - i]? = some v := by rw [List.getElem?_drop, show M2 - q + (q - i) = M2 - i by omega]; exact HU.out.2
            rw [e, e2] at e1
            exact (Option.some.inj e1).symm
      · have hle : decide (i ≤ q) = false := by simpa using hlt
        obtain rfl : i = q + 1 := by omega
        rw [Nat.add_sub_cancel] at HD
        go_wp2_with (go_at_call 23; ((with_reducible refine (HL.out _ HG.out.below).mono ?_)); rintro e w5 ⟨rfl, h5⟩; have H5 := Lib.hid (HG.out.trans h5); clear h5)
        go_ret
        exact ⟨by rw [HEE.out, decide_eq_true HD.out]; rfl, H5.out⟩
  · have hno : decide (most = most2) = false ∨ (decide (most = most2) = true ∧ decide (sent = sent2) = false) ∨ (decide (most = most2) = true ∧ decide (sent = sent2) = true ∧ decide (q = q2) = false) ∨ (decide (most = most2) = true ∧ decide (sent = sent2) = true ∧ decide (q = q2) = true ∧ decide (Bs.drop sent = Bs2.drop sent2) = false) := by
      by_cases h0 : most = most2
      · by_cases h1 : sent = sent2
        · by_cases h2 : q = q2
          · exact .inr (.inr (.inr ⟨decide_eq_true h0, decide_eq_true h1, decide_eq_true h2, decide_eq_false fun e => hall ⟨h0, h1, h2, e⟩⟩))
          · exact .inr (.inr (.inl ⟨decide_eq_true h0, decide_eq_true h1, decide_eq_false h2⟩))
        · exact .inr (.inl ⟨decide_eq_true h0, decide_eq_false h1⟩)
      · exact .inl (decide_eq_false h0)
    clear hall
    rcases hno with E0 | ⟨E0, E1⟩ | ⟨E0, E1, E2⟩ | ⟨E0, E1, E2, E3⟩
    all_goals
      have f0 : (most != most2) = !decide (most = most2) := by by_cases h : most = most2 <;> simp [h]
      have f1 : ((sent : Int) != (sent2 : Int)) = !decide (sent = sent2) := by by_cases h : sent = sent2 <;> simp [h] <;> omega
      have f2 : ((q : Int) != (q2 : Int)) = !decide (q = q2) := by by_cases h : q = q2 <;> simp [h] <;> omega
      have f4 : (sent != sent2) = !decide (sent = sent2) := by by_cases h : sent = sent2 <;> simp [h]
      have f5 : (q != q2) = !decide (q = q2) := by by_cases h : q = q2 <;> simp [h]
      rw [E0] at f0
      try rw [E1] at f1 f4
      try rw [E2] at f2 f5
      have hbe := strB_beq (Bs.drop sent) (Bs2.drop sent2)
      have hbl : (strB (Bs.drop sent)).toList = (strB (Bs2.drop sent2)).toList ↔ Bs.drop sent = Bs2.drop sent2 := by rw [← decide_eq_true_iff (p := Bs.drop sent = Bs2.drop sent2), ← hbe]; simp
      try rw [decide_eq_false (of_decide_eq_false E3)] at hbn hbe
      try simp only [Bool.not_false] at hbn
      first
        | (have hbl2 := hbl.not.2 (of_decide_eq_false E3); clear hbl)
        | clear hbl
      have HEE : Hid (t = (decide (most = most2) && (decide (sent = sent2) && (decide (q = q2) && (decide (Bs.drop sent = Bs2.drop sent2) && decide (Es.drop (M - q) = Es2.drop (M2 - q2))))))) := HT.out
      go_enter Try.func15, Try.ntmps15
      go_wp2_with fail
      refine wp_region_gw mixed (by kernel_rfl) ?_
      iterate 50 (refine WQ.step (fun K hK => ?_); go_simp; first | (refine hK _ ?_; clear hK K) | (apply Exists.intro; refine ⟨fun _ => ?_, hK _ ?_⟩; (first | (go_at_call 23; with_reducible exact HL1.out _ _) | (go_at_call 23; with_reducible exact HL2.out _ _)); clear hK K))
      refine WQ.nil ?_
      intro _ hw'
      obtain ⟨⟨nq, osq⟩, hw''⟩ := hw'
      subst hw''
      have G2 : Hid (Gw w (grow (w.drewN nq) osq)) := Gw.of w nq osq
      clear g0 g2 g3 k0 k2 k3 hc1 hc2 hs1 hs2
      generalize grow (w.drewN nq) osq = w2 at G2 ⊢
      go_wp2
      go_ret
      exact ⟨by rw [HEE.out, E0]; (try rw [E1]); (try rw [E2]); (try rw [E3]); rfl, G2.out⟩
end Go.Proofs.Ytfchfhkhflghbaa
