/-
  The walk of the law OutboxParts.
-/
import Derived.Test.YtfchfhkhflghbaaOFew
import Derived.Test.YtfchfhkhflghbaaOKnown
import Derived.Deep.LoopGhost
import Derived.Laws.Concat
namespace Go.Proofs.Ytfchfhkhflghbaa
open Go Go.RowKit Go.Lib Go.Sort Go.Proofs

theorem cutT_all : ∀ (L : List By), cutT L.flatten.length L = []
  | [] => by simp [cutT]
  | t :: ts => by
    have h := cutT_all ts
    unfold cutT
    rw [List.flatten_cons, List.length_append, if_neg (by omega), Nat.add_sub_cancel_left]
    exact h
theorem strB_size (l : By) : (strB l).size = l.length := by simp [strB, ByteArray.size]
theorem strB_cat (l m : By) : strB l ++ strB m = strB (l ++ m) := by
  apply ByteArray.ext
  rw [ByteArray.data_append]
  simp [strB]
theorem str_add (l m : By) (h : l.length + m.length ≤ 1000000) (W : World) : (Op.stringOp .add (strB l) (strB m)).run Try.prog W = .ok (.string (strB (l ++ m))) W := by
  rw [run_string_add_sum W _ _ (by rw [strB_size, strB_size]; omega), strB_cat]
theorem strB_front (l : By) (n : Nat) : (strB l).extract 0 n = strB (l.take n) := by
  apply ByteArray.ext
  rw [ByteArray.data_extract]
  simp [strB]
theorem run_slice_string_front (W : World) (A : By) (n : Nat) (h : n ≤ A.length) : (Instr.slice 9 (.string (strB A)) none (some (.int .i64 (n : Nat))) none).run Try.prog W = .ok (.string (strB (A.take n))) W := by
  have hu := Try.underlying9
  have hs := strB_size A
  have hf := strB_front A n
  go_simp
section
variable {w W : World} {G : Nat} {x : St} {X : List (Nat × Obj)}
theorem uno_len (h : Uno obT w W G x X) (q : Nat) (hq : q = x.2.1.length) : Calls Try.prog 18 #[.pointer (some ⟨G, 0, none⟩)] W (fun e W' => e = .returned (.int .i64 (q : Nat)) ∧ Uno obT w W' G x X) := by
  subst hq
  obtain ⟨F, hF⟩ := h.at_
  exact (len_any hF).mono fun e W' ⟨he, hg⟩ => ⟨he, h.below hg.below⟩
theorem uno_left (h : Uno obT w W G x X) (q : Nat) (hq : q = x.2.1.flatten.length) : Calls Try.prog 19 #[.pointer (some ⟨G, 0, none⟩)] W (fun e W' => e = .returned (.int .i64 (q : Nat)) ∧ Uno obT w W' G x X) := by
  subst hq
  obtain ⟨F, hF⟩ := h.at_
  exact (left_any hF).mono fun e W' ⟨he, hg⟩ => ⟨he, h.below hg.below⟩
/-- whatever is taken -/
theorem uno_takes (h : Uno obT w W G x X) (hne : ∀ t ∈ x.2.1, t ≠ []) (hs : x.2.2 + x.2.1.flatten.length ≤ 100000) (n : Int) : Calls Try.prog 17 #[.pointer (some ⟨G, 0, none⟩), .int .i64 n] W (fun e W' => ∃ a c, e = .returned (.slice a (x.2.1.flatten.take (min n (x.2.1.flatten.length : Nat)).toNat).length c) ∧ CB.At W' a (x.2.1.flatten.take (min n (x.2.1.flatten.length : Nat)).toNat).length (x.2.1.flatten.take (min n (x.2.1.flatten.length : Nat)).toNat) ∧ Uno obT w W' G (x.1, cutT (min n (x.2.1.flatten.length : Nat)).toNat x.2.1, x.2.2 + (min n (x.2.1.flatten.length : Nat)).toNat) X) := by
  by_cases hk : min n (x.2.1.flatten.length : Nat) ≤ 0
  · have e0 : (min n (x.2.1.flatten.length : Nat)).toNat = 0 := by omega
    rw [e0, cutT_zero _ hne, Nat.add_zero]
    exact (h.l0 fun _ hF => take_none hF n hk).mono fun e W' ⟨he, hu⟩ => ⟨none, 0, he, Cod.At.nil W', hu⟩
  · obtain ⟨K, hK⟩ : ∃ K, K = (min n (x.2.1.flatten.length : Nat)).toNat := ⟨_, rfl⟩
    rw [← hK]
    have hl : (x.2.1.flatten.take K).length = K := by rw [List.length_take]; omega
    refine (uno_take h hne n K (by omega) (by omega) (by omega) _ rfl _ rfl).mono fun e W' ⟨TB, he, hb, hu⟩ => ⟨some ⟨TB, 0, none⟩, K, by rw [hl]; exact he, bo_at hb (by omega), hu⟩
end
set_option maxHeartbeats 4000000 in
set_option maxRecDepth 100000 in
theorem parts_law (W : World) (a : Option Addr) (n c : Nat) (l : List Sl) (hl : l.length = n) (hn : n ≤ maxLen) (hg : ∀ x ∈ l, Good W x) (hp : ∀ m, m ≤ n → m ≤ 1000000 → CS.At W a m (l.take m)) (b : Option Addr) (q d : Nat) (r : List Int) (hr : r.length = q) (hq : q ≤ maxLen) (_hgr : ∀ x : Int, x ∈ r → x ≤ 9223372036854775807) (hpr : ∀ m, m ≤ q → m ≤ 1000000 → CI.At W b m (r.take m)) :
    Calls Try.prog 5 #[.slice a n c, .slice b q d] W (Tells (.bool true) W) := by
  have hn' : n ≤ 9223372036854775807 := hn
  have hq' : q ≤ 9223372036854775807 := hq
  by_cases hbig : n ≤ 30 ∧ q ≤ 60
  case neg =>
    have hcs : decide (30 < (n : Int)) = true ∨ (decide (30 < (n : Int)) = false ∧ decide (60 < (q : Int)) = true) := by
      by_cases h1 : 30 < (n : Int)
      · exact .inl (decide_eq_true h1)
      · refine .inr ⟨decide_eq_false h1, decide_eq_true ?_⟩
        omega
    clear hbig hl hg hp hr hpr hn hq
    rcases hcs with h1 | ⟨h1, h2⟩
    all_goals
      go_enter Try.func5, Try.ntmps5
      go_wp2_with (go_at_call 7; refine (known_any _).mono ?_; rintro e w2 ⟨rfl, h1⟩)
      go_ret
      exact ⟨rfl, h1⟩
  obtain ⟨hn30, hq60⟩ := hbig
  have h1 : decide (30 < (n : Int)) = false := by simp; omega
  have h2 : decide (60 < (q : Int)) = false := by simp; omega
  have hA := hp n (Nat.le_refl _) (by omega)
  rw [List.take_of_length_le (Nat.le_of_eq hl)] at hA
  have hB := hpr q (Nat.le_refl _) (by omega)
  rw [List.take_of_length_le (Nat.le_of_eq hr)] at hB
  have HA := Lib.hid (And.intro hA (And.intro hg hl))
  have HB := Lib.hid (And.intro hB hr)
  clear hA hB hg hp hpr hl hr hn hq
  go_enter Try.func5, Try.ntmps5
  go_wp2_with (go_at_call 8; refine (uno_new (w := W) (Below.refl _ _) 30 (by decide)).mono ?_; rintro e w1 ⟨G, rfl, h1⟩; have H1 := Lib.hid h1; clear h1)
  have HS : Hid (∃ L : List By, L.length ≤ 0 ∧ L.flatten.length ≤ 300 * 0 ∧ (∀ t ∈ L, t ≠ []) ∧ ByteArray.empty = strB L.flatten ∧ Uno obT W w1 G (30, L, 0) []) := ⟨[], Nat.le_refl _, Nat.le_refl _, by simp, rfl, H1.out⟩
  clear H1 h1 h2
  go_loopg [6, 7] n (fun kx s6 s7 wr => ∃ (i : Nat) (s : ByteArray), s6 = .string s ∧ s7 = .int .i64 i ∧ i ≤ n ∧ n - i ≤ kx ∧ Aside (∃ L : List By, L.length ≤ i ∧ L.flatten.length ≤ 300 * i ∧ (∀ t ∈ L, t ≠ []) ∧ s = strB L.flatten ∧ Uno obT W wr G (30, L, 0) []))
  case atStart => exact ⟨0, _, rfl, by go_num, Nat.zero_le _, Nat.le_refl _, HS.out⟩
  case round =>
    obtain ⟨i, sb, rfl, rfl, hin, hkx, A⟩ := hrel
    clear HS
    obtain ⟨L, hL1, hL2, hL3, rfl, hU⟩ := A.out
    have HL := Lib.hid (And.intro hL1 (And.intro hL2 hL3))
    have HU := Lib.hid hU
    clear A hL1 hL2 hL3 hU
    by_cases hlt : i < n
    · have hlz : decide (i < n) = true := by simpa using hlt
      obtain ⟨B, off, rfl, hB, s, hs, hc⟩ := HA.out.1.cell hlt
      have p0 : W.cell? ⟨B, off + i, none⟩ = some (SlV s) := by have := hc 0 (by decide); rw [show CS.k = 1 from rfl, Nat.mul_one] at this; exact this
      have HP : Hid (∀ W', Below W.heap.size W W' → W'.cell? ⟨B, off + i, none⟩ = some (SlV s)) := fun W' hW => (hW.cell (p := ⟨B, off + i, none⟩) hB).trans p0
      have y0 := HP.out _ HU.out.out
      have hgood := HA.out.2.1 s (List.mem_of_getElem? hs)
      obtain ⟨p, bn, bc⟩ := s
      have hib : i < 1000 := by omega
      by_cases hbn : bn ≤ 300
      · have hg1 : decide (300 < (bn : Int)) = false := by simp; omega
        obtain ⟨t, ht1, ht2, ht3, ht4, ht5⟩ := hgood
        simp only at ht1 ht2 ht3 ht4 ht5
        have htA := ht4 (by omega)
        rw [← ht1] at htA
        by_cases hb0 : bn = 0
        · subst hb0
          clear hs hc p0 ht1 ht2 ht3 ht4 ht5 htA hB
          go_wp2_with (go_at_call 16; refine (HU.out.l0 fun _ hF => put_arg _ _).mono ?_; rintro e w3 ⟨rfl, h3⟩; have H3 := Lib.hid h3; clear h3)
          go_roundg (n - (i + 1))
          case measure => omega
          case rel => exact ⟨i + 1, _, rfl, by go_num, by omega, Nat.le_refl _, L, by have := HL.out.1; omega, by have := HL.out.2.1; omega, HL.out.2.2, rfl, H3.out⟩
        · obtain ⟨pp, rfl⟩ : ∃ pp, p = some pp := by
            cases p with
            | none => have := ht5 rfl; omega
            | some pp => exact ⟨pp, rfl⟩
          have ht0 : t ≠ [] := fun e => hb0 (by rw [← ht1, e]; rfl)
          have HT := Lib.hid (And.intro ht1 (And.intro htA (And.intro ht0 hbn)))
          have hst : ∀ W', Below W.heap.size W W' → (convert 30 9 (.slice (some pp) bn bc)).run Try.prog W' = .ok (.string (strB t)) W' := fun W' hW => by rw [← ht1]; exact (htA.below hW).str _
          have HST := Lib.hid hst
          have hadd := fun W' : World => str_add L.flatten t (by have := HL.out.2.1; omega) W'
          clear hs hc p0 ht1 ht2 ht3 ht4 ht5 htA hB hst ht0
          go_wp2_with (go_at_call 16; refine (uno_put HU.out pp bc bn t HT.out.1.symm (HT.out.2.1.below HU.out.out) HT.out.2.2.1 (by have := HL.out.1; show (L.length : Int) < 30; omega) (by have := HL.out.2.1; have := HT.out.1; have := HT.out.2.2.2; show L.flatten.length + t.length ≤ _; omega) (by have := HL.out.1; show L.length + 1 ≤ _; omega)).mono ?_; rintro e w3 ⟨rfl, h3⟩; have H3 := Lib.hid h3; have y1 := HP.out _ h3.out; have hc3 := HST.out _ h3.out; clear h3)
          go_roundg (n - (i + 1))
          case measure => omega
          case rel =>
            refine ⟨i + 1, _, rfl, by go_num, by omega, Nat.le_refl _, L ++ [t], ?_, ?_, ?_, ?_, H3.out⟩
            · have := HL.out.1
              rw [List.length_append, List.length_singleton]
              omega
            · have h1 := HL.out.2.1
              have h2 := HT.out.1
              have h3 := HT.out.2.2.2
              rw [List.flatten_append, List.length_append, List.flatten_singleton]
              omega
            · intro u hu
              rcases List.mem_append.1 hu with hu | hu
              · exact HL.out.2.2 u hu
              · rw [List.mem_singleton.1 hu]; exact HT.out.2.2.1
            · rw [List.flatten_append, List.flatten_singleton]
      · have hg1 : decide (300 < (bn : Int)) = true := by simp; omega
        clear hs hc p0 hgood hB
        go_wp2_with (go_at_call 7; refine (known_any _).mono ?_; rintro e w7 ⟨rfl, h7⟩; have H7 := Lib.hid (HU.out.out.trans (h7.mono HU.out.out.size)); clear h7)
        go_ret
        exact ⟨rfl, H7.out⟩
    · have hlz : decide (i < n) = false := by simpa using hlt
      go_wp2_with fail
      obtain ⟨A, hA⟩ : ∃ A, A = L.flatten := ⟨_, rfl⟩
      rw [← hA]
      have HAL : Hid (A.length ≤ 9000) := by have := HL.out.2.1; rw [hA]; show _ ≤ _; omega
      have HS2 : Hid (∃ (g : By) (L2 : List By), (∀ t ∈ L2, t ≠ []) ∧ g ++ L2.flatten = A ∧ ByteArray.empty = strB g ∧ Uno obT W wr G (30, L2, g.length) []) := ⟨[], L, HL.out.2.2, hA.symm, rfl, HU.out⟩
      obtain ⟨wm, hwm⟩ : ∃ wm, wm = wr := ⟨_, rfl⟩
      rw [← hwm] at HS2 ⊢
      clear HU HL hwm hA hkx hin hlz hlt
      go_loopg [8, 9] q (fun kx s8 s9 wr => ∃ (i : Nat) (s : ByteArray), s8 = .string s ∧ s9 = .int .i64 i ∧ i ≤ q ∧ q - i ≤ kx ∧ Aside (∃ (g : By) (L2 : List By), (∀ t ∈ L2, t ≠ []) ∧ g ++ L2.flatten = A ∧ s = strB g ∧ Uno obT W wr G (30, L2, g.length) []))
      case atStart => exact ⟨0, _, rfl, by go_num, Nat.zero_le _, Nat.le_refl _, HS2.out⟩
      case round =>
        obtain ⟨i, sb, rfl, rfl, hin, hkx, A1⟩ := hrel
        clear HS2
        obtain ⟨g, L2, hL3, hgA, rfl, hU⟩ := A1.out
        have HL := Lib.hid (And.intro hL3 hgA)
        have HU := Lib.hid hU
        have hlen := congrArg List.length hgA
        rw [List.length_append] at hlen
        have HN := Lib.hid hlen
        clear A1 hL3 hU
        by_cases hlt : i < q
        · have hlz : decide (i < q) = true := by simpa using hlt
          obtain ⟨B, off, rfl, hB, v, hv, hc⟩ := HB.out.1.cell hlt
          have p0 : W.cell? ⟨B, off + i, none⟩ = some (.int .i64 v) := by have := hc 0 (by decide); rw [show CI.k = 1 from rfl, Nat.mul_one] at this; exact this
          have y0 := (HU.out.out.cell (p := ⟨B, off + i, none⟩) hB).trans p0
          have hib : i < 1000 := by omega
          obtain ⟨K, hK⟩ : ∃ K, K = (min v (L2.flatten.length : Nat)).toNat := ⟨_, rfl⟩
          obtain ⟨t, ht⟩ : ∃ t, t = L2.flatten.take K := ⟨_, rfl⟩
          have hKl : K ≤ L2.flatten.length := by omega
          have htk : uno_takes HU.out HL.out.1 (by have := HAL.out; show g.length + L2.flatten.length ≤ _; omega) v = uno_takes HU.out HL.out.1 (by have := HAL.out; show g.length + L2.flatten.length ≤ _; omega) v := rfl
          have hcall := uno_takes HU.out HL.out.1 (by have := HAL.out; show g.length + L2.flatten.length ≤ _; omega) v
          simp only at hcall
          rw [← hK, ← ht] at hcall
          have htl : t.length = K := by rw [ht, List.length_take]; omega
          have HC := Lib.hid hcall
          have hadd := fun W' : World => str_add g t (by have := HAL.out; omega) W'
          have HT := Lib.hid (And.intro ht (And.intro htl hKl))
          clear hv hc p0 hB hK ht hKl htk hcall htl hlen hgA
          go_wp2_with (go_at_call 17; refine HC.out.mono ?_; rintro e w3 ⟨a3, c3, rfl, hA3, h3⟩; have H3 := Lib.hid h3; have hc3 := hA3.str c3; clear h3 hA3)
          go_roundg (q - (i + 1))
          case measure => omega
          case rel =>
            refine ⟨i + 1, _, rfl, by go_num, by omega, Nat.le_refl _, g ++ t, cutT K L2, cutT_ne _ _ HL.out.1, ?_, rfl, ?_⟩
            · rw [List.append_assoc, cutT_flat, HT.out.1, List.take_append_drop]
              exact HL.out.2
            · rw [List.length_append, HT.out.2.1]
              exact H3.out
        · have hlz : decide (i < q) = false := by simpa using hlt
          obtain ⟨K, hK⟩ : ∃ K, K = L2.flatten.length := ⟨_, rfl⟩
          have hmin : (min (1099511627776 : Int) (L2.flatten.length : Nat)).toNat = K := by have := HAL.out; omega
          have hcall := uno_takes HU.out HL.out.1 (by have := HAL.out; show g.length + L2.flatten.length ≤ _; omega) 1099511627776
          simp only at hcall
          rw [hmin, List.take_of_length_le (Nat.le_of_eq hK.symm), hK, cutT_all] at hcall
          obtain ⟨t, ht⟩ : ∃ t, t = L2.flatten := ⟨_, rfl⟩
          rw [← ht] at hcall
          have HC := Lib.hid hcall
          have hadd : ∀ W' : World, (Op.stringOp .add (strB g) (strB t)).run Try.prog W' = .ok (.string (strB A)) W' := fun W' => by
            rw [str_add g t (by rw [ht]; have := HAL.out; omega) W', ht, hgA]
          have hga : g = A.take g.length := by rw [← hgA, List.take_left]
          have hsz1 := strB_size g
          have hsz2 := strB_size A
          have hgl : g.length ≤ A.length := by omega
          have hd1 : decide ((A.length : Int) < (g.length : Int)) = false := by simp; omega
          have hd2 : decide (A.length < g.length) = false := by simp; omega
          have hsl : ∀ W' : World, (Instr.slice 9 (.string (strB A)) none (some (.int .i64 (g.length : Nat))) none).run Try.prog W' = .ok (.string (strB g)) W' := fun W' => by
            have := run_slice_string_front W' A g.length hgl
            rw [← hga] at this
            exact this
          have hbn : ((strB g).toList != (strB g).toList) = false := by rw [bne, strB_beq]; simp
          have hbe : ((strB A).toList == (strB A).toList) = true := by rw [strB_beq]; simp
          clear hK hmin hcall ht hga hlen hgA
          go_wp2_with (first
            | (go_at_call 7; refine (known_any _).mono ?_; rintro e w9 ⟨rfl, h9⟩; have H9 := Lib.hid (H6.out.out.trans (h9.mono H6.out.out.size)); clear h9)
            | (go_at_call 20; refine (uno_room H5.out 30 rfl).mono ?_; rintro e w6 ⟨rfl, h6, _⟩; have H6 := Lib.hid h6; clear h6)
            | (go_at_call 19; refine (uno_left H4.out 0 rfl).mono ?_; rintro e w5 ⟨rfl, h5⟩; have H5 := Lib.hid h5; clear h5)
            | (go_at_call 18; refine (uno_len H3.out 0 rfl).mono ?_; rintro e w4 ⟨rfl, h4⟩; have H4 := Lib.hid h4; clear h4)
            | (go_at_call 17; refine HC.out.mono ?_; rintro e w3 ⟨a3, c3, rfl, hA3, h3⟩; have H3 := Lib.hid h3; have hc3 := hA3.str c3; clear h3 hA3))
          go_ret
          exact ⟨rfl, H9.out⟩
end Go.Proofs.Ytfchfhkhflghbaa
