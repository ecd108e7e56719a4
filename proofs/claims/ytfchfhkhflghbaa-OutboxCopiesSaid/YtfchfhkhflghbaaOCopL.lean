/-
  The walk of the law OutboxCopies, whole.
-/
import Derived.Test.YtfchfhkhflghbaaOCop2
namespace Go.Proofs.Ytfchfhkhflghbaa
open Go Go.RowKit Go.Lib Go.Sort Go.Proofs

set_option maxHeartbeats 16000000 in
set_option maxRecDepth 100000 in
theorem copies_law (W : World) (m : Int) (hm : m ≤ 9223372036854775807) (a b d : Option Addr) (n o q c e f : Nat) (l r s : List Ac) (hl : Acts W a n l) (hr : Acts W b o r) (hs : Acts W d q s) :
    Calls Try.prog 4 #[.int .i64 m, .slice a n c, .slice b o e, .slice d q f] W (Tells (.bool true) W) := by
  have hn' : n ≤ 9223372036854775807 := hl.le
  have ho' : o ≤ 9223372036854775807 := hr.le
  have hq' : q ≤ 9223372036854775807 := hs.le
  have HL := Lib.hid hl
  have HR := Lib.hid hr
  have HS := Lib.hid hs
  have HM := Lib.hid hm
  obtain ⟨t1, ht1⟩ : ∃ t, fewB n l 30 = t := ⟨_, rfl⟩
  obtain ⟨t2, ht2⟩ : ∃ t, fewB o r 20 = t := ⟨_, rfl⟩
  obtain ⟨t3, ht3⟩ : ∃ t, fewB q s 20 = t := ⟨_, rfl⟩
  have hf1 := few_b (c := c) hl 30 (by decide)
  have hf2 := few_b (c := e) hr 20 (by decide)
  have hf3 := few_b (c := f) hs 20 (by decide)
  rw [show ((30 : Nat) : Int) = 30 from rfl, ht1] at hf1
  rw [show ((20 : Nat) : Int) = 20 from rfl, ht2] at hf2
  rw [show ((20 : Nat) : Int) = 20 from rfl, ht3] at hf3
  have HF1 := Lib.hid hf1
  have HF2 := Lib.hid hf2
  have HF3 := Lib.hid hf3
  have HT1 := Lib.hid ht1
  have HT2 := Lib.hid ht2
  have HT3 := Lib.hid ht3
  clear hl hr hs hm hf1 hf2 hf3 ht1 ht2 ht3
  by_cases hall : t1 = true ∧ t2 = true ∧ t3 = true
  case neg =>
    have hno : t1 = false ∨ (t1 = true ∧ t2 = false) ∨ (t1 = true ∧ t2 = true ∧ t3 = false) := by cases t1 <;> cases t2 <;> cases t3 <;> simp_all
    clear hall
    rcases hno with rfl | ⟨rfl, rfl⟩ | ⟨rfl, rfl, rfl⟩
    all_goals
      go_enter Try.func4, Try.ntmps4
      go_wp2_with (first
        | (go_at_call 7; refine (known_any _).mono ?_; rintro e w1 ⟨rfl, h1⟩)
        | (go_at_call 6; ((with_reducible refine HF1.out.mono ?_)); rintro e w1 ⟨rfl, rfl⟩)
        | (go_at_call 6; ((with_reducible refine HF2.out.mono ?_)); rintro e w1 ⟨rfl, rfl⟩)
        | (go_at_call 6; ((with_reducible refine HF3.out.mono ?_)); rintro e w1 ⟨rfl, rfl⟩))
      go_ret
      exact ⟨rfl, h1⟩
  obtain ⟨rfl, rfl, rfl⟩ := hall
  have HN := Lib.hid (And.intro (fewB_yes HT1.out) (And.intro (fewB_yes HT2.out) (fewB_yes HT3.out)))
  go_enter Try.func4, Try.ntmps4
  go_wp2_with (first
    | (go_at_call 9; refine (dd_new H2.out (rnew_any w2 m HM.out)).mono ?_; rintro e w3 ⟨R, rfl, h3⟩; have H3 := Lib.hid h3; clear h3)
    | (go_at_call 8; refine (uno_new (Below.refl _ _) m HM.out).mono ?_; rintro e w2 ⟨G, rfl, h2⟩; have H2 := Lib.hid h2; clear h2)
    | (go_at_call 6; ((with_reducible refine HF1.out.mono ?_)); rintro e w1 ⟨rfl, rfl⟩)
    | (go_at_call 6; ((with_reducible refine HF2.out.mono ?_)); rintro e w1 ⟨rfl, rfl⟩)
    | (go_at_call 6; ((with_reducible refine HF3.out.mono ?_)); rintro e w1 ⟨rfl, rfl⟩))
  go_loopg [11] n (fun kx s11 wr => ∃ i : Nat, s11 = .int .i64 i ∧ i ≤ n ∧ n - i ≤ kx ∧ Aside (∃ x y, Tie (300 * i) x y ∧ Dd NoB NoB w1 wr G R x y []))
  case atStart => exact ⟨0, by go_num, Nat.zero_le _, Nat.le_refl _, _, _, Tie.new _, H3.out⟩
  case round =>
    obtain ⟨i, rfl, hin, hkx, A⟩ := hrel
    obtain ⟨x, y, hti, hD⟩ := A.out
    have HTI := Lib.hid hti
    have HD := Lib.hid hD
    clear A hti hD
    have hn30 : n ≤ 30 := HN.out.1.1
    by_cases hlt : i < n
    · have hlz : decide (i < n) = true := by simpa using hlt
      obtain ⟨B, off, ⟨k, u, v⟩, rfl, hB, hx, x0, x1, x2⟩ := HL.out.cell hlt (by omega)
      have hmem := List.mem_of_getElem? hx
      have HG := Lib.hid (And.intro (HL.out.good _ hmem) (HN.out.1.2 _ hmem))
      have y0 := (HD.out.old.cell (p := ⟨B, off + i * 3, none⟩) hB).trans x0
      have y1 := (HD.out.old.cell (p := ⟨B, off + i * 3 + 1, none⟩) hB).trans x1
      have y2 := (HD.out.old.cell (p := ⟨B, off + i * 3 + 2, none⟩) hB).trans x2
      have hib : i < 1000 := by omega
      have HK : Hid (300 * i + 300 ≤ 100000) := by show _ ≤ _; omega
      clear hB hx hmem x0 x1 x2
      go_wp2_with (go_at_call 10; refine (dd_do HD.out HTI.out HK.out (Below.refl _ _) (fun b e => e.elim) k u HG.out.1 HG.out.2 v).mono ?_; rintro e w5 ⟨rfl, x2, y2, htj, h5⟩; have H5 := Lib.hid h5; have HTJ := Lib.hid htj; clear h5 htj)
      go_roundg (n - (i + 1))
      case measure => omega
      case rel => exact ⟨i + 1, by go_num, by omega, Nat.le_refl _, x2, y2, HTJ.out, H5.out⟩
    · have hlz : decide (i < n) = false := by simpa using hlt
      have HT9 := Lib.hid (HTI.out.mono (show 300 * i ≤ 9000 by omega))
      go_wp2_with (first
        | (go_at_call 14; refine (fr_same2 H5.out true (alike_self _).symm).mono ?_; rintro e w6 ⟨rfl, h6⟩; have H6 := Lib.hid h6; clear h6)
        | (go_at_call 14; refine (fr_same H4.out true (alike_self _).symm).mono ?_; rintro e w5 ⟨rfl, h5⟩; have H5 := Lib.hid h5; clear h5)
        | (go_at_call 13; refine (dd_four H8.out).mono ?_; rintro e w4 ⟨R2, rfl, h4⟩; have H4 := Lib.hid h4; clear h4)
        | (go_at_call 12; refine (dd_three HD.out HT9.out).mono ?_; rintro e w7 ⟨G2, rfl, h8⟩; have H8 := Lib.hid h8; clear h8))
      have A1 : Hid (∃ x1 y1, Tie (9000 + 300 * 0) x1 y1 ∧ Fr w1 w6 G R G2 R2 x1 y1 x y) := ⟨x, y, HT9.out, H6.out⟩
      clear H3 H4 H5 H6 H8 HD HTI hlt hlz hkx hin hn30 HL
      go_loopg [14] o (fun kx s14 wr => ∃ i : Nat, s14 = .int .i64 i ∧ i ≤ o ∧ o - i ≤ kx ∧ Aside (∃ x1 y1, Tie (9000 + 300 * i) x1 y1 ∧ Fr w1 wr G R G2 R2 x1 y1 x y))
      case atStart => exact ⟨0, by go_num, Nat.zero_le _, Nat.le_refl _, A1.out⟩
      case round =>
        clear A1
        obtain ⟨j, rfl, hin, hkx, A⟩ := hrel
        obtain ⟨x1, y1, hti, hD⟩ := A.out
        have HTI := Lib.hid hti
        have HD := Lib.hid hD
        clear A hti hD
        have ho20 : o ≤ 20 := HN.out.2.1.1
        by_cases hlt : j < o
        · have hlz : decide (j < o) = true := by simpa using hlt
          obtain ⟨B, off, ⟨k, u, v⟩, rfl, hB, hx, z0, z1, z2⟩ := HR.out.cell hlt (by omega)
          have hmem := List.mem_of_getElem? hx
          have HG := Lib.hid (And.intro (HR.out.good _ hmem) (HN.out.2.1.2 _ hmem))
          have q0 := (HD.out.out.cell (p := ⟨B, off + j * 3, none⟩) hB).trans z0
          have q1 := (HD.out.out.cell (p := ⟨B, off + j * 3 + 1, none⟩) hB).trans z1
          have q2 := (HD.out.out.cell (p := ⟨B, off + j * 3 + 2, none⟩) hB).trans z2
          have hib : j < 1000 := by omega
          have HK : Hid (9000 + 300 * j + 300 ≤ 100000) := by show _ ≤ _; omega
          clear hB hx hmem z0 z1 z2
          go_wp2_with (go_at_call 10; refine (fr_do HD.out HTI.out HK.out k u HG.out.1 HG.out.2 v).mono ?_; rintro e w8 ⟨rfl, x2, y2, htj, h5⟩; have H5 := Lib.hid h5; have HTJ := Lib.hid htj; clear h5 htj)
          go_roundg (o - (j + 1))
          case measure => omega
          case rel => exact ⟨j + 1, by go_num, by omega, Nat.le_refl _, x2, y2, HTJ.out, H5.out⟩
        · have hlz : decide (j < o) = false := by simpa using hlt
          have HT7 := Lib.hid (HTI.out.mono (show 9000 + 300 * j ≤ 16000 by omega))
          go_wp2_with fail
          obtain ⟨wm, hwm⟩ : ∃ wm, wm = wr := ⟨_, rfl⟩
          rw [← hwm] at HD ⊢
          have A1 : Hid (∃ x2 y2, Tie (9000 + 300 * 0) x2 y2 ∧ Fr w1 wm G R G2 R2 x1 y1 x2 y2) := ⟨x, y, HT9.out, HD.out⟩
          clear HD HTI hlt hlz hkx hin ho20 HR hwm
          go_loopg [15] q (fun kx s15 wr => ∃ i : Nat, s15 = .int .i64 i ∧ i ≤ q ∧ q - i ≤ kx ∧ Aside (∃ x2 y2, Tie (9000 + 300 * i) x2 y2 ∧ Fr w1 wr G R G2 R2 x1 y1 x2 y2))
          case atStart => exact ⟨0, by go_num, Nat.zero_le _, Nat.le_refl _, A1.out⟩
          case round =>
            clear A1
            obtain ⟨h, rfl, hin, hkx, A⟩ := hrel
            obtain ⟨x2, y2, hti, hD⟩ := A.out
            have HTI := Lib.hid hti
            have HD := Lib.hid hD
            clear A hti hD
            have hq20 : q ≤ 20 := HN.out.2.2.1
            by_cases hlt : h < q
            · have hlz : decide (h < q) = true := by simpa using hlt
              obtain ⟨B, off, ⟨k, u, v⟩, rfl, hB, hx, z0, z1, z2⟩ := HS.out.cell hlt (by omega)
              have hmem := List.mem_of_getElem? hx
              have HG := Lib.hid (And.intro (HS.out.good _ hmem) (HN.out.2.2.2 _ hmem))
              have q0 := (HD.out.out.cell (p := ⟨B, off + h * 3, none⟩) hB).trans z0
              have q1 := (HD.out.out.cell (p := ⟨B, off + h * 3 + 1, none⟩) hB).trans z1
              have q2 := (HD.out.out.cell (p := ⟨B, off + h * 3 + 2, none⟩) hB).trans z2
              have hib : h < 1000 := by omega
              have HK : Hid (9000 + 300 * h + 300 ≤ 100000) := by show _ ≤ _; omega
              clear hB hx hmem z0 z1 z2
              go_wp2_with (go_at_call 10; refine (fr_do2 HD.out HTI.out HK.out k u HG.out.1 HG.out.2 v).mono ?_; rintro e w8 ⟨rfl, x3, y3, htj, h5⟩; have H5 := Lib.hid h5; have HTJ := Lib.hid htj; clear h5 htj)
              go_roundg (q - (h + 1))
              case measure => omega
              case rel => exact ⟨h + 1, by go_num, by omega, Nat.le_refl _, x3, y3, HTJ.out, H5.out⟩
            · have hlz : decide (h < q) = false := by simpa using hlt
              obtain ⟨t, ht⟩ : ∃ t, t = alike x1 x2 := ⟨_, rfl⟩
              have HT := Lib.hid ht
              have HTR : Hid (t = rsame y1 y2) := by show _ = _; rw [ht]; exact (rsame_alike HT7.out HTI.out).symm
              clear ht hkx hin hq20
              cases t
              all_goals
                go_wp2_with (first
                  | (go_at_call 7; refine (fr_known K5.out).mono ?_; rintro e v6 ⟨rfl, h14⟩; have K6 := Lib.hid h14; clear h14)
                  | (go_at_call 14; refine (fr_same2 K4.out _ HT.out).mono ?_; rintro e v5 ⟨rfl, h13⟩; have K5 := Lib.hid h13; clear h13)
                  | (go_at_call 14; refine (fr_same K3.out _ HT.out).mono ?_; rintro e v4 ⟨rfl, h12⟩; have K4 := Lib.hid h12; clear h12)
                  | (go_at_call 11; refine (fr_r K2.out HTI.out).mono ?_; rintro e v3 ⟨rfl, h11⟩; have K3 := Lib.hid h11; clear h11)
                  | (go_at_call 11; refine (fr_l K1.out HT7.out).mono ?_; rintro e v2 ⟨rfl, h10⟩; have K2 := Lib.hid h10; clear h10)
                  | (go_at_call 15; refine (fr_rsame HD.out _ HTR.out).mono ?_; rintro e v1 ⟨rfl, h9⟩; have K1 := Lib.hid h9; clear h9))
                go_ret
                exact ⟨rfl, K6.out.out⟩
end Go.Proofs.Ytfchfhkhflghbaa
