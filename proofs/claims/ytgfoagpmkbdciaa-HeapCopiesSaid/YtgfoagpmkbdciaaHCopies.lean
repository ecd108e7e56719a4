/-
  The walk of the law HeapCopies.
-/
import Derived.Test.YtgfoagpmkbdciaaHSame2
namespace Go.Proofs.Ytgfoagpmkbdciaa
open Go Go.Shelf Go.RowKit Go.Lib Go.Sort Go.Proofs HpM

/-- do, by the first pair, by the second one -/
def FourL (w : World) (G R G2 R2 : Nat) (L M : List It) (e : Ending) (W' : World) : Prop := e = .returned (.bool true) ∧ ∃ L2, L2.length ≤ L.length + 1 ∧ Four w W' G R G2 R2 L2 M
def FourR (w : World) (G R G2 R2 : Nat) (L M : List It) (e : Ending) (W' : World) : Prop := e = .returned (.bool true) ∧ ∃ M2, M2.length ≤ M.length + 1 ∧ Four w W' G R G2 R2 L M2
theorem four_do (hput : RPutNew) {w W : World} {G R G2 R2 : Nat} {L M : List It} (h : Four w W G R G2 R2 L M) (hl : L.length ≤ 1000) (k : Int) (x : It) (m : Int) : Calls Try.prog 9 #[.pointer (some ⟨G, 0, none⟩), .pointer (some ⟨R, 0, none⟩), ActV k x m] W (FourL w G R G2 R2 L M) :=
  h.l fun T hT => do_any hput T W W G R L hT hl k x m
theorem four_do2 (hput : RPutNew) {w W : World} {G R G2 R2 : Nat} {L M : List It} (h : Four w W G R G2 R2 L M) (hl : M.length ≤ 1000) (k : Int) (x : It) (m : Int) : Calls Try.prog 9 #[.pointer (some ⟨G2, 0, none⟩), .pointer (some ⟨R2, 0, none⟩), ActV k x m] W (FourR w G R G2 R2 L M) :=
  h.r fun T hT => do_any hput T W W G2 R2 M hT hl k x m
set_option maxHeartbeats 4000000 in
set_option maxRecDepth 100000 in
theorem copies_law (hput : RPutNew) (W : World) (a b d : Option Addr) (n m q c e f : Nat) (l r s : List Ac) (hln : l.length = n) (hrm : r.length = m) (hsq : s.length = q) (hl : n ≤ 1000000 → AcAt W a n l) (hr : m ≤ 1000000 → AcAt W b m r) (hs : q ≤ 1000000 → AcAt W d q s) (hn : n ≤ maxLen) (hm : m ≤ maxLen) (hq : q ≤ maxLen) :
    Calls Try.prog 4 #[.slice a n c, .slice b m e, .slice d q f] W (fun e w' => e = .returned (.bool true) ∧ Below W.heap.size W w') := by
  have mixed : Try.prog.follows .mixedOrders = true := by kernel_rfl
  have hn' : n ≤ 9223372036854775807 := hn
  have hm' : m ≤ 9223372036854775807 := hm
  have hq' : q ≤ 9223372036854775807 := hq
  clear hn hm hq
  go_enter Try.func4, Try.ntmps4
  go_wp2_with (first
    | (go_at_call 7; refine (known_any _).mono ?_; rintro e w1 ⟨rfl, h1⟩)
    | (go_at_call 8; refine (hp_new _).mono ?_; rintro e w1 ⟨G, rfl, h1, h2, h3⟩; have H1 := Lib.hid (TwoT.new (w := W) (fun b e => e.1) h2 h3); clear h1 h2 h3))
  all_goals first
    | (go_ret; exact ⟨rfl, h1⟩)
    | skip
  have hA := hl (by omega)
  have hB := hr (by omega)
  have hC := hs (by omega)
  have hn1 : n ≤ 40 := by omega
  have hm1 : m ≤ 20 := by omega
  have hq1 : q ≤ 20 := by omega
  obtain ⟨R, hR⟩ : ∃ R, R = w1.heap.size := ⟨_, rfl⟩
  rw [← hR] at H1 ⊢
  obtain ⟨w2, hw2⟩ : ∃ w2, w2 = w1.alloc (.cells #[.slice none 0 0] 29) := ⟨_, rfl⟩
  rw [← hw2] at H1 ⊢
  have HA := Lib.hid hA
  have HB := Lib.hid hB
  have HC := Lib.hid hC
  have HN1 := Lib.hid hn1
  have HM1 := Lib.hid hm1
  have HQ1 := Lib.hid hq1
  clear hA hB hC hl hr hs hR hw2 hn1 hm1 hq1 hln hrm hsq
  go_loopg [9] n (fun kx s9 wr => ∃ (i : Nat) (L : List It), s9 = .int .i64 i ∧ i ≤ n ∧ n - i ≤ kx ∧ Aside (TwoT NoB W wr G R L L [] ∧ L.length ≤ i))
  case atStart => exact ⟨0, [], by go_num, Nat.zero_le _, Nat.le_refl _, ⟨H1.out, Nat.le_refl _⟩⟩
  case round =>
    obtain ⟨i, L, rfl, hin, hkx, A⟩ := hrel
    by_cases hlt : i < n
    · have hlz : decide ((i : Int) < (n : Int)) = true := by simpa using hlt
      have hiz : (i : Int) < (n : Int) := by omega
      have hbig : i < 1000000 := by have := HN1.out; omega
      obtain ⟨B, off, rfl, hB, ⟨k, x, mm⟩, hc⟩ := HA.out.cell hlt
      obtain ⟨x0, x1, x2, x3, x4, x5, x6, x7, x8⟩ := (hc.below A.out.1.old hB).nine
      have HLL : Hid (L.length ≤ 40) := by show _ ≤ _; have := A.out.2; have := HN1.out; omega
      clear hc hB
      go_wp2_with (go_at_call 9; refine (do_any hput NoB W wr G R L A.out.1 (by have := HLL.out; omega) k x mm).mono ?_; rintro e w3 ⟨L2, hl2, rfl, h3⟩; have H3 := Lib.hid h3; have H3L := Lib.hid hl2; clear h3 hl2)
      go_roundg (n - (i + 1))
      case measure => omega
      case rel => exact ⟨i + 1, L2, by go_num, by omega, Nat.le_refl _, ⟨H3.out, by have := A.out.2; have := H3L.out; omega⟩⟩
    · have hlz : decide ((i : Int) < (n : Int)) = false := by simp; omega
      have HLL : Hid (L.length ≤ 40) := by show _ ≤ _; have := A.out.2; have := HN1.out; omega
      go_wp2_with (first
        | (go_at_call 13; refine (H5.out.hs2 (by have := HLL.out; omega) true (decide_eq_true rfl).symm).mono ?_; rintro e w6 ⟨rfl, h6⟩; have H6 := Lib.hid h6; clear h6)
        | (go_at_call 13; refine (H4.out.hs (by have := HLL.out; omega) true (decide_eq_true rfl).symm).mono ?_; rintro e w5 ⟨rfl, h5⟩; have H5 := Lib.hid h5; clear h5)
        | (go_at_call 12; refine (four_of H3.out (by have := HLL.out; omega)).mono ?_; rintro e w4 ⟨R2, rfl, h4⟩; have H4 := Lib.hid h4; clear h4)
        | (go_at_call 11; refine (three_of A.out.1 (by have := HLL.out; omega)).mono ?_; rintro e w3 ⟨G2, rfl, h3⟩; have H3 := Lib.hid h3; clear h3))
      obtain ⟨M0, hM0⟩ : ∃ M0, M0 = L := ⟨_, rfl⟩
      have A1 : Hid (Four W w6 G R G2 R2 L M0 ∧ M0.length ≤ 40) := by rw [hM0]; exact ⟨H6.out, HLL.out⟩
      obtain ⟨L0, hL0⟩ : ∃ L0, L0 = L := ⟨_, rfl⟩
      have A2 : Hid (Four W w6 G R G2 R2 L0 M0 ∧ M0.length ≤ 40 ∧ L0.length ≤ 40) := by rw [hL0]; exact ⟨A1.out.1, A1.out.2, HLL.out⟩
      clear hM0 hL0 A A1 HLL H3 H4 H5 H6 hlt hlz hkx hin H1 HA HN1
      go_loopg [12] m (fun kx s12 wr => ∃ (i : Nat) (L : List It), s12 = .int .i64 i ∧ i ≤ m ∧ m - i ≤ kx ∧ Aside (Four W wr G R G2 R2 L M0 ∧ L.length ≤ 40 + i))
      case atStart => exact ⟨0, L0, by go_num, Nat.zero_le _, Nat.le_refl _, ⟨A2.out.1, A2.out.2.2⟩⟩
      case round =>
        have HM0 : Hid (M0.length ≤ 40) := A2.out.2.1
        clear A2
        obtain ⟨i, L, rfl, hin, hkx, A⟩ := hrel
        by_cases hlt : i < m
        · have hlz : decide ((i : Int) < (m : Int)) = true := by simpa using hlt
          have hiz : (i : Int) < (m : Int) := by omega
          have hbig : i < 1000000 := by have := HM1.out; omega
          obtain ⟨B, off, rfl, hB, ⟨k, x, mm⟩, hc⟩ := HB.out.cell hlt
          obtain ⟨x0, x1, x2, x3, x4, x5, x6, x7, x8⟩ := (hc.below A.out.1.out hB).nine
          have HLL : Hid (L.length ≤ 1000) := by show _ ≤ _; have := A.out.2; have := HM1.out; omega
          clear hc hB
          go_wp2_with (go_at_call 9; refine (four_do hput A.out.1 HLL.out k x mm).mono ?_; rintro e w3 ⟨rfl, L2, hl2, h3⟩; have H3 := Lib.hid h3; have H3L := Lib.hid hl2; clear h3 hl2)
          go_roundg (m - (i + 1))
          case measure => omega
          case rel => exact ⟨i + 1, L2, by go_num, by omega, Nat.le_refl _, ⟨H3.out, by have := A.out.2; have := H3L.out; omega⟩⟩
        · have hlz : decide ((i : Int) < (m : Int)) = false := by simp; omega
          have HLL : Hid (L.length ≤ 1000) := by show _ ≤ _; have := A.out.2; have := HM1.out; omega
          have A1 : Hid (Four W wr G R G2 R2 L M0) := A.out.1
          go_wp2_with fail
          clear A hlt hlz hkx hin HB HM1
          go_loopg [13] q (fun kx s13 wr => ∃ (i : Nat) (M : List It), s13 = .int .i64 i ∧ i ≤ q ∧ q - i ≤ kx ∧ Aside (Four W wr G R G2 R2 L M ∧ M.length ≤ 40 + i))
          case atStart => exact ⟨0, M0, by go_num, Nat.zero_le _, Nat.le_refl _, ⟨A1.out, HM0.out⟩⟩
          case round =>
            clear A1
            obtain ⟨i, M, rfl, hin, hkx, A⟩ := hrel
            by_cases hlt : i < q
            · have hlz : decide ((i : Int) < (q : Int)) = true := by simpa using hlt
              have hiz : (i : Int) < (q : Int) := by omega
              have hbig : i < 1000000 := by have := HQ1.out; omega
              obtain ⟨B, off, rfl, hB, ⟨k, x, mm⟩, hc⟩ := HC.out.cell hlt
              obtain ⟨x0, x1, x2, x3, x4, x5, x6, x7, x8⟩ := (hc.below A.out.1.out hB).nine
              have HML : Hid (M.length ≤ 1000) := by show _ ≤ _; have := A.out.2; have := HQ1.out; omega
              clear hc hB
              go_wp2_with (go_at_call 9; refine (four_do2 hput A.out.1 HML.out k x mm).mono ?_; rintro e w3 ⟨rfl, M2, hl2, h3⟩; have H3 := Lib.hid h3; have H3L := Lib.hid hl2; clear h3 hl2)
              go_roundg (q - (i + 1))
              case measure => omega
              case rel => exact ⟨i + 1, M2, by go_num, by omega, Nat.le_refl _, ⟨H3.out, by have := A.out.2; have := H3L.out; omega⟩⟩
            · have hlz : decide ((i : Int) < (q : Int)) = false := by simp; omega
              have HML : Hid (M.length ≤ 1000) := by show _ ≤ _; have := A.out.2; have := HQ1.out; omega
              have H8 : Hid (Four W wr G R G2 R2 L M) := A.out.1
              obtain ⟨⟨ra, rn, rc, r0, hr⟩, sa, sn, sc, s0, hs⟩ := H8.out.rows HLL.out HML.out
              have HRS := Lib.hid (And.intro hr hs)
              obtain ⟨t, ht⟩ : ∃ t, t = decide (L = M) := ⟨_, rfl⟩
              have HT := Lib.hid ht
              clear hr hs ht A hkx hin
              have r1 := fun nq os => (gwOf wr nq os).cell r0
              have s1 := fun nq os => (gwOf wr nq os).cell s0
              clear r0 s0
              go_wp2_with fail
              refine wp_region_gw (by kernel_rfl) (by kernel_rfl) ?_
              iterate 10 (refine WQ.step (fun K hK => ?_); go_simp; first | (refine hK _ ?_; clear hK K) | (apply Exists.intro; refine ⟨fun _ => ?_, hK _ ?_⟩; (go_at_call 14; exact rsame_g HRS.out.1 HRS.out.2 t HT.out _ _); clear hK K))
              refine WQ.nil ?_
              intro _ hw'
              obtain ⟨⟨nq, osq⟩, hw''⟩ := hw'
              subst hw''
              have H9 : Hid (Four W (grow (wr.drewN nq) osq) G R G2 R2 L M) := H8.out.below (gwOf wr nq osq).below
              clear r1 s1 hlz hlt
              generalize grow (wr.drewN nq) osq = w9 at H9 ⊢
              cases t
              all_goals
                go_wp2_with (first
                  | (go_at_call 7; refine (known_any _).mono ?_; rintro e w14 ⟨rfl, h14⟩; have H14 := Lib.hid (H13.out.below h14); clear h14)
                  | (go_at_call 13; refine (H12.out.hs2 HML.out _ HT.out).mono ?_; rintro e w13 ⟨rfl, h13⟩; have H13 := Lib.hid h13; clear h13)
                  | (go_at_call 13; refine (H11.out.hs HLL.out _ HT.out).mono ?_; rintro e w12 ⟨rfl, h12⟩; have H12 := Lib.hid h12; clear h12)
                  | (go_at_call 10; refine (H10.out.rs HML.out).mono ?_; rintro e w11 ⟨rfl, h11⟩; have H11 := Lib.hid h11; clear h11)
                  | (go_at_call 10; refine (H9.out.ls HLL.out).mono ?_; rintro e w10 ⟨rfl, h10⟩; have H10 := Lib.hid h10; clear h10))
                go_ret
                exact ⟨rfl, H14.out.out⟩
end Go.Proofs.Ytgfoagpmkbdciaa
