/-
  The walk of the law WatchCopies: two watches and the document's two, apart.
-/
import Derived.Test.YtfonbompglddaaaWPlays
import Derived.Test.YtfonbompglddaaaWSame
import Derived.Test.YtfonbompglddaaaDSame
namespace Go.Proofs.Ytfonbompglddaaa
open Go Go.Shelf Go.RowKit Go.Lib Go.Sort Go.Proofs

abbrev Fr (w W : World) (G R G2 R2 : Nat) (x z : List On) : Prop := Four wT rfT w W G R G2 R2 x x z z
theorem dd_three {w W : World} {G R : Nat} {x : List On} (h : Dd NoB w W G R x x []) : Calls Try.prog 11 #[.pointer (some ⟨G, 0, none⟩)] W (fun e W' => ∃ G2, e = .returned (.pointer (some ⟨G2, 0, none⟩)) ∧ Three wT rfT w W' G R G2 x x x) := h.three fun _ hF => copy_any hF
theorem dd_four {w W : World} {G R G2 : Nat} {x : List On} (h : Three wT rfT w W G R G2 x x x) : Calls Try.prog 12 #[.pointer (some ⟨R, 0, none⟩)] W (fun e W' => ∃ R2, e = .returned (.pointer (some ⟨R2, 0, none⟩)) ∧ Fr w W' G R G2 R2 x x) := h.four fun _ hS => rcopy_any hS
section
variable {w W : World} {G R G2 R2 : Nat} {x z : List On}
def FrTo (t : Bool) (w : World) (G R G2 R2 : Nat) (x z : List On) (e : Ending) (W' : World) : Prop := e = .returned (.bool t) ∧ Fr w W' G R G2 R2 x z
theorem fr_same (h : Fr w W G R G2 R2 x z) (t : Bool) (ht : t = decide (x = z)) : Calls Try.prog 13 #[.pointer (some ⟨G, 0, none⟩), .pointer (some ⟨G2, 0, none⟩)] W (FrTo t w G R G2 R2 x z) := by
  subst ht
  obtain ⟨F, hF⟩ := h.fst
  obtain ⟨F2, hF2⟩ := h.turn.fst
  exact (same_any hF hF2).mono fun _ _ ⟨he, hb⟩ => ⟨he, h.below hb⟩
theorem fr_same2 (h : Fr w W G R G2 R2 x z) (t : Bool) (ht : t = decide (x = z)) : Calls Try.prog 13 #[.pointer (some ⟨G2, 0, none⟩), .pointer (some ⟨G, 0, none⟩)] W (FrTo t w G R G2 R2 x z) :=
  (fr_same h.turn t (by rw [ht]; exact decide_eq_decide.2 ⟨fun h => h.symm, fun h => h.symm⟩)).mono fun _ _ ⟨he, hb⟩ => ⟨he, hb.turn⟩
theorem fr_rsame (h : Fr w W G R G2 R2 x z) (t : Bool) (ht : t = decide (x = z)) : Calls Try.prog 14 #[.pointer (some ⟨R, 0, none⟩), .pointer (some ⟨R2, 0, none⟩)] W (FrTo t w G R G2 R2 x z) := by
  subst ht
  obtain ⟨S, hS⟩ := h.snd
  obtain ⟨S2, hS2⟩ := h.turn.snd
  exact (rsame_any hS hS2).mono fun _ _ hg => ⟨hg.tells.1, h.below hg.tells.2⟩
theorem fr_known (h : Fr w W G R G2 R2 x z) : Calls Try.prog 7 #[] W (FrTo true w G R G2 R2 x z) := (known_any W).mono fun _ _ ⟨he, hb⟩ => ⟨he, h.below hb⟩
theorem fr_l (h : Fr w W G R G2 R2 x z) : Calls Try.prog 10 #[.pointer (some ⟨G, 0, none⟩), .pointer (some ⟨R, 0, none⟩), .int .i64 0] W (FrTo true w G R G2 R2 x z) := by
  obtain ⟨F, hF⟩ := h.fst
  obtain ⟨S, hS⟩ := h.snd
  exact (lsame_any hF hS 0).mono fun _ _ ⟨he, hb⟩ => ⟨he, h.below hb⟩
theorem fr_r (h : Fr w W G R G2 R2 x z) : Calls Try.prog 10 #[.pointer (some ⟨G2, 0, none⟩), .pointer (some ⟨R2, 0, none⟩), .int .i64 0] W (FrTo true w G R G2 R2 x z) := (fr_l h.turn).mono fun _ _ ⟨he, hb⟩ => ⟨he, hb.turn⟩
/-- do, by the first pair, by the second one -/
def FrL (w : World) (G R G2 R2 : Nat) (z : List On) (e : Ending) (W' : World) : Prop := e = .returned (.bool true) ∧ ∃ x2 : List On, Fr w W' G R G2 R2 x2 z
def FrR (w : World) (G R G2 R2 : Nat) (x : List On) (e : Ending) (W' : World) : Prop := e = .returned (.bool true) ∧ ∃ z2 : List On, Fr w W' G R G2 R2 x z2
theorem fr_do (h : Fr w W G R G2 R2 x z) (y : On) (hy : y.1 < 4294967296) (ev : Ev) (k : Int) : Calls Try.prog 9 #[.pointer (some ⟨G, 0, none⟩), .pointer (some ⟨R, 0, none⟩), ActV k y ev] W (FrL w G R G2 R2 z) :=
  (h.l (p := fun x2 y2 => x2 = y2) fun T hT => (do_any T W W G R x hT y hy ev k).mono fun _ _ ⟨x2, k2⟩ => ⟨x2, x2, rfl, k2⟩).mono fun _ _ ⟨he, x2, y2, e, k2⟩ => ⟨he, x2, by subst e; exact k2⟩
theorem fr_do2 (h : Fr w W G R G2 R2 x z) (y : On) (hy : y.1 < 4294967296) (ev : Ev) (k : Int) : Calls Try.prog 9 #[.pointer (some ⟨G2, 0, none⟩), .pointer (some ⟨R2, 0, none⟩), ActV k y ev] W (FrR w G R G2 R2 x) :=
  (fr_do h.turn y hy ev k).mono fun _ _ ⟨he, x2, k2⟩ => ⟨he, x2, k2.turn⟩
end

set_option maxHeartbeats 16000000 in
set_option maxRecDepth 100000 in
theorem copies_law (W : World) (a b d : Option Addr) (n m q c e f : Nat) (l r s : List Ac) (hl : n ≤ 1000000 → AcC.At W a n l) (hr : m ≤ 1000000 → AcC.At W b m r) (hs : q ≤ 1000000 → AcC.At W d q s) (hn : n ≤ maxLen) (hm : m ≤ maxLen) (hq : q ≤ maxLen) :
    Calls Try.prog 4 #[.slice a n c, .slice b m e, .slice d q f] W (Tells (.bool true) W) := by
  have hn' : n ≤ 9223372036854775807 := hn
  have hm' : m ≤ 9223372036854775807 := hm
  have hq' : q ≤ 9223372036854775807 := hq
  clear hn hm hq
  go_enter Try.func4, Try.ntmps4
  go_wp2_with (first
    | (go_at_call 7; refine (known_any _).mono ?_; rintro e w1 ⟨rfl, h1⟩)
    | (go_at_call 8; refine (uno_new (w := W) (Below.refl _ _)).mono ?_; rintro e w1 ⟨G, rfl, h1⟩; have H1 := Lib.hid (dd_new h1); clear h1))
  all_goals first
    | (go_ret; exact ⟨rfl, h1⟩)
    | skip
  have hA := hl (by omega)
  have hB := hr (by omega)
  have hC := hs (by omega)
  have hn1 : n ≤ 40 := by omega
  have hm1 : m ≤ 20 := by omega
  have hq1 : q ≤ 20 := by omega
  obtain ⟨R, hR⟩ : ∃ R, R = w1.heap.size := ⟨_, rfl⟩
  rw [← hR] at H1 ⊢
  obtain ⟨w2, hw2⟩ : ∃ w2, w2 = w1.alloc (RO (.slice none 0 0)) := ⟨_, rfl⟩
  rw [← hw2] at H1 ⊢
  have HA := Lib.hid hA
  have HB := Lib.hid hB
  have HC := Lib.hid hC
  have HN1 := Lib.hid hn1
  have HM1 := Lib.hid hm1
  have HQ1 := Lib.hid hq1
  clear hA hB hC hl hr hs hR hw2 hn1 hm1 hq1
  go_loopg [9] n (fun kx s9 wr => ∃ (i : Nat) (x : List On), s9 = .int .i64 i ∧ i ≤ n ∧ n - i ≤ kx ∧ Aside (Dd NoB W wr G R x x []))
  case atStart => exact ⟨0, [], by go_num, Nat.zero_le _, Nat.le_refl _, H1.out⟩
  case round =>
    obtain ⟨i, x, rfl, hin, hkx, A⟩ := hrel
    by_cases hlt : i < n
    · have hlz : decide ((i : Int) < (n : Int)) = true := by simpa using hlt
      have hiz : (i : Int) < (n : Int) := by omega
      have hbig : i < 1000000 := by have := HN1.out; omega
      obtain ⟨B, off, rfl, hB, ⟨k, u, b, ev⟩, hc⟩ := act_cell HA.out hlt
      obtain ⟨x0, x1, x2, x3, x4, x5, x6, x7, x8, x9, x10⟩ := eleven (hc.below A.out.old hB)
      clear hc hB
      go_wp2_with (go_at_call 9; refine (do_any NoB W wr G R x A.out (u.1, b) u.2 ev k).mono ?_; rintro e w3 ⟨z, rfl, h3⟩; have H3 := Lib.hid h3; clear h3)
      go_roundg (n - (i + 1))
      case measure => omega
      case rel => exact ⟨i + 1, z, by go_num, by omega, Nat.le_refl _, H3.out⟩
    · have hlz : decide ((i : Int) < (n : Int)) = false := by simp; omega
      go_wp2_with (first
        | (go_at_call 13; refine (fr_same2 H5.out true (decide_eq_true rfl).symm).mono ?_; rintro e w6 ⟨rfl, h6⟩; have H6 := Lib.hid h6; clear h6)
        | (go_at_call 13; refine (fr_same H4.out true (decide_eq_true rfl).symm).mono ?_; rintro e w5 ⟨rfl, h5⟩; have H5 := Lib.hid h5; clear h5)
        | (go_at_call 12; refine (dd_four H3.out).mono ?_; rintro e w4 ⟨R2, rfl, h4⟩; have H4 := Lib.hid h4; clear h4)
        | (go_at_call 11; refine (dd_three A.out).mono ?_; rintro e w3 ⟨G2, rfl, h3⟩; have H3 := Lib.hid h3; clear h3))
      obtain ⟨z, hz⟩ : ∃ z, z = x := ⟨_, rfl⟩
      have A1 : Hid (Fr W w6 G R G2 R2 x z) := by rw [hz]; exact H6.out
      obtain ⟨x0, hx0⟩ : ∃ x0, x0 = x := ⟨_, rfl⟩
      have A2 : Hid (Fr W w6 G R G2 R2 x0 z) := by rw [hx0]; exact A1.out
      clear hz hx0 A A1 H3 H4 H5 H6 hlt hlz hkx hin H1 HA HN1
      go_loopg [12] m (fun kx s12 wr => ∃ (i : Nat) (x : List On), s12 = .int .i64 i ∧ i ≤ m ∧ m - i ≤ kx ∧ Aside (Fr W wr G R G2 R2 x z))
      case atStart => exact ⟨0, x0, by go_num, Nat.zero_le _, Nat.le_refl _, A2.out⟩
      case round =>
        clear A2
        obtain ⟨i, x, rfl, hin, hkx, A⟩ := hrel
        by_cases hlt : i < m
        · have hlz : decide ((i : Int) < (m : Int)) = true := by simpa using hlt
          have hiz : (i : Int) < (m : Int) := by omega
          have hbig : i < 1000000 := by have := HM1.out; omega
          obtain ⟨B, off, rfl, hB, ⟨k, u, b, ev⟩, hc⟩ := act_cell HB.out hlt
          obtain ⟨x0, x1, x2, x3, x4, x5, x6, x7, x8, x9, x10⟩ := eleven (hc.below A.out.out hB)
          clear hc hB
          go_wp2_with (go_at_call 9; refine (fr_do A.out (u.1, b) u.2 ev k).mono ?_; rintro e w3 ⟨rfl, x2', h3⟩; have H3 := Lib.hid h3; clear h3)
          go_roundg (m - (i + 1))
          case measure => omega
          case rel => exact ⟨i + 1, x2', by go_num, by omega, Nat.le_refl _, H3.out⟩
        · have hlz : decide ((i : Int) < (m : Int)) = false := by simp; omega
          go_wp2_with fail
          obtain ⟨wm, hwm⟩ : ∃ wm, wm = wr := ⟨_, rfl⟩
          rw [← hwm] at A ⊢
          have A3 : Hid (Fr W wm G R G2 R2 x z) := A.out
          clear hwm A hlt hlz hkx hin HB HM1
          go_loopg [13] q (fun kx s13 wr => ∃ (i : Nat) (y : List On), s13 = .int .i64 i ∧ i ≤ q ∧ q - i ≤ kx ∧ Aside (Fr W wr G R G2 R2 x y))
          case atStart => exact ⟨0, z, by go_num, Nat.zero_le _, Nat.le_refl _, A3.out⟩
          case round =>
            clear A3
            obtain ⟨i, y, rfl, hin, hkx, A⟩ := hrel
            by_cases hlt : i < q
            · have hlz : decide ((i : Int) < (q : Int)) = true := by simpa using hlt
              have hiz : (i : Int) < (q : Int) := by omega
              have hbig : i < 1000000 := by have := HQ1.out; omega
              obtain ⟨B, off, rfl, hB, ⟨k, u, b, ev⟩, hc⟩ := act_cell HC.out hlt
              obtain ⟨x0, x1, x2, x3, x4, x5, x6, x7, x8, x9, x10⟩ := eleven (hc.below A.out.out hB)
              clear hc hB
              go_wp2_with (go_at_call 9; refine (fr_do2 A.out (u.1, b) u.2 ev k).mono ?_; rintro e w3 ⟨rfl, y2, h3⟩; have H3 := Lib.hid h3; clear h3)
              go_roundg (q - (i + 1))
              case measure => omega
              case rel => exact ⟨i + 1, y2, by go_num, by omega, Nat.le_refl _, H3.out⟩
            · have hlz : decide ((i : Int) < (q : Int)) = false := by simp; omega
              have H8 : Hid (Fr W wr G R G2 R2 x y) := A.out
              obtain ⟨t, ht⟩ : ∃ t, t = decide (x = y) := ⟨_, rfl⟩
              have HT := Lib.hid ht
              clear ht A hkx hin
              cases t
              all_goals
                go_wp2_with (first
                  | (go_at_call 7; refine (fr_known H13.out).mono ?_; rintro e w14 ⟨rfl, h14⟩; have H14 := Lib.hid h14; clear h14)
                  | (go_at_call 13; refine (fr_same2 H12.out _ HT.out).mono ?_; rintro e w13 ⟨rfl, h13⟩; have H13 := Lib.hid h13; clear h13)
                  | (go_at_call 13; refine (fr_same H11.out _ HT.out).mono ?_; rintro e w12 ⟨rfl, h12⟩; have H12 := Lib.hid h12; clear h12)
                  | (go_at_call 10; refine (fr_r H10.out).mono ?_; rintro e w11 ⟨rfl, h11⟩; have H11 := Lib.hid h11; clear h11)
                  | (go_at_call 10; refine (fr_l H9.out).mono ?_; rintro e w10 ⟨rfl, h10⟩; have H10 := Lib.hid h10; clear h10)
                  | (go_at_call 14; refine (fr_rsame H8.out _ HT.out).mono ?_; rintro e w9 ⟨rfl, h9⟩; have H9 := Lib.hid h9; clear h9))
                go_ret
                exact ⟨rfl, H14.out.out⟩
end Go.Proofs.Ytfonbompglddaaa
