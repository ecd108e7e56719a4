/-
  The walk of the law PoolPlays.
-/
import Derived.Test.YtifniehfbafcoaaPOpen
import Derived.Test.YtifniehfbafcoaaPDo5
import Derived.Test.YtifniehfbafcoaaPKnown
namespace Go.Proofs.Ytifniehfbafcoaa
open Go Go.Shelf Go.RowKit Go.Lib Go.Sort Go.Proofs

/-- both new, without messages -/
theorem dd_new {w W : World} {G : Nat} (h : Uno plT w W G ([], 0) []) : Dd NoB w (W.alloc (.cells #[.slice none 0 0, .int .i64 0] 29)) G W.heap.size ([], 0) ([], 0) [] := by
  obtain ⟨F, h1, h2, h3, -⟩ := h
  have hb : Below W.heap.size W (W.alloc (.cells #[.slice none 0 0, .int .i64 0] 29)) := (Below.refl _ _).alloc (Nat.le_refl _) _
  refine Duo.start0 (A := plT) (B := rfT) (S := fun b => b = W.heap.size) (Thing.below h2 hb) h1 (rf_zero W) (fun b e => e ▸ h3.size) (fun b hf e => ?_) (h3.trans (hb.mono h3.size))
  have := plT.lt h2 b hf
  omega
/-- both have the same -/
theorem same_two {T : Nat → Prop} {w W : World} {G R : Nat} {x : List Ms × Nat} (h : Dd T w W G R x x []) : Calls Try.prog 9 #[.pointer (some ⟨G, 0, none⟩), .pointer (some ⟨R, 0, none⟩)] W (DdTo (.bool true) T w G R x x []) := by
  obtain ⟨F, hF⟩ := h.fst
  obtain ⟨S, hS⟩ := h.snd
  exact (same_any W G R F S x hF hS).mono fun _ _ ⟨he, hb⟩ => ⟨he, h.below hb⟩
set_option maxHeartbeats 4000000 in
set_option maxRecDepth 100000 in
theorem plays_law (W : World) (a : Option Addr) (n c : Nat) (l : List Ac) (hln : l.length = n) (hl : n ≤ 1000000 → AcC.At W a n l) (hn : n ≤ maxLen) :
    Calls Try.prog 3 #[.slice a n c] W (Tells (.bool true) W) := by
  have hn' : n ≤ 9223372036854775807 := hn
  clear hn
  go_enter Try.func3, Try.ntmps3
  go_wp2_with (first
    | (go_at_call 6; refine (known_any _).mono ?_; rintro e w1 ⟨rfl, h1⟩)
    | (go_at_call 7; refine (uno_new (w := W) (Below.refl _ _)).mono ?_; rintro e w1 ⟨G, rfl, h1⟩; have H1 := Lib.hid (dd_new h1); clear h1))
  all_goals first
    | (go_ret; exact ⟨rfl, h1⟩)
    | skip
  have hA := hl (by omega)
  have hn1 : n ≤ 80 := by omega
  obtain ⟨R, hR⟩ : ∃ R, R = w1.heap.size := ⟨_, rfl⟩
  rw [← hR] at H1 ⊢
  obtain ⟨w2, hw2⟩ : ∃ w2, w2 = w1.alloc (.cells #[.slice none 0 0, .int .i64 0] 29) := ⟨_, rfl⟩
  rw [← hw2] at H1 ⊢
  have HA := Lib.hid hA
  have HN1 := Lib.hid hn1
  clear hA hl hR hw2 hn1 hln
  go_loopg [5] n (fun kx s5 wr => ∃ (i : Nat) (x : List Ms × Nat), s5 = .int .i64 i ∧ i ≤ n ∧ n - i ≤ kx ∧ Aside (Dd NoB W wr G R x x [] ∧ x.2 ≤ i))
  case atStart => exact ⟨0, ([], 0), by go_num, Nat.zero_le _, Nat.le_refl _, ⟨H1.out, Nat.le_refl _⟩⟩
  case round =>
    obtain ⟨i, x, rfl, hin, hkx, A⟩ := hrel
    by_cases hlt : i < n
    · have hlz : decide ((i : Int) < (n : Int)) = true := by simpa using hlt
      have hiz : (i : Int) < (n : Int) := by omega
      have hbig : i < 1000000 := by have := HN1.out; omega
      obtain ⟨B, off, rfl, hB, ⟨k, y, m⟩, hc⟩ := act_cell HA.out hlt
      obtain ⟨x0, x1, x2, x3, x4, x5, x6, x7, x8, x9, x10, x11⟩ := twelve (hc.below A.out.1.old hB)
      have HLL : Hid (x.2 ≤ 1000) := by show _ ≤ _; have := A.out.2; have := HN1.out; omega
      clear hc hB
      go_wp2_with (first
        | (go_at_call 9; refine (same_two H3.out).mono ?_; rintro e w4 ⟨rfl, h4⟩; have H4 := Lib.hid h4; clear h4)
        | (go_at_call 8; refine (do_any NoB W wr G R x A.out.1 HLL.out k y m).mono ?_; rintro e w3 ⟨z, hl2, rfl, h3⟩; have H3 := Lib.hid h3; have H3L := Lib.hid hl2; clear h3 hl2))
      go_roundg (n - (i + 1))
      case measure => omega
      case rel => exact ⟨i + 1, z, by go_num, by omega, Nat.le_refl _, ⟨H4.out, by have := A.out.2; have := H3L.out; omega⟩⟩
    · have hlz : decide ((i : Int) < (n : Int)) = false := by simp; omega
      go_wp2_with (go_at_call 6; refine (known_any _).mono ?_; rintro e w4 ⟨rfl, h4⟩; have H4 := Lib.hid (A.out.1.below h4); clear h4)
      go_ret
      exact ⟨rfl, H4.out.old⟩
end Go.Proofs.Ytifniehfbafcoaa
