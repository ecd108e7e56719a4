/-
  The walk of the law WatchPlays.
-/
import Derived.Test.YtfonbompglddaaaWOpen
import Derived.Test.YtfonbompglddaaaWDo
import Derived.Test.YtfonbompglddaaaWLSame
import Derived.Test.YtfonbompglddaaaWKnown
namespace Go.Proofs.Ytfonbompglddaaa
open Go Go.Shelf Go.RowKit Go.Lib Go.Sort Go.Proofs

abbrev Elev (w : World) (B o : Nat) (y : Ac) : Prop := (w.cell? ⟨B, o, none⟩ = some (.int .i64 y.1)) ∧ (w.cell? ⟨B, o + 1, none⟩ = some (.int .u32 (y.2.1.1 : Nat))) ∧ (w.cell? ⟨B, o + 2, none⟩ = some (.int .i64 y.2.2.1.1)) ∧ (w.cell? ⟨B, o + 3, none⟩ = some (.int .i64 y.2.2.1.2.1)) ∧ (w.cell? ⟨B, o + 4, none⟩ = some (.int .i64 y.2.2.1.2.2)) ∧ (w.cell? ⟨B, o + 5, none⟩ = some (.int .i64 y.2.2.2.1)) ∧ (w.cell? ⟨B, o + 6, none⟩ = some (.int .i64 y.2.2.2.2.1)) ∧ (w.cell? ⟨B, o + 7, none⟩ = some (.int .i64 y.2.2.2.2.2.1)) ∧ (w.cell? ⟨B, o + 8, none⟩ = some (.int .i64 y.2.2.2.2.2.2.1)) ∧ (w.cell? ⟨B, o + 9, none⟩ = some (.int .i64 y.2.2.2.2.2.2.2.1)) ∧ (w.cell? ⟨B, o + 10, none⟩ = some (.int .i64 y.2.2.2.2.2.2.2.2))
theorem eleven {w : World} {B o : Nat} {y : Ac} (h : AcC.Cell w B o y) : Elev w B o y :=
  ⟨h 0 (by decide), h 1 (by decide), h 2 (by decide), h 3 (by decide), h 4 (by decide), h 5 (by decide), h 6 (by decide), h 7 (by decide), h 8 (by decide), h 9 (by decide), h 10 (by decide)⟩
theorem act_cell {w : World} {a : Option Addr} {n : Nat} {l : List Ac} (h : AcC.At w a n l) {i : Nat} (hi : i < n) : ∃ B off, a = some ⟨B, off, none⟩ ∧ B < w.heap.size ∧ ∃ x : Ac, AcC.Cell w B (off + i * 11) x := by
  obtain ⟨B, off, e, hB, x, _, hc⟩ := h.cell hi
  exact ⟨B, off, e, hB, x, hc⟩
/-- both new, without breakpoints -/
theorem dd_new {w W : World} {G : Nat} (h : Uno wT w W G [] []) : Dd NoB w (W.alloc (RO (.slice none 0 0))) G W.heap.size [] [] [] := by
  obtain ⟨F, h1, h2, h3, -⟩ := h
  have hb : Below W.heap.size W (W.alloc (RO (.slice none 0 0))) := (Below.refl _ _).alloc (Nat.le_refl _) _
  refine Duo.start0 (A := wT) (B := rfT) (S := fun b => b = W.heap.size) (Thing.below h2 hb) h1 (rf_zero W) (fun b e => e ▸ h3.size) (fun b hf e => ?_) (h3.trans (hb.mono h3.size))
  have := wT.lt h2 b hf
  omega
/-- both have the same -/
theorem same_two {T : Nat → Prop} {w W : World} {G R : Nat} {L : List On} (h : Dd T w W G R L L []) (most : Int) : Calls Try.prog 10 #[.pointer (some ⟨G, 0, none⟩), .pointer (some ⟨R, 0, none⟩), .int .i64 most] W (DdTo (.bool true) T w G R L L []) := by
  obtain ⟨F, hF⟩ := h.fst
  obtain ⟨S, hS⟩ := h.snd
  exact (lsame_any hF hS most).mono fun _ _ ⟨he, hb⟩ => ⟨he, h.below hb⟩
set_option maxHeartbeats 4000000 in
set_option maxRecDepth 100000 in
theorem plays_law (W : World) (a : Option Addr) (n c : Nat) (l : List Ac) (hl : n ≤ 1000000 → AcC.At W a n l) (hn : n ≤ maxLen) (most : Int) :
    Calls Try.prog 3 #[.slice a n c, .int .i64 most] W (Tells (.bool true) W) := by
  have hn' : n ≤ 9223372036854775807 := hn
  clear hn
  go_enter Try.func3, Try.ntmps3
  go_wp2_with (first
    | (go_at_call 7; refine (known_any _).mono ?_; rintro e w1 ⟨rfl, h1⟩)
    | (go_at_call 8; refine (uno_new (w := W) (Below.refl _ _)).mono ?_; rintro e w1 ⟨G, rfl, h1⟩; have H1 := Lib.hid (dd_new h1); clear h1))
  all_goals first
    | (go_ret; exact ⟨rfl, h1⟩)
    | skip
  have hA := hl (by omega)
  have hn1 : n ≤ 60 := by omega
  obtain ⟨R, hR⟩ : ∃ R, R = w1.heap.size := ⟨_, rfl⟩
  rw [← hR] at H1 ⊢
  obtain ⟨w2, hw2⟩ : ∃ w2, w2 = w1.alloc (RO (.slice none 0 0)) := ⟨_, rfl⟩
  rw [← hw2] at H1 ⊢
  have HA := Lib.hid hA
  have HN1 := Lib.hid hn1
  clear hA hl hR hw2 hn1
  go_loopg [7] n (fun kx s7 wr => ∃ (i : Nat) (x : List On), s7 = .int .i64 i ∧ i ≤ n ∧ n - i ≤ kx ∧ Aside (Dd NoB W wr G R x x []))
  case atStart => exact ⟨0, [], by go_num, Nat.zero_le _, Nat.le_refl _, H1.out⟩
  case round =>
    obtain ⟨i, x, rfl, hin, hkx, A⟩ := hrel
    by_cases hlt : i < n
    · have hlz : decide ((i : Int) < (n : Int)) = true := by simpa using hlt
      have hiz : (i : Int) < (n : Int) := by omega
      have hbig : i < 1000000 := by have := HN1.out; omega
      obtain ⟨B, off, rfl, hB, ⟨k, u, b, ev⟩, hc⟩ := act_cell HA.out hlt
      obtain ⟨x0, x1, x2, x3, x4, x5, x6, x7, x8, x9, x10⟩ := eleven (hc.below A.out.old hB)
      clear hc hB
      go_wp2_with (first
        | (go_at_call 10; refine (same_two H3.out most).mono ?_; rintro e w4 ⟨rfl, h4⟩; have H4 := Lib.hid h4; clear h4)
        | (go_at_call 9; refine (do_any NoB W wr G R x A.out (u.1, b) u.2 ev k).mono ?_; rintro e w3 ⟨z, rfl, h3⟩; have H3 := Lib.hid h3; clear h3))
      go_roundg (n - (i + 1))
      case measure => omega
      case rel => exact ⟨i + 1, z, by go_num, by omega, Nat.le_refl _, H4.out⟩
    · have hlz : decide ((i : Int) < (n : Int)) = false := by simp; omega
      go_wp2_with (go_at_call 7; refine (known_any _).mono ?_; rintro e w4 ⟨rfl, h4⟩; have H4 := Lib.hid (A.out.below h4); clear h4)
      go_ret
      exact ⟨rfl, H4.out.old⟩
end Go.Proofs.Ytfonbompglddaaa
