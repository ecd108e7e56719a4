/-
  The walk of the law WatchMany.
-/
import Derived.Test.YtfonbompglddaaaWPlays
namespace Go.Proofs.Ytfonbompglddaaa
open Go Go.Shelf Go.RowKit Go.Lib Go.Sort Go.Proofs

theorem dd_len {T : Nat → Prop} {w W : World} {G R : Nat} {L : List On} (h : Dd T w W G R L L []) : Calls Try.prog 21 #[.pointer (some ⟨G, 0, none⟩)] W (DdTo (.int .i64 (L.length : Nat)) T w G R L L []) := by
  obtain ⟨F, hF⟩ := h.fst
  exact (wlen_any hF).mono fun _ _ ⟨he, hb⟩ => ⟨he, hb ▸ h⟩
set_option maxHeartbeats 4000000 in
set_option maxRecDepth 100000 in
theorem many_law (W : World) (many : Int) (step : Nat) (_hst : step < 4294967296) : Calls Try.prog 6 #[.int .i64 many, .int .u32 (step : Nat)] W (Tells (.bool true) W) := by
  by_cases h1 : many < 0
  · have hd : decide (many < 0) = true := by simpa using h1
    clear h1
    go_enter Try.func6, Try.ntmps6
    go_wp2_with (go_at_call 7; refine (known_any W).mono ?_; rintro e w1 ⟨rfl, hq⟩)
    go_ret
    exact ⟨rfl, hq⟩
  by_cases h2 : 20 < many
  · have hd : decide (many < 0) = false := by simpa using h1
    have hd2 : decide (many > 20) = true := by simpa using h2
    clear h1 h2
    go_enter Try.func6, Try.ntmps6
    go_wp2_with (go_at_call 7; refine (known_any W).mono ?_; rintro e w1 ⟨rfl, hq⟩)
    go_ret
    exact ⟨rfl, hq⟩
  have hd : decide (many < 0) = false := by simpa using h1
  have hd2 : decide (many > 20) = false := by simpa using h2
  by_cases h3 : step = 0
  · subst h3
    clear h1 h2
    go_enter Try.func6, Try.ntmps6
    go_wp2_with (go_at_call 7; refine (known_any W).mono ?_; rintro e w1 ⟨rfl, hq⟩)
    go_ret
    exact ⟨rfl, hq⟩
  have hd3 : ((step : Int) == 0) = false := by simp; omega
  obtain ⟨n, rfl⟩ : ∃ n : Nat, many = n := ⟨many.toNat, by omega⟩
  have HN : Hid (n ≤ 20) := by show _ ≤ _; omega
  have k1 : ¬ (n : Int) < 0 := by omega
  clear h1 h2 h3
  go_enter Try.func6, Try.ntmps6
  go_wp2_with (go_at_call 8; refine (uno_new (w := W) (Below.refl _ _)).mono ?_; rintro e w1 ⟨G, rfl, h1⟩; have H1 := Lib.hid (dd_new h1); clear h1)
  obtain ⟨R, hR⟩ : ∃ R, R = w1.heap.size := ⟨_, rfl⟩
  rw [← hR] at H1 ⊢
  obtain ⟨w2, hw2⟩ : ∃ w2, w2 = w1.alloc (RO (.slice none 0 0)) := ⟨_, rfl⟩
  rw [← hw2] at H1 ⊢
  clear hR hw2 hd hd2 hd3 k1
  go_loopg [7] n (fun kx s7 wr => ∃ (i : Nat) (x : List On), s7 = .int .i64 i ∧ i ≤ n ∧ n - i ≤ kx ∧ Aside (Dd NoB W wr G R x x []))
  case atStart => exact ⟨0, [], by go_num, Nat.zero_le _, Nat.le_refl _, H1.out⟩
  case round =>
    obtain ⟨i, x, rfl, hin, hkx, A⟩ := hrel
    by_cases hlt : i < n
    · have hlz : decide ((i : Int) < (n : Int)) = true := by simpa using hlt
      have hiz : (i : Int) < (n : Int) := by omega
      have hbig : i < 1000000 := by have := HN.out; omega
      obtain ⟨d, hd⟩ : ∃ d : Nat, d = (step * i) % 4294967296 := ⟨_, rfl⟩
      have HDL : Hid (d < 4294967296) := by refine Lib.hid ?_; rw [hd]; exact Nat.mod_lt _ (by decide)
      have e1 : IntKind.u32.wrap (i : Int) = (i : Int) := IntWalk.u32_in _ (by omega)
      have e2 : IntKind.u32.wrap ((step : Int) * (i : Int)) = (d : Int) := by rw [IntKind.wrap_u32, hd, Int.natCast_emod, Int.natCast_mul]; rfl
      clear hd
      obtain ⟨c, L2, hH, hR⟩ := q_set x (d, (0, -1, 0)) HDL.out
      have HH := Lib.hid hH
      have HR := Lib.hid hR
      clear hH hR
      go_wp2_with (first
        | (go_at_call 20; refine (HR.out _ _ _ _ _ _ _ H3.out).mono ?_; rintro e w4 ⟨rfl, h4⟩; have H4 := Lib.hid h4; clear h4)
        | (go_at_call 19; refine (HH.out _ _ _ _ _ _ _ A.out).mono ?_; rintro e w3 ⟨rfl, h3⟩; have H3 := Lib.hid h3; clear h3))
      go_roundg (n - (i + 1))
      case measure => omega
      case rel => exact ⟨i + 1, L2, by go_num, by omega, Nat.le_refl _, H4.out⟩
    · have hlz : decide (i < n) = false := by simp; omega
      have hle : decide ((x.length : Int) ≤ 16) = true := by have := (Dd.wl A.out).le; simp; omega
      clear hlt hin hkx
      go_wp2_with (first
        | (go_at_call 7; refine (known_any _).mono ?_; rintro e w5 ⟨rfl, h5⟩; have H5 := Lib.hid (H4.out.below h5); clear h5)
        | (go_at_call 10; refine (same_two H3.out 0).mono ?_; rintro e w4 ⟨rfl, h4⟩; have H4 := Lib.hid h4; clear h4)
        | (go_at_call 21; refine (dd_len A.out).mono ?_; rintro e w3 ⟨rfl, h3⟩; have H3 := Lib.hid h3; clear h3))
      go_ret
      exact ⟨rfl, H5.out.old⟩
end Go.Proofs.Ytfonbompglddaaa
