/-
  The law on how many there may be.
-/
import Derived.Test.YtifniehfbafcoaaPKnown
namespace Go.Proofs.Ytifniehfbafcoaa
open Go Go.RowKit Go.Lib Go.Sort Go.Proofs

set_option maxHeartbeats 2000000 in
set_option maxRecDepth 100000 in
theorem many_any (m : Int) (w : World) : Calls Try.prog 5 #[.int .i64 m] w (Tells (.bool true) w) := by
  by_cases hout : m < 131070 ∨ 131075 < m
  · by_cases h1 : m < 131070
    · have hd : decide (m < 131070) = true := by simpa using h1
      clear hout
      go_enter Try.func5, Try.ntmps5
      go_wp2_with (go_at_call 6; refine (known_any w).mono ?_; rintro e w1 ⟨rfl, hq⟩)
      go_ret
      exact ⟨rfl, hq⟩
    · have hd : decide (m < 131070) = false := by simpa using h1
      have h2 : 131075 < m := by omega
      have hd2 : decide (m > 131075) = true := by simpa using h2
      clear hout
      go_enter Try.func5, Try.ntmps5
      go_wp2_with (go_at_call 6; refine (known_any w).mono ?_; rintro e w1 ⟨rfl, hq⟩)
      go_ret
      exact ⟨rfl, hq⟩
  · obtain ⟨n, rfl⟩ : ∃ n : Nat, m = n := ⟨m.toNat, by omega⟩
    have HB : Hid (131070 ≤ n ∧ n ≤ 131075) := ⟨by omega, by omega⟩
    have hd : decide ((n : Int) < 131070) = false := by simp; omega
    have hd2 : decide ((n : Int) > 131075) = false := by simp; omega
    have h1 : ¬ (n : Int) < 131070 := by omega
    have h2 : ¬ 131075 < (n : Int) := by omega
    have hnb : n < 1000000 := by omega
    obtain ⟨N, hN⟩ : ∃ N : Nat, N = 131072 := ⟨_, rfl⟩
    have HN := Lib.hid hN
    clear hout hN
    go_enter Try.func5, Try.ntmps5
    go_wp2_with (go_at_call 7; refine (uno_new (w := w) (Below.refl _ _)).mono ?_; rintro e w1 ⟨G, rfl, h1⟩; have H1 := Lib.hid h1; clear h1)
    clear h1 h2 hd hd2
    go_loopg [4] n (fun kx s4 wr => ∃ i : Nat, s4 = .int .i64 i ∧ i ≤ n ∧ n - i ≤ kx ∧ Aside (Uno plT w wr G (mL (min i N), min i N) []))
    case atStart => exact ⟨0, by go_num, Nat.zero_le _, Nat.le_refl _, by rw [Nat.zero_min]; exact H1.out⟩
    case round =>
      clear H1
      obtain ⟨i, rfl, hin, hkx, A⟩ := hrel
      by_cases hlt : i < n
      · have hlz : decide ((i : Int) < (n : Int)) = true := by simpa using hlt
        have hiz : (i : Int) < (n : Int) := by omega
        by_cases hfull : i < N
        · have hd1 : decide ((i : Int) < 131072) = true := by have := HN.out; simp; omega
          have hd2 : decide ((i : Int) ≥ 131072) = false := by have := HN.out; simp; omega
          have HM : Hid (min i N = i ∧ min (i + 1) N = i + 1) := ⟨by omega, by omega⟩
          have HP : Hid ((mL i, i).2 < 1000000 ∧ (mL i, i).1.length < 131072) := ⟨by show i < _; omega, by show (mL i).length < _; rw [mL_len, ← HN.out]; exact hfull⟩
          clear hfull
          go_wp2_with (go_at_call 15; refine (uno_put (HM.out.1 ▸ A.out) (mI i) HP.out.1 HP.out.2).mono ?_; rintro e w3 ⟨rfl, h3⟩; have H3 := Lib.hid h3; clear h3)
          go_roundg (n - (i + 1))
          case measure => omega
          case rel => exact ⟨i + 1, by go_num, by omega, Nat.le_refl _, by rw [HM.out.2, mL_succ]; exact H3.out⟩
        · have hd1 : decide ((i : Int) < 131072) = false := by have := HN.out; simp; omega
          have hd2 : decide ((i : Int) ≥ 131072) = true := by have := HN.out; simp; omega
          have HM : Hid (min i N = N ∧ min (i + 1) N = N) := ⟨by omega, by omega⟩
          have HP : Hid (131072 ≤ (mL N, N).1.length) := by show _ ≤ (mL N).length; rw [mL_len, HN.out]; exact Nat.le_refl _
          clear hfull
          go_wp2_with (go_at_call 15; refine (uno_full (HM.out.1 ▸ A.out) (mI i) HP.out).mono ?_; rintro e w3 ⟨rfl, h3⟩; have H3 := Lib.hid h3; clear h3)
          go_roundg (n - (i + 1))
          case measure => omega
          case rel => exact ⟨i + 1, by go_num, by omega, Nat.le_refl _, by rw [HM.out.2]; exact H3.out⟩
      · have hlz : decide ((i : Int) < (n : Int)) = false := by simp; omega
        have hiz : ¬ (i : Int) < (n : Int) := by omega
        obtain rfl : i = n := by omega
        obtain ⟨k, hk⟩ : ∃ k, k = min i N := ⟨_, rfl⟩
        rw [← hk] at A
        have HK : Hid (5 < k ∧ k ≤ 131072) := by have := HB.out; have := HN.out; exact ⟨by omega, by omega⟩
        have hmn : min (i : Int) 131072 = (k : Int) := by have := HN.out; omega
        obtain ⟨L, hL⟩ : ∃ L, L = (mL k).eraseIdx 5 := ⟨_, rfl⟩
        have hlen : (L ++ [msZ]).length = k := by
          have := HK.out.1
          rw [hL, List.length_append, List.length_eraseIdx, if_pos (by rw [mL_len]; exact this), mL_len, List.length_singleton]
          omega
        have HL := Lib.hid hL
        have HLEN := Lib.hid hlen
        have hkb : k < 1000000 := by omega
        have HP : Hid ((L, k).2 < 1000000 ∧ (L, k).1.length < 131072) := ⟨by show k < _; exact hkb, by show L.length < _; rw [List.length_append, List.length_singleton] at hlen; have := HK.out; omega⟩
        have HTK : Hid ((mL k, k).1[5]? = some (mI 5)) := mL_get HK.out.1
        clear hlen hL hk hlt hin hkx
        go_wp2_with (first
          | (go_at_call 6; refine (known_any _).mono ?_; rintro e w6 ⟨rfl, h6⟩; have H6 := Lib.hid (H5.out.below h6); clear h6)
          | (go_at_call 17; obtain ⟨F5, hF5⟩ := H5.out.at_; refine (pl_len hF5).mono ?_; rintro e w6 ⟨rfl, rfl⟩; rw [HLEN.out])
          | (go_at_call 15; refine (uno_put H4.out msZ HP.out.1 HP.out.2).mono ?_; rintro e w5 ⟨rfl, h5⟩; have x6 : w5.cell? ⟨w3.heap.size, 6, none⟩ = some (.int .i64 5) := (box_lit (h5.get (List.Mem.head _))).1.2.2.2.2.2.2.1; have H5 := Lib.hid h5; clear h5)
          | (go_at_call 16; refine (uno_take A.out 5 (mI 5) HTK.out).mono ?_; rintro e w3 ⟨rfl, h3⟩; rw [← HL.out] at h3; have H4 := Lib.hid (h3.box (MsO (mI 5))); clear h3))
        go_ret
        exact ⟨rfl, H6.out.out⟩
end Go.Proofs.Ytifniehfbafcoaa
