/-
  The walk of the law OutboxPlays.
-/
import Derived.Test.YtfchfhkhflghbaaOFew
import Derived.Test.YtfchfhkhflghbaaODo2
import Derived.Test.YtfchfhkhflghbaaOSm
import Derived.Test.YtfchfhkhflghbaaOKnown
namespace Go.Proofs.Ytfchfhkhflghbaa
open Go Go.RowKit Go.Lib Go.Sort Go.Proofs

theorem Dd.old {w W : World} {G R : Nat} {x : St} {y : Dt} {X : List (Nat × Obj)} {Z : Nat → Prop} (h : Dd NoB Z w W G R x y X) : Below w.heap.size w W := h.keep.below (Nat.le_refl _) fun _ e => e.elim
/-- both new -/
theorem dd_new {w W : World} {G : Nat} {x : St} {y : Dt} {f : Nat} {args : Array Value} (h : Uno obT w W G x []) (hc : Calls Try.prog f args W (rfT.New y W)) : Calls Try.prog f args W (fun e W' => ∃ R, e = .returned (.pointer (some ⟨R, 0, none⟩)) ∧ Dd NoB NoB w W' G R x y []) := by
  obtain ⟨F, h1, h2, h3, -⟩ := h
  refine hc.mono fun e W' ⟨R, S, he, k1, k2, k3⟩ => ⟨R, he, F, S, fun b e => .inr (h1 b e), fun b e => .inr (.inr (Nat.le_trans h3.size (k2 b e))), fun b e e2 => ?_, .inr (Nat.le_trans h3.size (k2 R (Rf.R_in k1))), Thing.below (A := obT) h2 k3, k1, But.of (h3.trans (k3.mono h3.size)), fun _ h => absurd h (List.not_mem_nil)⟩
  have := obT.lt h2 b e
  have := k2 b e2
  omega
theorem dd_same {T Z : Nat → Prop} {w W : World} {G R K : Nat} {x : St} {y : Dt} (h : Dd T Z w W G R x y []) (ht : Tie K x y) : Calls Try.prog 11 #[.pointer (some ⟨G, 0, none⟩), .pointer (some ⟨R, 0, none⟩)] W (DdTo (.bool true) T Z w G R x y []) := by
  obtain ⟨F, hF⟩ := h.fst
  obtain ⟨S, hS⟩ := h.snd
  exact (lsame_any hF hS ht).mono fun _ _ ⟨he, hg⟩ => ⟨he, h.below hg.below⟩
/-- an act that came in, by both -/
theorem dd_do {T Z : Nat → Prop} {w W W0 : World} {G R K : Nat} {x : St} {y : Dt} (h : Dd T Z w W G R x y []) (ht : Tie K x y) (hK : K + 300 ≤ 100000) (hb : Below W0.heap.size W0 w) (hT : ∀ b, T b → W0.heap.size ≤ b) (k : Int) (s : Sl) (hg : Good W0 s) (hl : s.2.1 ≤ 300) (n : Int) :
    Calls Try.prog 10 #[.pointer (some ⟨G, 0, none⟩), .pointer (some ⟨R, 0, none⟩), ActV k s n] W (OneTo K T Z w G R) := by
  obtain ⟨a, bn, cc⟩ := s
  obtain ⟨b, h1, h2, h3, h4, h5⟩ := hg
  simp only at h1 h2 h3 h4 h5 hl
  have hA := h4 (by omega)
  rw [← h1] at hA
  by_cases h0 : b = []
  · exact do_any h ht hK k a bn cc b h1.symm (hA.below hb) (fun e => ⟨h5 e, h0⟩) (fun h => absurd h0 h) (by omega) n
  · refine do_any h ht hK k a bn cc b h1.symm (hA.below hb) (fun e => ?_) (fun _ p e hp => ?_) (by omega) n
    · have := h5 e
      exact absurd (List.length_eq_zero_iff.1 (by omega)) h0
    · obtain ⟨_, _, h6 | ⟨B, off, e2, hB, _⟩⟩ := hA
      · exact h0 (List.length_eq_zero_iff.1 h6)
      · rw [e2] at e
        cases e
        exact absurd hB (Nat.not_lt.2 (hT _ hp))
set_option maxHeartbeats 4000000 in
set_option maxRecDepth 100000 in
theorem plays_law (W : World) (m : Int) (hm : m ≤ 9223372036854775807) (a : Option Addr) (n c : Nat) (l : List Ac) (h : Acts W a n l) : Calls Try.prog 3 #[.int .i64 m, .slice a n c] W (Tells (.bool true) W) := by
  have hn : n ≤ 9223372036854775807 := h.le
  have H := Lib.hid h
  have HM := Lib.hid hm
  have hf := few_any (c := c) h 60 (by decide)
  rw [show ((60 : Nat) : Int) = 60 from rfl] at hf
  have HF := Lib.hid hf
  clear h hm hf
  go_enter Try.func3, Try.ntmps3
  go_wp2_with (go_at_call 6; refine HF.out.mono ?_; rintro e w1 ⟨rfl, t, rfl, ht⟩; refine Hid.out ?_)
  cases t
  · refine Lib.hid ?_
    go_wp2_with (go_at_call 7; refine (known_any _).mono ?_; rintro e w2 ⟨rfl, h1⟩)
    go_ret
    exact ⟨rfl, h1⟩
  have HT := Lib.hid (ht rfl)
  clear ht
  refine Lib.hid ?_
  go_wp2_with (first
    | (go_at_call 9; refine (dd_new H2.out (rnew_any w2 m HM.out)).mono ?_; rintro e w3 ⟨R, rfl, h3⟩; have H3 := Lib.hid h3; clear h3)
    | (go_at_call 8; refine (uno_new (w := w1) (Below.refl _ _) m HM.out).mono ?_; rintro e w2 ⟨G, rfl, h2⟩; have H2 := Lib.hid h2; clear h2))
  go_loopg [7] n (fun kx s7 wr => ∃ i : Nat, s7 = .int .i64 i ∧ i ≤ n ∧ n - i ≤ kx ∧ Aside (∃ x y, Tie (300 * i) x y ∧ Dd NoB NoB w1 wr G R x y []))
  case atStart => exact ⟨0, by go_num, Nat.zero_le _, Nat.le_refl _, _, _, Tie.new _, H3.out⟩
  case round =>
    obtain ⟨i, rfl, hin, hkx, A⟩ := hrel
    obtain ⟨x, y, hti, hD⟩ := A.out
    have HTI := Lib.hid hti
    have HD := Lib.hid hD
    clear A hti hD
    have hn60 : n ≤ 60 := HT.out.1
    by_cases hlt : i < n
    · have hlz : decide (i < n) = true := by simpa using hlt
      obtain ⟨B, off, ⟨k, s, q⟩, rfl, hB, hx, x0, x1, x2⟩ := H.out.cell hlt (by omega)
      have hmem := List.mem_of_getElem? hx
      have HG := Lib.hid (And.intro (H.out.good _ hmem) (HT.out.2 _ hmem))
      have y0 := (HD.out.old.cell (p := ⟨B, off + i * 3, none⟩) hB).trans x0
      have y1 := (HD.out.old.cell (p := ⟨B, off + i * 3 + 1, none⟩) hB).trans x1
      have y2 := (HD.out.old.cell (p := ⟨B, off + i * 3 + 2, none⟩) hB).trans x2
      have hib : i < 1000 := by omega
      have HK : Hid (300 * i + 300 ≤ 100000) := by show _ ≤ _; omega
      clear hB hx hmem x0 x1 x2
      go_wp2_with (first
        | (go_at_call 11; refine (dd_same H5.out HTJ.out).mono ?_; rintro e w6 ⟨rfl, h6⟩; have H6 := Lib.hid h6; clear h6)
        | (go_at_call 10; refine (dd_do HD.out HTI.out HK.out (Below.refl _ _) (fun b e => e.elim) k s HG.out.1 HG.out.2 q).mono ?_; rintro e w5 ⟨rfl, x2, y2, htj, h5⟩; have H5 := Lib.hid h5; have HTJ := Lib.hid htj; clear h5 htj))
      go_roundg (n - (i + 1))
      case measure => omega
      case rel => exact ⟨i + 1, by go_num, by omega, Nat.le_refl _, x2, y2, HTJ.out, H6.out⟩
    · have hlz : decide (i < n) = false := by simpa using hlt
      go_wp2_with (first
        | (go_at_call 7; refine (known_any _).mono ?_; rintro e w7 ⟨rfl, h7⟩; have H7 := Lib.hid (H6.out.below h7); clear h7)
        | (go_at_call 11; refine (dd_same HD.out HTI.out).mono ?_; rintro e w6 ⟨rfl, h6⟩; have H6 := Lib.hid h6; clear h6))
      go_ret
      exact ⟨rfl, H7.out.old⟩
end Go.Proofs.Ytfchfhkhflghbaa
