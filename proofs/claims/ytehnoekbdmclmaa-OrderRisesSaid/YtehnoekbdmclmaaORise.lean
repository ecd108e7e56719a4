/-
  The walks of Rising and of the law OrderRises.
-/
import Derived.Test.YtehnoekbdmclmaaOMayLaw
import Derived.Test.YtehnoekbdmclmaaEvOpen
import Derived.Deep.LoopGhost
namespace Go.Proofs.Ytehnoekbdmclmaa
open Go Go.RowKit Go.Sort Go.Proofs

/-- of the first k keys each is ahead of the next one -/
def rz (l : List Ky) (k : Nat) : Bool := (List.range k).all fun i => i == 0 || kLt (l.getD (i - 1) (0, 0, 0)) (l.getD i (0, 0, 0))
theorem rz_succ (l : List Ky) (k : Nat) : rz l (k + 2) = (rz l (k + 1) && kLt (l.getD k (0, 0, 0)) (l.getD (k + 1) (0, 0, 0))) := by
  unfold rz
  rw [List.range_succ, List.all_append]
  simp
theorem rz_one (l : List Ky) : rz l 1 = true := by simp [rz]
theorem rz_zero (l : List Ky) : rz l 0 = true := by simp [rz]
theorem rz_no (l : List Ky) (k n : Nat) (hk : k + 1 < n) (h : kLt (l.getD k (0, 0, 0)) (l.getD (k + 1) (0, 0, 0)) = false) : rz l n = false := by
  unfold rz
  rw [List.all_eq_false]
  exact ⟨k + 1, List.mem_range.2 hk, by simpa using h⟩
theorem KyCell.below {w w' : World} {K B o : Nat} {x : Ky} (h : KyCell w B o x) (hb : Below K w w') (hK : B < K) : KyCell w' B o x := by
  obtain ⟨h0, h1, h2⟩ := h
  exact ⟨(hb.cell (p := ⟨B, _, none⟩) hK).trans h0, (hb.cell (p := ⟨B, _, none⟩) hK).trans h1, (hb.cell (p := ⟨B, _, none⟩) hK).trans h2⟩
theorem KyAt.below {w w' : World} {a : Option Addr} {n : Nat} {l : List Ky} (h : KyAt w a n l) (hb : Below w.heap.size w w') : KyAt w' a n l := by
  obtain ⟨h1, h3⟩ := h
  refine ⟨h1, ?_⟩
  rcases h3 with h3 | ⟨B, off, rfl, hB, hc⟩
  · exact .inl h3
  · exact .inr ⟨B, off, rfl, Nat.lt_of_lt_of_le hB hb.size, fun i hi => (hc i hi).below hb hB⟩
theorem KyAt.cell {w : World} {a : Option Addr} {n : Nat} {l : List Ky} (h : KyAt w a n l) {i : Nat} (hi : i < n) : ∃ B off, a = some ⟨B, off, none⟩ ∧ B < w.heap.size ∧ KyCell w B (off + i * 3) (l.getD i (0, 0, 0)) := by
  obtain ⟨h1, h3 | ⟨B, off, rfl, hB, hc⟩⟩ := h
  · omega
  · refine ⟨B, off, rfl, hB, ?_⟩
    have := hc i (by omega)
    simpa [List.getD, List.getElem?_eq_getElem (show i < l.length by omega)] using this
theorem oless_is {a b c x y z : Int} {u : Bool} (h : kLt (a, b, c) (x, y, z) = u) (w : World) : Calls Try.prog 9 #[.agg #[.int .i64 a, .int .i64 b, .int .i64 c], .agg #[.int .i64 x, .int .i64 y, .int .i64 z]] w (TellsBB u w) := by
  rw [← h]
  exact oless_b a b c x y z w

set_option maxHeartbeats 4000000 in
set_option maxRecDepth 100000 in
theorem rising_any (w : World) (a : Option Addr) (n c : Nat) (l : List Ky) (hl : KyAt w a n l) (hn : n ≤ 1000000) : Calls Try.prog 18 #[.slice a n c] w (TellsBB (rz l n) w) := by
  obtain ⟨t, ht⟩ : ∃ t, t = rz l n := ⟨_, rfl⟩
  rw [← ht]
  have HT := Lib.hid ht
  have HL := Lib.hid hl
  clear ht hl
  go_enter Try.func18, Try.ntmps18
  go_wp2
  go_loopg [3] n (fun kx s3 wr => ∃ k : Nat, s3 = .int .i64 ((k : Int) + 1) ∧ (k = 0 ∨ k < n) ∧ n - k ≤ kx ∧ Aside (rz l (k + 1) = true ∧ Below w.heap.size w wr))
  case atStart => exact ⟨0, rfl, .inl rfl, Nat.le_refl _, ⟨rz_one _, Below.refl _ _⟩⟩
  case round =>
    obtain ⟨k, rfl, hk, hkx, A⟩ := hrel
    by_cases hlt : k + 1 < n
    · obtain ⟨B, off, rfl, hB, x0, x1, x2⟩ := HL.out.cell (show k < n by omega)
      obtain ⟨B', off', e, hB', y0, y1, y2⟩ := HL.out.cell hlt
      cases e
      have hltz : (k : Int) + 1 < (n : Int) := by omega
      have p1 : (0 : Int) ≤ (k : Int) + 1 := by omega
      have e1 : ((k : Int) + 1).toNat = k + 1 := by omega
      have hw1 : IntKind.i64.wrap (k : Int) = (k : Int) := by rw [IntKind.wrap_i64]; omega
      have hw2 : IntKind.i64.wrap ((k : Int) + 1 - 1) = (k : Int) := by rw [IntKind.wrap_i64]; omega
      have hkn : (k : Int) < (n : Int) := by omega
      obtain ⟨⟨u, v, z⟩, hx⟩ : ∃ x : Ky, x = l.getD k (0, 0, 0) := ⟨_, rfl⟩
      obtain ⟨⟨u', v', z'⟩, hy⟩ : ∃ x : Ky, x = l.getD (k + 1) (0, 0, 0) := ⟨_, rfl⟩
      rw [← hx] at x0 x1 x2
      rw [← hy] at y0 y1 y2
      have HX := Lib.hid hx
      have HY := Lib.hid hy
      have hbr : Below w.heap.size w wr := A.out.2
      have q0 := fun p : InB wr => ((hbr.trans (p.h.mono hbr.size)).cell (p := ⟨B, _, none⟩) hB).trans x0
      have q1 := fun p : InB wr => ((hbr.trans (p.h.mono hbr.size)).cell (p := ⟨B, _, none⟩) hB).trans x1
      have q2 := fun p : InB wr => ((hbr.trans (p.h.mono hbr.size)).cell (p := ⟨B, _, none⟩) hB).trans x2
      have q3 := fun p : InB wr => ((hbr.trans (p.h.mono hbr.size)).cell (p := ⟨B, _, none⟩) hB).trans y0
      have q4 := fun p : InB wr => ((hbr.trans (p.h.mono hbr.size)).cell (p := ⟨B, _, none⟩) hB).trans y1
      have q5 := fun p : InB wr => ((hbr.trans (p.h.mono hbr.size)).cell (p := ⟨B, _, none⟩) hB).trans y2
      clear hx hy x0 x1 x2 y0 y1 y2 hbr
      rcases hlv : kLt (u, v, z) (u', v', z') with _ | _
      · have HLV := Lib.hid hlv
        clear hlv
        go_wp2_with fail
        refine wp_region_below (by kernel_rfl) (by kernel_rfl) ?_
        repeat (refine WQ.step (fun K hK => ?_); go_simp; first | (refine hK _ ?_; clear hK K) | (apply Exists.intro; refine ⟨fun _ => ?_, hK _ ?_⟩; (first | (go_at_call 9; exact inb_b (oless_is HLV.out _))); clear hK K))
        refine WQ.nil ?_
        intro _ hw'
        obtain ⟨pq, hw''⟩ := hw'
        subst hw''
        go_wp2
        go_ret
        exact ⟨ret_b (by rw [HT.out, rz_no l k n hlt (by rw [← HX.out, ← HY.out]; exact HLV.out)]), A.out.2.trans (pq.h.mono A.out.2.size)⟩
      · have HLV := Lib.hid hlv
        clear hlv
        go_wp2_with fail
        refine wp_region_below (by kernel_rfl) (by kernel_rfl) ?_
        repeat (refine WQ.step (fun K hK => ?_); go_simp; first | (refine hK _ ?_; clear hK K) | (apply Exists.intro; refine ⟨fun _ => ?_, hK _ ?_⟩; (first | (go_at_call 9; exact inb_b (oless_is HLV.out _))); clear hK K))
        refine WQ.nil ?_
        intro _ hw'
        obtain ⟨pq, hw''⟩ := hw'
        subst hw''
        go_wp2
        go_roundg (n - (k + 1))
        case measure => omega
        case rel => exact ⟨k + 1, by go_num, .inr hlt, Nat.le_refl _, ⟨by rw [rz_succ, A.out.1, ← HX.out, ← HY.out, HLV.out]; rfl, A.out.2.trans (pq.h.mono A.out.2.size)⟩⟩
    · have hltz : ¬ (k : Int) + 1 < (n : Int) := by omega
      go_wp2
      go_ret
      refine ⟨ret_b ?_, A.out.2⟩
      rw [HT.out]
      by_cases h0 : n = 0
      · rw [h0, rz_zero]
      · rw [show n = k + 1 by omega, A.out.1]
theorem rising_is {w : World} {a : Option Addr} {n c : Nat} {l : List Ky} {u : Bool} (h : rz l n = u) (hl : KyAt w a n l) (hn : n ≤ 1000000) : Calls Try.prog 18 #[.slice a n c] w (TellsBB u w) := by
  rw [← h]
  exact rising_any w a n c l hl hn
end Go.Proofs.Ytehnoekbdmclmaa
