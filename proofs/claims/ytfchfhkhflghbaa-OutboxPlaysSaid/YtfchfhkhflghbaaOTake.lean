/-
  The walk of Take.
-/
import Derived.Test.YtfchfhkhflghbaaOFillW
namespace Go.Proofs.Ytfchfhkhflghbaa
open Go Go.RowKit Go.Lib Go.Sort Go.Proofs

/-- bytes of one's own -/
abbrev BO (l : By) : Obj := .cells (CB.cells l).toArray 5
theorem bo_at {w : World} {b : Nat} {l : By} (h : w.heap[b]? = some (BO l)) (hl : l.length ≤ 1000000) : CB.At w (some ⟨b, 0, none⟩) l.length l :=
  ⟨rfl, hl, .inr ⟨b, 0, rfl, heap_lt h, fun i hi c hc => by
    rw [cell_of_row _ _ _ _ _ _ h, ← CB.cells_get l i c hi hc, Nat.zero_add]
    simp⟩⟩
/-- what is taken, in memory of its own; the outbox stands for the rest, in the same blocks -/
def TakeTo (K : Nat) (t : By) (G : Nat) (F : Nat → Prop) (x2 : St) (w : World) (e : Ending) (w' : World) : Prop :=
  ∃ TB, e = .returned (.slice (some ⟨TB, 0, none⟩) K K) ∧ w.heap.size ≤ TB ∧ w'.heap[TB]? = some (BO t) ∧ Ob w' G F x2 ∧ But F w w'
theorem take_none {w : World} {G : Nat} {F : Nat → Prop} {x : St} (h : Ob w G F x) (n : Int) (hn : min n (x.2.1.flatten.length : Nat) ≤ 0) : Calls Try.prog 17 #[.pointer (some ⟨G, 0, none⟩), .int .i64 n] w (Tells (.slice none 0 0) w) := by
  have H := Lib.hid h
  obtain ⟨M, hM⟩ : ∃ M, M = x.2.1.flatten.length := ⟨_, rfl⟩
  rw [← hM] at hn
  obtain ⟨q, hq⟩ : ∃ q, q = min n (M : Int) := ⟨_, rfl⟩
  rw [← hq] at hn
  have HM := Lib.hid hM
  have hq' := hq.symm
  have hd : decide (q ≤ 0) = true := by simpa using hn
  clear h hM hq hn
  go_enter Try.func17, Try.ntmps17
  go_wp2_with (go_at_call 19; refine (left_any H.out).mono ?_; rintro e w1 ⟨rfl, hb⟩; rw [← HM.out]; have HB := Lib.hid hb; clear hb)
  go_ret
  exact ⟨rfl, HB.out.below⟩
theorem ob_more {w w1 : World} {G : Nat} {F FT : Nat → Prop} {x : St} {a : Option Addr} {c : Nat} (hG : w.heap[G]? = some (OO x.1 (.slice a x.2.1.length c) x.2.1.flatten.length x.2.2)) (hF : F G ∧ ¬ FT G ∧ (∀ b, FT b → F b) ∧ ∀ b, F b → b < w.heap.size) (hR : Rw w FT (fun b => F b ∧ b ≠ G) a c x.2.1) (hb : Below w.heap.size w w1) (o : Obj) :
    (w1.alloc o).heap[G]? = some (OO x.1 (.slice a x.2.1.length c) x.2.1.flatten.length x.2.2) ∧ (∀ b, F b → b < (w1.alloc o).heap.size) ∧ Rw (w1.alloc o) FT (fun b => F b ∧ b ≠ G) a c x.2.1 ∧ ¬ F w1.heap.size := by
  have hba := hb.alloc hb.size o
  exact ⟨(hba.block _ (heap_lt hG)).trans hG, fun b e => Nat.lt_of_lt_of_le (hF.2.2.2 b e) hba.size, hR.keep hba.size (fun b _ hl => hba.block b hl) (fun _ e => e) (fun _ e => e) (fun _ _ e => e), fun e => absurd (hF.2.2.2 _ e) (Nat.not_lt.2 hb.size)⟩
theorem left_n {w : World} {G : Nat} {F : Nat → Prop} {x : St} (h : Ob w G F x) (M : Nat) (hM : M = x.2.1.flatten.length) : Calls Try.prog 19 #[.pointer (some ⟨G, 0, none⟩)] w (GwV (.int .i64 (M : Nat)) w) := hM ▸ left_any h
set_option maxHeartbeats 4000000 in
set_option maxRecDepth 100000 in
theorem take_any {w : World} {G : Nat} {F : Nat → Prop} {x : St} (h : Ob w G F x) (hne : ∀ t ∈ x.2.1, t ≠ []) (n : Int) (K : Nat) (hK : min n (x.2.1.flatten.length : Nat) = (K : Nat)) (hK0 : 0 < K) (hs : x.2.2 + K ≤ 100000) :
    Calls Try.prog 17 #[.pointer (some ⟨G, 0, none⟩), .int .i64 n] w (TakeTo K (x.2.1.flatten.take K) G F (x.1, cutT K x.2.1, x.2.2 + K) w) := by
  have H := Lib.hid h
  obtain ⟨FT, a, c, hG, hFG, hTG, hT, hF, hR, i0, i1, i2, i3, i4, i5⟩ := h
  obtain ⟨M, hM⟩ : ∃ M, M = x.2.1.flatten.length := ⟨_, rfl⟩
  rw [← hM] at hK i3
  have hKM : K ≤ M := by omega
  have HM := Lib.hid hM
  have hd : decide (K ≤ 0) = false := by simp; omega
  have hd1 : decide ((K : Int) ≤ 0) = false := by simp; omega
  have hd2 : (K == 0) = false := by simp; omega
  have hd3 : decide (K = 0) = false := by simp; omega
  have hd4 : ¬ K = 0 := by omega
  have hw1 : IntKind.i64.wrap ((M : Int) - (K : Int)) = ((M - K : Nat) : Int) := by rw [IntKind.wrap_i64]; omega
  have hw2 : IntKind.i64.wrap ((x.2.2 : Int) + (K : Int)) = ((x.2.2 + K : Nat) : Int) := by rw [IntKind.wrap_i64]; omega
  have hz : ∃ i z, Try.prog.info? 5 = some i ∧ i.zero = some z ∧ i.bytes = 1 ∧ i.size = 1 ∧ z.cells = #[.int .u8 0] := by
    obtain ⟨i, h1, h2, h3, h4⟩ := info_of (P := Try.prog) (T := 5) (z := some (.int .u8 0)) (k := 1) (bytes := 1) (by kernel_rfl)
    exact ⟨i, _, h1, h2, h4, h3, rfl⟩
  obtain ⟨iz, zz, z1, z2, z3, z4, z5⟩ := hz
  have hmk : ∀ W, (Instr.makeSlice 30 (.int .i64 (K : Nat)) (.int .i64 (K : Nat))).run Try.prog W = .ok (.slice (some ⟨W.heap.size, 0, none⟩) K K) (W.alloc (.cells (madeCells #[.int .u8 0] K) 5)) := fun W => by
    have := run_make (P := Try.prog) W 30 5 iz zz Try.underlying30 z1 z2 .i64 .i64 (K : Nat) (K : Nat) (by omega) (by omega) (by rw [z3]; omega) (by omega)
    rw [z4, z5] at this
    simpa using this
  have hmsz : (madeCells #[.int .u8 0] K).size = K := size_madeCells _ _
  obtain ⟨mc, hmc⟩ : ∃ mc, mc = madeCells #[.int .u8 0] K := ⟨_, rfl⟩
  rw [← hmc] at hmk hmsz
  have HMS := Lib.hid hmsz
  have HI := Lib.hid (And.intro i0 (And.intro i1 (And.intro i2 (And.intro i4 (And.intro hs i3)))))
  have HGG := Lib.hid hG
  have HFF := Lib.hid (And.intro hFG (And.intro hTG (And.intro hT hF)))
  have HRR := Lib.hid hR
  have HNE := Lib.hid (And.intro hne (And.intro hKM hK0))
  clear hG hFG hTG hT hF hR i0 i1 i2 i3 i4 i5 hM z1 z2 z3 z4 z5 hmc hmsz hne hs hKM hK0
  go_enter Try.func17, Try.ntmps17
  go_wp2_with (first
    | (go_at_call 29; refine (fill_any (x := x) (FT := FT) (F := F) HX.out.1 HFF.out.1 HFF.out.2.1 HFF.out.2.2.1 HX.out.2.1 HX.out.2.2.1 HI.out.2.2.2.1 w1.heap.size K mc (heap_alloc_new _ _) HMS.out HX.out.2.2.2 HNE.out.2.2 (by rw [← HM.out]; exact HNE.out.2.1) (by have := HNE.out.2.1; have := HI.out.2.2.2.2.2; omega) HNE.out.1).mono ?_; rintro e w3 ⟨rfl, a', c', hg3, hr3, ht3, hb3⟩; rw [← HM.out] at hg3; have e2 := (oo_cells hg3).2.2.1; have f2 := oo_frozen hg3 2; have HG3 := Lib.hid hg3; have HR3 := Lib.hid hr3; have HT3 := Lib.hid ht3; have HB3 := Lib.hid hb3; clear hg3 hr3 ht3 hb3; refine Hid.out ?_)
    | (go_at_call 19; refine (left_n H.out M HM.out).mono ?_; rintro e w1 ⟨rfl, hb⟩; have HB := Lib.hid hb.below; have HX := Lib.hid (ob_more HGG.out HFF.out HRR.out hb.below (.cells mc 5)); clear hb))
  obtain ⟨w4, hw4⟩ : ∃ w4, w4 = w3.setCell ⟨G, 2, none⟩ (.int .i64 ((M - K : Nat) : Int)) := ⟨_, rfl⟩
  have g4 : w4.heap[G]? = some (OO x.1 (.slice a' (cutT K x.2.1).length c') (M - K) x.2.2) := by
    rw [hw4, heap_setCell_same w3 G 2 _ _ _ HG3.out]
    rfl
  obtain ⟨w5, hw5⟩ : ∃ w5, w5 = w4.setCell ⟨G, 3, none⟩ (.int .i64 ((x.2.2 + K : Nat) : Int)) := ⟨_, rfl⟩
  have g5 : w5.heap[G]? = some (OO x.1 (.slice a' (cutT K x.2.1).length c') (M - K) (x.2.2 + K)) := by
    rw [hw5, heap_setCell_same w4 G 3 _ _ _ g4]
    rfl
  have hbG : But (fun b => b = G) w3 w5 := by rw [hw5, hw4]; exact ((But.refl (fun b => b = G) _).setCell (p := ⟨G, 2, none⟩) rfl _).setCell (p := ⟨G, 3, none⟩) rfl _
  have hGT : w1.heap.size ≠ G := fun e => absurd (HFF.out.2.2.2 _ HFF.out.1) (Nat.not_lt.2 (e ▸ HB.out.size))
  have hbw : But F w w5 := ((But.of (S := F) HB.out).alloc (.cells mc 5)).next (HB3.out.next hbG fun b _ e => .inl (e ▸ HFF.out.1)) fun b hl e => e.elim id fun e => absurd hl (Nat.not_lt.2 (e ▸ HB.out.size))
  have hend : TakeTo K (x.2.1.flatten.take K) G F (x.1, cutT K x.2.1, x.2.2 + K) w (.returned (.slice (some ⟨w1.heap.size, 0, none⟩) K K)) w5 := by
    have hfl : (cutT K x.2.1).flatten.length = M - K := by rw [cutT_flat, List.length_drop, ← HM.out]
    have hcl := cutT_len K x.2.1
    refine ⟨w1.heap.size, rfl, HB.out.size, (hbG.block _ (heap_lt HT3.out) hGT).trans HT3.out, ⟨FT, a', c', ?_, HFF.out.1, HFF.out.2.1, HFF.out.2.2.1, fun b e => Nat.lt_of_lt_of_le (HFF.out.2.2.2 b e) hbw.size, ?_, HI.out.1, HI.out.2.1, ?_, ?_, ?_, HI.out.2.2.2.2.1⟩, hbw⟩
    · show w5.heap[G]? = some (OO x.1 (.slice a' (cutT K x.2.1).length c') (cutT K x.2.1).flatten.length (x.2.2 + K))
      rw [hfl]
      exact g5
    · exact HR3.out.keep hbG.size (fun b e hl => hbG.block b hl fun e2 => e.elim (fun e => HFF.out.2.1 (e2 ▸ e)) fun e => e.2 e2) (fun _ e => e) (fun _ e => e) (fun _ _ e => e)
    · have := HI.out.2.2.1
      show ((cutT K x.2.1).length : Int) ≤ x.1
      omega
    · show (cutT K x.2.1).flatten.length ≤ _
      have := HI.out.2.2.2.2.2
      omega
    · show (cutT K x.2.1).length ≤ _
      have := HI.out.2.2.2.1
      omega
  have HEND := Lib.hid hend
  have e3 : (w3.setCell ⟨G, 2, none⟩ (.int .i64 ((M - K : Nat) : Int))).cell? ⟨G, 3, none⟩ = some (.int .i64 (x.2.2 : Nat)) := by rw [← hw4]; exact (oo_cells g4).2.2.2
  have f3 : (w3.setCell ⟨G, 2, none⟩ (.int .i64 ((M - K : Nat) : Int))).frozen? ⟨G, 3, none⟩ = false := by rw [← hw4]; exact oo_frozen g4 3
  have HW5 : Hid (w5 = (w3.setCell ⟨G, 2, none⟩ (.int .i64 ((M - K : Nat) : Int))).setCell ⟨G, 3, none⟩ (.int .i64 ((x.2.2 : Int) + (K : Int)))) := by show _ = _; rw [hw5, hw4, Int.natCast_add]
  clear hend hbw hGT hbG g5 hw5 g4 hw4
  refine Lib.hid ?_
  go_wp2
  go_ret
  rw [← HW5.out]
  exact HEND.out
end Go.Proofs.Ytfchfhkhflghbaa
