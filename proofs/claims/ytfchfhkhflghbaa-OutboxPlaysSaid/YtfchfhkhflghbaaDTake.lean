/-
  The walks of the document's Take, Copy.
-/
import Derived.Test.YtfchfhkhflghbaaOLook
import Derived.Deep.RegionHeld3
namespace Go.Proofs.Ytfchfhkhflghbaa
open Go Go.RowKit Go.Lib Go.Sort Go.Proofs

/-- what is taken reads; the document's box has another number -/
def RTakeTo (t : By) (R : Nat) (S : Nat → Prop) (y2 : Dt) (w : World) (e : Ending) (w' : World) : Prop :=
  ∃ a c, e = .returned (.slice a t.length c) ∧ CB.At w' a t.length t ∧ Rf w' R S y2 ∧ But (fun b => b = R) w w'
theorem part_at {w : World} {p : Addr} {N sent K : Nat} {B : By} (hA : CB.At w (some p) N B) (hN : sent + K ≤ N) (p' : Addr) (h : K = 0 ∨ p' = p.add sent) : CB.At w (some p') ((B.drop sent).take K).length ((B.drop sent).take K) := by
  have hl := hA.1
  have ht : ((B.drop sent).take K).length = K := by rw [List.length_take, List.length_drop]; omega
  by_cases h0 : K = 0
  · exact ⟨rfl, by rw [ht, h0]; exact Nat.zero_le _, .inl (by rw [ht, h0])⟩
  · obtain rfl := h.resolve_left h0
    obtain ⟨_, _, h3 | ⟨B', off', e, _, _⟩⟩ := id hA
    · omega
    · cases e
      have := hA.part sent (sent + K) (Nat.le_add_right _ _) hN B' off' rfl
      rw [show CB.k = 1 from rfl, Nat.mul_one, List.drop_take, Nat.add_sub_cancel_left] at this
      rw [ht, Addr.add_lit]
      exact this
theorem rtake_end {t : By} {R K nq c' : Nat} {S : Nat → Prop} {y2 : Dt} {w w2 : World} {a' : Option Addr} (hf : Rf w2 R S y2) (hb : But (fun b => b = R) w w2) (ht : t.length = K) (hA : CB.At w2 a' t.length t) : RTakeTo t R S y2 w (.returned (.slice a' K c')) (w2.drewN nq) :=
  ⟨a', c', by rw [ht], hA.below (Gw.drewN w2 nq).below, hf.below (Gw.drewN w2 nq).below, hb.trans (But.of (Gw.drewN w2 nq).below)⟩
set_option maxHeartbeats 4000000 in
set_option maxRecDepth 100000 in
theorem rtake_any {w : World} {R : Nat} {S : Nat → Prop} {y : Dt} (h : Rf w R S y) (n : Int) (K : Nat) (hK : min (max n 0) ((y.1.length : Int) - (y.2.2.1 : Nat)) = (K : Nat)) : Calls Try.prog 22 #[.pointer (some ⟨R, 0, none⟩), .int .i64 n] w (RTakeTo ((y.1.drop y.2.2.1).take K) R S (y.1, y.2.1, y.2.2.1 + K, y.2.2.2) w) := by
  have mixed : Try.prog.follows .mixedOrders = true := by kernel_rfl
  obtain ⟨Bs, Es, sent, most⟩ := y
  obtain ⟨a, c, d, e, hR, hA, hE, hSR, hSl, hSa, hSd, hna, hnd, hlc, hle, hcm, hem, l1, l2, l3, l4, l5⟩ := h
  simp only at hK hR hA hE hSa hSd hna hnd hlc hle hcm hem l1 l2 l3 l4 l5
  obtain ⟨N, hN⟩ : ∃ N, N = Bs.length := ⟨_, rfl⟩
  rw [← hN] at hK hR hA hlc l1 l3
  have hw0 : IntKind.i64.wrap ((N : Int) - (sent : Int)) = (N : Int) - (sent : Int) := by rw [IntKind.wrap_i64]; omega
  have hKN : sent + K ≤ N := by omega
  have hw1 : IntKind.i64.wrap ((sent : Int) + (K : Int)) = (sent : Int) + (K : Int) := by rw [IntKind.wrap_i64]; omega
  obtain ⟨c0, c1, c2, c3⟩ := ro_cells hR
  have f2 := ro_frozen hR 2
  obtain ⟨w2, hw2⟩ : ∃ w2, w2 = w.setCell ⟨R, 2, none⟩ (.int .i64 ((sent : Int) + (K : Int))) := ⟨_, rfl⟩
  have g2 : w2.heap[R]? = some (RO (.slice a N c) (.slice d Es.length e) (sent + K) most) := by
    rw [hw2, heap_setCell_same w R 2 _ _ _ hR, ← Int.natCast_add]
    rfl
  have hb2 : But (fun b => b = R) w w2 := by rw [hw2]; exact (But.refl (fun b => b = R) _).setCell (p := ⟨R, 2, none⟩) rfl _
  have hf2 : Rf w2 R S (Bs, Es, sent + K, most) := ⟨a, c, d, e, by rw [← hN]; exact g2, by rw [← hN]; exact hA.but hb2 fun p e => (hSa p e).2, hE.but hb2 fun p e => (hSd p e).2, hSR, fun b e => Nat.lt_of_lt_of_le (hSl b e) hb2.size, hSa, hSd, hna, hnd, by rw [← hN]; exact hlc, hle, hcm, hem, by rw [← hN]; exact l1, l2, by rw [← hN]; exact hKN, l4, l5⟩
  have ht : ((Bs.drop sent).take K).length = K := by rw [List.length_take, List.length_drop]; omega
  have HF := Lib.hid (And.intro hf2 (And.intro hb2 ht))
  have HG := Lib.hid g2
  have HA : Hid (CB.At w2 a N Bs ∧ (a = none → c = 0 ∧ Bs = [])) := ⟨hA.but hb2 fun p e => (hSa p e).2, hna⟩
  have HN := Lib.hid hN
  have HW := Lib.hid hw2
  have hsc : sent + K ≤ c := by omega
  have hsK : sent ≤ sent + K := Nat.le_add_right _ _
  have hcb : c ≤ 9223372036854775807 := hcm
  clear hR hA hE hSR hSl hSa hSd hna hnd hle hcm hem l2 l4 l5 hN g2 hb2 hf2 ht hw2
  go_enter Try.func22, Try.ntmps22
  go_wp2_with fail
  rw [← HW.out]
  obtain ⟨e0, e1, e2, e3⟩ := ro_cells HG.out
  clear c0 c1 c2 c3 f2
  cases a with
  | none =>
    obtain ⟨hc0, hB0⟩ := HA.out.2 rfl
    have hN0 : N = 0 := by rw [HN.out, hB0]; rfl
    obtain rfl : sent = 0 := by omega
    obtain rfl : K = 0 := by omega
    subst hc0 hN0 hB0
    go_quiet (fail)
    go_wp2
    go_ret
    exact rtake_end HF.out.1 HF.out.2.1 rfl (Cod.At.nil _)
  | some p =>
    obtain ⟨B, off, sp⟩ := p
    go_quiet (fail)
    go_wp2
    · go_ret
      exact rtake_end HF.out.1 HF.out.2.1 HF.out.2.2 (part_at HA.out.1 hKN _ (.inl (by omega)))
    · go_ret
      exact rtake_end HF.out.1 HF.out.2.1 HF.out.2.2 (part_at HA.out.1 hKN _ (.inr rfl))
set_option maxHeartbeats 1000000 in
/-- a copy has the same rows -/
theorem rcopy_any {w : World} {R : Nat} {S : Nat → Prop} {y : Dt} (h : Rf w R S y) : Calls Try.prog 13 #[.pointer (some ⟨R, 0, none⟩)] w (fun e w' => ∃ R2, e = .returned (.pointer (some ⟨R2, 0, none⟩)) ∧ w.heap.size ≤ R2 ∧ Rf w' R2 (fun b => b = R2 ∨ (S b ∧ b ≠ R)) y ∧ Below w.heap.size w w') := by
  have mixed : Try.prog.follows .mixedOrders = true := by kernel_rfl
  obtain ⟨Bs, Es, sent, most⟩ := y
  obtain ⟨a, c, d, e, hR, hA, hE, hSR, hSl, hSa, hSd, hr⟩ := h
  obtain ⟨c0, c1, c2, c3⟩ := ro_cells hR
  have HA := Lib.hid (And.intro hA (And.intro hE (And.intro hSl (And.intro hSa (And.intro hSd hr)))))
  obtain ⟨N, hN⟩ : ∃ N, N = Bs.length := ⟨_, rfl⟩
  obtain ⟨M, hM⟩ : ∃ M, M = Es.length := ⟨_, rfl⟩
  simp only [← hN] at c0
  simp only [← hM] at c1
  have HN := Lib.hid (And.intro hN hM)
  clear hA hE hSl hSa hSd hr hR hSR hN hM
  go_enter Try.func13, Try.ntmps13
  go_wp2_with fail
  have d0 : w.drew.cell? ⟨R, 0, none⟩ = some (.slice a N c) := c0
  have d1 : w.drew.cell? ⟨R, 1, none⟩ = some (.slice d M e) := c1
  have d2 : w.drew.cell? ⟨R, 2, none⟩ = some (.int .i64 (sent : Nat)) := c2
  have d3 : w.drew.cell? ⟨R, 3, none⟩ = some (.int .i64 most) := c3
  clear c0 c1 c2 c3
  go_region
  all_goals
    go_wp2
    go_ret
    obtain ⟨hA, hE, hSl, hSa, hSd, hr⟩ := HA.out
    have hb : Below w.heap.size w (w.drew.alloc (RO (.slice a N c) (.slice d M e) sent most)) := (Below.refl _ _).drew.alloc (Nat.le_refl _) _
    refine ⟨w.heap.size, rfl, Nat.le_refl _, ⟨a, c, d, e, ?_, hA.below hb, hE.below hb, .inl rfl, fun b e => ?_, fun p e => ⟨.inr (hSa p e), ?_⟩, fun p e => ⟨.inr (hSd p e), ?_⟩, hr⟩, hb⟩
    · have := heap_alloc_new w.drew (RO (.slice a N c) (.slice d M e) sent most)
      rw [HN.out.1, HN.out.2] at this ⊢
      exact this
    · rcases e with rfl | e
      · simp
      · exact Nat.lt_of_lt_of_le (hSl b e.1) hb.size
    · exact Nat.ne_of_lt (hSl _ (hSa p e).1)
    · exact Nat.ne_of_lt (hSl _ (hSd p e).1)
end Go.Proofs.Ytfchfhkhflghbaa
