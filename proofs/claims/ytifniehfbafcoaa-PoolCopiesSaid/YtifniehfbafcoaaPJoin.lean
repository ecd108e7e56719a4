/-
  The walk of join.
-/
import Derived.Test.YtifniehfbafcoaaPJoinM
import Derived.Test.YtifniehfbafcoaaGRound
import Derived.Deep.RegionLaw
import Derived.Deep.LoopGhost
import Derived.WalkKit
import Derived.ProofKit
namespace Go.Proofs.Ytifniehfbafcoaa
open Go Go.RowKit Go.Lib Go.Sort Go.Proofs

/-- nothing is told; the same messages, in other blocks -/
def JoinTo (G : Nat) (F : Nat → Prop) (bs : List (List Ms)) (m n : Nat) (w : World) (e : Ending) (w' : World) : Prop := e = .returned (.tuple #[]) ∧ Reb G F bs m n w w'
set_option maxHeartbeats 2000000 in
theorem join_neg {w : World} {G : Nat} {F : Nat → Prop} {v : Value} {vs : List Sl} {bs : List (List Ms)} {m n : Nat} (h : PlX w G F v vs bs m n) (i : Int) (hi : i < 0) : Calls Try.prog 39 #[.pointer (some ⟨G, 0, none⟩), .int .i64 i] w (JoinTo G F bs m n w) := by
  have mixed : Try.prog.follows .mixedOrders = true := by kernel_rfl
  have H0 := Lib.hid h
  clear h
  go_enter Try.func39, Try.ntmps39
  go_wp2_with fail
  refine wp_region_gw (by kernel_rfl) (by kernel_rfl) ?_
  iterate 33 (refine WQ.step (fun K hK => ?_); go_simp; (refine hK _ ?_; clear hK K))
  refine WQ.nil ?_
  intro _ hw'
  obtain ⟨⟨nq, osq⟩, hw''⟩ := hw'
  subst hw''
  have G2 : Hid (Gw w (grow (w.drewN nq) osq)) := Gw.of w nq osq
  generalize grow (w.drewN nq) osq = w2 at G2 ⊢
  go_wp2
  go_end0
  exact ⟨rfl, Reb.of_gw H0.out G2.out⟩
set_option maxHeartbeats 2000000 in
theorem join_last {w : World} {G : Nat} {F : Nat → Prop} {v : Value} {vs : List Sl} {bs : List (List Ms)} {m n : Nat} (h : PlX w G F v vs bs m n) (i : Nat) (hi : bs.length ≤ i + 1) (hib : i ≤ 1000000) : Calls Try.prog 39 #[.pointer (some ⟨G, 0, none⟩), .int .i64 i] w (JoinTo G F bs m n w) := by
  have mixed : Try.prog.follows .mixedOrders = true := by kernel_rfl
  obtain ⟨a, k, c, rfl⟩ := h.row.shape
  have hk : k = vs.length := h.row.size.1
  have c0 := fun nq os => (Gw.of w nq os).cell h.cells.1
  have hl := h.len
  obtain ⟨j, hj⟩ : ∃ j, j = i + 1 := ⟨_, rfl⟩
  have hw1 : IntKind.i64.wrap ((i : Int) + 1) = (j : Int) := by rw [IntKind.wrap_i64]; omega
  have hd0 : decide ((i : Int) < 0) = false := by simp
  have hd : decide ((k : Int) ≤ (j : Int)) = true := by simp; omega
  have hkj : k ≤ j := by omega
  have H0 := Lib.hid h
  clear h hk hl hi hj
  go_enter Try.func39, Try.ntmps39
  go_wp2_with fail
  refine wp_region_gw (by kernel_rfl) (by kernel_rfl) ?_
  iterate 33 (refine WQ.step (fun K hK => ?_); go_simp; (refine hK _ ?_; clear hK K))
  refine WQ.nil ?_
  intro _ hw'
  obtain ⟨⟨nq, osq⟩, hw''⟩ := hw'
  subst hw''
  have G2 : Hid (Gw w (grow (w.drewN nq) osq)) := Gw.of w nq osq
  clear c0
  generalize grow (w.drewN nq) osq = w2 at G2 ⊢
  go_wp2
  go_end0
  exact ⟨rfl, Reb.of_gw H0.out G2.out⟩
set_option maxHeartbeats 4000000 in
theorem join_full {w : World} {G : Nat} {F : Nat → Prop} {v : Value} {vs : List Sl} {bs : List (List Ms)} {m n : Nat} (h : PlX w G F v vs bs m n) (i : Nat) (l1 l2 : List Ms) (h1 : bs[i]? = some l1) (h2 : bs[i + 1]? = some l2) (hs : 128 < l1.length + l2.length) (hbl : bs.length ≤ 1000000) : Calls Try.prog 39 #[.pointer (some ⟨G, 0, none⟩), .int .i64 i] w (JoinTo G F bs m n w) := by
  have mixed : Try.prog.follows .mixedOrders = true := by kernel_rfl
  have hi2 : i + 1 < bs.length := (List.getElem?_eq_some_iff.1 h2).1
  obtain ⟨g, c, rfl, -⟩ := h.row.some_ (by rw [h.len]; omega)
  obtain ⟨k, hk⟩ : ∃ k, k = vs.length := ⟨_, rfl⟩
  have hl := h.len
  rw [← hk] at h
  obtain ⟨j, hj⟩ : ∃ j, j = i + 1 := ⟨_, rfl⟩
  rw [← hj] at h2
  obtain ⟨⟨a1, n1, p1⟩, hs1⟩ := h.ex2 (j := i) (by omega)
  obtain ⟨⟨a2, n2, p2⟩, hs2⟩ := h.ex2 (j := j) (by omega)
  have e1 : n1 = l1.length := (h.own i _ l1 hs1 h1).size.1
  have e2 : n2 = l2.length := (h.own j _ l2 hs2 h2).size.1
  have k1 := h.le l1 (List.mem_of_getElem? h1)
  have k2 := h.le l2 (List.mem_of_getElem? h2)
  have c0 := fun nq os => (Gw.of w nq os).cell h.cells.1
  have c1 := fun nq os => (Gw.of w nq os).cell (sl_cell h.row hs1)
  have c2 := fun nq os => (Gw.of w nq os).cell (sl_cell h.row hs2)
  obtain ⟨q, hq⟩ : ∃ q, q = n1 + n2 := ⟨_, rfl⟩
  have hw1 : IntKind.i64.wrap ((i : Int) + 1) = (j : Int) := by rw [IntKind.wrap_i64]; omega
  have hw2 : IntKind.i64.wrap ((n1 : Int) + (n2 : Int)) = (q : Int) := by rw [IntKind.wrap_i64]; omega
  have hd0 : decide ((i : Int) < 0) = false := by simp
  have hd : decide ((k : Int) ≤ (j : Int)) = false := by simp; omega
  have hkj : ¬ k ≤ j := by omega
  have hik : i < k := by omega
  have hjk : j < k := by omega
  have hikz : (i : Int) < (k : Int) := by omega
  have hjkz : (j : Int) < (k : Int) := by omega
  have hds : decide ((128 : Int) < (q : Int)) = true := by simp; omega
  have hsq : 128 < q := by omega
  have H0 := Lib.hid h
  clear h hk hl hj h1 h2 hs1 hs2 e1 e2 k1 k2 hq hs hi2 hbl
  go_enter Try.func39, Try.ntmps39
  go_wp2_with fail
  refine wp_region_gw (by kernel_rfl) (by kernel_rfl) ?_
  iterate 33 (refine WQ.step (fun K hK => ?_); go_simp; (refine hK _ ?_; clear hK K))
  refine WQ.nil ?_
  intro _ hw'
  obtain ⟨⟨nq, osq⟩, hw''⟩ := hw'
  subst hw''
  have G2 : Hid (Gw w (grow (w.drewN nq) osq)) := Gw.of w nq osq
  clear c0 c1 c2
  generalize grow (w.drewN nq) osq = w2 at G2 ⊢
  go_wp2
  go_end0
  exact ⟨rfl, Reb.of_gw H0.out G2.out⟩
set_option maxHeartbeats 4000000 in
theorem join_two {w : World} {G : Nat} {F : Nat → Prop} {v : Value} {vs : List Sl} {bs : List (List Ms)} {m n : Nat} (h : PlX w G F v vs bs m n) (i : Nat) (l1 l2 : List Ms) (h1 : bs[i]? = some l1) (h2 : bs[i + 1]? = some l2) (hs : l1.length + l2.length ≤ 128) (hbl : bs.length ≤ 1000000) : Calls Try.prog 39 #[.pointer (some ⟨G, 0, none⟩), .int .i64 i] w (JoinTo G F bs m n w) := by
  have mixed : Try.prog.follows .mixedOrders = true := by kernel_rfl
  have hi2 : i + 1 < bs.length := (List.getElem?_eq_some_iff.1 h2).1
  obtain ⟨g, c, rfl, -⟩ := h.row.some_ (by rw [h.len]; omega)
  obtain ⟨k, hk⟩ : ∃ k, k = vs.length := ⟨_, rfl⟩
  have hl := h.len
  rw [← hk] at h
  obtain ⟨j, hj⟩ : ∃ j, j = i + 1 := ⟨_, rfl⟩
  have HFL : Hid (((bs.set i (l1 ++ l2)).eraseIdx j).flatten = bs.flatten) := by rw [hj]; exact join_flat h1 h2
  rw [← hj] at h2
  obtain ⟨⟨a1, n1, p1⟩, hs1⟩ := h.ex2 (j := i) (by omega)
  obtain ⟨⟨a2, n2, p2⟩, hs2⟩ := h.ex2 (j := j) (by omega)
  have e1 : n1 = l1.length := (h.own i _ l1 hs1 h1).size.1
  have e2 : n2 = l2.length := (h.own j _ l2 hs2 h2).size.1
  have k1 := h.le l1 (List.mem_of_getElem? h1)
  have k2 := h.le l2 (List.mem_of_getElem? h2)
  have c0 := fun nq os => (Gw.of w nq os).cell h.cells.1
  have c1 := fun nq os => (Gw.of w nq os).cell (sl_cell h.row hs1)
  have c2 := fun nq os => (Gw.of w nq os).cell (sl_cell h.row hs2)
  obtain ⟨q, hq⟩ : ∃ q, q = n1 + n2 := ⟨_, rfl⟩
  obtain ⟨p, hp⟩ : ∃ p, p = j + 1 := ⟨_, rfl⟩
  have hw1 : IntKind.i64.wrap ((i : Int) + 1) = (j : Int) := by rw [IntKind.wrap_i64]; omega
  have hw2 : IntKind.i64.wrap ((n1 : Int) + (n2 : Int)) = (q : Int) := by rw [IntKind.wrap_i64]; omega
  have hw3 : IntKind.i64.wrap ((i : Int) + 2) = (p : Int) := by rw [IntKind.wrap_i64]; omega
  have hw1b : IntKind.i64.wrap (j : Int) = (j : Int) := by rw [IntKind.wrap_i64]; omega
  have hw3b : IntKind.i64.wrap (p : Int) = (p : Int) := by rw [IntKind.wrap_i64]; omega
  have hv1 : (i : Int) + 1 = (j : Int) := by omega
  have hv3 : (i : Int) + 2 = (p : Int) := by omega
  have hd0 : decide ((i : Int) < 0) = false := by simp
  have hd : decide ((k : Int) ≤ (j : Int)) = false := by simp; omega
  have hkj : ¬ k ≤ j := by omega
  have hik : i < k := by omega
  have hjk : j < k := by omega
  have hikz : (i : Int) < (k : Int) := by omega
  have hjkz : (j : Int) < (k : Int) := by omega
  have hds : decide ((128 : Int) < (q : Int)) = false := by simp; omega
  have hsq : ¬ 128 < q := by omega
  have H0 := Lib.hid h
  have HS1 := Lib.hid hs1
  have HS2 := Lib.hid hs2
  have H1 := Lib.hid h1
  have H2 := Lib.hid h2
  have H128 : Hid ((l1 ++ l2).length ≤ 128) := by show _ ≤ _; rw [List.length_append]; exact hs
  have HJ : Hid (j < k ∧ p = j + 1 ∧ k = vs.length) := ⟨hjk, hp, hk⟩
  clear h hk hl hj h1 h2 hs1 hs2 e1 e2 k1 k2 hq hs hi2 hbl hp
  go_enter Try.func39, Try.ntmps39
  go_wp2_with fail
  refine wp_region_gw (by kernel_rfl) (by kernel_rfl) ?_
  iterate 33 (refine WQ.step (fun K hK => ?_); go_simp; (refine hK _ ?_; clear hK K))
  refine WQ.nil ?_
  intro _ hw'
  obtain ⟨⟨nq, osq⟩, hw''⟩ := hw'
  subst hw''
  have G2 : Hid (Gw w (grow (w.drewN nq) osq)) := Gw.of w nq osq
  clear c0 c1 c2
  generalize grow (w.drewN nq) osq = w2 at G2 ⊢
  have HP := Lib.hid (H0.out.below G2.out.below)
  have c0 := HP.out.cells.1
  have c1 := sl_cell HP.out.row HS1.out
  have c2 := sl_cell HP.out.row HS2.out
  have a0 : w2.drew.cell? ⟨G, 0, none⟩ = some (.slice (some ⟨g, 0, none⟩) k c) := c0
  go_wp2_with fail
  go_region_law (first
    | (refine rowM.step_own rfl _ _ rfl 0 0 (slV (a1, n1, p1)) (slV (a2, n2, p2)) l1 l2 (by simp [Act.eval]) ((HP.out.own i _ l1 HS1.out H1.out).but ((But.refl (fun _ => False) w2).drew) (fun _ _ e => e)) (by simp [Act.eval]) ((HP.out.own j _ l2 HS2.out H2.out).but ((But.refl (fun _ => False) w2).drew) (fun _ _ e => e)) (by have := H128.out; rw [List.length_append] at this; omega) (by have := H128.out; rw [List.length_append] at this; omega) (Nat.zero_le _) ?_; intro v5 w5 hown5 hgrow5 hnew5; obtain ⟨s5, rfl, q0, q1, q2, hp6, hb6⟩ := HP.out.turned ((Below.refl w2.heap.size w2).drew) HS1.out H128.out (But.grown hgrow5) hown5 hnew5.1; have H6 := Lib.hid (And.intro hp6 hb6); clear hown5 hgrow5 hnew5 hp6 hb6))
  all_goals
    obtain ⟨w6, hw6⟩ : ∃ w6, w6 = w5.setCell ⟨g, i, none⟩ (slV s5) := ⟨_, rfl⟩
    rw [← hw6] at H6 ⊢
    clear hw6 q0 q1 q2 c0 c1 c2 a0
    have c0 := H6.out.1.cells.1
    go_wp2_with (go_at_call 41; refine (delS_any w6 g k c j p _ H6.out.1.row HJ.out.1 HJ.out.2.1).mono ?_; rintro e w7 ⟨rfl, ho7, hb7⟩; obtain ⟨q0, q1, hp8, hb8⟩ := H6.out.1.drop hb7 ho7; have H8 := Lib.hid (And.intro hp8 hb8); clear ho7 hb7 hp8 hb8)
    go_end0
    refine ⟨rfl, _, _, _, H8.out.1.wide (fun b e => ?_) (fun b e => ?_), HFL.out, ?_, ((But.refl F w).gw G2.out).trans (H6.out.2.next H8.out.2 fun b hb e => ?_)⟩
    · rcases e with e | e
      · exact .inl e
      · exact .inr ⟨Nat.le_trans G2.out.size e.1, Nat.lt_of_lt_of_le e.2 H8.out.2.size⟩
    · rcases e with e | e
      · exact Nat.lt_of_lt_of_le (HP.out.lt b e) (Nat.le_trans H6.out.2.size H8.out.2.size)
      · exact e.2
    · have h1 := H8.out.1.len
      have h2 := HJ.out
      rw [List.length_eraseIdx, List.length_set]
      split <;> omega
    · exact e.elim id fun e => absurd hb (Nat.not_lt.2 e.1)
end Go.Proofs.Ytifniehfbafcoaa
