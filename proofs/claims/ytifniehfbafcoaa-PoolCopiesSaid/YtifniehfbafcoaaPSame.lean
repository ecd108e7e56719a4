/-
  The walk of the pool's Same.
-/
import Derived.Test.YtifniehfbafcoaaPList
import Derived.Test.YtifniehfbafcoaaPEq
import Derived.Test.YtifniehfbafcoaaGRound
namespace Go.Proofs.Ytifniehfbafcoaa
open Go Go.Shelf Go.RowKit Go.Lib Go.Sort Go.Proofs

abbrev SmS (G O m n m' n' : Nat) (W : World) : Prop := W.cell? ⟨G, 1, none⟩ = some (.int .i64 (m : Nat)) ∧ W.cell? ⟨G, 2, none⟩ = some (.int .i64 (n : Nat)) ∧ W.cell? ⟨O, 1, none⟩ = some (.int .i64 (m' : Nat)) ∧ W.cell? ⟨O, 2, none⟩ = some (.int .i64 (n' : Nat))
theorem Pl.cells {w : World} {G : Nat} {F : Nat → Prop} {x : List Ms × Nat} (h : Pl w G F x) : w.cell? ⟨G, 1, none⟩ = some (.int .i64 (x.1.length : Nat)) ∧ w.cell? ⟨G, 2, none⟩ = some (.int .i64 (x.2 : Nat)) ∧ x.1.length ≤ 1000000 := by
  obtain ⟨v, vs, bs, h1, h2, h3, h4, h5⟩ := h
  exact ⟨h1.cells.2.1, h1.cells.2.2.1, by omega⟩
set_option maxHeartbeats 4000000 in
theorem pl_same {w : World} {G O : Nat} {F F2 : Nat → Prop} {x y : List Ms × Nat} (h : Pl w G F x) (k : Pl w O F2 y) : Calls Try.prog 13 #[.pointer (some ⟨G, 0, none⟩), .pointer (some ⟨O, 0, none⟩)] w (Tells (.bool (decide (x.1 = y.1 ∧ x.2 = y.2))) w) := by
  have mixed : Try.prog.follows .mixedOrders = true := by kernel_rfl
  obtain ⟨t, ht⟩ : ∃ t, t = decide (x.1 = y.1 ∧ x.2 = y.2) := ⟨_, rfl⟩
  rw [← ht]
  have HT := Lib.hid ht
  obtain ⟨m, hm⟩ : ∃ m, m = x.1.length := ⟨_, rfl⟩
  obtain ⟨m', hm'⟩ : ∃ m', m' = y.1.length := ⟨_, rfl⟩
  obtain ⟨n, hn⟩ : ∃ n, n = x.2 := ⟨_, rfl⟩
  obtain ⟨n', hn'⟩ : ∃ n', n' = y.2 := ⟨_, rfl⟩
  have hs : ∀ W, Below w.heap.size w W → SmS G O m n m' n' W ∧ Pl W G F x ∧ Pl W O F2 y := fun W hb => by
    have h2 : Pl W G F x := Thing.below (A := plT) h hb
    have k2 : Pl W O F2 y := Thing.below (A := plT) k hb
    exact ⟨⟨by rw [hm]; exact h2.cells.1, by rw [hn]; exact h2.cells.2.1, by rw [hm']; exact k2.cells.1, by rw [hn']; exact k2.cells.2.1⟩, h2, k2⟩
  have HS := Lib.hid hs
  have HN : Hid (x.1.length ≤ 1000000 ∧ y.1.length ≤ 1000000) := ⟨h.cells.2.2, k.cells.2.2⟩
  have HD : Hid (Below w.heap.size w w.drew) := (Below.refl _ _).drew
  have hst : SmS G O m n m' n' w := (hs w (Below.refl _ _)).1
  have hstd : SmS G O m n m' n' w.drew := (hs _ HD.out).1
  have HST := Lib.hid hst
  have HSTD := Lib.hid hstd
  have HM := Lib.hid (And.intro hm (And.intro hm' (And.intro hn hn')))
  clear h k ht hs hm hm' hn hn' hst hstd
  by_cases hmm : m = m'
  · subst hmm
    by_cases hnn : n = n'
    · subst hnn
      go_enter Try.func13, Try.ntmps13
      go_wp2_with fail
      go_region_held3 (fun W => SmS G O m n m n W) (first | assumption | exact HST.out | exact HSTD.out | exact HS2.out | exact HS3.out | exact HS4.out)
        (first
          | (go_at_call 29; ((with_reducible refine (plist_any w.drew G F x (HS.out _ HD.out).2.1).mono ?_)); rintro e0 w2 ⟨v2, rfl, ho2, hb2⟩; obtain ⟨a2, c2, rfl, -, hat2, -, -⟩ := ho2.at_ HN.out.1; have HB2 : Hid (Below w.heap.size w w2) := HD.out.trans hb2; have HA2 := Lib.hid hat2; have HS2 := Lib.hid (HS.out _ HB2.out).1; clear ho2 hat2 hb2)
          | (go_at_call 29; ((with_reducible refine (plist_any w2 O F2 y (HS.out _ HB2.out).2.2).mono ?_)); rintro e0 w3 ⟨v3, rfl, ho3, hb3⟩; obtain ⟨a3, c3, rfl, -, hat3, -, -⟩ := ho3.at_ HN.out.2; have HB3 : Hid (Below w.heap.size w w3) := HB2.out.trans (hb3.mono HB2.out.size); have HA3 : Hid (MsC.At w3 a2 x.1.length x.1 ∧ MsC.At w3 a3 y.1.length y.1) := ⟨HA2.out.below hb3, hat3⟩; have HS3 := Lib.hid (HS.out _ HB3.out).1; clear ho3 hat3 hb3)
          | (go_at_call 30; ((with_reducible refine (equal_any w3 a2 a3 _ _ c2 c3 x.1 y.1 HA3.out.1 HA3.out.2).mono ?_)); rintro e0 w4 ⟨rfl, hg4⟩; have HB4 : Hid (Below w.heap.size w w4) := HB3.out.trans (hg4.below.mono HB3.out.size); have HS4 := Lib.hid (HS.out _ HB4.out).1; clear hg4))
      all_goals
        go_wp2
        go_ret
        refine ⟨?_, HB4.out⟩
        have h4 := HM.out
        have e : decide (x.1 = y.1 ∧ x.2 = y.2) = decide (x.1 = y.1) := decide_eq_decide.2 ⟨fun h => h.1, fun h => ⟨h, h4.2.2.1.symm.trans h4.2.2.2⟩⟩
        rw [HT.out, e]
        rfl
    · have hd : ((n : Int) == (n' : Int)) = false := beq_eq_false_iff_ne.2 (by omega)
      have HNE := Lib.hid hnn
      clear hnn
      have c0 := fun nq os => (Gw.of w nq os).cell HST.out.1
      have c1 := fun nq os => (Gw.of w nq os).cell HST.out.2.1
      have c2 := fun nq os => (Gw.of w nq os).cell HST.out.2.2.1
      have c3 := fun nq os => (Gw.of w nq os).cell HST.out.2.2.2
      go_enter Try.func13, Try.ntmps13
      go_wp2_with fail
      refine wp_region_gw (by kernel_rfl) (by kernel_rfl) ?_
      iterate 28 (refine WQ.step (fun K hK => ?_); go_simp; (refine hK _ ?_; clear hK K))
      refine WQ.nil ?_
      intro _ hw'
      obtain ⟨⟨nq, osq⟩, hw''⟩ := hw'
      subst hw''
      have G2 : Hid (Gw w (grow (w.drewN nq) osq)) := Gw.of w nq osq
      clear c0 c1 c2 c3
      generalize grow (w.drewN nq) osq = w2 at G2 ⊢
      go_wp2
      go_ret
      refine ⟨?_, G2.out.below⟩
      have h4 := HM.out
      have e : decide (x.1 = y.1 ∧ x.2 = y.2) = false := decide_eq_false fun h => HNE.out (h4.2.2.1.trans (h.2.trans h4.2.2.2.symm))
      rw [HT.out, e]
      rfl
  · have hd : ((m : Int) == (m' : Int)) = false := beq_eq_false_iff_ne.2 (by omega)
    have HNE := Lib.hid hmm
    clear hmm
    have c0 := fun nq os => (Gw.of w nq os).cell HST.out.1
    have c1 := fun nq os => (Gw.of w nq os).cell HST.out.2.1
    have c2 := fun nq os => (Gw.of w nq os).cell HST.out.2.2.1
    have c3 := fun nq os => (Gw.of w nq os).cell HST.out.2.2.2
    go_enter Try.func13, Try.ntmps13
    go_wp2_with fail
    refine wp_region_gw (by kernel_rfl) (by kernel_rfl) ?_
    iterate 28 (refine WQ.step (fun K hK => ?_); go_simp; (refine hK _ ?_; clear hK K))
    refine WQ.nil ?_
    intro _ hw'
    obtain ⟨⟨nq, osq⟩, hw''⟩ := hw'
    subst hw''
    have G2 : Hid (Gw w (grow (w.drewN nq) osq)) := Gw.of w nq osq
    clear c0 c1 c2 c3
    generalize grow (w.drewN nq) osq = w2 at G2 ⊢
    go_wp2
    go_ret
    refine ⟨?_, G2.out.below⟩
    have h4 := HM.out
    have e : decide (x.1 = y.1 ∧ x.2 = y.2) = false := decide_eq_false fun h => HNE.out (h4.1.trans ((congrArg List.length h.1).trans h4.2.1.symm))
    rw [HT.out, e]
    rfl
end Go.Proofs.Ytifniehfbafcoaa
