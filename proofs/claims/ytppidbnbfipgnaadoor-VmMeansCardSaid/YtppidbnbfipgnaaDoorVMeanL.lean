/-
  The walk of the law VmMeans: where the law doesn't look (known).
-/
import Derived.Test.YtppidbnbfipgnaaDoorVMeanM
import Derived.Test.YtppidbnbfipgnaaDoorVKnown
namespace Go.Proofs.YtppidbnbfipgnaaDoor
open Go Go.RowKit Go.Sort Go.Proofs CodM VmM

set_option maxHeartbeats 2000000 in
set_option maxRecDepth 100000 in
theorem means_known (w : World) (hW : Wds w) (p : Prg) (a : Option Addr) (n c : Nat) (hp : ProgAt w a n p) (m : Mch) (va : Option Addr) (vn vc : Nat) (sent drawn : Int) (ea : Option Addr) (en ec : Nat)
    (hk : muchR p = true ∨ 20 < vn ∨ 30 < en ∨ rmayV n p m ≠ 0 ∨ ¬ ((vn : Int) = p.vars ∧ 0 ≤ sent ∧ 0 ≤ drawn) ∨ 1099511627776 < sent ∨ 1099511627776 < drawn) :
    Calls Tryd.prog 4 #[.agg #[.int .i64 p.vars, .slice a n c], .int .i64 m.self, .int .i64 m.procs, .int .i64 m.seed, stV va vn vc sent drawn, .slice ea en ec] w (TellsBB true w) := by
  have HM : Hid (∀ W, Below w.heap.size w W → Calls Tryd.prog 6 #[.agg #[.int .i64 p.vars, .slice a n c]] W (TellsBB (muchR p) W)) := Lib.hid fun W hb => rmuch_any W a n c p ⟨hp.1, hp.2.below hb (Nat.le_refl _)⟩
  have HY : Hid (∀ W, Below w.heap.size w W → Calls Tryd.prog 9 #[.agg (mcC p.vars a n c m)] W (fun e w' => e = .returned (.int .i64 (rmayV n p m)) ∧ Below W.heap.size W w')) := Lib.hid fun W hb => rMay8_any W a n c p m ⟨hp.1, hp.2.below hb (Nat.le_refl _)⟩
  have HI : Hid (∀ W, Below w.heap.size w W → Calls Tryd.prog 12 #[.agg (mcC p.vars a n c m), stV va vn vc sent drawn] W (fun e w' => e = .returned (.bool (decide ((vn : Int) = p.vars ∧ 0 ≤ sent ∧ 0 ≤ drawn))) ∧ Below W.heap.size W w')) := Lib.hid fun W _ => rIs_any W p.vars a n c m va vn vc sent drawn
  have HK : Hid (∀ W, Below w.heap.size w W → Calls Tryd.prog 7 #[] W (TellsBB true W)) := Lib.hid fun W hb => known_any W (hW.next hb (Nat.le_refl _))
  obtain ⟨u1, hu1⟩ : ∃ u1, u1 = muchR p := ⟨_, rfl⟩
  obtain ⟨u2, hu2⟩ : ∃ u2, u2 = rmayV n p m := ⟨_, rfl⟩
  obtain ⟨u3, hu3⟩ : ∃ u3, u3 = decide ((vn : Int) = p.vars ∧ 0 ≤ sent ∧ 0 ≤ drawn) := ⟨_, rfl⟩
  have hk' : u1 = true ∨ 20 < vn ∨ 30 < en ∨ u2 ≠ 0 ∨ u3 = false ∨ 1099511627776 < sent ∨ 1099511627776 < drawn := by
    rw [hu1, hu2, hu3]
    rcases hk with h | h | h | h | h | h | h
    · exact .inl h
    · exact .inr (.inl h)
    · exact .inr (.inr (.inl h))
    · exact .inr (.inr (.inr (.inl h)))
    · exact .inr (.inr (.inr (.inr (.inl (decide_eq_false h)))))
    · exact .inr (.inr (.inr (.inr (.inr (.inl h)))))
    · exact .inr (.inr (.inr (.inr (.inr (.inr h)))))
  rw [← hu1] at HM
  rw [← hu2] at HY
  rw [← hu3] at HI
  clear hk hp hW hu1 hu2 hu3
  obtain ⟨pv, hpv⟩ : ∃ pv, pv = p.vars := ⟨_, rfl⟩
  rw [← hpv] at HM HY HI ⊢
  clear hpv
  obtain ⟨self, procs, seed⟩ := m
  simp only at *
  go_enter Tryd.func4, Tryd.ntmps4
  go_upto_region 2 with fail
  obtain ⟨wb, hwb⟩ : ∃ wb, wb = ((w.alloc (.cells #[.int .i64 pv, .slice a n c] 24)).alloc (.cells #[.slice va vn vc, .int .i64 sent, .int .i64 drawn] 27)).alloc (.cells #[.int .i64 pv, .slice a n c, .int .i64 self, .int .i64 procs, .int .i64 seed] 39) := ⟨_, rfl⟩
  have hb0 : Below w.heap.size w wb := by rw [hwb]; exact (((Below.refl _ _).alloc (Nat.le_refl _) _).alloc (by simp) _).alloc (by simp; omega) _
  have z1 : ∀ o : Obj, (w.alloc o).heap.size = w.heap.size + 1 := fun o => by simp
  have z2 : ∀ o p : Obj, ((w.alloc o).alloc p).heap.size = w.heap.size + 1 + 1 := fun o p => by simp
  have x0 : wb.heap[w.heap.size]? = some (.cells #[.int .i64 pv, .slice a n c] 24 (0, 0)) := by
    rw [hwb, heap_alloc_old _ _ (by rw [z2]; omega), heap_alloc_old _ _ (by rw [z1]; omega), heap_alloc_new]
  have x1 : wb.heap[w.heap.size + 1]? = some (.cells #[.slice va vn vc, .int .i64 sent, .int .i64 drawn] 27 (0, 0)) := by
    rw [hwb, heap_alloc_old _ _ (by rw [z2]; omega), ← z1, heap_alloc_new]
  have x2 : wb.heap[w.heap.size + 1 + 1]? = some (.cells #[.int .i64 pv, .slice a n c, .int .i64 self, .int .i64 procs, .int .i64 seed] 39 (0, 0)) := by
    rw [hwb, ← z2, heap_alloc_new]
  have f0 : wb.cell? ⟨w.heap.size, 0, none⟩ = some (.int .i64 pv) := by rw [cell_of_row _ _ _ _ _ _ x0]; rfl
  have f1 : wb.cell? ⟨w.heap.size, 1, none⟩ = some (.slice a n c) := by rw [cell_of_row _ _ _ _ _ _ x0]; rfl
  have g0 : wb.cell? ⟨w.heap.size + 1, 0, none⟩ = some (.slice va vn vc) := by rw [cell_of_row _ _ _ _ _ _ x1]; rfl
  have g1 : wb.cell? ⟨w.heap.size + 1, 1, none⟩ = some (.int .i64 sent) := by rw [cell_of_row _ _ _ _ _ _ x1]; rfl
  have g2 : wb.cell? ⟨w.heap.size + 1, 2, none⟩ = some (.int .i64 drawn) := by rw [cell_of_row _ _ _ _ _ _ x1]; rfl
  have h0 : wb.cell? ⟨w.heap.size + 1 + 1, 0, none⟩ = some (.int .i64 pv) := by rw [cell_of_row _ _ _ _ _ _ x2]; rfl
  have h1 : wb.cell? ⟨w.heap.size + 1 + 1, 1, none⟩ = some (.slice a n c) := by rw [cell_of_row _ _ _ _ _ _ x2]; rfl
  have h2 : wb.cell? ⟨w.heap.size + 1 + 1, 2, none⟩ = some (.int .i64 self) := by rw [cell_of_row _ _ _ _ _ _ x2]; rfl
  have h3 : wb.cell? ⟨w.heap.size + 1 + 1, 3, none⟩ = some (.int .i64 procs) := by rw [cell_of_row _ _ _ _ _ _ x2]; rfl
  have h4 : wb.cell? ⟨w.heap.size + 1 + 1, 4, none⟩ = some (.int .i64 seed) := by rw [cell_of_row _ _ _ _ _ _ x2]; rfl
  have HB := Lib.hid hb0
  rw [← hwb]
  clear hwb hb0 z1 z2 x0 x1 x2
  cases u1 with
  | true =>
    clear hk'
    go_wp2_with (first
      | (go_at_call 6; refine (HM.out _ HB.out).mono ?_; rintro e5 w5 ⟨rfl, hb5⟩; have f0 := keepc hb5 f0; have f1 := keepc hb5 f1; have g0 := keepc hb5 g0; have g1 := keepc hb5 g1; have g2 := keepc hb5 g2; have h0 := keepc hb5 h0; have h1 := keepc hb5 h1; have h2 := keepc hb5 h2; have h3 := keepc hb5 h3; have h4 := keepc hb5 h4; have HB5 := Lib.hid (HB.out.trans (hb5.mono HB.out.size)); clear hb5)
      | (go_at_call 9; refine (HY.out _ HB5.out).mono ?_; rintro e6 w6 ⟨rfl, hb6⟩; have f0 := keepc hb6 f0; have f1 := keepc hb6 f1; have g0 := keepc hb6 g0; have g1 := keepc hb6 g1; have g2 := keepc hb6 g2; have h0 := keepc hb6 h0; have h1 := keepc hb6 h1; have h2 := keepc hb6 h2; have h3 := keepc hb6 h3; have h4 := keepc hb6 h4; have HB6 := Lib.hid (HB5.out.trans (hb6.mono HB5.out.size)); clear hb6)
      | (go_at_call 12; refine (HI.out _ HB6.out).mono ?_; rintro e7 w7 ⟨rfl, hb7⟩; have f0 := keepc hb7 f0; have f1 := keepc hb7 f1; have g0 := keepc hb7 g0; have g1 := keepc hb7 g1; have g2 := keepc hb7 g2; have h0 := keepc hb7 h0; have h1 := keepc hb7 h1; have h2 := keepc hb7 h2; have h3 := keepc hb7 h3; have h4 := keepc hb7 h4; have HB7 := Lib.hid (HB6.out.trans (hb7.mono HB6.out.size)); clear hb7)
      | (go_at_call 7; refine (HK.out _ HB5.out).mono ?_; rintro e9 w9 ⟨rfl, hb9⟩; have HB9 := Lib.hid (HB5.out.trans (hb9.mono HB5.out.size)); clear hb9))
    go_ret
    exact ⟨rfl, HB9.out⟩
  | false =>
    by_cases c1 : 20 < vn
    · clear hk'
      go_wp2_with (first
        | (go_at_call 6; refine (HM.out _ HB.out).mono ?_; rintro e5 w5 ⟨rfl, hb5⟩; have f0 := keepc hb5 f0; have f1 := keepc hb5 f1; have g0 := keepc hb5 g0; have g1 := keepc hb5 g1; have g2 := keepc hb5 g2; have h0 := keepc hb5 h0; have h1 := keepc hb5 h1; have h2 := keepc hb5 h2; have h3 := keepc hb5 h3; have h4 := keepc hb5 h4; have HB5 := Lib.hid (HB.out.trans (hb5.mono HB.out.size)); clear hb5)
        | (go_at_call 9; refine (HY.out _ HB5.out).mono ?_; rintro e6 w6 ⟨rfl, hb6⟩; have f0 := keepc hb6 f0; have f1 := keepc hb6 f1; have g0 := keepc hb6 g0; have g1 := keepc hb6 g1; have g2 := keepc hb6 g2; have h0 := keepc hb6 h0; have h1 := keepc hb6 h1; have h2 := keepc hb6 h2; have h3 := keepc hb6 h3; have h4 := keepc hb6 h4; have HB6 := Lib.hid (HB5.out.trans (hb6.mono HB5.out.size)); clear hb6)
        | (go_at_call 12; refine (HI.out _ HB6.out).mono ?_; rintro e7 w7 ⟨rfl, hb7⟩; have f0 := keepc hb7 f0; have f1 := keepc hb7 f1; have g0 := keepc hb7 g0; have g1 := keepc hb7 g1; have g2 := keepc hb7 g2; have h0 := keepc hb7 h0; have h1 := keepc hb7 h1; have h2 := keepc hb7 h2; have h3 := keepc hb7 h3; have h4 := keepc hb7 h4; have HB7 := Lib.hid (HB6.out.trans (hb7.mono HB6.out.size)); clear hb7)
        | (go_at_call 7; refine (HK.out _ HB5.out).mono ?_; rintro e9 w9 ⟨rfl, hb9⟩; have HB9 := Lib.hid (HB5.out.trans (hb9.mono HB5.out.size)); clear hb9))
      go_ret
      exact ⟨rfl, HB9.out⟩
    by_cases c2 : 30 < en
    · clear hk'
      go_wp2_with (first
        | (go_at_call 6; refine (HM.out _ HB.out).mono ?_; rintro e5 w5 ⟨rfl, hb5⟩; have f0 := keepc hb5 f0; have f1 := keepc hb5 f1; have g0 := keepc hb5 g0; have g1 := keepc hb5 g1; have g2 := keepc hb5 g2; have h0 := keepc hb5 h0; have h1 := keepc hb5 h1; have h2 := keepc hb5 h2; have h3 := keepc hb5 h3; have h4 := keepc hb5 h4; have HB5 := Lib.hid (HB.out.trans (hb5.mono HB.out.size)); clear hb5)
        | (go_at_call 9; refine (HY.out _ HB5.out).mono ?_; rintro e6 w6 ⟨rfl, hb6⟩; have f0 := keepc hb6 f0; have f1 := keepc hb6 f1; have g0 := keepc hb6 g0; have g1 := keepc hb6 g1; have g2 := keepc hb6 g2; have h0 := keepc hb6 h0; have h1 := keepc hb6 h1; have h2 := keepc hb6 h2; have h3 := keepc hb6 h3; have h4 := keepc hb6 h4; have HB6 := Lib.hid (HB5.out.trans (hb6.mono HB5.out.size)); clear hb6)
        | (go_at_call 12; refine (HI.out _ HB6.out).mono ?_; rintro e7 w7 ⟨rfl, hb7⟩; have f0 := keepc hb7 f0; have f1 := keepc hb7 f1; have g0 := keepc hb7 g0; have g1 := keepc hb7 g1; have g2 := keepc hb7 g2; have h0 := keepc hb7 h0; have h1 := keepc hb7 h1; have h2 := keepc hb7 h2; have h3 := keepc hb7 h3; have h4 := keepc hb7 h4; have HB7 := Lib.hid (HB6.out.trans (hb7.mono HB6.out.size)); clear hb7)
        | (go_at_call 7; refine (HK.out _ HB5.out).mono ?_; rintro e9 w9 ⟨rfl, hb9⟩; have HB9 := Lib.hid (HB5.out.trans (hb9.mono HB5.out.size)); clear hb9))
      go_ret
      exact ⟨rfl, HB9.out⟩
    by_cases c3 : u2 = 0
    · subst c3
      cases u3 with
      | false =>
        clear hk'
        go_wp2_with (first
          | (go_at_call 6; refine (HM.out _ HB.out).mono ?_; rintro e5 w5 ⟨rfl, hb5⟩; have f0 := keepc hb5 f0; have f1 := keepc hb5 f1; have g0 := keepc hb5 g0; have g1 := keepc hb5 g1; have g2 := keepc hb5 g2; have h0 := keepc hb5 h0; have h1 := keepc hb5 h1; have h2 := keepc hb5 h2; have h3 := keepc hb5 h3; have h4 := keepc hb5 h4; have HB5 := Lib.hid (HB.out.trans (hb5.mono HB.out.size)); clear hb5)
          | (go_at_call 9; refine (HY.out _ HB5.out).mono ?_; rintro e6 w6 ⟨rfl, hb6⟩; have f0 := keepc hb6 f0; have f1 := keepc hb6 f1; have g0 := keepc hb6 g0; have g1 := keepc hb6 g1; have g2 := keepc hb6 g2; have h0 := keepc hb6 h0; have h1 := keepc hb6 h1; have h2 := keepc hb6 h2; have h3 := keepc hb6 h3; have h4 := keepc hb6 h4; have HB6 := Lib.hid (HB5.out.trans (hb6.mono HB5.out.size)); clear hb6)
          | (go_at_call 12; refine (HI.out _ HB6.out).mono ?_; rintro e7 w7 ⟨rfl, hb7⟩; have f0 := keepc hb7 f0; have f1 := keepc hb7 f1; have g0 := keepc hb7 g0; have g1 := keepc hb7 g1; have g2 := keepc hb7 g2; have h0 := keepc hb7 h0; have h1 := keepc hb7 h1; have h2 := keepc hb7 h2; have h3 := keepc hb7 h3; have h4 := keepc hb7 h4; have HB7 := Lib.hid (HB6.out.trans (hb7.mono HB6.out.size)); clear hb7)
          | (go_at_call 7; refine (HK.out _ HB7.out).mono ?_; rintro e9 w9 ⟨rfl, hb9⟩; have HB9 := Lib.hid (HB7.out.trans (hb9.mono HB7.out.size)); clear hb9))
        go_ret
        exact ⟨rfl, HB9.out⟩
      | true =>
        by_cases c4 : 1099511627776 < sent
        · clear hk'
          go_wp2_with (first
            | (go_at_call 6; refine (HM.out _ HB.out).mono ?_; rintro e5 w5 ⟨rfl, hb5⟩; have f0 := keepc hb5 f0; have f1 := keepc hb5 f1; have g0 := keepc hb5 g0; have g1 := keepc hb5 g1; have g2 := keepc hb5 g2; have h0 := keepc hb5 h0; have h1 := keepc hb5 h1; have h2 := keepc hb5 h2; have h3 := keepc hb5 h3; have h4 := keepc hb5 h4; have HB5 := Lib.hid (HB.out.trans (hb5.mono HB.out.size)); clear hb5)
            | (go_at_call 9; refine (HY.out _ HB5.out).mono ?_; rintro e6 w6 ⟨rfl, hb6⟩; have f0 := keepc hb6 f0; have f1 := keepc hb6 f1; have g0 := keepc hb6 g0; have g1 := keepc hb6 g1; have g2 := keepc hb6 g2; have h0 := keepc hb6 h0; have h1 := keepc hb6 h1; have h2 := keepc hb6 h2; have h3 := keepc hb6 h3; have h4 := keepc hb6 h4; have HB6 := Lib.hid (HB5.out.trans (hb6.mono HB5.out.size)); clear hb6)
            | (go_at_call 12; refine (HI.out _ HB6.out).mono ?_; rintro e7 w7 ⟨rfl, hb7⟩; have f0 := keepc hb7 f0; have f1 := keepc hb7 f1; have g0 := keepc hb7 g0; have g1 := keepc hb7 g1; have g2 := keepc hb7 g2; have h0 := keepc hb7 h0; have h1 := keepc hb7 h1; have h2 := keepc hb7 h2; have h3 := keepc hb7 h3; have h4 := keepc hb7 h4; have HB7 := Lib.hid (HB6.out.trans (hb7.mono HB6.out.size)); clear hb7)
            | (go_at_call 7; refine (HK.out _ HB7.out).mono ?_; rintro e9 w9 ⟨rfl, hb9⟩; have HB9 := Lib.hid (HB7.out.trans (hb9.mono HB7.out.size)); clear hb9))
          go_ret
          exact ⟨rfl, HB9.out⟩
        by_cases c5 : 1099511627776 < drawn
        · clear hk'
          go_wp2_with (first
            | (go_at_call 6; refine (HM.out _ HB.out).mono ?_; rintro e5 w5 ⟨rfl, hb5⟩; have f0 := keepc hb5 f0; have f1 := keepc hb5 f1; have g0 := keepc hb5 g0; have g1 := keepc hb5 g1; have g2 := keepc hb5 g2; have h0 := keepc hb5 h0; have h1 := keepc hb5 h1; have h2 := keepc hb5 h2; have h3 := keepc hb5 h3; have h4 := keepc hb5 h4; have HB5 := Lib.hid (HB.out.trans (hb5.mono HB.out.size)); clear hb5)
            | (go_at_call 9; refine (HY.out _ HB5.out).mono ?_; rintro e6 w6 ⟨rfl, hb6⟩; have f0 := keepc hb6 f0; have f1 := keepc hb6 f1; have g0 := keepc hb6 g0; have g1 := keepc hb6 g1; have g2 := keepc hb6 g2; have h0 := keepc hb6 h0; have h1 := keepc hb6 h1; have h2 := keepc hb6 h2; have h3 := keepc hb6 h3; have h4 := keepc hb6 h4; have HB6 := Lib.hid (HB5.out.trans (hb6.mono HB5.out.size)); clear hb6)
            | (go_at_call 12; refine (HI.out _ HB6.out).mono ?_; rintro e7 w7 ⟨rfl, hb7⟩; have f0 := keepc hb7 f0; have f1 := keepc hb7 f1; have g0 := keepc hb7 g0; have g1 := keepc hb7 g1; have g2 := keepc hb7 g2; have h0 := keepc hb7 h0; have h1 := keepc hb7 h1; have h2 := keepc hb7 h2; have h3 := keepc hb7 h3; have h4 := keepc hb7 h4; have HB7 := Lib.hid (HB6.out.trans (hb7.mono HB6.out.size)); clear hb7)
            | (go_at_call 7; refine (HK.out _ HB7.out).mono ?_; rintro e9 w9 ⟨rfl, hb9⟩; have HB9 := Lib.hid (HB7.out.trans (hb9.mono HB7.out.size)); clear hb9))
          go_ret
          exact ⟨rfl, HB9.out⟩
        rcases hk' with h | h | h | h | h | h | h <;> first | (exact absurd h (by omega)) | cases h | exact absurd rfl h
    · clear hk'
      go_wp2_with (first
        | (go_at_call 6; refine (HM.out _ HB.out).mono ?_; rintro e5 w5 ⟨rfl, hb5⟩; have f0 := keepc hb5 f0; have f1 := keepc hb5 f1; have g0 := keepc hb5 g0; have g1 := keepc hb5 g1; have g2 := keepc hb5 g2; have h0 := keepc hb5 h0; have h1 := keepc hb5 h1; have h2 := keepc hb5 h2; have h3 := keepc hb5 h3; have h4 := keepc hb5 h4; have HB5 := Lib.hid (HB.out.trans (hb5.mono HB.out.size)); clear hb5)
        | (go_at_call 9; refine (HY.out _ HB5.out).mono ?_; rintro e6 w6 ⟨rfl, hb6⟩; have f0 := keepc hb6 f0; have f1 := keepc hb6 f1; have g0 := keepc hb6 g0; have g1 := keepc hb6 g1; have g2 := keepc hb6 g2; have h0 := keepc hb6 h0; have h1 := keepc hb6 h1; have h2 := keepc hb6 h2; have h3 := keepc hb6 h3; have h4 := keepc hb6 h4; have HB6 := Lib.hid (HB5.out.trans (hb6.mono HB5.out.size)); clear hb6)
        | (go_at_call 12; refine (HI.out _ HB6.out).mono ?_; rintro e7 w7 ⟨rfl, hb7⟩; have f0 := keepc hb7 f0; have f1 := keepc hb7 f1; have g0 := keepc hb7 g0; have g1 := keepc hb7 g1; have g2 := keepc hb7 g2; have h0 := keepc hb7 h0; have h1 := keepc hb7 h1; have h2 := keepc hb7 h2; have h3 := keepc hb7 h3; have h4 := keepc hb7 h4; have HB7 := Lib.hid (HB6.out.trans (hb7.mono HB6.out.size)); clear hb7)
        | (go_at_call 7; refine (HK.out _ HB6.out).mono ?_; rintro e9 w9 ⟨rfl, hb9⟩; have HB9 := Lib.hid (HB6.out.trans (hb9.mono HB6.out.size)); clear hb9))
      go_ret
      exact ⟨rfl, HB9.out⟩
end Go.Proofs.YtppidbnbfipgnaaDoor
