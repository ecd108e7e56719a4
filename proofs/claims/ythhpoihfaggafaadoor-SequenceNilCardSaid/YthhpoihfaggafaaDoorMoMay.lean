/-
  The walks of mayProc, mayFirst, May of any model.
-/
import Derived.Test.YthhpoihfaggafaaDoorMoRaw
import Derived.Test.YthhpoihfaggafaaDoorC5
import Derived.Test.YthhpoihfaggafaaDoorVMRun
namespace Go.Proofs.YthhpoihfaggafaaDoor
open Go Go.RowKit Go.Sort Go.Proofs CodM VmM

def mayPm (x : Pm) : Bool := CodM.may (codeNk x.prog) x.prog && decide ((x.vars.length : Int) = x.prog.vars)
def mayFst (n : Int) (i : Nat) (e : Ev) : Bool := mayE n e && (decide (e.org = 0) && decide (e.seq = i))
/-- may a model be -/
def mayMo (m : Mo) : Bool := decide (1 ≤ m.procs.length ∧ m.procs.length ≤ 16 ∧ m.first.length ≤ 64) && (decide (∀ j (h : j < m.procs.length), mayPm m.procs[j] = true) && decide (∀ j (h : j < m.first.length), mayFst m.procs.length j m.first[j] = true))
theorem mayMo_iff (m : Mo) : mayMo m = true ↔ (1 ≤ m.procs.length ∧ m.procs.length ≤ 16 ∧ m.first.length ≤ 64) ∧ (∀ j (h : j < m.procs.length), mayPm m.procs[j] = true) ∧ ∀ j (h : j < m.first.length), mayFst m.procs.length j m.first[j] = true := by
  unfold mayMo
  simp only [Bool.and_eq_true, decide_eq_true_eq]
abbrev TellsM (t : Bool) (W : World) (e : Ending) (w' : World) : Prop := e = .returned (.bool t) ∧ Below W.heap.size W w'
set_option maxHeartbeats 2000000 in
theorem mayFirst_any (w : World) (x : Ev) (i : Nat) (n : Int) : Calls Tryd.prog 83 #[evV x, .int .i64 i, .int .i64 n] w (TellsM (mayFst n i x) w) := by
  obtain ⟨u, hu⟩ : ∃ u, u = mayE n x := ⟨_, rfl⟩
  obtain ⟨w1, hw1⟩ : ∃ w1, w1 = w.alloc (.cells #[.int .i64 x.time, .int .i64 x.org, .int .i64 x.seq, .int .i64 x.to, .int .i64 x.kind, .int .i64 x.data] 45) := ⟨_, rfl⟩
  have hb1 : Below w.heap.size w w1 := by rw [hw1]; exact (Below.refl _ _).alloc (Nat.le_refl _) _
  have hx1 : w1.heap[w.heap.size]? = some (.cells #[.int .i64 x.time, .int .i64 x.org, .int .i64 x.seq, .int .i64 x.to, .int .i64 x.kind, .int .i64 x.data] 45 (0, 0)) := by rw [hw1]; exact heap_alloc_new _ _
  have HO : Hid (∀ W, Calls Tryd.prog 37 #[evV x, .int .i64 n] W (fun e w' => e = .returned (.bool u) ∧ Below W.heap.size W w')) := by
    rw [Lib.hid_eq, hu, mayE_ev]
    exact fun W => omay_any _ _ _ _ _ _ _ W
  have H1 := Lib.hid (And.intro hb1 hx1)
  have HW := Lib.hid hw1
  have HU : Hid (mayFst n i x = (u && (decide (x.org = 0) && decide (x.seq = i)))) := by rw [Lib.hid_eq, hu]; rfl
  have b0 : w1.cell? ⟨w.heap.size, 0, none⟩ = some (.int .i64 x.time) := by rw [cell_of_row _ _ _ _ _ _ hx1]; rfl
  have b1 : w1.cell? ⟨w.heap.size, 1, none⟩ = some (.int .i64 x.org) := by rw [cell_of_row _ _ _ _ _ _ hx1]; rfl
  have b2 : w1.cell? ⟨w.heap.size, 2, none⟩ = some (.int .i64 x.seq) := by rw [cell_of_row _ _ _ _ _ _ hx1]; rfl
  have b3 : w1.cell? ⟨w.heap.size, 3, none⟩ = some (.int .i64 x.to) := by rw [cell_of_row _ _ _ _ _ _ hx1]; rfl
  have b4 : w1.cell? ⟨w.heap.size, 4, none⟩ = some (.int .i64 x.kind) := by rw [cell_of_row _ _ _ _ _ _ hx1]; rfl
  have b5 : w1.cell? ⟨w.heap.size, 5, none⟩ = some (.int .i64 x.data) := by rw [cell_of_row _ _ _ _ _ _ hx1]; rfl
  obtain ⟨s, hs⟩ : ∃ s, s = decide (x.org = 0) := ⟨_, rfl⟩
  obtain ⟨t, ht⟩ : ∃ t, t = decide (x.seq = i) := ⟨_, rfl⟩
  have hs2 : (x.org == 0) = s := by rw [hs]; rfl
  have ht2 : (x.seq == (i : Int)) = t := by rw [ht]; rfl
  rw [← hs, ← ht] at HU
  clear hb1 hx1 hu hw1 hs ht
  cases u <;> cases s <;> cases t
  all_goals
    go_enter Tryd.func83, Tryd.ntmps83
    go_upto_region 1 with fail
    rw [← HW.out]
    go_wp2_with (go_at_call 37; refine (HO.out _).mono ?_; rintro e w2 ⟨rfl, hb2⟩; have b1 := keepc hb2 b1; have b2 := keepc hb2 b2; have H2 := Lib.hid (H1.out.1.trans (hb2.mono H1.out.1.size)); clear hb2)
    go_ret
    exact ⟨by rw [HU.out]; rfl, H2.out⟩
set_option maxHeartbeats 2000000 in
theorem mayProc_any (w : World) (hW : Wds w) (x : Pm) (a : Option Addr) (n c : Nat) (va : Option Addr) (vc : Nat) (hp : ProgAt w a n x.prog) : Calls Tryd.prog 82 #[.agg (pmC x a n c va vc)] w (TellsM (mayPm x) w) := by
  obtain ⟨u, hu⟩ : ∃ u, u = CodM.may (codeNk x.prog) x.prog := ⟨_, rfl⟩
  obtain ⟨w1, hw1⟩ : ∃ w1, w1 = w.alloc (.cells (pmC x a n c va vc) 72) := ⟨_, rfl⟩
  have hb1 : Below w.heap.size w w1 := by rw [hw1]; exact (Below.refl _ _).alloc (Nat.le_refl _) _
  have hx1 : w1.heap[w.heap.size]? = some (.cells (pmC x a n c va vc) 72 (0, 0)) := by rw [hw1]; exact heap_alloc_new _ _
  have HO : Hid (∀ W, Below w.heap.size w W → Calls Tryd.prog 85 #[.agg #[.int .i64 x.prog.vars, .slice a n c]] W (fun e w' => e = .returned (.bool u) ∧ Below W.heap.size W w')) := by
    rw [Lib.hid_eq, hu]
    exact fun W hb => may_any a n c x.prog W (hW.next hb (Nat.le_refl _)) (hp.below hb (Nat.le_refl _))
  have H1 := Lib.hid (And.intro hb1 hx1)
  have HW := Lib.hid hw1
  obtain ⟨vn, hvn⟩ : ∃ vn, vn = x.vars.length := ⟨_, rfl⟩
  obtain ⟨s, hs⟩ : ∃ s, s = decide ((x.vars.length : Int) = x.prog.vars) := ⟨_, rfl⟩
  have hs2 : ((vn : Int) == x.prog.vars) = s := by rw [hs, hvn]; rfl
  have HU : Hid (mayPm x = (u && s)) := by rw [Lib.hid_eq, hu, hs]; rfl
  have b0 : w1.cell? ⟨w.heap.size, 0, none⟩ = some (.int .i64 x.prog.vars) := by rw [cell_of_row _ _ _ _ _ _ hx1]; rfl
  have b1 : w1.cell? ⟨w.heap.size, 1, none⟩ = some (.slice a n c) := by rw [cell_of_row _ _ _ _ _ _ hx1]; rfl
  have b2 : w1.cell? ⟨w.heap.size, 2, none⟩ = some (.slice va vn vc) := by rw [cell_of_row _ _ _ _ _ _ hx1, hvn]; rfl
  clear hb1 hx1 hu hw1 hs hp hW hvn
  cases u <;> cases s
  all_goals
    go_enter Tryd.func82, Tryd.ntmps82
    go_upto_region 1 with fail
    rw [← HW.out]
    go_wp2_with (go_at_call 85; refine (HO.out _ H1.out.1).mono ?_; rintro e w2 ⟨rfl, hb2⟩; have b0 := keepc hb2 b0; have b2 := keepc hb2 b2; have H2 := Lib.hid (H1.out.1.trans (hb2.mono H1.out.1.size)); clear hb2)
    go_ret
    exact ⟨by rw [HU.out]; rfl, H2.out⟩
theorem wds_keep {w w' : World} (h : Wds w) (hb : Below w.heap.size w w') : Wds w' := h.next hb (Nat.le_refl _)
set_option maxHeartbeats 4000000 in
set_option maxRecDepth 100000 in
theorem moMay_any (w : World) (hW : Wds w) (m : Mo) (a : Option Addr) (n c : Nat) (fa : Option Addr) (fn fc : Nat) (h : MoAt w m a n fa fn) : Calls Tryd.prog 49 #[.agg #[.slice a n c, .slice fa fn fc]] w (TellsM (mayMo m) w) := by
  have hn := h.procs.1
  have hfn := h.first.1
  have hn1000 := h.many
  have hf6 := h.first.2.1
  obtain ⟨w1, hw1⟩ : ∃ w1, w1 = w.alloc (.cells #[.slice a n c, .slice fa fn fc] 27) := ⟨_, rfl⟩
  have hb1 : Below w.heap.size w w1 := by rw [hw1]; exact (Below.refl _ _).alloc (Nat.le_refl _) _
  have hx1 : w1.heap[w.heap.size]? = some (.cells #[.slice a n c, .slice fa fn fc] 27 (0, 0)) := by rw [hw1]; exact heap_alloc_new _ _
  have b0 : w1.cell? ⟨w.heap.size, 0, none⟩ = some (.slice a n c) := by rw [cell_of_row _ _ _ _ _ _ hx1]; rfl
  have b1 : w1.cell? ⟨w.heap.size, 1, none⟩ = some (.slice fa fn fc) := by rw [cell_of_row _ _ _ _ _ _ hx1]; rfl
  obtain ⟨g, hg⟩ : ∃ g, g = w.heap.size := ⟨_, rfl⟩
  rw [← hg] at b0 b1
  have HW := Lib.hid (And.intro hw1 hg)
  have H1 := Lib.hid (And.intro hb1 (And.intro (wds_keep hW hb1) (h.below hb1)))
  have HL := Lib.hid (And.intro hn hfn)
  clear hw1 hx1 hb1 hg h hW
  by_cases hok : 1 ≤ n ∧ n ≤ 16 ∧ fn ≤ 64
  · obtain ⟨h1, h2, h3⟩ := hok
    have g1 : ¬ ((n : Int) < 1) := by omega
    have g2 : ¬ ((16 : Int) < n) := by omega
    have g3 : ¬ ((64 : Int) < fn) := by omega
    go_enter Tryd.func49, Tryd.ntmps49
    go_upto_region 1 with fail
    rw [← HW.out.1, ← HW.out.2]
    go_wp2_with fail
    go_loopg [26] n (fun kx s26 wr => ∃ k : Nat, s26 = .int .i64 k ∧ k ≤ n ∧ n - k ≤ kx ∧ Aside (Below w1.heap.size w1 wr ∧ ∀ j (hj : j < m.procs.length), j < k → mayPm m.procs[j] = true))
    case atStart => exact ⟨0, by go_num, Nat.zero_le _, Nat.le_refl _, Below.refl _ _, fun j _ h => absurd h (Nat.not_lt_zero _)⟩
    case round =>
      obtain ⟨k, rfl, hkn, hkx, I⟩ := hrel
      have e0 := keepc I.out.1 b0
      have e1 := keepc I.out.1 b1
      by_cases hlt : k < n
      · obtain ⟨B, off, rfl, hB, x, hx, hc⟩ := (H1.out.2.2.procs.below I.out.1).cell hlt
        obtain ⟨pa, pn, pc, va, vc, c0, c1, c2, c3, hP⟩ := hc
        obtain ⟨vn, hvn⟩ : ∃ vn, vn = x.vars.length := ⟨_, rfl⟩
        obtain ⟨u, hu⟩ : ∃ u, u = mayPm x := ⟨_, rfl⟩
        have HP : Hid (∀ W, Below wr.heap.size wr W → Calls Tryd.prog 82 #[.agg #[.int .i64 x.prog.vars, .slice pa pn pc, .slice va vn vc, .int .i64 x.seed]] W (TellsM u W)) := by
          rw [Lib.hid_eq, hu, hvn]
          exact fun W hb => mayProc_any W (wds_keep (wds_keep H1.out.2.1 I.out.1) hb) x pa pn pc va vc (hP.below hb).prog
        rw [← hvn] at c2
        have HU := Lib.hid (And.intro hu hx)
        clear hu hx hP hvn hB
        cases u with
        | true =>
          go_wp2_with (go_at_call 82; refine (HP.out _ ((Below.refl _ _).alloc (Nat.le_refl _) _)).mono ?_; rintro e w2 ⟨rfl, hb2⟩; have H2 := Lib.hid (((Below.refl wr.heap.size wr).alloc (Nat.le_refl _) _).trans (hb2.mono (by simp))); clear hb2)
          go_roundg (n - (k + 1))
          case measure => omega
          case rel =>
            refine ⟨k + 1, by go_num, by omega, Nat.le_refl _, I.out.1.trans (H2.out.mono I.out.1.size), fun j hj hjk => ?_⟩
            by_cases e : j = k
            · subst e
              obtain ⟨h4, h5⟩ := List.getElem?_eq_some_iff.1 HU.out.2
              rw [h5]
              exact HU.out.1.symm
            · exact I.out.2 j hj (by omega)
        | false =>
          go_wp2_with (go_at_call 82; refine (HP.out _ ((Below.refl _ _).alloc (Nat.le_refl _) _)).mono ?_; rintro e w2 ⟨rfl, hb2⟩; have H2 := Lib.hid (((Below.refl wr.heap.size wr).alloc (Nat.le_refl _) _).trans (hb2.mono (by simp))); clear hb2)
          go_ret
          refine ⟨?_, H1.out.1.trans ((I.out.1.trans (H2.out.mono I.out.1.size)).mono H1.out.1.size)⟩
          obtain ⟨h4, h5⟩ := List.getElem?_eq_some_iff.1 HU.out.2
          have hf : mayMo m = false := by
            cases hm : mayMo m with
            | false => rfl
            | true =>
              have := ((mayMo_iff m).1 hm).2.1 k h4
              rw [h5, ← HU.out.1] at this
              cases this
          rw [hf]
          rfl
      · obtain rfl : k = n := by omega
        have HA : Hid (∀ j (hj : j < m.procs.length), mayPm m.procs[j] = true) := Lib.hid fun j hj => I.out.2 j hj (by rw [← HL.out.1]; exact hj)
        have HB := Lib.hid I.out.1
        clear I
        go_wp2_with fail
        go_loopg [37] fn (fun kx s37 wr => ∃ i : Nat, s37 = .int .i64 i ∧ i ≤ fn ∧ fn - i ≤ kx ∧ Aside (Below w1.heap.size w1 wr ∧ ∀ j (hj : j < m.first.length), j < i → mayFst k j m.first[j] = true))
        case atStart => exact ⟨0, by go_num, Nat.zero_le _, Nat.le_refl _, HB.out, fun j _ h => absurd h (Nat.not_lt_zero _)⟩
        case round =>
          obtain ⟨i, rfl, hin, hix, J⟩ := hrel
          have e0 := keepc J.out.1 b0
          have e1 := keepc J.out.1 b1
          by_cases hlt2 : i < fn
          · obtain ⟨B, off, rfl, hB, x, hx, hc⟩ := (H1.out.2.2.first.below J.out.1).cell hlt2
            have hc' : CEv.Cell wr B (off + i * 6) x := hc
            obtain ⟨c0, c1, c2, c3, c4, c5⟩ : _ ∧ _ ∧ _ ∧ _ ∧ _ ∧ _ := ⟨hc' 0 (by decide), hc' 1 (by decide), hc' 2 (by decide), hc' 3 (by decide), hc' 4 (by decide), hc' 5 (by decide)⟩
            have d0 : wr.cell? ⟨B, off + i * 6, none⟩ = some (.int .i64 x.time) := c0
            have d1 : wr.cell? ⟨B, off + i * 6 + 1, none⟩ = some (.int .i64 x.org) := c1
            have d2 : wr.cell? ⟨B, off + i * 6 + 2, none⟩ = some (.int .i64 x.seq) := c2
            have d3 : wr.cell? ⟨B, off + i * 6 + 3, none⟩ = some (.int .i64 x.to) := c3
            have d4 : wr.cell? ⟨B, off + i * 6 + 4, none⟩ = some (.int .i64 x.kind) := c4
            have d5 : wr.cell? ⟨B, off + i * 6 + 5, none⟩ = some (.int .i64 x.data) := c5
            have hgl := World.block_lt_of_cell? wr _ e0
            obtain ⟨u, hu⟩ : ∃ u, u = mayFst k i x := ⟨_, rfl⟩
            have HP : Hid (∀ W, Calls Tryd.prog 83 #[evV x, .int .i64 i, .int .i64 k] W (TellsM u W)) := by
              rw [Lib.hid_eq, hu]
              exact fun W => mayFirst_any W x i k
            have HU := Lib.hid (And.intro hu hx)
            clear hu hx hB hc hc' c0 c1 c2 c3 c4 c5
            cases u with
            | true =>
              go_wp2_with (go_at_call 83; refine (HP.out _).mono ?_; rintro e w2 ⟨rfl, hb2⟩; have H2 := Lib.hid (((Below.refl wr.heap.size wr).alloc (Nat.le_refl _) _).trans (hb2.mono (by simp))); clear hb2)
              go_roundg (fn - (i + 1))
              case measure => omega
              case rel =>
                refine ⟨i + 1, by go_num, by omega, Nat.le_refl _, J.out.1.trans (H2.out.mono J.out.1.size), fun j hj hjk => ?_⟩
                by_cases e : j = i
                · subst e
                  obtain ⟨h4, h5⟩ := List.getElem?_eq_some_iff.1 HU.out.2
                  rw [h5]
                  exact HU.out.1.symm
                · exact J.out.2 j hj (by omega)
            | false =>
              go_wp2_with (go_at_call 83; refine (HP.out _).mono ?_; rintro e w2 ⟨rfl, hb2⟩; have H2 := Lib.hid (((Below.refl wr.heap.size wr).alloc (Nat.le_refl _) _).trans (hb2.mono (by simp))); clear hb2)
              go_ret
              refine ⟨?_, H1.out.1.trans ((J.out.1.trans (H2.out.mono J.out.1.size)).mono H1.out.1.size)⟩
              obtain ⟨h4, h5⟩ := List.getElem?_eq_some_iff.1 HU.out.2
              have hf : mayMo m = false := by
                cases hm : mayMo m with
                | false => rfl
                | true =>
                  have := ((mayMo_iff m).1 hm).2.2 i h4
                  rw [h5, HL.out.1, ← HU.out.1] at this
                  cases this
              rw [hf]
              rfl
          · obtain rfl : i = fn := by omega
            go_wp2_with fail
            go_ret
            refine ⟨?_, H1.out.1.trans (J.out.1.mono H1.out.1.size)⟩
            have ht : mayMo m = true := (mayMo_iff m).2 ⟨by rw [HL.out.1, HL.out.2]; exact ⟨h1, h2, h3⟩, HA.out, fun j hj => by rw [HL.out.1]; exact J.out.2 j hj (by rw [← HL.out.2]; exact hj)⟩
            rw [ht]
            rfl
  · have hf : Hid (mayMo m = false) := by
      rw [Lib.hid_eq]
      cases hm : mayMo m with
      | false => rfl
      | true =>
        have := ((mayMo_iff m).1 hm).1
        rw [HL.out.1, HL.out.2] at this
        exact absurd this hok
    have hor : n < 1 ∨ (¬ n < 1 ∧ 16 < n) ∨ (¬ n < 1 ∧ ¬ 16 < n ∧ 64 < fn) := by omega
    rcases hor with h1 | ⟨h1, h2⟩ | ⟨h1, h2, h3⟩
    · have g1 : (n : Int) < 1 := by omega
      go_enter Tryd.func49, Tryd.ntmps49
      go_upto_region 1 with fail
      rw [← HW.out.1, ← HW.out.2]
      go_wp2_with fail
      go_ret
      exact ⟨by rw [hf.out]; rfl, H1.out.1⟩
    · have g1 : ¬ (n : Int) < 1 := by omega
      have g2 : (16 : Int) < n := by omega
      go_enter Tryd.func49, Tryd.ntmps49
      go_upto_region 1 with fail
      rw [← HW.out.1, ← HW.out.2]
      go_wp2_with fail
      go_ret
      exact ⟨by rw [hf.out]; rfl, H1.out.1⟩
    · have g1 : ¬ (n : Int) < 1 := by omega
      have g2 : ¬ (16 : Int) < n := by omega
      have g3 : (64 : Int) < fn := by omega
      go_enter Tryd.func49, Tryd.ntmps49
      go_upto_region 1 with fail
      rw [← HW.out.1, ← HW.out.2]
      go_wp2_with fail
      go_ret
      exact ⟨by rw [hf.out]; rfl, H1.out.1⟩
end Go.Proofs.YthhpoihfaggafaaDoor
