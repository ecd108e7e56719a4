/-
  The walks of the document's machine: Is, May.
-/
import Derived.Test.YtppidbnbfipgnaaDoorVSame2
import Derived.Test.YtppidbnbfipgnaaDoorF2
namespace Go.Proofs.YtppidbnbfipgnaaDoor
open Go Go.RowKit Go.Sort Go.Proofs CodM VmM

set_option maxHeartbeats 1000000 in
set_option maxRecDepth 100000 in
theorem rIs_any (w : World) (pv : Int) (a : Option Addr) (n c : Nat) (m : Mch) (va : Option Addr) (vn vc : Nat) (sent drawn : Int) :
    Calls Tryd.prog 12 #[.agg (mcC pv a n c m), stV va vn vc sent drawn] w (fun e w' => e = .returned (.bool (decide ((vn : Int) = pv ∧ 0 ≤ sent ∧ 0 ≤ drawn))) ∧ Below w.heap.size w w') := by
  by_cases h1 : (vn : Int) = pv
  · by_cases h2 : 0 ≤ sent
    · by_cases h3 : 0 ≤ drawn
      · rw [decide_eq_true (by exact ⟨h1, h2, h3⟩)]
        subst h1
        go_enter Tryd.func12, Tryd.ntmps12
        go_wp2
        go_ret
        exact ⟨rfl, ((Below.refl _ _).alloc (Nat.le_refl _) _).alloc (by simp) _⟩
      · rw [decide_eq_false (by exact fun h => h3 h.2.2)]
        subst h1
        go_enter Tryd.func12, Tryd.ntmps12
        go_wp2
        go_ret
        exact ⟨rfl, ((Below.refl _ _).alloc (Nat.le_refl _) _).alloc (by simp) _⟩
    · rw [decide_eq_false (by exact fun h => h2 h.2.1)]
      subst h1
      go_enter Tryd.func12, Tryd.ntmps12
      go_wp2
      go_ret
      exact ⟨rfl, ((Below.refl _ _).alloc (Nat.le_refl _) _).alloc (by simp) _⟩
  · rw [decide_eq_false (by exact fun h => h1 h.1)]
    go_enter Tryd.func12, Tryd.ntmps12
    go_wp2
    go_ret
    exact ⟨rfl, ((Below.refl _ _).alloc (Nat.le_refl _) _).alloc (by simp) _⟩

/-- the document's May: 0, 2, 3 -/
def rmayV (n : Nat) (p : Prg) (m : Mch) : Int := if CodM.may n p = false then 3 else if m.procs < 1 ∨ 16 < m.procs ∨ m.self < 1 ∨ m.procs < m.self then 2 else 0
set_option maxHeartbeats 1000000 in
set_option maxRecDepth 100000 in
theorem rMay8_any (w : World) (a : Option Addr) (n c : Nat) (p : Prg) (m : Mch) (hp : ProgAt w a n p) :
    Calls Tryd.prog 9 #[.agg (mcC p.vars a n c m)] w (fun e w' => e = .returned (.int .i64 (rmayV n p m)) ∧ Below w.heap.size w w') := by
  have HP : Hid (∀ W, Below w.heap.size w W → Calls Tryd.prog 21 #[.agg #[.int .i64 p.vars, .slice a n c]] W (TellsBB (CodM.may n p) W)) := Lib.hid fun W hb => rmay_any a n c p W ⟨hp.1, hp.2.below hb (Nat.le_refl _)⟩
  clear hp
  obtain ⟨u, hu⟩ : ∃ u, u = CodM.may n p := ⟨_, rfl⟩
  obtain ⟨pv, hpv⟩ : ∃ pv, pv = p.vars := ⟨_, rfl⟩
  obtain ⟨r, hr⟩ : ∃ r, r = rmayV n p m := ⟨_, rfl⟩
  have HU : Hid (r = if u = false then 3 else if m.procs < 1 ∨ 16 < m.procs ∨ m.self < 1 ∨ m.procs < m.self then 2 else 0) := Lib.hid (by rw [hr, hu]; rfl)
  rw [← hr, ← hpv]
  rw [← hu, ← hpv] at HP
  clear hr hu hpv
  obtain ⟨self, procs, seed⟩ := m
  simp only at *
  have hbx : Below w.heap.size w (w.alloc (.cells #[.int .i64 pv, .slice a n c, .int .i64 self, .int .i64 procs, .int .i64 seed] 39)) := (Below.refl _ _).alloc (Nat.le_refl _) _
  have HB := Lib.hid hbx
  clear hbx
  cases u with
  | false =>
    rw [show r = 3 from by rw [HU.out]; rfl]
    go_enter Tryd.func9, Tryd.ntmps9
    go_wp2_with (go_at_call 21; refine (HP.out _ HB.out).mono ?_; rintro e7 w7 ⟨rfl, hb7⟩; have HB7 := Lib.hid (HB.out.trans (hb7.mono HB.out.size)); clear hb7)
    go_ret
    exact ⟨rfl, HB7.out⟩
  | true =>
    have q2 : (w.alloc (.cells #[.int .i64 pv, .slice a n c, .int .i64 self, .int .i64 procs, .int .i64 seed] 39)).cell? ⟨w.heap.size, 2, none⟩ = some (.int .i64 self) := by simp
    have q3 : (w.alloc (.cells #[.int .i64 pv, .slice a n c, .int .i64 self, .int .i64 procs, .int .i64 seed] 39)).cell? ⟨w.heap.size, 3, none⟩ = some (.int .i64 procs) := by simp
    by_cases h1 : procs < 1
    · rw [show r = 2 from by rw [HU.out, if_neg (by simp), if_pos (.inl h1)]]
      go_enter Tryd.func9, Tryd.ntmps9
      go_upto_region 1 with fail
      go_wp2_with (go_at_call 21; refine (HP.out _ HB.out).mono ?_; rintro e7 w7 ⟨rfl, hb7⟩; have q2 := keepc hb7 q2; have q3 := keepc hb7 q3; have HB7 := Lib.hid (HB.out.trans (hb7.mono HB.out.size)); clear hb7)
      go_ret
      exact ⟨rfl, HB7.out⟩
    by_cases h2 : 16 < procs
    · rw [show r = 2 from by rw [HU.out, if_neg (by simp), if_pos (.inr (.inl h2))]]
      go_enter Tryd.func9, Tryd.ntmps9
      go_upto_region 1 with fail
      go_wp2_with (go_at_call 21; refine (HP.out _ HB.out).mono ?_; rintro e7 w7 ⟨rfl, hb7⟩; have q2 := keepc hb7 q2; have q3 := keepc hb7 q3; have HB7 := Lib.hid (HB.out.trans (hb7.mono HB.out.size)); clear hb7)
      go_ret
      exact ⟨rfl, HB7.out⟩
    by_cases h3 : self < 1
    · rw [show r = 2 from by rw [HU.out, if_neg (by simp), if_pos (.inr (.inr (.inl h3)))]]
      go_enter Tryd.func9, Tryd.ntmps9
      go_upto_region 1 with fail
      go_wp2_with (go_at_call 21; refine (HP.out _ HB.out).mono ?_; rintro e7 w7 ⟨rfl, hb7⟩; have q2 := keepc hb7 q2; have q3 := keepc hb7 q3; have HB7 := Lib.hid (HB.out.trans (hb7.mono HB.out.size)); clear hb7)
      go_ret
      exact ⟨rfl, HB7.out⟩
    by_cases h4 : procs < self
    · rw [show r = 2 from by rw [HU.out, if_neg (by simp), if_pos (.inr (.inr (.inr h4)))]]
      go_enter Tryd.func9, Tryd.ntmps9
      go_upto_region 1 with fail
      go_wp2_with (go_at_call 21; refine (HP.out _ HB.out).mono ?_; rintro e7 w7 ⟨rfl, hb7⟩; have q2 := keepc hb7 q2; have q3 := keepc hb7 q3; have HB7 := Lib.hid (HB.out.trans (hb7.mono HB.out.size)); clear hb7)
      go_ret
      exact ⟨rfl, HB7.out⟩
    rw [show r = 0 from by rw [HU.out, if_neg (by simp), if_neg (by omega)]]
    go_enter Tryd.func9, Tryd.ntmps9
    go_upto_region 1 with fail
    go_wp2_with (go_at_call 21; refine (HP.out _ HB.out).mono ?_; rintro e7 w7 ⟨rfl, hb7⟩; have q2 := keepc hb7 q2; have q3 := keepc hb7 q3; have HB7 := Lib.hid (HB.out.trans (hb7.mono HB.out.size)); clear hb7)
    go_ret
    exact ⟨rfl, HB7.out⟩
end Go.Proofs.YtppidbnbfipgnaaDoor
