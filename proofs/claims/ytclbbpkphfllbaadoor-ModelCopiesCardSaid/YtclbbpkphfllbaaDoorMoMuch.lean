/-
  The walk of the document's Much.
-/
import Derived.Test.YtclbbpkphfllbaaDoorMoSame
import Derived.Test.YtclbbpkphfllbaaDoorD3
namespace Go.Proofs.YtclbbpkphfllbaaDoor
open Go Go.RowKit Go.Sort Go.Proofs CodM VmM

def muchPm (x : Pm) : Bool := muchB x.prog || decide (20 < x.vars.length)
def muchM (m : Mo) : Bool := decide (20 < m.procs.length) || decide (80 < m.first.length) || m.procs.any muchPm
theorem any_take {α : Type} (f : α → Bool) (l : List α) (k : Nat) (x : α) (h : l[k]? = some x) : (l.take (k + 1)).any f = ((l.take k).any f || f x) := by
  rw [List.take_add_one, h]
  simp
theorem any_of_take {α : Type} (f : α → Bool) (l : List α) (k : Nat) (h : (l.take k).any f = true) : l.any f = true := by
  rw [List.any_eq_true] at h ⊢
  obtain ⟨x, hx, hf⟩ := h
  exact ⟨x, List.mem_of_mem_take hx, hf⟩
def MuchMRel (wb : World) (n : Nat) (l : List Pm) (i : Value) (wr : World) : Prop := ∃ k : Nat, k ≤ n ∧ i = .int .i64 k ∧ (l.take k).any muchPm = false ∧ Below wb.heap.size wb wr
set_option maxHeartbeats 2000000 in
theorem rmuchM_any (w : World) (a fa : Option Addr) (n c fn fc : Nat) (m : Mo) (hp : PmsAt w a n m.procs) (hf : m.first.length = fn) (hn : n ≤ maxLen) (hfn : fn ≤ maxLen) :
    Calls Tryd.prog 10 #[.agg #[.slice a n c, .slice fa fn fc]] w (TellsE (muchM m) w) := by
  unfold maxLen at hn hfn
  obtain ⟨u, hu⟩ : ∃ u, u = muchM m := ⟨_, rfl⟩
  rw [← hu]
  have hpl := hp.1
  obtain ⟨wb, hwb⟩ : ∃ wb, wb = w.alloc (.cells #[.slice a n c, .slice fa fn fc] 27) := ⟨_, rfl⟩
  have hb0 : Below w.heap.size w wb := by rw [hwb]; exact (Below.refl _ _).alloc (Nat.le_refl _) _
  have x0 : wb.heap[w.heap.size]? = some (.cells #[.slice a n c, .slice fa fn fc] 27 (0, 0)) := by rw [hwb]; exact heap_alloc_new _ _
  obtain ⟨b, hbz⟩ : ∃ b, b = w.heap.size := ⟨_, rfl⟩
  rw [← hbz] at x0
  have q0 : wb.cell? ⟨b, 0, none⟩ = some (.slice a n c) := (cell_of_row _ _ _ _ _ _ x0).trans rfl
  have q1 : wb.cell? ⟨b, 1, none⟩ = some (.slice fa fn fc) := (cell_of_row _ _ _ _ _ _ x0).trans rfl
  have HB0 := Lib.hid hb0
  have HW := Lib.hid hwb
  have HZ := Lib.hid hbz
  have HP := Lib.hid hp
  have HQ := Lib.hid (And.intro q0 q1)
  clear hb0 hwb hbz hp x0
  by_cases h1 : 20 < n
  · have HU : Hid (u = true) := Lib.hid (by rw [hu]; unfold muchM; rw [decide_eq_true (by omega : 20 < m.procs.length)]; rfl)
    have d1 : decide ((20 : Int) < (n : Int)) = true := decide_eq_true (by omega)
    clear hu hpl hf
    go_enter Tryd.func10, Tryd.ntmps10
    go_upto_region 1 with fail
    rw [← HW.out, ← HZ.out]
    go_wp2
    go_ret
    exact ⟨by rw [HU.out]; rfl, HB0.out⟩
  by_cases h2 : 80 < fn
  · have HU : Hid (u = true) := Lib.hid (by rw [hu]; unfold muchM; rw [decide_eq_true (by omega : 80 < m.first.length)]; simp)
    have d1 : decide ((20 : Int) < (n : Int)) = false := decide_eq_false (by omega)
    have d2 : decide ((80 : Int) < (fn : Int)) = true := decide_eq_true (by omega)
    clear hu hpl hf
    go_enter Tryd.func10, Tryd.ntmps10
    go_upto_region 1 with fail
    rw [← HW.out, ← HZ.out]
    go_wp2
    go_ret
    exact ⟨by rw [HU.out]; rfl, HB0.out⟩
  have HU : Hid (u = m.procs.any muchPm) := Lib.hid (by rw [hu]; unfold muchM; rw [decide_eq_false (by omega : ¬ 20 < m.procs.length), decide_eq_false (by omega : ¬ 80 < m.first.length)]; simp)
  have d1 : decide ((20 : Int) < (n : Int)) = false := decide_eq_false (by omega)
  have d2 : decide ((80 : Int) < (fn : Int)) = false := decide_eq_false (by omega)
  have HPL := Lib.hid hpl
  clear hu hpl hf
  obtain ⟨l, hl⟩ : ∃ l, l = m.procs := ⟨_, rfl⟩
  rw [← hl] at HP HU HPL
  clear hl
  go_enter Tryd.func10, Tryd.ntmps10
  go_upto_region 1 with fail
  rw [← HW.out, ← HZ.out]
  go_wp2
  go_loopw [3] (fun i wr => MuchMRel wb n l i wr) (fun i _ => n - (intOf i).toNat)
  case atStart => exact ⟨0, Nat.zero_le _, rfl, by simp, Below.refl _ _⟩
  case round =>
    obtain ⟨k, hk, rfl, hmk, hbel⟩ := hrel
    have HMK := Lib.hid hmk
    have HBEL := Lib.hid hbel
    clear hmk hbel q0 q1
    have q0 := keepc HBEL.out HQ.out.1
    by_cases hlt : k < n
    · obtain ⟨B1, o1, rfl, hB1, x, hx, a1, n1, c1, va1, vc1, p0, p1, p2, p3, hp⟩ := ((HP.out.below HB0.out).below HBEL.out).cell hlt
      obtain ⟨t1, ht1⟩ : ∃ t, t = muchB x.prog := ⟨_, rfl⟩
      have HS : Hid (∀ W, Below wr.heap.size wr W → Calls Tryd.prog 27 #[.agg #[.int .i64 x.prog.vars, .slice a1 n1 c1]] W (TellsE t1 W)) := Lib.hid fun W hb => ht1 ▸ much_any W a1 n1 c1 x.prog (hp.prog.below hb (Nat.le_refl _))
      have HX := Lib.hid (And.intro hx ht1)
      clear hx ht1 hp hB1
      cases t1 with
      | true =>
        go_wp2_with (go_at_call 27; ((with_reducible refine (HS.out _ (Below.refl _ _)).mono ?_)); rintro e w1 ⟨rfl, hb⟩; have HB1 := Lib.hid hb; clear hb)
        go_ret
        refine ⟨?_, (HB0.out.trans (HBEL.out.mono HB0.out.size)).trans (HB1.out.mono (HB0.out.trans (HBEL.out.mono HB0.out.size)).size)⟩
        rw [HU.out, any_of_take muchPm l (k + 1) (by rw [any_take muchPm l k x HX.out.1]; simp [muchPm, ← HX.out.2])]
        rfl
      | false =>
        by_cases hv : 20 < x.vars.length
        · have dv : decide ((20 : Int) < (x.vars.length : Int)) = true := decide_eq_true (by omega)
          have HV := Lib.hid hv
          go_wp2_with (go_at_call 27; ((with_reducible refine (HS.out _ (Below.refl _ _)).mono ?_)); rintro e w1 ⟨rfl, hb⟩; have q0 := keepc hb q0; have p2 := keepc hb p2; have HB1 := Lib.hid hb; clear hb)
          go_ret
          refine ⟨?_, (HB0.out.trans (HBEL.out.mono HB0.out.size)).trans (HB1.out.mono (HB0.out.trans (HBEL.out.mono HB0.out.size)).size)⟩
          rw [HU.out, any_of_take muchPm l (k + 1) (by rw [any_take muchPm l k x HX.out.1]; simp [muchPm, HV.out])]
          rfl
        · have dv : decide ((20 : Int) < (x.vars.length : Int)) = false := decide_eq_false (by omega)
          have HV := Lib.hid hv
          go_wp2_with (go_at_call 27; ((with_reducible refine (HS.out _ (Below.refl _ _)).mono ?_)); rintro e w1 ⟨rfl, hb⟩; have q0 := keepc hb q0; have p2 := keepc hb p2; have HB1 := Lib.hid hb; clear hb)
          go_roundw
          case rel => exact ⟨k + 1, by omega, by go_num, by rw [any_take muchPm l k x HX.out.1, HMK.out]; simp [muchPm, ← HX.out.2]; have := HV.out; omega, HBEL.out.trans (HB1.out.mono HBEL.out.size)⟩
          case measure => simp [intOf]; omega
    · have hkn : k = n := by omega
      have HF : Hid (l.any muchPm = false) := Lib.hid (by have := HMK.out; rwa [hkn, List.take_of_length_le (by rw [HPL.out]; omega)] at this)
      clear hkn
      go_wp2
      go_ret
      exact ⟨by rw [HU.out, HF.out]; rfl, HB0.out.trans (HBEL.out.mono HB0.out.size)⟩
end Go.Proofs.YtclbbpkphfllbaaDoor
