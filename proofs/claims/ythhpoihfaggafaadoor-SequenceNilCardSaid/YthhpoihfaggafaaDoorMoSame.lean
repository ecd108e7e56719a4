/-
  The walks of slices.EqualFunc at processes, of Same.
-/
import Derived.Test.YthhpoihfaggafaaDoorMoProc
namespace Go.Proofs.YthhpoihfaggafaaDoor
open Go Go.RowKit Go.Sort Go.Proofs CodM VmM

set_option maxHeartbeats 2000000 in
theorem equalP_any (w : World) (a b : Option Addr) (n m c d : Nat) (l r : List Pm) (hl : PmsAt w a n l) (hr : PmsAt w b m r) (hn : n ≤ 1000) (hxl : ∀ x ∈ l, x.vars.length ≤ 1000) (hxr : ∀ x ∈ r, x.vars.length ≤ 1000) :
    Calls Tryd.prog 76 #[.slice a n c, .slice b m d, .func (.func 77) #[] #[]] w (TellsE (decide (l = r)) w) := by
  have hnl := hl.1
  have hnr := hr.1
  by_cases hnm : n = m
  · subst hnm
    obtain ⟨t, ht⟩ : ∃ t, t = decide (l = r) := ⟨_, rfl⟩
    rw [← ht]
    have HT := Lib.hid ht
    have HL := Lib.hid hl
    have HR := Lib.hid hr
    have HNN := Lib.hid (And.intro hnl hnr)
    have HXX := Lib.hid (And.intro hxl hxr)
    clear ht hl hr hnl hnr hxl hxr
    go_enter Tryd.func76, Tryd.ntmps76
    go_wp2
    go_loopw [17] (fun i wr => AlikeRel w n l r i wr) (fun i _ => n - (intOf i).toNat)
    case atStart => exact ⟨0, Nat.zero_le _, rfl, rfl, Below.refl _ _⟩
    case round =>
      obtain ⟨k, hk, rfl, htk, hbel⟩ := hrel
      have HTK := Lib.hid htk
      have HBEL := Lib.hid hbel
      clear htk hbel
      by_cases hlt : k < n
      · obtain ⟨B1, o1, rfl, hB1, x, hx, a1, n1, c1, va1, vc1, p0, p1, p2, p3, hp⟩ := (HL.out.below HBEL.out).cell hlt
        obtain ⟨B2, o2, rfl, hB2, y, hy, a2, n2, c2, va2, vc2, s0, s1, s2, s3, hq⟩ := (HR.out.below HBEL.out).cell hlt
        have hx1 := HXX.out.1 x (List.mem_of_getElem? hx)
        have hy1 := HXX.out.2 y (List.mem_of_getElem? hy)
        have HS : Hid (∀ W, Below wr.heap.size wr W → Calls Tryd.prog 77 #[.agg #[.int .i64 x.prog.vars, .slice a1 n1 c1, .slice va1 x.vars.length vc1, .int .i64 x.seed], .agg #[.int .i64 y.prog.vars, .slice a2 n2 c2, .slice va2 y.vars.length vc2, .int .i64 y.seed]] W (TellsE (decide (x = y)) W)) := Lib.hid fun W hb => sameProc_any W x y a1 a2 va1 va2 n1 c1 n2 c2 vc1 vc2 (hp.below hb) (hq.below hb) hx1 hy1
        have HX := Lib.hid hx
        have HY := Lib.hid hy
        clear hx hy hp hq hx1 hy1
        by_cases he : x = y
        · have HE := Lib.hid he
          rw [decide_eq_true he] at HS
          clear he
          go_wp2_with (go_at_call 77; ((with_reducible refine (HS.out _ ?_).mono ?_)); exact ((Below.refl _ _).alloc (Nat.le_refl _) _).alloc (by simp) _; rintro e w1 ⟨rfl, hb⟩; have HB1 := Lib.hid ((((Below.refl wr.heap.size wr).alloc (Nat.le_refl _) _).alloc (by simp) _).trans (hb.mono (by simp; omega))); clear hb)
          go_roundw
          case rel => exact ⟨k + 1, by omega, by go_num, take_snoc_eq l r k x HX.out (by rw [HE.out]; exact HY.out) HTK.out, HBEL.out.trans (HB1.out.mono HBEL.out.size)⟩
          case measure => simp [intOf]; omega
        · have HE := Lib.hid he
          rw [decide_eq_false he] at HS
          clear he
          go_wp2_with (go_at_call 77; ((with_reducible refine (HS.out _ ?_).mono ?_)); exact ((Below.refl _ _).alloc (Nat.le_refl _) _).alloc (by simp) _; rintro e w1 ⟨rfl, hb⟩; have HB1 := Lib.hid ((((Below.refl wr.heap.size wr).alloc (Nat.le_refl _) _).alloc (by simp) _).trans (hb.mono (by simp; omega))); clear hb)
          go_ret
          exact ⟨by rw [HT.out, decide_eq_false (ne_of_at l r k x y HX.out HY.out HE.out)]; rfl, HBEL.out.trans (HB1.out.mono HBEL.out.size)⟩
      · have hkn : k = n := by omega
        have hd : decide (k < n) = false := decide_eq_false hlt
        have HF : Hid (l = r) := Lib.hid (take_all_eq l r n HNN.out.1 HNN.out.2 (hkn ▸ HTK.out))
        clear hkn
        go_wp2
        go_ret
        exact ⟨by rw [HT.out, decide_eq_true HF.out]; rfl, HBEL.out⟩
  · have HT : Hid (decide (l = r) = false) := Lib.hid (decide_eq_false fun e => hnm (by rw [← hnl, ← hnr, e]))
    rw [HT.out]
    have hd2 : (n == m) = false := by simpa using hnm
    have hd3 : (n != m) = true := by simpa using hnm
    clear hl hr hnl hnr HT hxl hxr
    go_enter Tryd.func76, Tryd.ntmps76
    go_wp2
    go_ret
    exact ⟨rfl, Below.refl _ _⟩

/-- a model's two rows -/
structure MoAt (w : World) (m : Mo) (a : Option Addr) (n : Nat) (fa : Option Addr) (fn : Nat) : Prop where
  procs : PmsAt w a n m.procs
  first : CEv.At w fa fn m.first
  many : n ≤ 1000
  small : ∀ x ∈ m.procs, x.vars.length ≤ 1000
theorem MoAt.below {w w' : World} {m : Mo} {a : Option Addr} {n : Nat} {fa : Option Addr} {fn : Nat} (h : MoAt w m a n fa fn) (hb : Below w.heap.size w w') : MoAt w' m a n fa fn :=
  ⟨h.procs.below hb, h.first.below hb, h.many, h.small⟩
theorem same_mo (x y : Mo) : (decide (x.procs = y.procs) && decide (x.first = y.first)) = decide (x = y) := by
  obtain ⟨a, b⟩ := x
  obtain ⟨d, e⟩ := y
  rw [Bool.eq_iff_iff]
  simp
set_option maxHeartbeats 2000000 in
theorem same_in (w : World) (a b fa fb : Option Addr) (n c m d fn fc fm fd : Nat) (t1 t2 : Bool)
    (h1 : Hid (∀ W, Below w.heap.size w W → Calls Tryd.prog 76 #[.slice a n c, .slice b m d, .func (.func 77) #[] #[]] W (TellsE t1 W)))
    (h2 : Hid (∀ W, Below w.heap.size w W → Calls Tryd.prog 44 #[.slice fa fn fc, .slice fb fm fd] W (TellsE t2 W))) :
    Calls Tryd.prog 46 #[.agg #[.slice a n c, .slice fa fn fc], .agg #[.slice b m d, .slice fb fm fd]] w (TellsE (t1 && t2) w) := by
  cases t1 <;> cases t2
  all_goals
    go_enter Tryd.func46, Tryd.ntmps46
    go_upto_region 1 with fail
    obtain ⟨wb, hwb⟩ : ∃ wb, wb = (w.alloc (.cells #[.slice a n c, .slice fa fn fc] 27)).alloc (.cells #[.slice b m d, .slice fb fm fd] 27) := ⟨_, rfl⟩
    have HB0 := Lib.hid (show Below w.heap.size w wb from by rw [hwb]; exact ((Below.refl _ _).alloc (Nat.le_refl _) _).alloc (by simp) _)
    have x0 : wb.heap[w.heap.size]? = some (.cells #[.slice a n c, .slice fa fn fc] 27 (0, 0)) := by rw [hwb, heap_alloc_old _ _ (by simp), heap_alloc_new]
    have x1 : wb.heap[w.heap.size + 1]? = some (.cells #[.slice b m d, .slice fb fm fd] 27 (0, 0)) := by
      rw [hwb]
      have z : (w.alloc (.cells #[.slice a n c, .slice fa fn fc] 27)).heap.size = w.heap.size + 1 := by simp
      rw [← z, heap_alloc_new]
    rw [← hwb]
    clear hwb
    have q0 : wb.cell? ⟨w.heap.size, 0, none⟩ = some (.slice a n c) := (cell_of_row _ _ _ _ _ _ x0).trans rfl
    have q1 : wb.cell? ⟨w.heap.size, 1, none⟩ = some (.slice fa fn fc) := (cell_of_row _ _ _ _ _ _ x0).trans rfl
    have r0 : wb.cell? ⟨w.heap.size + 1, 0, none⟩ = some (.slice b m d) := (cell_of_row _ _ _ _ _ _ x1).trans rfl
    have r1 : wb.cell? ⟨w.heap.size + 1, 1, none⟩ = some (.slice fb fm fd) := (cell_of_row _ _ _ _ _ _ x1).trans rfl
    clear x0 x1
    go_wp2_with (first
      | (go_at_call 76; refine (h1.out _ HB0.out).mono ?_; rintro e w7 ⟨rfl, hb7⟩; have q1 := keepc hb7 q1; have r1 := keepc hb7 r1; have HB7 := Lib.hid (HB0.out.trans (hb7.mono HB0.out.size)); clear hb7)
      | (go_at_call 44; refine (h2.out _ HB7.out).mono ?_; rintro e w8 ⟨rfl, hb8⟩; have HB8 := Lib.hid (HB7.out.trans (hb8.mono HB7.out.size)); clear hb8))
    go_ret
    first | exact ⟨rfl, HB8.out⟩ | exact ⟨rfl, HB7.out⟩
theorem moSame_any (w : World) (x y : Mo) (a b fa fb : Option Addr) (n c m d fn fc fm fd : Nat) (hx : MoAt w x a n fa fn) (hy : MoAt w y b m fb fm) :
    Calls Tryd.prog 46 #[.agg #[.slice a n c, .slice fa fn fc], .agg #[.slice b m d, .slice fb fm fd]] w (TellsE (decide (x = y)) w) := by
  rw [← same_mo]
  exact same_in w a b fa fb n c m d fn fc fm fd _ _
    (Lib.hid fun W hb => equalP_any W a b n m c d x.procs y.procs (hx.procs.below hb) (hy.procs.below hb) hx.many hx.small hy.small)
    (Lib.hid fun W hb => equalE_any W fa fb fn fm fc fd x.first y.first (hx.first.below hb) (hy.first.below hb) hx.first.2.1 hy.first.2.1)
end Go.Proofs.YthhpoihfaggafaaDoor
