/-
  The walk of Of.
-/
import Derived.Test.YtlgbkbmjfmomkaaDoorL4
namespace Go.Proofs.YtlgbkbmjfmomkaaDoor
open Go.RowKit CodM

theorem rdText_len {l : List UInt8} {p : Prg} (h : rdText l = some p) : p.kinds.length ≤ 255 ∧ I64 p.vars := by
  have h2 := (rdText_text h).2
  refine ⟨by omega, ?_⟩
  unfold rdText at h
  obtain ⟨⟨x, t⟩, hc, h⟩ := Option.bind_eq_some_iff.1 h
  split at h
  · obtain ⟨v, hv, h⟩ := Option.bind_eq_some_iff.1 h
    obtain ⟨ks, hk, h⟩ := Option.map_eq_some_iff.1 h
    cases h
    exact numRd_wf hv
  · cases h
def ReadTx (g : Nat) (p : Prg) (w : World) (e : Ending) (w' : World) : Prop :=
  ∃ a n c, e = .returned (.tuple #[.agg #[.int .i64 p.vars, .slice a n c], .int .i64 0]) ∧ SlOk a n c ∧ Cop w.heap.size w' a n p.kinds ∧ But (fun k => k = g) w w'

set_option maxHeartbeats 2000000 in
set_option maxRecDepth 100000 in
theorem tread_none (g : Nat) (l : List UInt8) (w : World) (hr : RtAt w g (strU l)) (hG : GloT w) (hg7 : 5 ≤ g) (hln : l.length < 4294967281) (h : rdText l = none) :
    Calls Tryd.prog 35 #[.func (.func 36) #[.pointer (some ⟨g, 0, none⟩)] #[]] w (ReadNo g w) := by
  have hmf : ∀ (fn : Fn) (first cap : Array Value) (w : World), (Instr.makeFunc fn first cap).run Tryd.prog w = .ok (.func fn first cap) w := fun _ _ _ _ => rfl
  have hg := hr.lt
  have hb0 : But (fun _ => False) w ((w.alloc (.cells #[.int .i64 0, .slice none 0 0] 24)).alloc (.cells #[.int .i64 0] 29)) := ((But.refl _ w).alloc _).alloc _
  have HR := Lib.hid (hr.but hb0 (fun h => h))
  have HGG := Lib.hid (hG.but hb0 (fun _ h => h.elim))
  have HN := Lib.hid h
  clear hr h hG hb0
  go_enter_defers Tryd.func35, Tryd.ntmps35
  go_wp2_with (first
    | (go_at_call 36; refine (tprog_no g l _ HR.out HGG.out hg7 hln HN.out).mono ?_; rintro e w1 ⟨rfl, hb1⟩))
  have h0 : w1.heap[w.heap.size]? = some (.cells #[.int .i64 0, .slice none 0 0] 24) := hb1.heap ((heap_alloc_old _ _ (by simp)).trans (heap_alloc_new _ _)) (by omega)
  have h1 : w1.heap[w.heap.size + 1]? = some (.cells #[.int .i64 0] 29) := by
    refine hb1.heap ?_ (by omega)
    have := heap_alloc_new (w.alloc (.cells #[.int .i64 0, .slice none 0 0] 24)) (.cells #[.int .i64 0] 29)
    simpa using this
  refine leaves_cons (f := 48) (args := #[.pointer (some ⟨w.heap.size, 0, none⟩), .pointer (some ⟨w.heap.size + 1, 0, none⟩)]) (by simp) (by simp [go_sem]) ?_
  refine (catch_panicking w.heap.size _ _ _ 29 _ [] _ h0 h1).mono ?_
  rintro e u' w'' ⟨rfl, rfl, rfl⟩
  obtain ⟨k0, k1, k2⟩ := fin3 h0 h1 (.int .i64 0) (.slice none 0 0) (.int .i64 3)
  have hfin : But (fun k => k = g) w (((w1.setCell ⟨w.heap.size, 0, none⟩ (.int .i64 0)).setCell ⟨w.heap.size, 1, none⟩ (.slice none 0 0)).setCell ⟨w.heap.size + 1, 0, none⟩ (.int .i64 3)) :=
    ((((((But.refl (fun k => k = g) w).alloc _).alloc _).trans hb1).setCell (.inr (Nat.le_refl _)) _).setCell (.inr (Nat.le_refl _)) _).setCell (.inr (by show w.heap.size ≤ w.heap.size + 1; omega)) _
  have HF := Lib.hid hfin
  clear hfin hb1
  simp [Leaves, settle, results, Tryd.results35, go_sem, k0, k1, k2]
  exact ⟨rfl, HF.out⟩

set_option maxHeartbeats 4000000 in
set_option maxRecDepth 100000 in
theorem tread_bad (g : Nat) (l : List UInt8) (p : Prg) (w : World) (hr : RtAt w g (strU l)) (hG : GloT w) (hg7 : 5 ≤ g) (hln : l.length < 4294967281) (h : rdText l = some p) (hm : CodM.may (codeNk p) p = false) :
    Calls Tryd.prog 35 #[.func (.func 36) #[.pointer (some ⟨g, 0, none⟩)] #[]] w (ReadNo g w) := by
  have hmf : ∀ (fn : Fn) (first cap : Array Value) (w : World), (Instr.makeFunc fn first cap).run Tryd.prog w = .ok (.func fn first cap) w := fun _ _ _ _ => rfl
  have hg := hr.lt
  have hb0 : But (fun _ => False) w ((w.alloc (.cells #[.int .i64 0, .slice none 0 0] 24)).alloc (.cells #[.int .i64 0] 29)) := ((But.refl _ w).alloc _).alloc _
  have HR := Lib.hid (hr.but hb0 (fun h => h))
  have HGG := Lib.hid (hG.but hb0 (fun _ h => h.elim))
  obtain ⟨hlen, hv⟩ := rdText_len h
  have HWG : Hid (¬ 0 = g) := fun e => by omega
  have hW := hG.words
  have HN := Lib.hid h
  have HM := Lib.hid hm
  have HW := Lib.hid hW
  have HV := Lib.hid hv
  clear hr h hm hW hv hG hb0
  have hgw : 0 < w.heap.size := HW.out.lt
  go_enter_defers Tryd.func35, Tryd.ntmps35
  go_wp2_with (first
    | (go_at_call 36; refine (tprog_yes g l p _ HR.out HGG.out hg7 hln HN.out).mono ?_; rintro e w1 ⟨a1, n1, c1, rfl, hsl, hcop, -, hb1⟩; refine Hid.out ?_))
  have h0 : w1.heap[w.heap.size]? = some (.cells #[.int .i64 0, .slice none 0 0] 24) := hb1.heap ((heap_alloc_old _ _ (by simp)).trans (heap_alloc_new _ _)) (by omega)
  have h1 : w1.heap[w.heap.size + 1]? = some (.cells #[.int .i64 0] 29) := by
    refine hb1.heap ?_ (by omega)
    have := heap_alloc_new (w.alloc (.cells #[.int .i64 0, .slice none 0 0] 24)) (.cells #[.int .i64 0] 29)
    simpa using this
  have r0 : w1.cell? ⟨w.heap.size, 0, none⟩ = some (.int .i64 0) := by rw [cell_of_row _ _ _ _ _ _ h0]; rfl
  have r1 : w1.cell? ⟨w.heap.size, 1, none⟩ = some (.slice none 0 0) := by rw [cell_of_row _ _ _ _ _ _ h0]; rfl
  have f0 : w1.frozen? ⟨w.heap.size, 0, none⟩ = false := frozen_of_row _ _ _ _ _ h0
  have f1 : w1.frozen? ⟨w.heap.size, 1, none⟩ = false := frozen_of_row _ _ _ _ _ h0
  have hs1 : w.heap.size + 1 < w1.heap.size := heap_lt h1
  obtain ⟨ws, hws⟩ : ∃ ws, ws = (w1.setCell ⟨w.heap.size, 0, none⟩ (.int .i64 p.vars)).setCell ⟨w.heap.size, 1, none⟩ (.slice a1 n1 c1) := ⟨_, rfl⟩
  have hss : ws.heap.size = w1.heap.size := by rw [hws]; simp [World.setCell]
  have s0 : ws.heap[w.heap.size]? = some (.cells #[.int .i64 p.vars, .slice a1 n1 c1] 24) := by rw [hws]; exact fin_world h0 _ _
  have s1 : ws.heap[w.heap.size + 1]? = some (.cells #[.int .i64 0] 29) := by
    rw [hws]
    exact (Below.heap_setCell _ _ _ _ (by show w.heap.size + 1 ≠ w.heap.size; omega)).trans ((Below.heap_setCell _ _ _ _ (by show w.heap.size + 1 ≠ w.heap.size; omega)).trans h1)
  have hn1 : ∀ t cur', t ≠ 24 → w1.heap[w.heap.size]? ≠ some (.cells cur' t (0, 0)) := fun t cur' ht h => by rw [h0] at h; cases h; exact ht rfl
  have hcs : Cop (w.heap.size + 2) ws a1 n1 p.kinds := by
    rw [hws]
    have := hcop.keep ((Keep.set w.heap.size 0 (.int .i64 p.vars)).trans (Keep.set w.heap.size 1 (.slice a1 n1 c1))) (fun cur' => hn1 _ cur' (by decide)) (fun cur' => hn1 _ cur' (by decide))
    simpa using this
  have hbs : But (fun k => k = g) w ws := by
    rw [hws]
    exact (((((But.refl (fun k => k = g) w).alloc _).alloc _).trans hb1).setCell (.inr (Nat.le_refl _)) _).setCell (.inr (Nat.le_refl _)) _
  have HCS := Lib.hid hcs
  have HBS := Lib.hid hbs
  have HWS := Lib.hid (HW.out.but hbs HWG.out)
  have S0 := Lib.hid s0
  have S1 := Lib.hid s1
  have HWSE := Lib.hid hws
  have HSL := Lib.hid hsl
  have HPS := Lib.hid (show ProgAt ws a1 n1 p from ⟨HV.out, hcs.kinds (by rw [← hcs.1]; omega)⟩)
  clear hsl hcop hb1 h0 h1 hws s0 s1 hn1 hcs hbs
  refine Lib.hid ?_
  go_wp2_with (first
    | (go_at_call 14; rw [← HWSE.out]; refine (may_any _ _ _ p _ HWS.out HPS.out).mono ?_; rintro e w2 ⟨rfl, hb2⟩; rw [HM.out]; have HB2 := Lib.hid hb2; clear hb2)
    | (go_at_call 49; refine (must_no _).mono ?_; rintro e w' ⟨rfl, rfl⟩))
  have h0 := (HB2.out.block _ (by omega)).trans S0.out
  have h1 := (HB2.out.block _ (by omega)).trans S1.out
  refine leaves_cons (f := 48) (args := #[.pointer (some ⟨w.heap.size, 0, none⟩), .pointer (some ⟨w.heap.size + 1, 0, none⟩)]) (by simp) (by simp [go_sem]) ?_
  refine (catch_panicking w.heap.size _ _ _ 29 _ [] _ h0 h1).mono ?_
  rintro e u' w'' ⟨rfl, rfl, rfl⟩
  obtain ⟨k0, k1, k2⟩ := fin3 h0 h1 (.int .i64 0) (.slice none 0 0) (.int .i64 3)
  have hfin : But (fun k => k = g) w (((w2.setCell ⟨w.heap.size, 0, none⟩ (.int .i64 0)).setCell ⟨w.heap.size, 1, none⟩ (.slice none 0 0)).setCell ⟨w.heap.size + 1, 0, none⟩ (.int .i64 3)) :=
    (((HBS.out.trans (But.of HB2.out)).setCell (.inr (Nat.le_refl _)) _).setCell (.inr (Nat.le_refl _)) _).setCell (.inr (by show w.heap.size ≤ w.heap.size + 1; omega)) _
  have HF := Lib.hid hfin
  clear hfin
  simp [Leaves, settle, results, Tryd.results35, go_sem, k0, k1, k2]
  exact ⟨rfl, HF.out⟩

theorem tread_fin {w ws w2 : World} {g n1 c1 : Nat} {p : Prg} {a1 : Option Addr} (hc : Cop (w.heap.size + 2) ws a1 n1 p.kinds) (hb : But (fun k => k = g) w ws) (hb2 : Below ws.heap.size ws w2)
    (s0 : ws.heap[w.heap.size]? = some (.cells #[.int .i64 p.vars, .slice a1 n1 c1] 24)) (s1 : ws.heap[w.heap.size + 1]? = some (.cells #[.int .i64 0] 29)) :
    Cop w.heap.size (((w2.setCell ⟨w.heap.size, 0, none⟩ (.int .i64 p.vars)).setCell ⟨w.heap.size, 1, none⟩ (.slice a1 n1 c1)).setCell ⟨w.heap.size + 1, 0, none⟩ (.int .i64 0)) a1 n1 p.kinds ∧
    But (fun k => k = g) w (((w2.setCell ⟨w.heap.size, 0, none⟩ (.int .i64 p.vars)).setCell ⟨w.heap.size, 1, none⟩ (.slice a1 n1 c1)).setCell ⟨w.heap.size + 1, 0, none⟩ (.int .i64 0)) := by
  have h0 := heap_lt s0
  have h1 := heap_lt s1
  have g0 := (hb2.block _ h0).trans s0
  have g1 := (hb2.block _ h1).trans s1
  have n0 : ∀ t cur', t ≠ 24 → w2.heap[w.heap.size]? ≠ some (.cells cur' t (0, 0)) := fun t cur' ht h => by rw [g0] at h; cases h; exact ht rfl
  have m0 : ∀ t cur', t ≠ 24 → ws.heap[w.heap.size]? ≠ some (.cells cur' t (0, 0)) := fun t cur' ht h => by rw [s0] at h; cases h; exact ht rfl
  have n1' : ∀ t cur', t ≠ 29 → ((w2.setCell ⟨w.heap.size, 0, none⟩ (.int .i64 p.vars)).setCell ⟨w.heap.size, 1, none⟩ (.slice a1 n1 c1)).heap[w.heap.size + 1]? ≠ some (.cells cur' t (0, 0)) := fun t cur' ht h => by
    rw [(Below.heap_setCell _ _ _ _ (by show w.heap.size + 1 ≠ w.heap.size; omega)), (Below.heap_setCell _ _ _ _ (by show w.heap.size + 1 ≠ w.heap.size; omega)), g1] at h
    cases h
    exact ht rfl
  refine ⟨?_, ((((hb.trans (But.of hb2)).setCell (.inr (Nat.le_refl _)) _).setCell (.inr (Nat.le_refl _)) _).setCell (.inr (by show w.heap.size ≤ w.heap.size + 1; omega)) _)⟩
  · refine Cop.mono (B := w.heap.size + 2) ?_ (by omega)
    refine (((hc.keep (Keep.below w.heap.size hb2) (fun cur' => m0 _ cur' (by decide)) (fun cur' => m0 _ cur' (by decide))).keep ((Keep.set w.heap.size 0 (.int .i64 p.vars)).trans (Keep.set w.heap.size 1 (.slice a1 n1 c1))) (fun cur' => n0 _ cur' (by decide)) (fun cur' => n0 _ cur' (by decide))).keep (Keep.set (w.heap.size + 1) 0 (.int .i64 0)) (fun cur' => n1' _ cur' (by decide)) (fun cur' => n1' _ cur' (by decide)))
set_option maxHeartbeats 4000000 in
set_option maxRecDepth 100000 in
theorem tread_good (g : Nat) (l : List UInt8) (p : Prg) (w : World) (hr : RtAt w g (strU l)) (hG : GloT w) (hg7 : 5 ≤ g) (hln : l.length < 4294967281) (h : rdText l = some p) (hm : CodM.may (codeNk p) p = true) :
    Calls Tryd.prog 35 #[.func (.func 36) #[.pointer (some ⟨g, 0, none⟩)] #[]] w (ReadTx g p w) := by
  have hmf : ∀ (fn : Fn) (first cap : Array Value) (w : World), (Instr.makeFunc fn first cap).run Tryd.prog w = .ok (.func fn first cap) w := fun _ _ _ _ => rfl
  have hg := hr.lt
  have hb0 : But (fun _ => False) w ((w.alloc (.cells #[.int .i64 0, .slice none 0 0] 24)).alloc (.cells #[.int .i64 0] 29)) := ((But.refl _ w).alloc _).alloc _
  have HR := Lib.hid (hr.but hb0 (fun h => h))
  have HGG := Lib.hid (hG.but hb0 (fun _ h => h.elim))
  obtain ⟨hlen, hv⟩ := rdText_len h
  have HWG : Hid (¬ 0 = g) := fun e => by omega
  have hW := hG.words
  have HN := Lib.hid h
  have HM := Lib.hid hm
  have HW := Lib.hid hW
  have HV := Lib.hid hv
  clear hr h hm hW hv hG hb0
  have hgw : 0 < w.heap.size := HW.out.lt
  go_enter_defers Tryd.func35, Tryd.ntmps35
  go_wp2_with (first
    | (go_at_call 36; refine (tprog_yes g l p _ HR.out HGG.out hg7 hln HN.out).mono ?_; rintro e w1 ⟨a1, n1, c1, rfl, hsl, hcop, -, hb1⟩; refine Hid.out ?_))
  have h0 : w1.heap[w.heap.size]? = some (.cells #[.int .i64 0, .slice none 0 0] 24) := hb1.heap ((heap_alloc_old _ _ (by simp)).trans (heap_alloc_new _ _)) (by omega)
  have h1 : w1.heap[w.heap.size + 1]? = some (.cells #[.int .i64 0] 29) := by
    refine hb1.heap ?_ (by omega)
    have := heap_alloc_new (w.alloc (.cells #[.int .i64 0, .slice none 0 0] 24)) (.cells #[.int .i64 0] 29)
    simpa using this
  have r0 : w1.cell? ⟨w.heap.size, 0, none⟩ = some (.int .i64 0) := by rw [cell_of_row _ _ _ _ _ _ h0]; rfl
  have r1 : w1.cell? ⟨w.heap.size, 1, none⟩ = some (.slice none 0 0) := by rw [cell_of_row _ _ _ _ _ _ h0]; rfl
  have f0 : w1.frozen? ⟨w.heap.size, 0, none⟩ = false := frozen_of_row _ _ _ _ _ h0
  have f1 : w1.frozen? ⟨w.heap.size, 1, none⟩ = false := frozen_of_row _ _ _ _ _ h0
  have hs1 : w.heap.size + 1 < w1.heap.size := heap_lt h1
  obtain ⟨ws, hws⟩ : ∃ ws, ws = (w1.setCell ⟨w.heap.size, 0, none⟩ (.int .i64 p.vars)).setCell ⟨w.heap.size, 1, none⟩ (.slice a1 n1 c1) := ⟨_, rfl⟩
  have hss : ws.heap.size = w1.heap.size := by rw [hws]; simp [World.setCell]
  have s0 : ws.heap[w.heap.size]? = some (.cells #[.int .i64 p.vars, .slice a1 n1 c1] 24) := by rw [hws]; exact fin_world h0 _ _
  have s1 : ws.heap[w.heap.size + 1]? = some (.cells #[.int .i64 0] 29) := by
    rw [hws]
    exact (Below.heap_setCell _ _ _ _ (by show w.heap.size + 1 ≠ w.heap.size; omega)).trans ((Below.heap_setCell _ _ _ _ (by show w.heap.size + 1 ≠ w.heap.size; omega)).trans h1)
  have hn1 : ∀ t cur', t ≠ 24 → w1.heap[w.heap.size]? ≠ some (.cells cur' t (0, 0)) := fun t cur' ht h => by rw [h0] at h; cases h; exact ht rfl
  have hcs : Cop (w.heap.size + 2) ws a1 n1 p.kinds := by
    rw [hws]
    have := hcop.keep ((Keep.set w.heap.size 0 (.int .i64 p.vars)).trans (Keep.set w.heap.size 1 (.slice a1 n1 c1))) (fun cur' => hn1 _ cur' (by decide)) (fun cur' => hn1 _ cur' (by decide))
    simpa using this
  have hbs : But (fun k => k = g) w ws := by
    rw [hws]
    exact (((((But.refl (fun k => k = g) w).alloc _).alloc _).trans hb1).setCell (.inr (Nat.le_refl _)) _).setCell (.inr (Nat.le_refl _)) _
  have HCS := Lib.hid hcs
  have HBS := Lib.hid hbs
  have HWS := Lib.hid (HW.out.but hbs HWG.out)
  have S0 := Lib.hid s0
  have S1 := Lib.hid s1
  have HWSE := Lib.hid hws
  have HSL := Lib.hid hsl
  have HPS := Lib.hid (show ProgAt ws a1 n1 p from ⟨HV.out, hcs.kinds (by rw [← hcs.1]; omega)⟩)
  clear hsl hcop hb1 h0 h1 hws s0 s1 hn1 hcs hbs
  refine Lib.hid ?_
  go_wp2_with (first
    | (go_at_call 14; rw [← HWSE.out]; refine (may_any _ _ _ p _ HWS.out HPS.out).mono ?_; rintro e w2 ⟨rfl, hb2⟩; rw [HM.out]; refine Hid.out ?_))
  have g0 := (hb2.block _ (by omega)).trans S0.out
  have g1 := (hb2.block _ (by omega)).trans S1.out
  have q0 : w2.cell? ⟨w.heap.size, 0, none⟩ = some (.int .i64 p.vars) := by rw [cell_of_row _ _ _ _ _ _ g0]; rfl
  have q1 : w2.cell? ⟨w.heap.size, 1, none⟩ = some (.slice a1 n1 c1) := by rw [cell_of_row _ _ _ _ _ _ g0]; rfl
  have q2 : w2.cell? ⟨w.heap.size + 1, 0, none⟩ = some (.int .i64 0) := by rw [cell_of_row _ _ _ _ _ _ g1]; rfl
  have y0 : w2.frozen? ⟨w.heap.size, 0, none⟩ = false := frozen_of_row _ _ _ _ _ g0
  have y1 : w2.frozen? ⟨w.heap.size, 1, none⟩ = false := frozen_of_row _ _ _ _ _ g0
  have y2 : w2.frozen? ⟨w.heap.size + 1, 0, none⟩ = false := frozen_of_row _ _ _ _ _ g1
  have G0 := Lib.hid g0
  have G1 := Lib.hid g1
  have HB2 := Lib.hid hb2
  clear g0 g1 hb2 r0 r1 f0 f1
  refine Lib.hid ?_
  go_wp2_with (first
    | (go_at_call 49; refine (must_ok _).mono ?_; rintro e w' ⟨rfl, rfl⟩))
  refine leaves_cons (f := 48) (args := #[.pointer (some ⟨w.heap.size, 0, none⟩), .pointer (some ⟨w.heap.size + 1, 0, none⟩)]) (by simp) (by simp [go_sem]) ?_
  refine (catch_idle _ _ _).mono ?_
  rintro e u' w'' ⟨rfl, rfl, rfl⟩
  obtain ⟨k0, k1, k2⟩ := fin3 G0.out G1.out (.int .i64 p.vars) (.slice a1 n1 c1) (.int .i64 0)
  have hfin := tread_fin HCS.out HBS.out HB2.out S0.out S1.out
  have HF := Lib.hid hfin
  clear hfin
  simp [Leaves, settle, results, Tryd.results35, go_sem, k0, k1, k2]
  exact ⟨a1, n1, c1, rfl, HSL.out, HF.out⟩
end Go.Proofs.YtlgbkbmjfmomkaaDoor
namespace Go.Proofs.YtlgbkbmjfmomkaaDoor
open Go.RowKit CodM

/-- the program that a text says, if it may be -/
def goodT (l : List UInt8) : Option Prg := match rdText l with
  | some p => if CodM.may (codeNk p) p then some p else none
  | none => none
def OfTNo (w : World) (e : Ending) (w' : World) : Prop := e = .returned (.tuple #[.agg #[.int .i64 0, .slice none 0 0], .int .i64 3]) ∧ Below w.heap.size w w'
def OfTYes (p : Prg) (w : World) (e : Ending) (w' : World) : Prop :=
  ∃ a n c, e = .returned (.tuple #[.agg #[.int .i64 p.vars, .slice a n c], .int .i64 0]) ∧ SlOk a n c ∧ ProgAt w' a n p ∧ Below w.heap.size w w'
theorem tread_bads (g : Nat) (l : List UInt8) (w : World) (hr : RtAt w g (strU l)) (hG : GloT w) (hg7 : 5 ≤ g) (hln : l.length < 4294967281) (h : goodT l = none) :
    Calls Tryd.prog 35 #[.func (.func 36) #[.pointer (some ⟨g, 0, none⟩)] #[]] w (ReadNo g w) := by
  unfold goodT at h
  split at h
  · rename_i p hp
    split at h
    · cases h
    · rename_i hm
      exact tread_bad g l p w hr hG hg7 hln hp (by simpa using hm)
  · rename_i hp
    exact tread_none g l w hr hG hg7 hln hp
theorem goodT_some {l : List UInt8} {p : Prg} (h : goodT l = some p) : rdText l = some p ∧ CodM.may (codeNk p) p = true := by
  unfold goodT at h
  split at h
  · rename_i p' e
    split at h
    · rename_i hm; cases h; exact ⟨e, hm⟩
    · cases h
  · cases h
theorem GloT.five {w : World} (h : GloT w) : 5 ≤ w.heap.size := by
  obtain ⟨tp, pv, hr⟩ := h.range
  obtain ⟨tq, qv, hq⟩ := h.synt
  have gR : Tryd.prog.globalNamed "strconv.ErrRange" = some 4 := by kernel_rfl
  have gS : Tryd.prog.globalNamed "strconv.ErrSyntax" = some 3 := by kernel_rfl
  have h1 := var_lt gR hr
  have h2 := var_lt gS hq
  omega

set_option maxHeartbeats 2000000 in
set_option maxRecDepth 100000 in
theorem of_no (l : List UInt8) (w : World) (hG : GloT w) (hln : l.length < 4294967281) (h : goodT l = none) : Calls Tryd.prog 17 #[.string (strU l)] w (OfTNo w) := by
  have hmf : ∀ (fn : Fn) (first cap : Array Value) (w : World), (Instr.makeFunc fn first cap).run Tryd.prog w = .ok (.func fn first cap) w := fun _ _ _ _ => rfl
  have h5 := hG.five
  obtain ⟨X, hX⟩ : ∃ X, X = strU l := ⟨_, rfl⟩
  rw [← hX]
  have hb0 : But (fun _ => False) w ((w.alloc (.cells #[.int .i64 0, .slice none 0 0] 24)).alloc (.cells #[.string X] 62)) := ((But.refl _ w).alloc _).alloc _
  have hrt : RtAt ((w.alloc (.cells #[.int .i64 0, .slice none 0 0] 24)).alloc (.cells #[.string X] 62)) (w.heap.size + 1) (strU l) := by
    rw [← hX]
    have := heap_alloc_new (w.alloc (.cells #[.int .i64 0, .slice none 0 0] 24)) (.cells #[.string X] 62)
    show _ = _
    simpa using this
  have HRT := Lib.hid hrt
  have HG := Lib.hid (hG.but hb0 (fun _ h => h.elim))
  have HN := Lib.hid h
  clear hG h hX hb0 hrt
  go_enter Tryd.func17, Tryd.ntmps17
  go_wp2_with (first
    | (go_at_call 35; refine (tread_bads (w.heap.size + 1) l _ HRT.out HG.out (by omega) hln HN.out).mono ?_; rintro e w1 ⟨rfl, hb1⟩; refine Hid.out ?_))
  have h0 : w1.heap[w.heap.size]? = some (.cells #[.int .i64 0, .slice none 0 0] 24) := hb1.heap ((heap_alloc_old _ _ (by simp)).trans (heap_alloc_new _ _)) (by omega)
  have r0 : w1.cell? ⟨w.heap.size, 0, none⟩ = some (.int .i64 0) := by rw [cell_of_row _ _ _ _ _ _ h0]; rfl
  have r1 : w1.cell? ⟨w.heap.size, 1, none⟩ = some (.slice none 0 0) := by rw [cell_of_row _ _ _ _ _ _ h0]; rfl
  have f0 : w1.frozen? ⟨w.heap.size, 0, none⟩ = false := frozen_of_row _ _ _ _ _ h0
  have f1 : w1.frozen? ⟨w.heap.size, 1, none⟩ = false := frozen_of_row _ _ _ _ _ h0
  have HB1 : Hid (But (fun k => k = w.heap.size + 1) w w1) := (((But.refl _ w).alloc _).alloc _).trans hb1
  have H0 := Lib.hid h0
  clear hb1 h0
  refine Lib.hid ?_
  go_wp2
  obtain ⟨k0, k1⟩ := fin_cells H0.out (.int .i64 0) (.slice none 0 0)
  refine bodyPost_ret (v := .tuple #[.agg #[.int .i64 0, .slice none 0 0], .int .i64 3]) (by simp [results, Tryd.results17, go_sem, k0, k1]) rfl ⟨rfl, ?_⟩
  exact ((HB1.out.setCell (.inr (Nat.le_refl _)) _).setCell (.inr (Nat.le_refl _)) _).below _ (Nat.le_refl _) (fun k hk => by omega)
set_option maxHeartbeats 2000000 in
set_option maxRecDepth 100000 in
theorem of_yes (l : List UInt8) (p : Prg) (w : World) (hG : GloT w) (hln : l.length < 4294967281) (h : goodT l = some p) : Calls Tryd.prog 17 #[.string (strU l)] w (OfTYes p w) := by
  have hmf : ∀ (fn : Fn) (first cap : Array Value) (w : World), (Instr.makeFunc fn first cap).run Tryd.prog w = .ok (.func fn first cap) w := fun _ _ _ _ => rfl
  have h5 := hG.five
  obtain ⟨hrd, hmay⟩ := goodT_some h
  have hlen := rdText_len hrd
  obtain ⟨X, hX⟩ : ∃ X, X = strU l := ⟨_, rfl⟩
  rw [← hX]
  have hb0 : But (fun _ => False) w ((w.alloc (.cells #[.int .i64 0, .slice none 0 0] 24)).alloc (.cells #[.string X] 62)) := ((But.refl _ w).alloc _).alloc _
  have hrt : RtAt ((w.alloc (.cells #[.int .i64 0, .slice none 0 0] 24)).alloc (.cells #[.string X] 62)) (w.heap.size + 1) (strU l) := by
    rw [← hX]
    have := heap_alloc_new (w.alloc (.cells #[.int .i64 0, .slice none 0 0] 24)) (.cells #[.string X] 62)
    show _ = _
    simpa using this
  have HRT := Lib.hid hrt
  have HG := Lib.hid (hG.but hb0 (fun _ h => h.elim))
  have HN := Lib.hid hrd
  have HM := Lib.hid hmay
  have HLN := Lib.hid hlen
  clear hG h hX hb0 hrt hrd hmay hlen
  go_enter Tryd.func17, Tryd.ntmps17
  go_wp2_with (first
    | (go_at_call 35; refine (tread_good (w.heap.size + 1) l p _ HRT.out HG.out (by omega) hln HN.out HM.out).mono ?_; rintro e w1 ⟨a1, n1, c1, rfl, hsl, hcop, hb1⟩; refine Hid.out ?_))
  have h0 : w1.heap[w.heap.size]? = some (.cells #[.int .i64 0, .slice none 0 0] 24) := hb1.heap ((heap_alloc_old _ _ (by simp)).trans (heap_alloc_new _ _)) (by omega)
  have r0 : w1.cell? ⟨w.heap.size, 0, none⟩ = some (.int .i64 0) := by rw [cell_of_row _ _ _ _ _ _ h0]; rfl
  have r1 : w1.cell? ⟨w.heap.size, 1, none⟩ = some (.slice none 0 0) := by rw [cell_of_row _ _ _ _ _ _ h0]; rfl
  have f0 : w1.frozen? ⟨w.heap.size, 0, none⟩ = false := frozen_of_row _ _ _ _ _ h0
  have f1 : w1.frozen? ⟨w.heap.size, 1, none⟩ = false := frozen_of_row _ _ _ _ _ h0
  have HB1 : Hid (But (fun k => k = w.heap.size + 1) w w1) := (((But.refl _ w).alloc _).alloc _).trans hb1
  have H0 := Lib.hid h0
  have HSL := Lib.hid hsl
  have HCOP := Lib.hid hcop
  clear hb1 h0 hsl hcop
  refine Lib.hid ?_
  go_wp2
  obtain ⟨k0, k1⟩ := fin_cells H0.out (.int .i64 p.vars) (.slice a1 n1 c1)
  refine bodyPost_ret (v := .tuple #[.agg #[.int .i64 p.vars, .slice a1 n1 c1], .int .i64 0]) (by simp [results, Tryd.results17, go_sem, k0, k1]) rfl ⟨a1, n1, c1, rfl, HSL.out, ?_, ?_⟩
  · have hn1 : ∀ t cur', t ≠ 24 → w1.heap[w.heap.size]? ≠ some (.cells cur' t (0, 0)) := fun t cur' ht h => by rw [H0.out] at h; cases h; exact ht rfl
    have hc := HCOP.out.keep ((Keep.set w.heap.size 0 (.int .i64 p.vars)).trans (Keep.set w.heap.size 1 (.slice a1 n1 c1))) (fun cur' => hn1 _ cur' (by decide)) (fun cur' => hn1 _ cur' (by decide))
    exact ⟨HLN.out.2, hc.kinds (by have := HLN.out.1; rw [← hc.1]; omega)⟩
  · exact ((HB1.out.setCell (.inr (Nat.le_refl _)) _).setCell (.inr (Nat.le_refl _)) _).below _ (Nat.le_refl _) (fun k hk => by omega)
end Go.Proofs.YtlgbkbmjfmomkaaDoor
