/-
  The walk of read, at a byte reader: a panic is recovered.
-/
import Derived.Test.YtlgbkbmjfmomkaaDoorH4
import Derived.Test.YtlgbkbmjfmomkaaDoorC5
import Derived.Defers
import Derived.Recover
import Derived.Laws.Pointers
namespace Go.Proofs.YtlgbkbmjfmomkaaDoor
open Go.RowKit CodM

theorem catch_idle (p q : Addr) (w : World) :
    CallsD Tryd.prog 48 #[.pointer (some p), .pointer (some q)] .returning w fun e u' w' => e = .returned (.tuple #[]) ∧ u' = .returning ∧ w' = w := by
  refine callsD_of_wpS Tryd.func48 rfl fun c₀ cs hu => ?_
  apply wpS_seq
  apply wpS_region
  simp [wpOpsS, go_sem, recoverD, hu, Tryd.ntmps48, Exit.thenS]
  apply wpS_seq
  apply wpS_region
  simp [wpOpsS, go_sem, Exit.thenS, Array.replicate]
  refine wpS_cond (t := false) (by simp [Act.eval]) ?_
  simp only [Bool.false_eq_true, if_false]
  refine wpS_of_wp (wp_skip ?_)
  cases c₀
  simp_all [bodyPostS, results, Tryd.results48]
theorem catch_panicking (R : Nat) (x y z : Value) (u : TypeId) (pv : Value) (older : List PanicEntry) (w : World) (h0 : w.heap[R]? = some (.cells #[x, y] 24)) (h1 : w.heap[R + 1]? = some (.cells #[z] 29)) :
    CallsD Tryd.prog 48 #[.pointer (some ⟨R, 0, none⟩), .pointer (some ⟨R + 1, 0, none⟩)] (.panicking ({ v := .iface u pv, recovered := false } :: older)) w fun e u' w' =>
      e = .returned (.tuple #[]) ∧ u' = .panicking ({ v := .iface u pv, recovered := true } :: older) ∧ w' = ((w.setCell ⟨R, 0, none⟩ (.int .i64 0)).setCell ⟨R, 1, none⟩ (.slice none 0 0)).setCell ⟨R + 1, 0, none⟩ (.int .i64 3) := by
  have c0 : w.cell? ⟨R, 0, none⟩ = some x := by rw [cell_of_row _ _ _ _ _ _ h0]; rfl
  have c1 : w.cell? ⟨R, 1, none⟩ = some y := by rw [cell_of_row _ _ _ _ _ _ h0]; rfl
  have c2 : w.cell? ⟨R + 1, 0, none⟩ = some z := by rw [cell_of_row _ _ _ _ _ _ h1]; rfl
  have f0 : w.frozen? ⟨R, 0, none⟩ = false := frozen_of_row _ _ _ _ _ h0
  have f1 : w.frozen? ⟨R, 1, none⟩ = false := frozen_of_row _ _ _ _ _ h0
  have f2 : w.frozen? ⟨R + 1, 0, none⟩ = false := frozen_of_row _ _ _ _ _ h1
  refine callsD_of_wpS Tryd.func48 rfl fun c₀ cs hu => ?_
  apply wpS_seq
  apply wpS_region
  simp [wpOpsS, go_sem, recoverD, hu, Tryd.ntmps48, Exit.thenS]
  apply wpS_seq
  apply wpS_region
  simp [wpOpsS, go_sem, Exit.thenS, Array.replicate]
  refine wpS_cond (t := true) (by simp [Act.eval]) ?_
  simp only [if_true]
  apply wpS_region
  simp [wpOpsS, go_sem, c0, c1, c2, f0, f1, f2, bodyPostS, results, Tryd.results48]
theorem fin3 {w : World} {R : Nat} {x y z : Value} {t u : TypeId} (h0 : w.heap[R]? = some (.cells #[x, y] t)) (h1 : w.heap[R + 1]? = some (.cells #[z] u)) (a b c : Value) :
    (((w.setCell ⟨R, 0, none⟩ a).setCell ⟨R, 1, none⟩ b).setCell ⟨R + 1, 0, none⟩ c).cell? ⟨R, 0, none⟩ = some a ∧ (((w.setCell ⟨R, 0, none⟩ a).setCell ⟨R, 1, none⟩ b).setCell ⟨R + 1, 0, none⟩ c).cell? ⟨R, 1, none⟩ = some b ∧ (((w.setCell ⟨R, 0, none⟩ a).setCell ⟨R, 1, none⟩ b).setCell ⟨R + 1, 0, none⟩ c).cell? ⟨R + 1, 0, none⟩ = some c := by
  have e0 := (Below.heap_setCell ((w.setCell ⟨R, 0, none⟩ a).setCell ⟨R, 1, none⟩ b) ⟨R + 1, 0, none⟩ c R (by show R ≠ R + 1; omega)).trans (fin_world h0 a b)
  have h1' : ((w.setCell ⟨R, 0, none⟩ a).setCell ⟨R, 1, none⟩ b).heap[R + 1]? = some (.cells #[z] u) := (Below.heap_setCell _ _ _ _ (by show R + 1 ≠ R; omega)).trans ((Below.heap_setCell _ _ _ _ (by show R + 1 ≠ R; omega)).trans h1)
  have e1 := heap_setCell_same ((w.setCell ⟨R, 0, none⟩ a).setCell ⟨R, 1, none⟩ b) (R + 1) 0 _ _ c h1'
  refine ⟨?_, ?_, ?_⟩
  · rw [cell_of_row _ _ _ _ _ _ e0]; rfl
  · rw [cell_of_row _ _ _ _ _ _ e0]; rfl
  · rw [cell_of_row _ _ _ _ _ _ e1]; rfl
theorem rdProg_len {l r : List UInt8} {p : Prg} (h : rdProg l = some (p, r)) : p.kinds.length ≤ 255 ∧ I64 p.vars := by
  match l, h with
  | [], h => simp [rdProg] at h
  | [x], h => simp [rdProg] at h
  | x :: y :: t, h =>
    simp only [rdProg, Option.map_eq_some_iff] at h
    obtain ⟨⟨ks, r1⟩, h1, h2⟩ := h
    simp at h2
    obtain ⟨rfl, rfl⟩ := h2
    have hy := y.toNat_lt
    have hx := x.toNat_lt
    refine ⟨by show ks.length ≤ 255; rw [rdKs_length h1]; omega, ?_⟩
    show I64 (x.toNat : Int)
    unfold I64
    omega
theorem Wds.but {S : Nat → Prop} {w w' : World} (h : Wds w) (hb : But S w w') (hs : ¬ S 0) : Wds w' := fun k hk => hb.cell (h k hk) hs
theorem Wds.ne {w : World} {g : Nat} {l : List UInt8} (h : Wds w) (hr : RdAt w g l) : ¬ 0 = g := fun e => by
  obtain ⟨a, c, hh, _⟩ := hr
  have h0 := h 0 (by decide)
  subst e
  rw [cell_of_row _ _ _ _ _ _ hh] at h0
  simp at h0
def ReadNo (g : Nat) (w : World) (e : Ending) (w' : World) : Prop := e = .returned (.tuple #[.agg #[.int .i64 0, .slice none 0 0], .int .i64 3]) ∧ But (fun k => k = g) w w'
def ReadYes (g : Nat) (p : Prg) (r : List UInt8) (w : World) (e : Ending) (w' : World) : Prop :=
  ∃ a n c, e = .returned (.tuple #[.agg #[.int .i64 p.vars, .slice a n c], .int .i64 0]) ∧ SlOk a n c ∧ Cop w.heap.size w' a n p.kinds ∧ RdAt w' g r ∧ But (fun k => k = g) w w'
theorem program_no (g : Nat) (l : List UInt8) (w : World) (hr : RdAt w g l) (h : rdProg l = none) : Calls Tryd.prog 37 #[.pointer (some ⟨g, 0, none⟩)] w (PanicsB g w) :=
  (program_any g l w hr).mono fun _ _ ⟨hb, hm⟩ => by
    rw [h] at hm
    exact ⟨hm, hb⟩
def ProgRd (g : Nat) (p : Prg) (r : List UInt8) (w : World) (e : Ending) (w' : World) : Prop :=
  ∃ a n c, e = .returned (.agg #[.int .i64 p.vars, .slice a n c]) ∧ SlOk a n c ∧ Cop w.heap.size w' a n p.kinds ∧ RdAt w' g r ∧ But (fun k => k = g) w w'
theorem program_yes (g : Nat) (l : List UInt8) (p : Prg) (r : List UInt8) (w : World) (hr : RdAt w g l) (h : rdProg l = some (p, r)) : Calls Tryd.prog 37 #[.pointer (some ⟨g, 0, none⟩)] w (ProgRd g p r w) :=
  (program_any g l w hr).mono fun _ _ ⟨hb, hm⟩ => by
    rw [h] at hm
    obtain ⟨a, n, c, h1, h2, h3, h4⟩ := hm
    exact ⟨a, n, c, h1, h2, h3, h4, hb⟩

set_option maxHeartbeats 2000000 in
set_option maxRecDepth 100000 in
theorem read_none (g : Nat) (l : List UInt8) (w : World) (hr : RdAt w g l) (h : rdProg l = none) :
    Calls Tryd.prog 35 #[.func (.func 37) #[.pointer (some ⟨g, 0, none⟩)] #[]] w (ReadNo g w) := by
  have hmf : ∀ (fn : Fn) (first cap : Array Value) (w : World), (Instr.makeFunc fn first cap).run Tryd.prog w = .ok (.func fn first cap) w := fun _ _ _ _ => rfl
  have hg := hr.lt
  have HR := Lib.hid hr
  have HN := Lib.hid h
  clear hr h
  go_enter_defers Tryd.func35, Tryd.ntmps35
  go_wp2_with (first
    | (go_at_call 37; refine (program_no g l _ ((HR.out.alloc _).alloc _) HN.out).mono ?_; rintro e w1 ⟨rfl, hb1⟩))
  have h0 : w1.heap[w.heap.size]? = some (.cells #[.int .i64 0, .slice none 0 0] 24) := hb1.heap ((heap_alloc_old _ _ (by simp)).trans (heap_alloc_new _ _)) (by omega)
  have h1 : w1.heap[w.heap.size + 1]? = some (.cells #[.int .i64 0] 29) := by
    refine hb1.heap ?_ (by omega)
    have := heap_alloc_new (w.alloc (.cells #[.int .i64 0, .slice none 0 0] 24)) (.cells #[.int .i64 0] 29)
    simpa using this
  refine leaves_cons (f := 48) (args := #[.pointer (some ⟨w.heap.size, 0, none⟩), .pointer (some ⟨w.heap.size + 1, 0, none⟩)]) (by simp) (by simp [go_sem]) ?_
  refine (catch_panicking w.heap.size _ _ _ 29 _ [] _ h0 h1).mono ?_
  rintro e u' w'' ⟨rfl, rfl, rfl⟩
  obtain ⟨k0, k1, k2⟩ := fin3 h0 h1 (.int .i64 0) (.slice none 0 0) (.int .i64 3)
  have hfin : But (fun k => k = g) w (((w1.setCell ⟨w.heap.size, 0, none⟩ (.int .i64 0)).setCell ⟨w.heap.size, 1, none⟩ (.slice none 0 0)).setCell ⟨w.heap.size + 1, 0, none⟩ (.int .i64 3)) :=
    ((((((But.refl (fun k => k = g) w).alloc _).alloc _).trans hb1).setCell (.inr (Nat.le_refl _)) _).setCell (.inr (Nat.le_refl _)) _).setCell (.inr (by show w.heap.size ≤ w.heap.size + 1; omega)) _
  have HF := Lib.hid hfin
  clear hfin hb1
  simp [Leaves, settle, results, Tryd.results35, go_sem, k0, k1, k2]
  exact ⟨rfl, HF.out⟩

set_option maxHeartbeats 4000000 in
set_option maxRecDepth 100000 in
theorem read_bad (g : Nat) (l r : List UInt8) (p : Prg) (w : World) (hW : Wds w) (hr : RdAt w g l) (h : rdProg l = some (p, r)) (hm : CodM.may (codeNk p) p = false) :
    Calls Tryd.prog 35 #[.func (.func 37) #[.pointer (some ⟨g, 0, none⟩)] #[]] w (ReadNo g w) := by
  have hmf : ∀ (fn : Fn) (first cap : Array Value) (w : World), (Instr.makeFunc fn first cap).run Tryd.prog w = .ok (.func fn first cap) w := fun _ _ _ _ => rfl
  have hg := hr.lt
  obtain ⟨hlen, hv⟩ := rdProg_len h
  have HWG := Lib.hid (hW.ne hr)
  have HR := Lib.hid hr
  have HN := Lib.hid h
  have HM := Lib.hid hm
  have HW := Lib.hid hW
  have HV := Lib.hid hv
  clear hr h hm hW hv
  have hgw : 0 < w.heap.size := HW.out.lt
  go_enter_defers Tryd.func35, Tryd.ntmps35
  go_wp2_with (first
    | (go_at_call 37; refine (program_yes g l p r _ ((HR.out.alloc _).alloc _) HN.out).mono ?_; rintro e w1 ⟨a1, n1, c1, rfl, hsl, hcop, hr1, hb1⟩; refine Hid.out ?_))
  have h0 : w1.heap[w.heap.size]? = some (.cells #[.int .i64 0, .slice none 0 0] 24) := hb1.heap ((heap_alloc_old _ _ (by simp)).trans (heap_alloc_new _ _)) (by omega)
  have h1 : w1.heap[w.heap.size + 1]? = some (.cells #[.int .i64 0] 29) := by
    refine hb1.heap ?_ (by omega)
    have := heap_alloc_new (w.alloc (.cells #[.int .i64 0, .slice none 0 0] 24)) (.cells #[.int .i64 0] 29)
    simpa using this
  have r0 : w1.cell? ⟨w.heap.size, 0, none⟩ = some (.int .i64 0) := by rw [cell_of_row _ _ _ _ _ _ h0]; rfl
  have r1 : w1.cell? ⟨w.heap.size, 1, none⟩ = some (.slice none 0 0) := by rw [cell_of_row _ _ _ _ _ _ h0]; rfl
  have f0 : w1.frozen? ⟨w.heap.size, 0, none⟩ = false := frozen_of_row _ _ _ _ _ h0
  have f1 : w1.frozen? ⟨w.heap.size, 1, none⟩ = false := frozen_of_row _ _ _ _ _ h0
  have hs1 : w.heap.size + 1 < w1.heap.size := heap_lt h1
  obtain ⟨ws, hws⟩ : ∃ ws, ws = (w1.setCell ⟨w.heap.size, 0, none⟩ (.int .i64 p.vars)).setCell ⟨w.heap.size, 1, none⟩ (.slice a1 n1 c1) := ⟨_, rfl⟩
  have hss : ws.heap.size = w1.heap.size := by rw [hws]; simp [World.setCell]
  have s0 : ws.heap[w.heap.size]? = some (.cells #[.int .i64 p.vars, .slice a1 n1 c1] 24) := by rw [hws]; exact fin_world h0 _ _
  have s1 : ws.heap[w.heap.size + 1]? = some (.cells #[.int .i64 0] 29) := by
    rw [hws]
    exact (Below.heap_setCell _ _ _ _ (by show w.heap.size + 1 ≠ w.heap.size; omega)).trans ((Below.heap_setCell _ _ _ _ (by show w.heap.size + 1 ≠ w.heap.size; omega)).trans h1)
  have hn1 : ∀ t cur', t ≠ 24 → w1.heap[w.heap.size]? ≠ some (.cells cur' t (0, 0)) := fun t cur' ht h => by rw [h0] at h; cases h; exact ht rfl
  have hcs : Cop (w.heap.size + 2) ws a1 n1 p.kinds := by
    rw [hws]
    have := hcop.keep ((Keep.set w.heap.size 0 (.int .i64 p.vars)).trans (Keep.set w.heap.size 1 (.slice a1 n1 c1))) (fun cur' => hn1 _ cur' (by decide)) (fun cur' => hn1 _ cur' (by decide))
    simpa using this
  have hbr : But (fun j => j = w.heap.size) w1 ws := by rw [hws]; exact ((But.refl (fun j => j = w.heap.size) _).setCell (.inl rfl) _).setCell (.inl rfl) _
  have hrs : RdAt ws g r := hr1.but hbr (by show ¬ g = w.heap.size; omega) (no_byte h0 (fun z => by simp) (fun z => by simp))
  have hbs : But (fun k => k = g) w ws := by
    rw [hws]
    exact (((((But.refl (fun k => k = g) w).alloc _).alloc _).trans hb1).setCell (.inr (Nat.le_refl _)) _).setCell (.inr (Nat.le_refl _)) _
  have HCS := Lib.hid hcs
  have HRS := Lib.hid hrs
  have HBS := Lib.hid hbs
  have HWS := Lib.hid (HW.out.but hbs HWG.out)
  have S0 := Lib.hid s0
  have S1 := Lib.hid s1
  have HWSE := Lib.hid hws
  have HSL := Lib.hid hsl
  have HPS := Lib.hid (show ProgAt ws a1 n1 p from ⟨HV.out, hcs.kinds (by rw [← hcs.1]; omega)⟩)
  clear hsl hcop hr1 hb1 h0 h1 hws s0 s1 hn1 hcs hbr hrs hbs
  refine Lib.hid ?_
  go_wp2_with (first
    | (go_at_call 14; rw [← HWSE.out]; refine (may_any _ _ _ p _ HWS.out HPS.out).mono ?_; rintro e w2 ⟨rfl, hb2⟩; rw [HM.out]; have HB2 := Lib.hid hb2; clear hb2)
    | (go_at_call 49; refine (must_no _).mono ?_; rintro e w' ⟨rfl, rfl⟩))
  have h0 := (HB2.out.block _ (by omega)).trans S0.out
  have h1 := (HB2.out.block _ (by omega)).trans S1.out
  refine leaves_cons (f := 48) (args := #[.pointer (some ⟨w.heap.size, 0, none⟩), .pointer (some ⟨w.heap.size + 1, 0, none⟩)]) (by simp) (by simp [go_sem]) ?_
  refine (catch_panicking w.heap.size _ _ _ 29 _ [] _ h0 h1).mono ?_
  rintro e u' w'' ⟨rfl, rfl, rfl⟩
  obtain ⟨k0, k1, k2⟩ := fin3 h0 h1 (.int .i64 0) (.slice none 0 0) (.int .i64 3)
  have hfin : But (fun k => k = g) w (((w2.setCell ⟨w.heap.size, 0, none⟩ (.int .i64 0)).setCell ⟨w.heap.size, 1, none⟩ (.slice none 0 0)).setCell ⟨w.heap.size + 1, 0, none⟩ (.int .i64 3)) :=
    (((HBS.out.trans (But.of HB2.out)).setCell (.inr (Nat.le_refl _)) _).setCell (.inr (Nat.le_refl _)) _).setCell (.inr (by show w.heap.size ≤ w.heap.size + 1; omega)) _
  have HF := Lib.hid hfin
  clear hfin
  simp [Leaves, settle, results, Tryd.results35, go_sem, k0, k1, k2]
  exact ⟨rfl, HF.out⟩

theorem Cop.mono {B C : Nat} {w : World} {a : Option Addr} {n : Nat} {ks : List (List Ins)} (h : Cop B w a n ks) (hB : C ≤ B) : Cop C w a n ks := by
  refine ⟨h.1, ?_⟩
  rcases h.2 with h2 | ⟨G, cur, rfl, hG, hh, hc⟩
  · exact .inl h2
  · refine .inr ⟨G, cur, rfl, by omega, hh, fun i hi => ?_⟩
    obtain ⟨a', n', c', e1, e2, e3⟩ := hc i hi
    exact ⟨a', n', c', e1, e2, e3.mono hB⟩
theorem read_fin {w ws w2 : World} {g n1 c1 : Nat} {r : List UInt8} {p : Prg} {a1 : Option Addr} (hc : Cop (w.heap.size + 2) ws a1 n1 p.kinds) (hr : RdAt ws g r) (hb : But (fun k => k = g) w ws) (hb2 : Below ws.heap.size ws w2)
    (s0 : ws.heap[w.heap.size]? = some (.cells #[.int .i64 p.vars, .slice a1 n1 c1] 24)) (s1 : ws.heap[w.heap.size + 1]? = some (.cells #[.int .i64 0] 29)) (hg : g < w.heap.size) :
    Cop w.heap.size (((w2.setCell ⟨w.heap.size, 0, none⟩ (.int .i64 p.vars)).setCell ⟨w.heap.size, 1, none⟩ (.slice a1 n1 c1)).setCell ⟨w.heap.size + 1, 0, none⟩ (.int .i64 0)) a1 n1 p.kinds ∧
    RdAt (((w2.setCell ⟨w.heap.size, 0, none⟩ (.int .i64 p.vars)).setCell ⟨w.heap.size, 1, none⟩ (.slice a1 n1 c1)).setCell ⟨w.heap.size + 1, 0, none⟩ (.int .i64 0)) g r ∧
    But (fun k => k = g) w (((w2.setCell ⟨w.heap.size, 0, none⟩ (.int .i64 p.vars)).setCell ⟨w.heap.size, 1, none⟩ (.slice a1 n1 c1)).setCell ⟨w.heap.size + 1, 0, none⟩ (.int .i64 0)) := by
  have h0 := heap_lt s0
  have h1 := heap_lt s1
  have g0 := (hb2.block _ h0).trans s0
  have g1 := (hb2.block _ h1).trans s1
  have hB : But (fun j => j = w.heap.size ∨ j = w.heap.size + 1) w2 (((w2.setCell ⟨w.heap.size, 0, none⟩ (.int .i64 p.vars)).setCell ⟨w.heap.size, 1, none⟩ (.slice a1 n1 c1)).setCell ⟨w.heap.size + 1, 0, none⟩ (.int .i64 0)) :=
    (((But.refl (fun j => j = w.heap.size ∨ j = w.heap.size + 1) w2).setCell (.inl (.inl rfl)) _).setCell (.inl (.inl rfl)) _).setCell (.inl (.inr rfl)) _
  have n0 : ∀ t cur', t ≠ 24 → w2.heap[w.heap.size]? ≠ some (.cells cur' t (0, 0)) := fun t cur' ht h => by rw [g0] at h; cases h; exact ht rfl
  have m0 : ∀ t cur', t ≠ 24 → ws.heap[w.heap.size]? ≠ some (.cells cur' t (0, 0)) := fun t cur' ht h => by rw [s0] at h; cases h; exact ht rfl
  have n1' : ∀ t cur', t ≠ 29 → ((w2.setCell ⟨w.heap.size, 0, none⟩ (.int .i64 p.vars)).setCell ⟨w.heap.size, 1, none⟩ (.slice a1 n1 c1)).heap[w.heap.size + 1]? ≠ some (.cells cur' t (0, 0)) := fun t cur' ht h => by
    rw [(Below.heap_setCell _ _ _ _ (by show w.heap.size + 1 ≠ w.heap.size; omega)), (Below.heap_setCell _ _ _ _ (by show w.heap.size + 1 ≠ w.heap.size; omega)), g1] at h
    cases h
    exact ht rfl
  refine ⟨?_, ?_, ((((hb.trans (But.of hb2)).setCell (.inr (Nat.le_refl _)) _).setCell (.inr (Nat.le_refl _)) _).setCell (.inr (by show w.heap.size ≤ w.heap.size + 1; omega)) _)⟩
  · refine Cop.mono (B := w.heap.size + 2) ?_ (by omega)
    refine (((hc.keep (Keep.below w.heap.size hb2) (fun cur' => m0 _ cur' (by decide)) (fun cur' => m0 _ cur' (by decide))).keep ((Keep.set w.heap.size 0 (.int .i64 p.vars)).trans (Keep.set w.heap.size 1 (.slice a1 n1 c1))) (fun cur' => n0 _ cur' (by decide)) (fun cur' => n0 _ cur' (by decide))).keep (Keep.set (w.heap.size + 1) 0 (.int .i64 0)) (fun cur' => n1' _ cur' (by decide)) (fun cur' => n1' _ cur' (by decide)))
  · refine (hr.but (But.of (S := fun _ => False) hb2) (fun h => h) (fun _ _ _ _ h => h)).but hB (by omega) ?_
    intro B off x hx h
    rcases h with h | h
    · exact no_byte g0 (fun z => by simp) (fun z => by simp) B off x hx h
    · subst h
      rw [cell_of_row _ _ _ _ _ _ g1] at hx
      match off, hx with
      | 0, hx => simp at hx
      | j + 1, hx => simp at hx

set_option maxHeartbeats 4000000 in
set_option maxRecDepth 100000 in
theorem read_good (g : Nat) (l r : List UInt8) (p : Prg) (w : World) (hW : Wds w) (hr : RdAt w g l) (h : rdProg l = some (p, r)) (hm : CodM.may (codeNk p) p = true) :
    Calls Tryd.prog 35 #[.func (.func 37) #[.pointer (some ⟨g, 0, none⟩)] #[]] w (ReadYes g p r w) := by
  have hmf : ∀ (fn : Fn) (first cap : Array Value) (w : World), (Instr.makeFunc fn first cap).run Tryd.prog w = .ok (.func fn first cap) w := fun _ _ _ _ => rfl
  have hg := hr.lt
  obtain ⟨hlen, hv⟩ := rdProg_len h
  have HWG := Lib.hid (hW.ne hr)
  have HR := Lib.hid hr
  have HN := Lib.hid h
  have HM := Lib.hid hm
  have HW := Lib.hid hW
  have HV := Lib.hid hv
  clear hr h hm hW hv
  have hgw : 0 < w.heap.size := HW.out.lt
  go_enter_defers Tryd.func35, Tryd.ntmps35
  go_wp2_with (first
    | (go_at_call 37; refine (program_yes g l p r _ ((HR.out.alloc _).alloc _) HN.out).mono ?_; rintro e w1 ⟨a1, n1, c1, rfl, hsl, hcop, hr1, hb1⟩; refine Hid.out ?_))
  have h0 : w1.heap[w.heap.size]? = some (.cells #[.int .i64 0, .slice none 0 0] 24) := hb1.heap ((heap_alloc_old _ _ (by simp)).trans (heap_alloc_new _ _)) (by omega)
  have h1 : w1.heap[w.heap.size + 1]? = some (.cells #[.int .i64 0] 29) := by
    refine hb1.heap ?_ (by omega)
    have := heap_alloc_new (w.alloc (.cells #[.int .i64 0, .slice none 0 0] 24)) (.cells #[.int .i64 0] 29)
    simpa using this
  have r0 : w1.cell? ⟨w.heap.size, 0, none⟩ = some (.int .i64 0) := by rw [cell_of_row _ _ _ _ _ _ h0]; rfl
  have r1 : w1.cell? ⟨w.heap.size, 1, none⟩ = some (.slice none 0 0) := by rw [cell_of_row _ _ _ _ _ _ h0]; rfl
  have f0 : w1.frozen? ⟨w.heap.size, 0, none⟩ = false := frozen_of_row _ _ _ _ _ h0
  have f1 : w1.frozen? ⟨w.heap.size, 1, none⟩ = false := frozen_of_row _ _ _ _ _ h0
  have hs1 : w.heap.size + 1 < w1.heap.size := heap_lt h1
  obtain ⟨ws, hws⟩ : ∃ ws, ws = (w1.setCell ⟨w.heap.size, 0, none⟩ (.int .i64 p.vars)).setCell ⟨w.heap.size, 1, none⟩ (.slice a1 n1 c1) := ⟨_, rfl⟩
  have hss : ws.heap.size = w1.heap.size := by rw [hws]; simp [World.setCell]
  have s0 : ws.heap[w.heap.size]? = some (.cells #[.int .i64 p.vars, .slice a1 n1 c1] 24) := by rw [hws]; exact fin_world h0 _ _
  have s1 : ws.heap[w.heap.size + 1]? = some (.cells #[.int .i64 0] 29) := by
    rw [hws]
    exact (Below.heap_setCell _ _ _ _ (by show w.heap.size + 1 ≠ w.heap.size; omega)).trans ((Below.heap_setCell _ _ _ _ (by show w.heap.size + 1 ≠ w.heap.size; omega)).trans h1)
  have hn1 : ∀ t cur', t ≠ 24 → w1.heap[w.heap.size]? ≠ some (.cells cur' t (0, 0)) := fun t cur' ht h => by rw [h0] at h; cases h; exact ht rfl
  have hcs : Cop (w.heap.size + 2) ws a1 n1 p.kinds := by
    rw [hws]
    have := hcop.keep ((Keep.set w.heap.size 0 (.int .i64 p.vars)).trans (Keep.set w.heap.size 1 (.slice a1 n1 c1))) (fun cur' => hn1 _ cur' (by decide)) (fun cur' => hn1 _ cur' (by decide))
    simpa using this
  have hbr : But (fun j => j = w.heap.size) w1 ws := by rw [hws]; exact ((But.refl (fun j => j = w.heap.size) _).setCell (.inl rfl) _).setCell (.inl rfl) _
  have hrs : RdAt ws g r := hr1.but hbr (by show ¬ g = w.heap.size; omega) (no_byte h0 (fun z => by simp) (fun z => by simp))
  have hbs : But (fun k => k = g) w ws := by
    rw [hws]
    exact (((((But.refl (fun k => k = g) w).alloc _).alloc _).trans hb1).setCell (.inr (Nat.le_refl _)) _).setCell (.inr (Nat.le_refl _)) _
  have HCS := Lib.hid hcs
  have HRS := Lib.hid hrs
  have HBS := Lib.hid hbs
  have HWS := Lib.hid (HW.out.but hbs HWG.out)
  have S0 := Lib.hid s0
  have S1 := Lib.hid s1
  have HWSE := Lib.hid hws
  have HSL := Lib.hid hsl
  have HPS := Lib.hid (show ProgAt ws a1 n1 p from ⟨HV.out, hcs.kinds (by rw [← hcs.1]; omega)⟩)
  clear hsl hcop hr1 hb1 h0 h1 hws s0 s1 hn1 hcs hbr hrs hbs
  refine Lib.hid ?_
  go_wp2_with (first
    | (go_at_call 14; rw [← HWSE.out]; refine (may_any _ _ _ p _ HWS.out HPS.out).mono ?_; rintro e w2 ⟨rfl, hb2⟩; rw [HM.out]; refine Hid.out ?_))
  have g0 := (hb2.block _ (by omega)).trans S0.out
  have g1 := (hb2.block _ (by omega)).trans S1.out
  have q0 : w2.cell? ⟨w.heap.size, 0, none⟩ = some (.int .i64 p.vars) := by rw [cell_of_row _ _ _ _ _ _ g0]; rfl
  have q1 : w2.cell? ⟨w.heap.size, 1, none⟩ = some (.slice a1 n1 c1) := by rw [cell_of_row _ _ _ _ _ _ g0]; rfl
  have q2 : w2.cell? ⟨w.heap.size + 1, 0, none⟩ = some (.int .i64 0) := by rw [cell_of_row _ _ _ _ _ _ g1]; rfl
  have y0 : w2.frozen? ⟨w.heap.size, 0, none⟩ = false := frozen_of_row _ _ _ _ _ g0
  have y1 : w2.frozen? ⟨w.heap.size, 1, none⟩ = false := frozen_of_row _ _ _ _ _ g0
  have y2 : w2.frozen? ⟨w.heap.size + 1, 0, none⟩ = false := frozen_of_row _ _ _ _ _ g1
  have G0 := Lib.hid g0
  have G1 := Lib.hid g1
  have HB2 := Lib.hid hb2
  clear g0 g1 hb2 r0 r1 f0 f1
  refine Lib.hid ?_
  go_wp2_with (first
    | (go_at_call 49; refine (must_ok _).mono ?_; rintro e w' ⟨rfl, rfl⟩))
  refine leaves_cons (f := 48) (args := #[.pointer (some ⟨w.heap.size, 0, none⟩), .pointer (some ⟨w.heap.size + 1, 0, none⟩)]) (by simp) (by simp [go_sem]) ?_
  refine (catch_idle _ _ _).mono ?_
  rintro e u' w'' ⟨rfl, rfl, rfl⟩
  obtain ⟨k0, k1, k2⟩ := fin3 G0.out G1.out (.int .i64 p.vars) (.slice a1 n1 c1) (.int .i64 0)
  have hfin := read_fin HCS.out HRS.out HBS.out HB2.out S0.out S1.out hg
  have HF := Lib.hid hfin
  clear hfin
  simp [Leaves, settle, results, Tryd.results35, go_sem, k0, k1, k2]
  exact ⟨a1, n1, c1, rfl, HSL.out, HF.out⟩
end Go.Proofs.YtlgbkbmjfmomkaaDoor
