/-
  The walk of OfBytes.
-/
import Derived.Test.YtlgbkbmjfmomkaaDoorH5
import Derived.BigRegion
namespace Go.Proofs.YtlgbkbmjfmomkaaDoor
open Go.RowKit CodM

theorem rdIns_le {l r : List UInt8} {x : Ins} (h : rdIns l = some (x, r)) : r.length ≤ l.length := by
  cases l with
  | nil => simp [rdIns] at h
  | cons y t =>
    simp only [rdIns] at h
    split at h
    · split at h
      · cases h
      · simp at h; rw [← h.2]; simp; omega
    · simp at h; rw [← h.2]; simp
theorem rdN_le : ∀ {k : Nat} {l r : List UInt8} {x : List Ins}, rdN k l = some (x, r) → r.length ≤ l.length
  | 0, l, r, x, h => by simp [rdN] at h; rw [h.2]; exact Nat.le_refl _
  | k + 1, l, r, x, h => by
    simp only [rdN, Option.bind_eq_some_iff, Option.map_eq_some_iff] at h
    obtain ⟨⟨x1, r1⟩, e1, ⟨x2, r2⟩, e2, e3⟩ := h
    simp at e3
    have := rdN_le e1
    have := rdIns_le e2
    simp only at this
    rw [← e3.2]
    omega
theorem rdKind_le {l r : List UInt8} {x : List Ins} (h : rdKind l = some (x, r)) : r.length ≤ l.length := by
  cases l with
  | nil => simp [rdKind] at h
  | cons y t => simp only [rdKind] at h; have := rdN_le h; simp; omega
theorem rdKs_le : ∀ {k : Nat} {l r : List UInt8} {x : List (List Ins)}, rdKs k l = some (x, r) → r.length ≤ l.length
  | 0, l, r, x, h => by simp [rdKs] at h; rw [h.2]; exact Nat.le_refl _
  | k + 1, l, r, x, h => by
    simp only [rdKs, Option.bind_eq_some_iff, Option.map_eq_some_iff] at h
    obtain ⟨⟨x1, r1⟩, e1, ⟨x2, r2⟩, e2, e3⟩ := h
    simp at e3
    have := rdKs_le e1
    have := rdKind_le e2
    simp only at this
    rw [← e3.2]
    omega
theorem rdProg_le {l r : List UInt8} {p : Prg} (h : rdProg l = some (p, r)) : r.length ≤ l.length := by
  match l, h with
  | [], h => simp [rdProg] at h
  | [x], h => simp [rdProg] at h
  | x :: y :: t, h =>
    simp only [rdProg, Option.map_eq_some_iff] at h
    obtain ⟨⟨ks, r1⟩, e1, e2⟩ := h
    simp at e2
    have := rdKs_le e1
    rw [← e2.2]
    simp
    omega
def OfNo (w : World) (e : Ending) (w' : World) : Prop := e = .returned (.tuple #[.agg #[.int .i64 0, .slice none 0 0], .int .i64 0, .int .i64 3]) ∧ Below w.heap.size w w'
/-- what read tells, where it tells no program -/
theorem read_no (g : Nat) (l : List UInt8) (w : World) (hW : Wds w) (hr : RdAt w g l) (h : ∀ p r, rdProg l = some (p, r) → CodM.may (codeNk p) p = false) :
    Calls Tryd.prog 35 #[.func (.func 37) #[.pointer (some ⟨g, 0, none⟩)] #[]] w (ReadNo g w) := by
  cases hp : rdProg l with
  | none => exact read_none g l w hr hp
  | some x =>
    obtain ⟨p, r⟩ := x
    exact read_bad g l r p w hW hr hp (h p r hp)
theorem rd_new {w : World} {a : Option Addr} {c : Nat} {l : List UInt8} (h1 : l.length ≤ c) (h2 : c ≤ 9223372036854775807) (hb : BytAt w a l) : RdAt (w.alloc (.cells #[.slice a l.length c] 66)) w.heap.size l :=
  ⟨a, c, heap_alloc_new _ _, h1, h2, hb.but ((But.refl (fun _ => False) w).alloc _) (fun _ _ _ h => h)⟩

theorem fin_cells2 {w : World} {R : Nat} {u0 u1 : Value} {t : TypeId} (hres : w.heap[R]? = some (.cells #[u0, u1] t)) (v0 v1 : Value) (o : Obj) :
    (((w.setCell ⟨R, 0, none⟩ v0).setCell ⟨R, 1, none⟩ v1).alloc o).cell? ⟨R, 0, none⟩ = some v0 ∧ (((w.setCell ⟨R, 0, none⟩ v0).setCell ⟨R, 1, none⟩ v1).alloc o).cell? ⟨R, 1, none⟩ = some v1 := by
  obtain ⟨h0, h1⟩ := fin_cells hres v0 v1
  have hb := (But.refl (fun _ => False) ((w.setCell ⟨R, 0, none⟩ v0).setCell ⟨R, 1, none⟩ v1)).alloc o
  exact ⟨hb.cell h0 (fun h => h), hb.cell h1 (fun h => h)⟩
theorem of_below {w w1 : World} {o1 o2 : Obj} (hb : But (fun k => k = w.heap.size + 1) ((w.alloc o1).alloc o2) w1) (v0 v1 : Value) (o : Obj) : Below w.heap.size w (((w1.setCell ⟨w.heap.size, 0, none⟩ v0).setCell ⟨w.heap.size, 1, none⟩ v1).alloc o) := by
  have h : But (fun k => k = w.heap.size + 1) w (((w1.setCell ⟨w.heap.size, 0, none⟩ v0).setCell ⟨w.heap.size, 1, none⟩ v1).alloc o) :=
    ((((((But.refl _ w).alloc o1).alloc o2).trans hb).setCell (.inr (Nat.le_refl _)) _).setCell (.inr (Nat.le_refl _)) _).alloc o
  exact h.below _ (Nat.le_refl _) (fun k hk => by omega)

set_option maxHeartbeats 2000000 in
set_option maxRecDepth 100000 in
theorem ofBytes_no (l : List UInt8) (a : Option Addr) (c : Nat) (w : World) (hW : Wds w) (h1 : l.length ≤ c) (h2 : c ≤ 9223372036854775807) (hb : BytAt w a l) (h : ∀ p r, rdProg l = some (p, r) → CodM.may (codeNk p) p = false) :
    Calls Tryd.prog 18 #[.slice a l.length c] w (OfNo w) := by
  have hmf : ∀ (fn : Fn) (first cap : Array Value) (w : World), (Instr.makeFunc fn first cap).run Tryd.prog w = .ok (.func fn first cap) w := fun _ _ _ _ => rfl
  obtain ⟨n, hn⟩ : ∃ n, n = l.length := ⟨_, rfl⟩
  have hr := rd_new (w := w.alloc (.cells #[.int .i64 0, .slice none 0 0] 24)) h1 h2 (hb.but ((But.refl (fun _ => False) w).alloc _) (fun _ _ _ h => h))
  have hw := (hW.alloc (.cells #[.int .i64 0, .slice none 0 0] 24)).alloc (.cells #[.slice a l.length c] 66)
  rw [← hn] at hr hw h1 ⊢
  rw [show (w.alloc (.cells #[.int .i64 0, .slice none 0 0] 24)).heap.size = w.heap.size + 1 from by simp] at hr
  have HR := Lib.hid hr
  have HW := Lib.hid hw
  have HN := Lib.hid h
  clear hb hW h hr hw hn
  go_enter Tryd.func18, Tryd.ntmps18
  go_wp2_with (first
    | (go_at_call 35; refine (read_no (w.heap.size + 1) l _ HW.out HR.out HN.out).mono ?_; rintro e w1 ⟨rfl, hb1⟩; refine Hid.out ?_))
  have h0 : w1.heap[w.heap.size]? = some (.cells #[.int .i64 0, .slice none 0 0] 24) := hb1.heap ((heap_alloc_old _ _ (by simp)).trans (heap_alloc_new _ _)) (by omega)
  have r0 : w1.cell? ⟨w.heap.size, 0, none⟩ = some (.int .i64 0) := by rw [cell_of_row _ _ _ _ _ _ h0]; rfl
  have r1 : w1.cell? ⟨w.heap.size, 1, none⟩ = some (.slice none 0 0) := by rw [cell_of_row _ _ _ _ _ _ h0]; rfl
  have f0 : w1.frozen? ⟨w.heap.size, 0, none⟩ = false := frozen_of_row _ _ _ _ _ h0
  have f1 : w1.frozen? ⟨w.heap.size, 1, none⟩ = false := frozen_of_row _ _ _ _ _ h0
  have hs1 : w.heap.size < w1.heap.size := heap_lt h0
  have HB1 := Lib.hid hb1
  have H0 := Lib.hid h0
  clear hb1 h0
  refine Lib.hid ?_
  go_wp2
  obtain ⟨k0, k1⟩ := fin_cells2 H0.out (.int .i64 0) (.slice none 0 0) (.cells #[.int .i64 0, .slice none 0 0] 24)
  refine bodyPost_ret (v := .tuple #[.agg #[.int .i64 0, .slice none 0 0], .int .i64 0, .int .i64 3]) (by simp [results, Tryd.results18, go_sem, k0, k1]) rfl ⟨rfl, ?_⟩
  exact of_below HB1.out _ _ _

/-- what OfBytes tells, where there is a program -/
def OfYes (p : Prg) (m : Nat) (w : World) (e : Ending) (w' : World) : Prop :=
  ∃ a n c, e = .returned (.tuple #[.agg #[.int .i64 p.vars, .slice a n c], .int .i64 m, .int .i64 0]) ∧ SlOk a n c ∧ Cop w.heap.size w' a n p.kinds ∧ Below w.heap.size w w'
set_option maxHeartbeats 2000000 in
set_option maxRecDepth 100000 in
theorem ofBytes_yes (l r : List UInt8) (p : Prg) (a : Option Addr) (c : Nat) (w : World) (hW : Wds w) (h1 : l.length ≤ c) (h2 : c ≤ 9223372036854775807) (hb : BytAt w a l) (h : rdProg l = some (p, r)) (hm : CodM.may (codeNk p) p = true) :
    Calls Tryd.prog 18 #[.slice a l.length c] w (OfYes p (l.length - r.length) w) := by
  have hmf : ∀ (fn : Fn) (first cap : Array Value) (w : World), (Instr.makeFunc fn first cap).run Tryd.prog w = .ok (.func fn first cap) w := fun _ _ _ _ => rfl
  obtain ⟨n, hn⟩ : ∃ n, n = l.length := ⟨_, rfl⟩
  have hr := rd_new (w := w.alloc (.cells #[.int .i64 0, .slice none 0 0] 24)) h1 h2 (hb.but ((But.refl (fun _ => False) w).alloc _) (fun _ _ _ h => h))
  have hw := (hW.alloc (.cells #[.int .i64 0, .slice none 0 0] 24)).alloc (.cells #[.slice a l.length c] 66)
  have hlr : r.length ≤ n := by rw [hn]; exact rdProg_le h
  rw [← hn] at hr hw h1 ⊢
  rw [show (w.alloc (.cells #[.int .i64 0, .slice none 0 0] 24)).heap.size = w.heap.size + 1 from by simp] at hr
  have HR := Lib.hid hr
  have HW := Lib.hid hw
  have HN := Lib.hid h
  have HM := Lib.hid hm
  clear hb hW h hr hw hn hm
  obtain ⟨m, hmr⟩ : ∃ m, m = r.length := ⟨_, rfl⟩
  rw [← hmr] at hlr ⊢
  have HMR := Lib.hid hmr
  clear hmr
  go_enter Tryd.func18, Tryd.ntmps18
  go_wp2_with (first
    | (go_at_call 35; refine (read_good (w.heap.size + 1) l r p _ HW.out HR.out HN.out HM.out).mono ?_; rintro e w1 ⟨a1, n1, c1, rfl, hsl, hcop, hr1, hb1⟩; refine Hid.out ?_))
  have h0 : w1.heap[w.heap.size]? = some (.cells #[.int .i64 0, .slice none 0 0] 24) := hb1.heap ((heap_alloc_old _ _ (by simp)).trans (heap_alloc_new _ _)) (by omega)
  have r0 : w1.cell? ⟨w.heap.size, 0, none⟩ = some (.int .i64 0) := by rw [cell_of_row _ _ _ _ _ _ h0]; rfl
  have r1 : w1.cell? ⟨w.heap.size, 1, none⟩ = some (.slice none 0 0) := by rw [cell_of_row _ _ _ _ _ _ h0]; rfl
  have f0 : w1.frozen? ⟨w.heap.size, 0, none⟩ = false := frozen_of_row _ _ _ _ _ h0
  have f1 : w1.frozen? ⟨w.heap.size, 1, none⟩ = false := frozen_of_row _ _ _ _ _ h0
  have hs1 : w.heap.size + 1 < w1.heap.size := hr1.lt
  obtain ⟨a2, c2, hh2, hl2, hc2, _⟩ := hr1
  rw [← HMR.out] at hh2 hl2
  have d0 : w1.cell? ⟨w.heap.size + 1, 0, none⟩ = some (.slice a2 m c2) := by rw [cell_of_row _ _ _ _ _ _ hh2]; rfl
  have HB1 := Lib.hid hb1
  have H0 := Lib.hid h0
  have HSL := Lib.hid hsl
  have HCOP := Lib.hid hcop
  clear hb1 h0 hsl hcop hh2
  refine Lib.hid ?_
  go_wp2
  have hbw := (But.refl (fun _ => False) w1).alloc (.cells #[.int .i64 p.vars, .slice a1 n1 c1] 24)
  have hbx : (w1.alloc (.cells #[.int .i64 p.vars, .slice a1 n1 c1] 24)).heap[w1.heap.size]? = some (.cells #[.int .i64 p.vars, .slice a1 n1 c1] 24) := heap_alloc_new _ _
  generalize hwq : w1.alloc (.cells #[.int .i64 p.vars, .slice a1 n1 c1] 24) = wq
  rw [hwq] at hbw hbx
  have x0 : wq.cell? ⟨w1.heap.size, 0, none⟩ = some (.int .i64 p.vars) := by rw [cell_of_row _ _ _ _ _ _ hbx]; rfl
  have x1 : wq.cell? ⟨w1.heap.size, 1, none⟩ = some (.slice a1 n1 c1) := by rw [cell_of_row _ _ _ _ _ _ hbx]; rfl
  have hh0 := hbw.heap H0.out (fun h => h)
  have y0 : wq.cell? ⟨w.heap.size, 0, none⟩ = some (.int .i64 0) := hbw.cell r0 (fun h => h)
  have y1 : wq.cell? ⟨w.heap.size, 1, none⟩ = some (.slice none 0 0) := hbw.cell r1 (fun h => h)
  have g0 : wq.frozen? ⟨w.heap.size, 0, none⟩ = false := frozen_of_row _ _ _ _ _ hh0
  have g1 : wq.frozen? ⟨w.heap.size, 1, none⟩ = false := frozen_of_row _ _ _ _ _ hh0
  have y2 : wq.cell? ⟨w.heap.size + 1, 0, none⟩ = some (.slice a2 m c2) := hbw.cell d0 (fun h => h)
  have HH0 := Lib.hid hh0
  have HBW := Lib.hid hbw
  clear hbw hbx hh0 r0 r1 f0 f1 d0
  go_region
  go_wp2
  obtain ⟨k0, k1⟩ := fin_cells HH0.out (.int .i64 p.vars) (.slice a1 n1 c1)
  refine bodyPost_ret (v := .tuple #[.agg #[.int .i64 p.vars, .slice a1 n1 c1], .int .i64 ((n : Int) - m), .int .i64 0]) (by simp [results, Tryd.results18, go_sem, k0, k1]) rfl ⟨a1, n1, c1, ?_, HSL.out, ?_, ?_⟩
  · rw [show ((n - m : Nat) : Int) = (n : Int) - m from by omega]
  · have hn1 : ∀ t cur', t ≠ 24 → wq.heap[w.heap.size]? ≠ some (.cells cur' t (0, 0)) := fun t cur' ht h => by rw [HH0.out] at h; cases h; exact ht rfl
    have hn0 : ∀ t cur', t ≠ 24 → w1.heap[w.heap.size]? ≠ some (.cells cur' t (0, 0)) := fun t cur' ht h => by rw [H0.out] at h; cases h; exact ht rfl
    have hk : Keep w.heap.size w1 wq := ⟨HBW.out.size, fun k _ _ _ _ hh => HBW.out.heap hh (fun h => h)⟩
    have h3 := (HCOP.out.keep hk (fun cur' => hn0 _ cur' (by decide)) (fun cur' => hn0 _ cur' (by decide))).keep ((Keep.set w.heap.size 0 (.int .i64 p.vars)).trans (Keep.set w.heap.size 1 (.slice a1 n1 c1))) (fun cur' => hn1 _ cur' (by decide)) (fun cur' => hn1 _ cur' (by decide))
    exact Cop.mono (C := w.heap.size) h3 (by simp; omega)
  · have h : But (fun k => k = w.heap.size + 1) w ((wq.setCell ⟨w.heap.size, 0, none⟩ (.int .i64 p.vars)).setCell ⟨w.heap.size, 1, none⟩ (.slice a1 n1 c1)) :=
      (((((((But.refl _ w).alloc _).alloc _).trans HB1.out).trans (HBW.out.mono (fun _ _ h => h.elim))).setCell (.inr (Nat.le_refl _)) _).setCell (.inr (Nat.le_refl _)) _)
    exact (h.below _ (Nat.le_refl _) (fun k hk => by omega)).drew
end Go.Proofs.YtlgbkbmjfmomkaaDoor
