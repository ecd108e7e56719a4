/-
  Machines in memory; the walks of isNone, Self, May, code, Clone.
-/
import Derived.Test.YthhpoihfaggafaaDoorVSend
import Derived.Test.YthhpoihfaggafaaDoorC5
import Derived.BigQuiet
namespace Go.Proofs.YthhpoihfaggafaaDoor
open Go Go.RowKit Go.Sort Go.Proofs CodM VmM

abbrev mcC (pv : Int) (a : Option Addr) (n c : Nat) (m : Mch) : Array Value := #[.int .i64 pv, .slice a n c, .int .i64 m.self, .int .i64 m.procs, .int .i64 m.seed]
/-- a machine, of a program that may be -/
structure MAt (w : World) (M : Nat) (m : Mch) (p : Prg) (a : Option Addr) (n c : Nat) : Prop where
  box : w.heap[M]? = some (.cells (mcC p.vars a n c m) 132 (0, 0))
  prog : ProgAt w a n p
  may : CodM.may (codeNk p) p = true
  procs : 1 ≤ m.procs ∧ m.procs ≤ 16
  self : 1 ≤ m.self ∧ m.self ≤ m.procs
section
variable {w w' : World} {M : Nat} {m : Mch} {p : Prg} {a : Option Addr} {n c : Nat}
theorem MAt.below (h : MAt w M m p a n c) (hb : Below w.heap.size w w') : MAt w' M m p a n c :=
  ⟨(hb.block _ (Array.getElem?_eq_some_iff.1 h.box).1).trans h.box, h.prog.below hb (Nat.le_refl _), h.may, h.procs, h.self⟩
theorem MAt.cells (h : MAt w M m p a n c) : w.cell? ⟨M, 0, none⟩ = some (.int .i64 p.vars) ∧ w.cell? ⟨M, 1, none⟩ = some (.slice a n c) ∧ w.cell? ⟨M, 2, none⟩ = some (.int .i64 m.self) ∧ w.cell? ⟨M, 3, none⟩ = some (.int .i64 m.procs) ∧ w.cell? ⟨M, 4, none⟩ = some (.int .i64 m.seed) := by
  refine ⟨?_, ?_, ?_, ?_, ?_⟩ <;> (rw [cell_of_row _ _ _ _ _ _ h.box]; rfl)
end
theorem isNone_any (w : World) (M : Nat) (m : Mch) (p : Prg) (a : Option Addr) (n c : Nat) (h : MAt w M m p a n c) : Calls Tryd.prog 64 #[.pointer (some ⟨M, 0, none⟩)] w (fun e w' => e = .returned (.bool false) ∧ w = w') := by
  have c2 := h.cells.2.2.1
  have hs := h.self
  have hb : (m.self == 0) = false := by simp; omega
  clear h
  go_enter Tryd.func64, Tryd.ntmps64
  go_wp2
  go_ret
  exact ⟨rfl, rfl⟩
abbrev stV (va : Option Addr) (vn vc : Nat) (sent drawn : Int) : Value := .agg #[.slice va vn vc, .int .i64 sent, .int .i64 drawn]
set_option maxHeartbeats 2000000 in
theorem mMay_any (w : World) (M : Nat) (m : Mch) (p : Prg) (a : Option Addr) (n c : Nat) (h : MAt w M m p a n c) (va : Option Addr) (vn vc : Nat) (sent drawn : Int) (u : Bool) (hu : u = decide ((vn : Int) = p.vars ∧ 0 ≤ sent ∧ 0 ≤ drawn)) :
    Calls Tryd.prog 65 #[.pointer (some ⟨M, 0, none⟩), stV va vn vc sent drawn] w (fun e w' => e = .returned (.bool u) ∧ Below w.heap.size w w') := by
  have HM := Lib.hid h
  obtain ⟨w1, hw1⟩ : ∃ w1, w1 = w.alloc (.cells #[.slice va vn vc, .int .i64 sent, .int .i64 drawn] 51) := ⟨_, rfl⟩
  have hb1 : Below w.heap.size w w1 := by rw [hw1]; exact (Below.refl _ _).alloc (Nat.le_refl _) _
  have hx1 : w1.heap[w.heap.size]? = some (.cells #[.slice va vn vc, .int .i64 sent, .int .i64 drawn] 51 (0, 0)) := by rw [hw1]; exact heap_alloc_new _ _
  have e0 : w1.cell? ⟨w.heap.size, 0, none⟩ = some (.slice va vn vc) := by rw [cell_of_row _ _ _ _ _ _ hx1]; rfl
  have e1 : w1.cell? ⟨w.heap.size, 1, none⟩ = some (.int .i64 sent) := by rw [cell_of_row _ _ _ _ _ _ hx1]; rfl
  have e2 : w1.cell? ⟨w.heap.size, 2, none⟩ = some (.int .i64 drawn) := by rw [cell_of_row _ _ _ _ _ _ hx1]; rfl
  have m0 := (h.below hb1).cells.1
  obtain ⟨b, hbz⟩ : ∃ b, b = w.heap.size := ⟨_, rfl⟩
  rw [← hbz] at e0 e1 e2
  have q0 : ∀ p : InB w1, p.w.cell? ⟨b, 0, none⟩ = some (.slice va vn vc) := fun p => cell_keep p e0
  have q1 : ∀ p : InB w1, p.w.cell? ⟨b, 1, none⟩ = some (.int .i64 sent) := fun p => cell_keep p e1
  have q2 : ∀ p : InB w1, p.w.cell? ⟨b, 2, none⟩ = some (.int .i64 drawn) := fun p => cell_keep p e2
  have q3 : ∀ q : InB w1, q.w.cell? ⟨M, 0, none⟩ = some (.int .i64 p.vars) := fun q => cell_keep q m0
  have HN : Hid (∀ q : InB w1, Calls Tryd.prog 64 #[.pointer (some ⟨M, 0, none⟩)] q.w (fun e w' => e = .returned (.bool false) ∧ Below q.w.heap.size q.w w')) := Lib.hid fun q => (isNone_any q.w M m p a n c ((h.below hb1).below q.h)).mono fun _ _ ⟨h1, h2⟩ => ⟨h1, h2 ▸ Below.refl _ _⟩
  have HB := Lib.hid hb1
  have HU := Lib.hid hu
  have HW := Lib.hid hw1
  have HZ := Lib.hid hbz
  clear h hb1 hx1 e0 e1 e2 m0 hu hw1 hbz
  by_cases h0 : (vn : Int) = p.vars
  · have d0 : ((vn : Int) == p.vars) = true := by simp [h0]
    by_cases h1 : 0 ≤ sent
    · have d1 : decide (0 ≤ sent) = true := decide_eq_true h1
      by_cases h2 : 0 ≤ drawn
      · have d2 : decide (0 ≤ drawn) = true := decide_eq_true h2
        have HF : Hid (u = true) := by rw [Lib.hid_eq, HU.out]; exact decide_eq_true ⟨h0, h1, h2⟩
        go_enter Tryd.func65, Tryd.ntmps65
        go_wp2_with fail
        rw [← HW.out, ← HZ.out]
        refine wp_region_below (by kernel_rfl) (by kernel_rfl) ?_
        repeat (refine WQ.step (fun K hK => ?_); go_simp; first | (refine hK _ ?_; clear hK K) | (apply Exists.intro; refine ⟨fun _ => ?_, hK _ ?_⟩; (go_at_call 64; exact Calls.inb (HN.out _)); clear hK K))
        refine WQ.nil ?_
        intro w8 hw'
        obtain ⟨pq, hpq⟩ := hw'
        have HP := Lib.hid (HB.out.trans (pq.h.mono HB.out.size))
        rw [← hpq] at HP
        clear hpq pq q0 q1 q2 q3 HN
        go_wp2
        go_ret
        exact ⟨by rw [HF.out]; rfl, HP.out⟩
      · have d2 : decide (0 ≤ drawn) = false := decide_eq_false h2
        have HF : Hid (u = false) := by rw [Lib.hid_eq, HU.out]; exact decide_eq_false fun h => h2 h.2.2
        go_enter Tryd.func65, Tryd.ntmps65
        go_wp2_with fail
        rw [← HW.out, ← HZ.out]
        refine wp_region_below (by kernel_rfl) (by kernel_rfl) ?_
        repeat (refine WQ.step (fun K hK => ?_); go_simp; first | (refine hK _ ?_; clear hK K) | (apply Exists.intro; refine ⟨fun _ => ?_, hK _ ?_⟩; (go_at_call 64; exact Calls.inb (HN.out _)); clear hK K))
        refine WQ.nil ?_
        intro w8 hw'
        obtain ⟨pq, hpq⟩ := hw'
        have HP := Lib.hid (HB.out.trans (pq.h.mono HB.out.size))
        rw [← hpq] at HP
        clear hpq pq q0 q1 q2 q3 HN
        go_wp2
        go_ret
        exact ⟨by rw [HF.out]; rfl, HP.out⟩
    · have d1 : decide (0 ≤ sent) = false := decide_eq_false h1
      have HF : Hid (u = false) := by rw [Lib.hid_eq, HU.out]; exact decide_eq_false fun h => h1 h.2.1
      go_enter Tryd.func65, Tryd.ntmps65
      go_wp2_with fail
      rw [← HW.out, ← HZ.out]
      refine wp_region_below (by kernel_rfl) (by kernel_rfl) ?_
      repeat (refine WQ.step (fun K hK => ?_); go_simp; first | (refine hK _ ?_; clear hK K) | (apply Exists.intro; refine ⟨fun _ => ?_, hK _ ?_⟩; (go_at_call 64; exact Calls.inb (HN.out _)); clear hK K))
      refine WQ.nil ?_
      intro w8 hw'
      obtain ⟨pq, hpq⟩ := hw'
      have HP := Lib.hid (HB.out.trans (pq.h.mono HB.out.size))
      rw [← hpq] at HP
      clear hpq pq q0 q1 q2 q3 HN
      go_wp2
      go_ret
      exact ⟨by rw [HF.out]; rfl, HP.out⟩
  · have d0 : ((vn : Int) == p.vars) = false := by simpa using h0
    have HF : Hid (u = false) := by rw [Lib.hid_eq, HU.out]; exact decide_eq_false fun h => h0 h.1
    go_enter Tryd.func65, Tryd.ntmps65
    go_wp2_with fail
    rw [← HW.out, ← HZ.out]
    refine wp_region_below (by kernel_rfl) (by kernel_rfl) ?_
    repeat (refine WQ.step (fun K hK => ?_); go_simp; first | (refine hK _ ?_; clear hK K) | (apply Exists.intro; refine ⟨fun _ => ?_, hK _ ?_⟩; (go_at_call 64; exact Calls.inb (HN.out _)); clear hK K))
    refine WQ.nil ?_
    intro w8 hw'
    obtain ⟨pq, hpq⟩ := hw'
    have HP := Lib.hid (HB.out.trans (pq.h.mono HB.out.size))
    rw [← hpq] at HP
    clear hpq pq q0 q1 q2 q3 HN
    go_wp2
    go_ret
    exact ⟨by rw [HF.out]; rfl, HP.out⟩
def CodeTo (p : Prg) (k : Int) (w W : World) (e : Ending) (w' : World) : Prop := ∃ a2 c2, e = .returned (.slice a2 (codeOf p k).length c2) ∧ InsAt w a2 (codeOf p k).length (codeOf p k) ∧ W = w'
/-- the code of a kind -/
theorem code_any (w W : World) (hbW : Below w.heap.size w W) (M : Nat) (m : Mch) (p : Prg) (a : Option Addr) (n c : Nat) (h : MAt w M m p a n c) (k : Int) (hk : 0 ≤ k ∧ k ≤ 7) :
    Calls Tryd.prog 94 #[.pointer (some ⟨M, 0, none⟩), .int .i64 k] W (CodeTo p k w W) := by
  obtain ⟨j, rfl⟩ : ∃ j : Nat, k = (j : Int) := ⟨k.toNat, by omega⟩
  have c1 := (h.below hbW).cells.2.1
  have hl : p.kinds.length = n := h.prog.2.1
  have hn8 : n ≤ 9223372036854775807 := h.prog.2.2.1
  by_cases hj : j < n
  · obtain ⟨B, off, a2, n2, c2, rfl, hB, e1, e2, e3⟩ := h.prog.2.cell j hj
    replace e1 := (hbW.cell hB).trans e1
    have hlen : (p.kinds.getD j []).length = n2 := e3.1
    have HC : Hid (codeOf p (j : Int) = p.kinds.getD j []) := by rw [Lib.hid_eq]; unfold codeOf; rw [Int.toNat_natCast]
    have hjI : ¬ (n : Int) ≤ (j : Int) := by omega
    have hjI2 : (j : Int) < (n : Int) := by omega
    have HE := Lib.hid (And.intro hlen e3)
    clear h hl hlen e3 hB
    go_enter Tryd.func94, Tryd.ntmps94
    go_wp2
    go_ret
    unfold CodeTo
    rw [HC.out, HE.out.1]
    exact ⟨a2, c2, rfl, HE.out.2, rfl⟩
  · have HC : Hid (codeOf p (j : Int) = []) := by
      rw [Lib.hid_eq]
      unfold codeOf
      rw [Int.toNat_natCast, List.getD, List.getElem?_eq_none (by omega)]
      rfl
    have hjI : (n : Int) ≤ (j : Int) := by omega
    clear h hl
    go_enter Tryd.func94, Tryd.ntmps94
    go_wp2
    go_ret
    unfold CodeTo
    rw [HC.out]
    exact ⟨none, 0, rfl, ⟨rfl, by simp, by simp, .inl rfl⟩, rfl⟩
def ClonedTo (l : List Int) (w : World) (e : Ending) (w' : World) : Prop := ∃ v, e = .returned v ∧ CV.Own 2 w.heap.size w' v l ∧ Below w.heap.size w w'
set_option maxRecDepth 100000 in
theorem clone_any (w : World) (va : Option Addr) (vc : Nat) (l : List Int) (h : CV.At w va l.length l) (hl : l.length ≤ 1000) (hnil : va = none → vc = 0) : Calls Tryd.prog 71 #[.slice va l.length vc] w (ClonedTo l w) := by
  cases va with
  | none =>
    obtain rfl := hnil rfl
    have h0 : l = [] := by
      obtain ⟨_, _, h3 | ⟨_, _, e, _⟩⟩ := h
      · exact List.length_eq_zero_iff.1 h3
      · cases e
    subst h0
    clear h hl hnil
    have eq0 : ∀ W : World, (binOp .eql 49 (.slice none 0 0) (.slice none 0 0)).run Tryd.prog W = .ok (.bool true) W := fun W => Lib.run_eql_slice_nil W 49 2 none 0 0 0 0 Tryd.underlying49
    show Calls Tryd.prog 71 #[.slice none 0 0] w (ClonedTo [] w)
    go_enter Tryd.func71, Tryd.ntmps71
    go_wp2
    go_ret
    exact ⟨_, rfl, Cod.Own.nil _ _, Below.refl _ _⟩
  | some ad =>
    have H := Lib.hid h
    obtain ⟨N, hN⟩ : ∃ N, N = l.length := ⟨_, rfl⟩
    rw [← hN] at H hl ⊢
    have HN := Lib.hid hN
    clear h hnil hN
    go_enter Tryd.func71, Tryd.ntmps71
    have ho : CV.Own 2 w.heap.size (w.alloc (.cells #[] 2)) (.slice (some ⟨w.heap.size, 0, none⟩) 0 0) [] := ⟨rfl, .inr ⟨w.heap.size, 0, #[], rfl, Nat.le_refl _, heap_alloc_new _ _, Nat.le_refl _, by unfold maxLen; omega, rfl, rfl⟩⟩
    have HO := Lib.hid ho
    clear ho
    have eq0 : ∀ W : World, (binOp .eql 49 (.slice (some ad) N vc) (.slice none 0 0)).run Tryd.prog W = .ok (.bool false) W := fun W => Lib.run_eql_slice_nil W 49 2 (some ad) N vc 0 0 Tryd.underlying49
    go_wp2_with (at_builtin; refine rowV.list rfl _ _ rfl w.heap.size _ [] rfl HO.out ad N vc l rfl HN.out (H.out.below ((Below.refl _ w).alloc (Nat.le_refl _) _)).news (by simp; omega) (by simp; omega) (by simp) ?_; intro v' w' ho' hg' hn'; have H2 := Lib.hid (And.intro ho' hg'); clear ho' hg' hn')
    go_ret
    exact ⟨_, rfl, H2.out.1, ((Below.refl _ w).alloc (Nat.le_refl _) _).trans ((But.grown H2.out.2).below (by simp) fun k e => by cases e; exact Nat.le_refl _)⟩
end Go.Proofs.YthhpoihfaggafaaDoor
