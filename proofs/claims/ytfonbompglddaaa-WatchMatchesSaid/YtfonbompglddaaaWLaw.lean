/-
  The walk of the law WatchMatches.
-/
import Derived.Test.YtfonbompglddaaaWKnown
import Derived.Deep.QuietTactic
namespace Go.Proofs.Ytfonbompglddaaa
open Go Go.RowKit Go.Lib Go.Sort Go.Proofs

/-- a world that leaves what lay in w0 -/
structure InB (w0 : World) where
  w : World
  h : Below w0.heap.size w0 w
instance (w0 : World) : Inhabited (InB w0) := ⟨⟨w0, Below.refl _ _⟩⟩
/-- a region that draws its order, walked once: its calls leave what lay -/
theorem wp_region_below {P : Program} {id : Nat} {Q : Exit → Act → World → Prop} {a : Act} {w : World} {l : List Oper} (hm : P.follows .mixedOrders = true) (hB : Region.lexB .any l.toArray = true)
    (h : WQ P l.toArray (fun w' => ∃ p : InB w, w' = p.w) (fun a' => ∀ w', (∃ p : InB w, w' = p.w) → Q .normal a' w') l a) : (Code.region id l.toArray true).wp P Q a w :=
  wp_region_quiet (C := fun w' => ∃ p : InB w, w' = p.w) hm hB ⟨⟨w.drew, (Below.refl _ _).drew⟩, rfl⟩ (by simpa using h.out)
/-- a call that leaves what lay, met in such a world -/
theorem Calls.inb {P : Program} {w0 : World} {f : FuncId} {args : Array Value} {p : InB w0} {v : Value}
    (h : Calls P f args p.w fun e w' => e = .returned v ∧ Below p.w.heap.size p.w w') : Calls P f args p.w fun e w'' => e = .returned v ∧ ∃ q : InB w0, w'' = q.w :=
  h.mono fun _ w' ⟨he, hb⟩ => ⟨he, ⟨w', p.h.trans (hb.mono p.h.size)⟩, rfl⟩
theorem keep_at {w : World} (q : InB w) {p : Addr} {v : Value} (hp : p.block < w.heap.size) (h : w.cell? p = some v) : q.w.cell? p = some v := (q.h.cell hp).trans h
set_option maxHeartbeats 4000000 in
set_option maxRecDepth 100000 in
theorem matches_law (b : Bk) (ev : Ev) (w : World) : Calls Try.prog 5 #[BkV b, EvV ev] w (Tells (.bool true) w) := by
  obtain ⟨t1, ht1⟩ : ∃ t, bmay b = t := ⟨_, rfl⟩
  obtain ⟨t2, ht2⟩ : ∃ t, bmat b ev = t := ⟨_, rfl⟩
  have U1 : Hid (∀ W, Calls Try.prog 15 #[BkV b] W (Tells (.bool t1) W)) := Lib.hid fun W => (ht1 ▸ may_any b W).mono fun _ _ h => h.tells
  have U2 : Hid (∀ W, Calls Try.prog 16 #[BkV b] W (Tells (.bool t1) W)) := Lib.hid fun W => (ht1 ▸ rmay_any b W).mono fun _ _ h => h.tells
  have U3 : Hid (∀ W, Calls Try.prog 17 #[BkV b, EvV ev] W (Tells (.bool t2) W)) := Lib.hid fun W => (ht2 ▸ matches_any b ev W).mono fun _ _ h => h.tells
  have U4 : Hid (∀ W, Calls Try.prog 18 #[BkV b, EvV ev] W (Tells (.bool t2) W)) := Lib.hid fun W => (ht2 ▸ rmatches_any b ev W).mono fun _ _ h => h.tells
  have U5 : Hid (∀ W, Calls Try.prog 7 #[] W (Tells (.bool true) W)) := Lib.hid fun W => known_any W
  clear ht1 ht2
  obtain ⟨p, k, t⟩ := b
  obtain ⟨e0, e1, e2, e3, e4, e5⟩ := ev
  obtain ⟨w1, hw1⟩ : ∃ w1, w1 = (w.alloc (BkO (p, k, t))).alloc (EvO (e0, e1, e2, e3, e4, e5)) := ⟨_, rfl⟩
  have hb1 : Below w.heap.size w w1 := by rw [hw1]; exact ((Below.refl _ _).alloc (Nat.le_refl _) _).alloc (by simp) _
  have hsz : w1.heap.size = w.heap.size + 2 := by rw [hw1]; simp
  have q0 : w1.heap[w.heap.size]? = some (BkO (p, k, t)) := by rw [hw1]; exact (heap_alloc_old _ _ (by simp)).trans (heap_alloc_new _ _)
  have q1 : w1.heap[w.heap.size + 1]? = some (EvO (e0, e1, e2, e3, e4, e5)) := by
    rw [hw1]
    have := heap_alloc_new (w.alloc (BkO (p, k, t))) (EvO (e0, e1, e2, e3, e4, e5))
    simpa using this
  obtain ⟨a0, a1, a2⟩ := bk_box q0
  obtain ⟨b0, b1, b2, b3, b4, b5⟩ := ev_box q1
  have c0 := fun q : InB w1 => keep_at q (by show w.heap.size < _; omega) a0
  have c1 := fun q : InB w1 => keep_at q (by show w.heap.size < _; omega) a1
  have c2 := fun q : InB w1 => keep_at q (by show w.heap.size < _; omega) a2
  have d0 := fun q : InB w1 => keep_at q (by show w.heap.size + 1 < _; omega) b0
  have d1 := fun q : InB w1 => keep_at q (by show w.heap.size + 1 < _; omega) b1
  have d2 := fun q : InB w1 => keep_at q (by show w.heap.size + 1 < _; omega) b2
  have d3 := fun q : InB w1 => keep_at q (by show w.heap.size + 1 < _; omega) b3
  have d4 := fun q : InB w1 => keep_at q (by show w.heap.size + 1 < _; omega) b4
  have d5 := fun q : InB w1 => keep_at q (by show w.heap.size + 1 < _; omega) b5
  have HB1 := Lib.hid hb1
  have HW1 := Lib.hid hw1
  clear hb1 hw1 hsz q0 q1 a0 a1 a2 b0 b1 b2 b3 b4 b5
  go_enter Try.func5, Try.ntmps5
  go_upto_region 1 with fail
  rw [← HW1.out]
  refine wp_region_below (by kernel_rfl) (by kernel_rfl) ?_
  repeat (refine WQ.step (fun K hK => ?_); go_simp; first
    | (refine hK _ ?_; clear hK K)
    | (apply Exists.intro; refine ⟨fun _ => ?_, hK _ ?_⟩; (first
        | (go_at_call 15; exact Calls.inb (U1.out _))
        | (go_at_call 16; exact Calls.inb (U2.out _))
        | (go_at_call 17; exact Calls.inb (U3.out _))
        | (go_at_call 18; exact Calls.inb (U4.out _))
        | (go_at_call 7; exact Calls.inb (U5.out _))); clear hK K))
  refine WQ.nil ?_
  intro _ hw'
  obtain ⟨pq, hw''⟩ := hw'
  subst hw''
  clear c0 c1 c2 d0 d1 d2 d3 d4 d5
  go_wp2
  go_ret
  exact ⟨rfl, HB1.out.trans (pq.h.mono HB1.out.size)⟩
end Go.Proofs.Ytfonbompglddaaa
