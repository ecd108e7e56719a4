/-
  The walks of heap.parent, heap.named, cmp.Compare, cmp.Or, heap.compare.
-/
import Derived.Test.YtgfoagpmkbdciaaHRep
import Derived.Test.YtgfoagpmkbdciaaHBase
import Derived.Deep.RegionHeld3
import Derived.Sort.Grow
import Derived.Shelf.SlSortCmp.QuietGrown
namespace Go.Proofs.Ytgfoagpmkbdciaa
open Go Go.RowKit Go.Sort Go.Proofs

/-- some draws on, some blocks behind -/
def Gw (w w' : World) : Prop := ∃ q os, w' = grow (w.drewN q) os
theorem Gw.refl (w : World) : Gw w w := ⟨0, #[], by rw [grow_empty]; rfl⟩
theorem Gw.trans {a b c : World} (h : Gw a b) (h' : Gw b c) : Gw a c := by
  obtain ⟨q, os, rfl⟩ := h
  obtain ⟨q', os', rfl⟩ := h'
  exact ⟨q + q', os ++ os', by show grow (grow ((a.drewN q).drewN q') os) os' = _; rw [grow_grow, World.drewN_drewN]⟩
theorem Gw.drew {a b : World} (h : Gw a b) : Gw a b.drew := h.trans ⟨1, #[], by rw [grow_empty]; rfl⟩
theorem Gw.alloc {a b : World} (h : Gw a b) (o : Obj) : Gw a (b.alloc o) := h.trans ⟨0, #[o], by rw [alloc_eq_grow]; rfl⟩
theorem Gw.grow {a b : World} (h : Gw a b) (os : Array Obj) : Gw a (grow b os) := h.trans ⟨0, os, rfl⟩
theorem Gw.size {a b : World} (h : Gw a b) : a.heap.size ≤ b.heap.size := by
  obtain ⟨q, os, rfl⟩ := h
  rw [size_grow]
  exact Nat.le_add_right _ _
theorem Gw.cell {a b : World} (h : Gw a b) {p : Addr} {v : Value} (hc : a.cell? p = some v) : b.cell? p = some v := by
  obtain ⟨q, os, rfl⟩ := h
  exact cell_grown (World.block_lt_of_cell? a _ hc) hc q os
theorem Gw.block {a b : World} (h : Gw a b) {k : Nat} (hk : k < a.heap.size) : b.heap[k]? = a.heap[k]? := by
  obtain ⟨q, os, rfl⟩ := h
  exact heap_grow_old (a.drewN q) os (by exact hk)
theorem Gw.below {a b : World} (h : Gw a b) : Below a.heap.size a b := by
  obtain ⟨q, os, rfl⟩ := h
  exact ⟨rfl, rfl, rfl, by rw [size_grow]; exact Nat.le_add_right _ _, fun k hk => heap_grow_old (a.drewN q) os (by exact hk)⟩
theorem Gw.of_below {a b : World} (h : Below a.heap.size a b) (hd : a.drawn ≤ b.drawn) : Gw a b := by
  refine ⟨b.drawn - a.drawn, b.heap.extract a.heap.size b.heap.size, ?_⟩
  have hh : b.heap = a.heap ++ b.heap.extract a.heap.size b.heap.size := by
    refine Array.ext_getElem? fun i => ?_
    rw [Array.getElem?_append]
    split
    · next hi => exact h.block i hi
    · next hi =>
      rw [Array.getElem?_extract]
      by_cases hb : i < b.heap.size
      · rw [if_pos (by omega), show a.heap.size + (i - a.heap.size) = i by omega]
      · rw [if_neg (by omega), Array.getElem?_eq_none (by omega)]
  cases a with | mk ah at_ ad ao aout =>
  cases b with | mk bh bt bd bo bout =>
  have h1 := h.os
  have h2 := h.tape
  have h3 := h.output
  simp only at h1 h2 h3 hd hh
  subst h1 h2 h3
  unfold Go.Sort.grow World.drewN
  simp only
  rw [Nat.add_sub_cancel' hd, ← hh]

def SameI (n : Int) (w : World) (e : Ending) (w' : World) : Prop := e = .returned (.int .i64 n) ∧ w = w'
theorem ret_i {a b : Int} (h : a = b) : Ending.returned (.int .i64 a) = .returned (.int .i64 b) := by rw [h]

theorem parent_any (i : Nat) (hi : i < 4611686018427387904) (w : World) (h0 : 0 < i) : Calls Try.prog 44 #[.int .i64 i] w (SameI (((i - 1) / 2 : Nat) : Int) w) := by
  have e : (i : Int) - 1 = ((i - 1 : Nat) : Int) := by omega
  go_enter Try.func44, Try.ntmps44
  go_wp2
  go_ret
  exact ⟨ret_i (by omega), rfl⟩

theorem isNaN_any (n : Int) (w : World) : Calls Try.prog 53 #[.int .i64 n] w fun e w' => e = .returned (.bool false) ∧ w = w' := by
  go_enter Try.func53, Try.ntmps53
  go_wp2
  go_ret
  exact ⟨by simp, rfl⟩
theorem compare64_any (a b : Int) (w : World) : Calls Try.prog 49 #[.int .i64 a, .int .i64 b] w (SameI (sCmp a b) w) := by
  obtain ⟨t, ht⟩ : ∃ t, t = sCmp a b := ⟨_, rfl⟩
  rw [← ht]
  have HT := Lib.hid ht
  clear ht
  by_cases h1 : a < b
  · have d1 : decide (a < b) = true := decide_eq_true h1
    have H1 := Lib.hid h1
    clear h1
    go_enter Try.func49, Try.ntmps49
    go_wp2_with (go_at_call 53; refine (isNaN_any _ _).mono ?_; rintro e w' ⟨rfl, rfl⟩)
    go_ret
    exact ⟨ret_i (by rw [HT.out, sCmp, if_pos H1.out]), rfl⟩
  · by_cases h2 : b < a
    · have d1 : decide (a < b) = false := decide_eq_false h1
      have d2 : decide (b < a) = true := decide_eq_true h2
      have H1 := Lib.hid h1
      have H2 := Lib.hid h2
      clear h1 h2
      go_enter Try.func49, Try.ntmps49
      go_wp2_with (go_at_call 53; refine (isNaN_any _ _).mono ?_; rintro e w' ⟨rfl, rfl⟩)
      go_ret
      exact ⟨ret_i (by rw [HT.out, sCmp, if_neg (by have := H1.out; omega), if_pos H2.out]), rfl⟩
    · have d1 : decide (a < b) = false := decide_eq_false h1
      have d2 : decide (b < a) = false := decide_eq_false h2
      have H1 := Lib.hid h1
      have H2 := Lib.hid h2
      clear h1 h2
      go_enter Try.func49, Try.ntmps49
      go_wp2_with (go_at_call 53; refine (isNaN_any _ _).mono ?_; rintro e w' ⟨rfl, rfl⟩)
      go_ret
      exact ⟨ret_i (by rw [HT.out, sCmp, if_neg (by have := H1.out; omega), if_neg (by have := H2.out; omega)]), rfl⟩

theorem or_any (B : Nat) (a b : Int) (w : World) (h0 : w.cell? ⟨B, 0, none⟩ = some (.int .i64 a)) (h1 : w.cell? ⟨B, 1, none⟩ = some (.int .i64 b)) :
    Calls Try.prog 47 #[.slice (some ⟨B, 0, none⟩) 2 2] w (SameI (if a = 0 then b else a) w) := by
  obtain ⟨t, ht⟩ : ∃ t, t = if a = 0 then b else a := ⟨_, rfl⟩
  rw [← ht]
  have HT := Lib.hid ht
  clear ht
  by_cases hz : a = 0
  · subst hz
    by_cases hb : b = 0
    · subst hb
      go_enter Try.func47, Try.ntmps47
      go_wp2
      refine wp_loop_rounds 3 ?_
      rw [rounds_succ]
      go_wp2
      rw [rounds_succ]
      go_wp2
      rw [rounds_succ]
      go_wp2
      go_ret
      exact ⟨ret_i (by rw [HT.out]; simp), rfl⟩
    · have hd : (b != 0) = true := by simpa using hb
      have HB := Lib.hid hb
      clear hb
      go_enter Try.func47, Try.ntmps47
      go_wp2
      refine wp_loop_rounds 2 ?_
      rw [rounds_succ]
      go_wp2
      rw [rounds_succ]
      go_wp2
      go_ret
      exact ⟨ret_i (by rw [HT.out]; simp), rfl⟩
  · have hd : (a != 0) = true := by simpa using hz
    have HZ := Lib.hid hz
    clear hz
    go_enter Try.func47, Try.ntmps47
    go_wp2
    refine wp_loop_rounds 1 ?_
    rw [rounds_succ]
    go_wp2
    go_ret
    exact ⟨ret_i (by rw [HT.out, if_neg HZ.out]), rfl⟩

theorem or_new {a b t : Int} (h : t = if a = 0 then b else a) (w : World) : Calls Try.prog 47 #[.slice (some ⟨w.heap.size, 0, none⟩) 2 2] (w.alloc (.cells #[.int .i64 a, .int .i64 b] 3)) (SameI t (w.alloc (.cells #[.int .i64 a, .int .i64 b] 3))) :=
  h ▸ or_any _ a b _ (by rw [cell_of_row _ _ _ _ _ _ (heap_alloc_new w _)]; rfl) (by rw [cell_of_row _ _ _ _ _ _ (heap_alloc_new w _)]; rfl)

def Nm2 (x : It) : Value := .agg #[.int .i64 (nm x).1, .int .i64 (nm x).2]
def encI (x : It) : List Value := encE x.1 ++ [.int .i64 x.2]
/-- a name is told -/
def GwV (v : Value) (w : World) (e : Ending) (w' : World) : Prop := e = .returned v ∧ Gw w w'
theorem named_lit (a b c d e f s : Int) (w : World) : Calls Try.prog 34 #[.agg #[.int .i64 a, .int .i64 b, .int .i64 c, .int .i64 d, .int .i64 e, .int .i64 f, .int .i64 s]] w (GwV (.agg #[.int .i64 b, .int .i64 s]) w) := by
  go_enter Try.func34, Try.ntmps34
  go_wp2
  exact bodyPost_ret (v := .agg #[.int .i64 b, .int .i64 s]) (by simp [results, Try.results34, go_sem]) rfl ⟨rfl, ((Gw.refl w).alloc _).alloc _⟩

abbrev CS (w0 : World) (g : Nat) (a b c d e f s a' b' c' d' e' f' s' : Int) (W : World) : Prop :=
  W.cell? ⟨g, 0, none⟩ = some (.int .i64 a) ∧ W.cell? ⟨g, 1, none⟩ = some (.int .i64 b) ∧ W.cell? ⟨g, 2, none⟩ = some (.int .i64 c) ∧ W.cell? ⟨g, 3, none⟩ = some (.int .i64 d) ∧ W.cell? ⟨g, 4, none⟩ = some (.int .i64 e) ∧ W.cell? ⟨g, 5, none⟩ = some (.int .i64 f) ∧ W.cell? ⟨g, 6, none⟩ = some (.int .i64 s) ∧
  W.cell? ⟨g + 1, 0, none⟩ = some (.int .i64 a') ∧ W.cell? ⟨g + 1, 1, none⟩ = some (.int .i64 b') ∧ W.cell? ⟨g + 1, 2, none⟩ = some (.int .i64 c') ∧ W.cell? ⟨g + 1, 3, none⟩ = some (.int .i64 d') ∧ W.cell? ⟨g + 1, 4, none⟩ = some (.int .i64 e') ∧ W.cell? ⟨g + 1, 5, none⟩ = some (.int .i64 f') ∧ W.cell? ⟨g + 1, 6, none⟩ = some (.int .i64 s') ∧ Hid (Gw w0 W)
theorem CS.next {w0 : World} {g : Nat} {a b c d e f s a' b' c' d' e' f' s' : Int} {W W' : World} (h : CS w0 g a b c d e f s a' b' c' d' e' f' s' W) (h' : Gw W W') : CS w0 g a b c d e f s a' b' c' d' e' f' s' W' := by
  obtain ⟨h0, h1, h2, h3, h4, h5, h6, k0, k1, k2, k3, k4, k5, k6, hg⟩ := h
  exact ⟨h'.cell h0, h'.cell h1, h'.cell h2, h'.cell h3, h'.cell h4, h'.cell h5, h'.cell h6, h'.cell k0, h'.cell k1, h'.cell k2, h'.cell k3, h'.cell k4, h'.cell k5, h'.cell k6, Lib.hid (hg.out.trans h')⟩
theorem CS.gw {w0 : World} {g : Nat} {a b c d e f s a' b' c' d' e' f' s' : Int} {W : World} (h : CS w0 g a b c d e f s a' b' c' d' e' f' s' W) : Gw w0 W := h.2.2.2.2.2.2.2.2.2.2.2.2.2.2.out
theorem cs_byKey {w0 : World} {g : Nat} {a b c d e f s a' b' c' d' e' f' s' : Int} {W : World} (h : CS w0 g a b c d e f s a' b' c' d' e' f' s' W) :
    Calls Try.prog 48 #[.agg #[.int .i64 a, .int .i64 b, .int .i64 c, .int .i64 d, .int .i64 e, .int .i64 f], .agg #[.int .i64 a', .int .i64 b', .int .i64 c', .int .i64 d', .int .i64 e', .int .i64 f']] W
      fun e0 w' => e0 = .returned (.int .i64 (kCmp (a, b, c) (a', b', c'))) ∧ CS w0 g a b c d e f s a' b' c' d' e' f' s' w' :=
  (byKey_any ((a, b, c), d, e, f) ((a', b', c'), d', e', f') W).mono fun _ _ ⟨he, os, hw⟩ => ⟨he, h.next ⟨0, os, hw⟩⟩
theorem cs_start (w : World) (a b c d e f s a' b' c' d' e' f' s' : Int) :
    CS w w.heap.size a b c d e f s a' b' c' d' e' f' s' ((w.alloc (.cells #[.int .i64 a, .int .i64 b, .int .i64 c, .int .i64 d, .int .i64 e, .int .i64 f, .int .i64 s] 36)).alloc (.cells #[.int .i64 a', .int .i64 b', .int .i64 c', .int .i64 d', .int .i64 e', .int .i64 f', .int .i64 s'] 36)) := by
  have s1 : (w.alloc (.cells #[.int .i64 a, .int .i64 b, .int .i64 c, .int .i64 d, .int .i64 e, .int .i64 f, .int .i64 s] 36)).heap.size = w.heap.size + 1 := by simp
  have hh0 := (heap_alloc_old (w.alloc (.cells #[.int .i64 a, .int .i64 b, .int .i64 c, .int .i64 d, .int .i64 e, .int .i64 f, .int .i64 s] 36)) (.cells #[.int .i64 a', .int .i64 b', .int .i64 c', .int .i64 d', .int .i64 e', .int .i64 f', .int .i64 s'] 36) (r := w.heap.size) (by omega)).trans (heap_alloc_new w _)
  have hh1 := heap_alloc_new (w.alloc (.cells #[.int .i64 a, .int .i64 b, .int .i64 c, .int .i64 d, .int .i64 e, .int .i64 f, .int .i64 s] 36)) (.cells #[.int .i64 a', .int .i64 b', .int .i64 c', .int .i64 d', .int .i64 e', .int .i64 f', .int .i64 s'] 36)
  rw [s1] at hh1
  refine ⟨?_, ?_, ?_, ?_, ?_, ?_, ?_, ?_, ?_, ?_, ?_, ?_, ?_, ?_, Lib.hid (((Gw.refl w).alloc _).alloc _)⟩
  · rw [cell_of_row _ _ _ _ _ _ hh0]; rfl
  · rw [cell_of_row _ _ _ _ _ _ hh0]; rfl
  · rw [cell_of_row _ _ _ _ _ _ hh0]; rfl
  · rw [cell_of_row _ _ _ _ _ _ hh0]; rfl
  · rw [cell_of_row _ _ _ _ _ _ hh0]; rfl
  · rw [cell_of_row _ _ _ _ _ _ hh0]; rfl
  · rw [cell_of_row _ _ _ _ _ _ hh0]; rfl
  · rw [cell_of_row _ _ _ _ _ _ hh1]; rfl
  · rw [cell_of_row _ _ _ _ _ _ hh1]; rfl
  · rw [cell_of_row _ _ _ _ _ _ hh1]; rfl
  · rw [cell_of_row _ _ _ _ _ _ hh1]; rfl
  · rw [cell_of_row _ _ _ _ _ _ hh1]; rfl
  · rw [cell_of_row _ _ _ _ _ _ hh1]; rfl
  · rw [cell_of_row _ _ _ _ _ _ hh1]; rfl

set_option maxHeartbeats 2000000 in
theorem icmp_lit (a b c d e f s a' b' c' d' e' f' s' : Int) (w : World) : Calls Try.prog 40 #[.agg #[.int .i64 a, .int .i64 b, .int .i64 c, .int .i64 d, .int .i64 e, .int .i64 f, .int .i64 s], .agg #[.int .i64 a', .int .i64 b', .int .i64 c', .int .i64 d', .int .i64 e', .int .i64 f', .int .i64 s']] w
    (GwV (.int .i64 (iCmp (((a, b, c), d, e, f), s) (((a', b', c'), d', e', f'), s'))) w) := by
  obtain ⟨t, ht⟩ : ∃ t, t = iCmp (((a, b, c), d, e, f), s) (((a', b', c'), d', e', f'), s') := ⟨_, rfl⟩
  rw [← ht]
  have HT : Hid (t = if kCmp (a, b, c) (a', b', c') = 0 then sCmp s s' else kCmp (a, b, c) (a', b', c')) := ht
  clear ht
  obtain ⟨wb, hwb⟩ : ∃ wb, wb = ((w.alloc (.cells #[.int .i64 a, .int .i64 b, .int .i64 c, .int .i64 d, .int .i64 e, .int .i64 f, .int .i64 s] 36)).alloc (.cells #[.int .i64 a', .int .i64 b', .int .i64 c', .int .i64 d', .int .i64 e', .int .i64 f', .int .i64 s'] 36)) := ⟨_, rfl⟩
  have hst := cs_start w a b c d e f s a' b' c' d' e' f' s'
  rw [← hwb] at hst
  have HWB := Lib.hid hwb
  have HST := Lib.hid hst
  clear hwb
  go_enter Try.func40, Try.ntmps40
  go_wp2
  rw [← HWB.out]
  go_region_held3 (fun W => CS w w.heap.size a b c d e f s a' b' c' d' e' f' s' W) (first | assumption | exact HST.out | exact HST.out.next ((Gw.refl _).drew) | exact hst'.next ((Gw.refl _).alloc _))
    (first
      | ((go_at_call 49; ((with_reducible refine (compare64_any _ _ _).mono ?_)); rintro e0 w' ⟨rfl, rfl⟩))
      | (go_at_call 48; ((with_reducible refine (cs_byKey (HST.out.next (Gw.refl _).drew)).mono ?_)); rintro e0 w' ⟨rfl, hst'⟩)
      | (go_at_call 47; ((with_reducible refine (or_new HT.out _).mono ?_)); rintro e0 w'' ⟨rfl, rfl⟩))
  go_wp2
  go_ret
  exact ⟨rfl, (hst'.next ((Gw.refl _).alloc _)).gw⟩
/-- the order of items, asked -/
theorem icmp_any (x y : It) (w : World) : Calls Try.prog 40 #[.agg (encI x).toArray, .agg (encI y).toArray] w (GwV (.int .i64 (iCmp x y)) w) := by
  obtain ⟨⟨⟨a, b, c⟩, d, e, f⟩, s⟩ := x
  obtain ⟨⟨⟨a', b', c'⟩, d', e', f'⟩, s'⟩ := y
  exact icmp_lit a b c d e f s a' b' c' d' e' f' s' w
theorem named_any (x : It) (w : World) : Calls Try.prog 34 #[.agg (encI x).toArray] w (GwV (Nm2 x) w) := by
  obtain ⟨⟨⟨a, b, c⟩, d, e, f⟩, s⟩ := x
  exact named_lit a b c d e f s w
end Go.Proofs.Ytgfoagpmkbdciaa
