/-
  A map from names to places, in a block; looked up, stored into, deleted from.
-/
import Derived.Test.YtgfoagpmkbdciaaHCmp
import Derived.MapKept
import Derived.WideKeyRuns
import Derived.OwnWalk
namespace Go.Proofs.Ytgfoagpmkbdciaa
open Go Go.RowKit Go.Sort Go.Proofs Go.MapKept
open Go.ChangeMaps (setBlock heap_setBlock_same heap_setBlock_other)

def ent (x : Nm × Nat × Nat) : MapEntry := ⟨.agg #[.int .i64 x.1.1, .int .i64 x.1.2], .int .i64 (x.2.1 : Nat), x.2.2⟩
def mget (l : List (Nm × Nat × Nat)) (n : Nm) : Option Nat := (l.find? fun x => decide (x.1 = n)).map (·.2.1)
def mfind : List (Nm × Nat × Nat) → Nm → Nat → Option (Nat × Value)
  | [], _, _ => none
  | x :: t, n, i => if n = x.1 then some (i, .int .i64 (x.2.1 : Nat)) else mfind t n (i + 1)
theorem mfind_none : ∀ (l : List (Nm × Nat × Nat)) (n : Nm) (i : Nat), mfind l n i = none → mget l n = none ∧ ∀ x ∈ l, x.1 ≠ n
  | [], _, _, _ => ⟨rfl, fun _ h => by cases h⟩
  | x :: t, n, i, h => by
    rw [mfind] at h
    split at h
    · cases h
    · next hn =>
      obtain ⟨h1, h2⟩ := mfind_none t n (i + 1) h
      refine ⟨?_, fun y hy => ?_⟩
      · unfold mget at h1 ⊢
        rw [List.find?_cons_of_neg (by simpa using fun e => hn e.symm)]
        exact h1
      · rcases List.mem_cons.1 hy with rfl | hy
        · exact fun e => hn e.symm
        · exact h2 y hy
theorem mfind_some : ∀ (l : List (Nm × Nat × Nat)) (n : Nm) (i j : Nat) (v : Value), mfind l n i = some (j, v) → i ≤ j ∧ ∃ x, l[j - i]? = some x ∧ x.1 = n ∧ v = .int .i64 (x.2.1 : Nat) ∧ mget l n = some x.2.1
  | [], _, _, _, _, h => by cases h
  | x :: t, n, i, j, v, h => by
    rw [mfind] at h
    split at h
    · next hn =>
      cases h
      refine ⟨Nat.le_refl _, x, by rw [Nat.sub_self]; rfl, hn.symm, rfl, ?_⟩
      unfold mget
      rw [List.find?_cons_of_pos (by simpa using hn.symm)]
      rfl
    · next hn =>
      obtain ⟨h0, y, h1, h2, h3, h4⟩ := mfind_some t n (i + 1) j v h
      refine ⟨by omega, y, ?_, h2, h3, ?_⟩
      · rw [show j - i = (j - (i + 1)) + 1 by omega, List.getElem?_cons_succ]
        exact h1
      · unfold mget at h4 ⊢
        rw [List.find?_cons_of_neg (by simpa using fun e => hn e.symm)]
        exact h4

/-- block M is a map that tells f -/
def MapF (w : World) (M : Nat) (f : Pl) : Prop := ∃ (l : List (Nm × Nat × Nat)) (clock : Nat), w.heap[M]? = some (.map (l.map ent).toArray clock) ∧ (l.map (·.1)).Nodup ∧ ∀ n, mget l n = f n
theorem MapF.lt {w : World} {M : Nat} {f : Pl} (h : MapF w M f) : M < w.heap.size := by
  obtain ⟨_, _, h, _⟩ := h
  exact (Array.getElem?_eq_some_iff.1 h).1
theorem MapF.same {w w' : World} {M : Nat} {f : Pl} (h : MapF w M f) (hb : w'.heap[M]? = w.heap[M]?) : MapF w' M f := by
  obtain ⟨l, c, h1, h2⟩ := h
  exact ⟨l, c, hb.trans h1, h2⟩
theorem MapF.made (w : World) : MapF (w.alloc (.map #[] 0)) w.heap.size fun _ => none := ⟨[], 0, heap_alloc_new _ _, List.Pairwise.nil, fun _ => rfl⟩

section
variable (w : World)
theorem nameEq (a b x y : Int) : (Op.equal 64 (.agg #[.int .i64 a, .int .i64 b]) (.agg #[.int .i64 x, .int .i64 y])).run Try.prog w = .ok (decide (((a, b) : Nm) = (x, y))) w := by
  have u3 := Try.underlying3
  have u2 := Try.underlying2
  have a3 := Try.isAgg3
  have a2 := Try.isAgg2
  have z3 := Try.sizeOf3
  have z2 := Try.sizeOf2
  have hS : Try.prog.underlying 64 = some (.struct (Try.prog.fieldsOf 64)) := by kernel_rfl
  have hp : Try.prog.stoodInHeld 64 = false := by kernel_rfl
  rw [show Op.equal 64 (.agg #[.int .i64 a, .int .i64 b]) (.agg #[.int .i64 x, .int .i64 y]) = Op.equalIn (9999 + 1) 64 (.agg #[.int .i64 a, .int .i64 b]) (.agg #[.int .i64 x, .int .i64 y]) from rfl, run_equalIn_agg w 9999 64 _ _ hS hp]
  simp only [Program.fieldsOf, Try.underlying64]
  go_simp
  by_cases h1 : a = x <;> by_cases h2 : b = y <;> simp [h1, h2]
theorem nameCheckN (em : Bool) (a b : Int) (n : Nat) : (Instr.checkKey em (n + 1 + 1) 64 (.agg #[.int .i64 a, .int .i64 b])).run Try.prog w = .ok () w := by
  have u3 := Try.underlying3
  have u2 := Try.underlying2
  have a3 := Try.isAgg3
  have a2 := Try.isAgg2
  simp [Instr.checkKey, run_underlying Try.underlying64, run_underlying u2, run_underlying u3, part, a3, a2, Result.andThen]
theorem nameCheck (em : Bool) (a b : Int) : (Instr.checkKey em 10000 64 (.agg #[.int .i64 a, .int .i64 b])).run Try.prog w = .ok () w := nameCheckN w em a b 9998
theorem nameBits (a b : Int) (n : Nat) : Instr.sameBits (n + 1) (.agg #[.int .i64 a, .int .i64 b]) (.agg #[.int .i64 a, .int .i64 b]) = true := by
  simp [Instr.sameBits]
theorem nameStays (a b : Int) : (Instr.keyThatStays (.agg #[.int .i64 a, .int .i64 b]) (.agg #[.int .i64 a, .int .i64 b])).run Try.prog w = .ok (.agg #[.int .i64 a, .int .i64 b]) w := by
  unfold Instr.keyThatStays
  rw [if_pos (nameBits a b 9999)]
  rfl
theorem nameFindA (n : Nm) : ∀ (l : List (Nm × Nat × Nat)) (i : Nat), (Instr.findAsking 64 (.agg #[.int .i64 n.1, .int .i64 n.2]) (l.map ent) i).run Try.prog w = .ok (mfind l n i) w
  | [], i => by simp [Instr.findAsking, mfind]
  | x :: t, i => by
    have h := nameEq w n.1 n.2 x.1.1 x.1.2
    rw [List.map_cons, Instr.findAsking, mfind]
    have he : (decide (((n.1, n.2) : Nm) = (x.1.1, x.1.2))) = decide (n = x.1) := rfl
    rw [he] at h
    by_cases hn : n = x.1
    · rw [decide_eq_true hn] at h
      subst hn
      simp [ent, h, Result.andThen]
    · rw [decide_eq_false hn] at h
      have ih := nameFindA n t (i + 1)
      simp [ent, h, hn, Result.andThen] at ih ⊢
      exact ih
theorem nameFind (n : Nm) (l : List (Nm × Nat × Nat)) : (Instr.findKey 64 (.agg #[.int .i64 n.1, .int .i64 n.2]) (l.map ent)).run Try.prog w = .ok (mfind l n 0) w := by
  rw [run_findKey_eq w (by rw [Try.underlying64])]
  exact nameFindA w n l 0
end

def hasF (f : Pl) (n : Nm) : Bool := (f n).isSome
def getF (f : Pl) (n : Nm) : Nat := (f n).getD 0
theorem look_ok (w : World) (M : Nat) (f : Pl) (h : MapF w M f) (a b : Int) : (Instr.lookup 55 (.map (some M)) (.agg #[.int .i64 a, .int .i64 b]) true).run Try.prog w = .ok (.tuple #[.int .i64 (getF f (a, b) : Nat), .bool (hasF f (a, b))]) w := by
  obtain ⟨l, clock, hb, hnd, hf⟩ := h
  have hf := hf (a, b)
  have hfind := nameFind w (a, b) l
  unfold hasF getF
  cases hm : mfind l (a, b) 0 with
  | none =>
    rw [hm] at hfind
    rw [(mfind_none l (a, b) 0 hm).1] at hf
    rw [← hf]
    simp [Instr.lookup, run_underlying Try.underlying55, MapKept.run_getObj_map hb, nameCheck, hfind, Result.andThen]
  | some p =>
    obtain ⟨j, v⟩ := p
    rw [hm] at hfind
    obtain ⟨_, x, _, _, rfl, h4⟩ := mfind_some l (a, b) 0 j v hm
    rw [h4] at hf
    rw [← hf]
    simp [Instr.lookup, run_underlying Try.underlying55, MapKept.run_getObj_map hb, nameCheck, hfind, Result.andThen]
theorem look_one (w : World) (M : Nat) (f : Pl) (h : MapF w M f) (a b : Int) : (Instr.lookup 55 (.map (some M)) (.agg #[.int .i64 a, .int .i64 b]) false).run Try.prog w = .ok (.int .i64 (getF f (a, b) : Nat)) w := by
  obtain ⟨l, clock, hb, hnd, hf⟩ := h
  have hf := hf (a, b)
  have hfind := nameFind w (a, b) l
  unfold getF
  cases hm : mfind l (a, b) 0 with
  | none =>
    rw [hm] at hfind
    rw [(mfind_none l (a, b) 0 hm).1] at hf
    rw [← hf]
    simp [Instr.lookup, run_underlying Try.underlying55, MapKept.run_getObj_map hb, nameCheck, hfind, Result.andThen]
  | some p =>
    obtain ⟨j, v⟩ := p
    rw [hm] at hfind
    obtain ⟨_, x, _, _, rfl, h4⟩ := mfind_some l (a, b) 0 j v hm
    rw [h4] at hf
    rw [← hf]
    simp [Instr.lookup, run_underlying Try.underlying55, MapKept.run_getObj_map hb, nameCheck, hfind, Result.andThen]
theorem look_nil (w : World) (a b : Int) : (Instr.lookup 55 (.map none) (.agg #[.int .i64 a, .int .i64 b]) true).run Try.prog w = .ok (.tuple #[.int .i64 0, .bool false]) w := by
  have hfind := nameFind w (a, b) []
  rw [mfind] at hfind
  simp only [List.map_nil] at hfind
  simp [Instr.lookup, run_underlying Try.underlying55, nameCheck, hfind, Result.andThen]

theorem mget_push (l : List (Nm × Nat × Nat)) (x : Nm × Nat × Nat) (h : mget l x.1 = none) (m : Nm) : mget (l ++ [x]) m = if m = x.1 then some x.2.1 else mget l m := by
  unfold mget at *
  rw [List.find?_append]
  by_cases e : m = x.1
  · subst e
    rw [if_pos rfl]
    cases h2 : l.find? (fun y => decide (y.1 = x.1)) with
    | some y => rw [h2] at h; cases h
    | none => simp
  · rw [if_neg e]
    rw [List.find?_cons_of_neg (by simpa using fun e2 => e e2.symm)]
    simp
theorem mget_of {l : List (Nm × Nat × Nat)} (hnd : (l.map (·.1)).Nodup) {j : Nat} {x : Nm × Nat × Nat} (hx : l[j]? = some x) : mget l x.1 = some x.2.1 := by
  induction l generalizing j with
  | nil => cases hx
  | cons y t ih =>
    rw [List.map_cons] at hnd
    obtain ⟨h1, h2⟩ := List.nodup_cons.1 hnd
    cases j with
    | zero =>
      cases hx
      unfold mget
      rw [List.find?_cons_of_pos (by simp)]
      rfl
    | succ j =>
      rw [List.getElem?_cons_succ] at hx
      have := ih h2 hx
      unfold mget at this ⊢
      rw [List.find?_cons_of_neg]
      · exact this
      · simp only [decide_eq_true_eq]
        intro e
        exact h1 (e ▸ List.mem_map_of_mem (List.mem_of_getElem? hx))
theorem mget_none {l : List (Nm × Nat × Nat)} {n : Nm} (h : ∀ x ∈ l, x.1 ≠ n) : mget l n = none := by
  unfold mget
  rw [List.find?_eq_none.2 (fun x hx => by simpa using h x hx)]
  rfl
theorem mget_mem {l : List (Nm × Nat × Nat)} {n : Nm} {k : Nat} (h : mget l n = some k) : ∃ x ∈ l, x.1 = n ∧ x.2.1 = k := by
  unfold mget at h
  rw [Option.map_eq_some_iff] at h
  obtain ⟨x, hx, e⟩ := h
  exact ⟨x, List.mem_of_find?_eq_some hx, by simpa using List.find?_some hx, e⟩
/-- lists of one and the same names tell alike if they hold alike -/
theorem mget_set {l : List (Nm × Nat × Nat)} (hnd : (l.map (·.1)).Nodup) {j : Nat} {x : Nm × Nat × Nat} (hx : l[j]? = some x) (k b : Nat) : ((l.set j (x.1, k, b)).map (·.1)).Nodup ∧ ∀ m, mget (l.set j (x.1, k, b)) m = if m = x.1 then some k else mget l m := by
  have hj : j < l.length := (List.getElem?_eq_some_iff.1 hx).1
  have e : (l.set j (x.1, k, b)).map (·.1) = l.map (·.1) := by
    rw [List.map_set]
    have : (l.map (·.1))[j]'(by simpa using hj) = x.1 := by
      rw [List.getElem_map]
      rw [(List.getElem?_eq_some_iff.1 hx).2]
    rw [← this, List.set_getElem_self]
  have hnd' : ((l.set j (x.1, k, b)).map (·.1)).Nodup := by rw [e]; exact hnd
  refine ⟨hnd', fun m => ?_⟩
  by_cases em : m = x.1
  · subst em
    rw [if_pos rfl]
    exact mget_of hnd' (j := j) (x := (x.1, k, b)) (by rw [List.getElem?_set_self hj])
  · rw [if_neg em]
    cases h : mget l m with
    | none =>
      refine mget_none fun y hy e2 => ?_
      have : m ∈ l.map (·.1) := by rw [← e, ← e2]; exact List.mem_map_of_mem hy
      obtain ⟨z, hz, e3⟩ := List.mem_map.1 this
      obtain ⟨i, hi⟩ := List.mem_iff_getElem?.1 hz
      have := mget_of hnd hi
      rw [e3, h] at this
      cases this
    | some q =>
      obtain ⟨y, hy, e1, e2⟩ := mget_mem h
      obtain ⟨i, hi⟩ := List.mem_iff_getElem?.1 hy
      have hij : j ≠ i := fun e => by
        subst e
        rw [hx] at hi
        cases hi
        exact em e1.symm
      have := mget_of hnd' (j := i) (x := y) (by rw [List.getElem?_set_ne hij]; exact hi)
      rw [e1, e2] at this
      exact this
theorem mget_erase {l : List (Nm × Nat × Nat)} (hnd : (l.map (·.1)).Nodup) {j : Nat} {x : Nm × Nat × Nat} (hx : l[j]? = some x) : ((l.eraseIdx j).map (·.1)).Nodup ∧ ∀ m, mget (l.eraseIdx j) m = if m = x.1 then none else mget l m := by
  induction l generalizing j with
  | nil => cases hx
  | cons y t ih =>
    have hnd0 := hnd
    rw [List.map_cons] at hnd
    obtain ⟨h1, h2⟩ := List.nodup_cons.1 hnd
    cases j with
    | zero =>
      cases hx
      rw [List.eraseIdx_cons_zero]
      refine ⟨h2, fun m => ?_⟩
      by_cases em : m = x.1
      · subst em
        rw [if_pos rfl]
        exact mget_none fun y hy e => h1 (e ▸ List.mem_map_of_mem hy)
      · rw [if_neg em]
        unfold mget
        rw [List.find?_cons_of_neg (by simpa using fun e2 => em e2.symm)]
    | succ j =>
      rw [List.getElem?_cons_succ] at hx
      obtain ⟨g1, g2⟩ := ih h2 hx
      have hyx : y.1 ≠ x.1 := fun e => h1 (e ▸ List.mem_map_of_mem (List.mem_of_getElem? hx))
      rw [List.eraseIdx_cons_succ]
      refine ⟨?_, fun m => ?_⟩
      · rw [List.map_cons]
        refine List.nodup_cons.2 ⟨fun h => ?_, g1⟩
        obtain ⟨z, hz, e⟩ := List.mem_map.1 h
        exact h1 (e ▸ List.mem_map_of_mem ((List.eraseIdx_sublist _ _).subset hz))
      · have g := g2 m
        by_cases ey : m = y.1
        · subst ey
          rw [if_neg hyx]
          unfold mget
          rw [List.find?_cons_of_pos (by simp), List.find?_cons_of_pos (by simp)]
        · unfold mget at g ⊢
          rw [List.find?_cons_of_neg (by simpa using fun e2 => ey e2.symm), List.find?_cons_of_neg (by simpa using fun e2 => ey e2.symm)]
          exact g
/-- m[n] = k -/
theorem put_run (w : World) (M : Nat) (f : Pl) (h : MapF w M f) (a b : Int) (k : Nat) :
    ∃ w', (Instr.mapUpdate 55 (.map (some M)) (.agg #[.int .i64 a, .int .i64 b]) (.int .i64 (k : Nat))).run Try.prog w = .ok () w' ∧ MapF w' M (fset f (a, b) k) ∧ w.grownBy w' (some M) := by
  obtain ⟨l, clock, hb, hnd, hf⟩ := h
  have hfind := nameFind w (a, b) l
  have grown : ∀ o, w.grownBy (setBlock w M o) (some M) := fun o => ⟨rfl, rfl, rfl, by simp [setBlock], fun i _ hi => heap_setBlock_other hb _ (fun e => hi (by rw [e]))⟩
  cases hm : mfind l (a, b) 0 with
  | none =>
    rw [hm] at hfind
    obtain ⟨h1, h2⟩ := mfind_none l (a, b) 0 hm
    refine ⟨setBlock w M (.map ((l ++ [((a, b), k, clock)]).map ent).toArray (clock + 1)), ?_, ⟨_, _, heap_setBlock_same hb _, ?_, fun m => ?_⟩, grown _⟩
    · simp [Instr.mapUpdate, run_underlying Try.underlying55, MapKept.run_getObj_map hb, nameCheck, hfind, MapKept.run_setObj_map _ hb, Result.andThen, setBlock, ent]
    · rw [List.map_append]
      refine List.nodup_append.2 ⟨hnd, by simp, fun x hx y hy e => ?_⟩
      obtain ⟨z, hz, ez⟩ := List.mem_map.1 hx
      have hy' : y = (a, b) := by simpa using hy
      exact h2 z hz (by rw [ez, e, hy'])
    · rw [mget_push l _ h1, hf]
      rfl
  | some p =>
    obtain ⟨j, v⟩ := p
    rw [hm] at hfind
    obtain ⟨_, x, h2, h3, rfl, _⟩ := mfind_some l (a, b) 0 j v hm
    rw [Nat.sub_zero] at h2
    obtain ⟨g1, g2⟩ := mget_set hnd h2 k x.2.2
    have hj : (l.map ent).toArray[j]? = some (ent x) := by simp [h2]
    refine ⟨setBlock w M (.map ((l.set j (x.1, k, x.2.2)).map ent).toArray clock), ?_, ⟨_, _, heap_setBlock_same hb _, g1, fun m => ?_⟩, grown _⟩
    · have hkey : (ent x).key = .agg #[.int .i64 a, .int .i64 b] := by unfold ent; rw [h3]
      have hj' : (List.map ent l)[j]? = some (ent x) := by simpa using hj
      simp [Instr.mapUpdate, run_underlying Try.underlying55, MapKept.run_getObj_map hb, nameCheck, hfind, h2, hkey, nameStays, MapKept.run_setObj_map _ hb, Result.andThen, setBlock, h3]
      rw [ChangeMaps.modify_eq_set _ _ _ _ hj']
      rfl
    · rw [g2, hf, h3]
      rfl
/-- delete(m, n) -/
theorem del_run (w : World) (M : Nat) (f : Pl) (h : MapF w M f) (a b : Int) (ty : TypeId) :
    ∃ w', (Builtin.delete_ #[55, 64] ty #[.map (some M), .agg #[.int .i64 a, .int .i64 b]]).run Try.prog w = .ok (.tuple #[]) w' ∧ MapF w' M (fdel f (a, b)) ∧ w.grownBy w' (some M) := by
  obtain ⟨l, clock, hb, hnd, hf⟩ := h
  have hfind := nameFind w (a, b) l
  have grown : ∀ o, w.grownBy (setBlock w M o) (some M) := fun o => ⟨rfl, rfl, rfl, by simp [setBlock], fun i _ hi => heap_setBlock_other hb _ (fun e => hi (by rw [e]))⟩
  cases hm : mfind l (a, b) 0 with
  | none =>
    rw [hm] at hfind
    obtain ⟨h1, h2⟩ := mfind_none l (a, b) 0 hm
    refine ⟨setBlock w M (.map (l.map ent).toArray clock), ?_, ⟨_, _, heap_setBlock_same hb _, hnd, fun m => ?_⟩, grown _⟩
    · simp [Builtin.delete_, run_underlying Try.underlying55, MapKept.run_getObj_map hb, nameCheck, hfind, MapKept.run_setObj_map _ hb, Result.andThen, setBlock]
    · rw [hf]
      unfold fdel
      split
      · next e =>
        subst e
        rw [← hf]
        exact h1
      · rfl
  | some p =>
    obtain ⟨j, v⟩ := p
    rw [hm] at hfind
    obtain ⟨_, x, h2, h3, rfl, _⟩ := mfind_some l (a, b) 0 j v hm
    rw [Nat.sub_zero] at h2
    obtain ⟨g1, g2⟩ := mget_erase hnd h2
    refine ⟨setBlock w M (.map ((l.eraseIdx j).map ent).toArray clock), ?_, ⟨_, _, heap_setBlock_same hb _, g1, fun m => ?_⟩, grown _⟩
    · simp [Builtin.delete_, run_underlying Try.underlying55, MapKept.run_getObj_map hb, nameCheck, hfind, MapKept.run_setObj_map _ hb, Result.andThen, setBlock, ChangeMaps.map_eraseIdx]
    · rw [g2, hf, h3]
      rfl
end Go.Proofs.Ytgfoagpmkbdciaa
