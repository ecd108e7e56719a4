/-
  Rows of structs of k cells that begin anywhere in their block: read, kept, cut at the front, appended to, copied into; for any program.
-/
import Derived.Test.YthhpoihfaggafaaDoorGRow
import Derived.Laws.CopyRow
import Derived.Lib.AppendZerosOnto
import Derived.ArgAppend
import Derived.Laws.NewBlocks
namespace Go.Proofs.YthhpoihfaggafaaDoor
open Go Go.RowKit Go.Sort Go.Proofs

section
variable {α : Type} (C : Cod α)
/-- a slice that reads as a list, and may be written and appended to: what stands ahead, and behind -/
def Cod.Mid (T : TypeId) (w : World) (a : Option Addr) (c : Nat) (l : List α) : Prop :=
  l.length ≤ c ∧ c ≤ maxLen ∧ ((a = none ∧ c = 0) ∨ ∃ (B : Nat) (pre post : List Value), a = some ⟨B, pre.length, none⟩ ∧ w.heap[B]? = some (.cells (pre ++ C.cells l ++ post).toArray T (0, 0)) ∧ (c - l.length) * C.k ≤ post.length)
/-- its block -/
def blkOf (a : Option Addr) (b : Nat) : Prop := ∃ p, a = some p ∧ p.block = b
variable {C} {T : TypeId} {w w' : World} {a : Option Addr} {c : Nat} {l : List α}
theorem Cod.Mid.lt (h : C.Mid T w a c l) : ∀ b, blkOf a b → b < w.heap.size := by
  rintro b ⟨p, rfl, rfl⟩
  obtain ⟨_, _, ⟨e, _⟩ | ⟨B, pre, post, e, hh, _⟩⟩ := h
  · cases e
  · cases e
    exact (Array.getElem?_eq_some_iff.1 hh).1
theorem Cod.Mid.but {S : Nat → Prop} (h : C.Mid T w a c l) (hb : But S w w') (hs : ∀ b, blkOf a b → ¬ S b) : C.Mid T w' a c l := by
  have hl := h.lt
  obtain ⟨h1, h2, h3 | ⟨B, pre, post, rfl, hh, h4⟩⟩ := h
  · exact ⟨h1, h2, .inl h3⟩
  · exact ⟨h1, h2, .inr ⟨B, pre, post, rfl, (hb.block B (hl B ⟨_, rfl, rfl⟩) (hs B ⟨_, rfl, rfl⟩)).trans hh, h4⟩⟩
theorem Cod.Mid.below (h : C.Mid T w a c l) (hb : Below w.heap.size w w') : C.Mid T w' a c l := h.but (S := fun _ => False) (But.of hb) fun _ _ e => e
theorem Cod.Mid.nil_cap (h : C.Mid T w a c l) (ha : a = none) : c = 0 ∧ l = [] := by
  obtain ⟨h1, _, ⟨_, h3⟩ | ⟨B, pre, post, e, _⟩⟩ := h
  · exact ⟨h3, List.length_eq_zero_iff.1 (by omega)⟩
  · rw [ha] at e; cases e
theorem cell_mid {w : World} {B : Nat} {pre mid post : List Value} {T : TypeId} (hh : w.heap[B]? = some (.cells (pre ++ mid ++ post).toArray T (0, 0))) {j : Nat} (hj : j < mid.length) : w.cell? ⟨B, pre.length + j, none⟩ = mid[j]? := by
  rw [cell_of_row _ _ _ _ _ _ hh, List.getElem?_toArray, List.append_assoc, List.getElem?_append_right (by omega), Nat.add_sub_cancel_left, List.getElem?_append_left hj]
theorem Cod.Mid.at_ (h : C.Mid T w a c l) (hl : l.length ≤ 1000000) : C.At w a l.length l := by
  obtain ⟨h1, h2, ⟨h3, h4⟩ | ⟨B, pre, post, rfl, hh, _⟩⟩ := h
  · exact ⟨rfl, hl, .inl (by omega)⟩
  · refine ⟨rfl, hl, .inr ⟨B, pre.length, rfl, (Array.getElem?_eq_some_iff.1 hh).1, fun i hi j hj => ?_⟩⟩
    have e := C.cells_get l i j hi hj
    have hlt : i * C.k + j < (C.cells l).length := by
      rw [C.cells_len]
      have : (i + 1) * C.k ≤ l.length * C.k := Nat.mul_le_mul_right _ hi
      rw [Nat.add_mul, Nat.one_mul] at this
      omega
    rw [Nat.add_assoc, cell_mid hh hlt, e]
/-- a row of the call's own -/
theorem Cod.Mid.of_own {B0 : Nat} {v : Value} (h : C.Own T B0 w v l) : ∃ a c, v = .slice a l.length c ∧ C.Mid T w a c l ∧ ∀ b, blkOf a b → B0 ≤ b := by
  obtain ⟨h1, ⟨rfl, hn⟩ | ⟨g, cap, cur, rfl, hg, hh, hc, hm, hs, ht⟩⟩ := h
  · exact ⟨none, 0, by rw [hn], ⟨by omega, by unfold maxLen; omega, .inl ⟨rfl, rfl⟩⟩, fun b ⟨p, e, _⟩ => by cases e⟩
  · refine ⟨_, cap, rfl, ⟨hc, hm, .inr ⟨g, [], cur.toList.drop (l.length * C.k), rfl, ?_, ?_⟩⟩, fun b ⟨p, e, e2⟩ => by cases e; exact e2 ▸ hg⟩
    · rw [hh, ← ht]
      simp
    · have e : cur.toList.length = cap * C.k := by rw [← hs]; simp
      rw [List.length_drop, e, Nat.sub_mul]
      exact Nat.le_refl _
/-- without the first one -/
theorem Cod.Mid.tail {B o : Nat} {x : α} (h : C.Mid T w (some ⟨B, o, none⟩) c (x :: l)) (a' : Option Addr) (ha : a' = some ⟨B, o + C.k, none⟩ ∨ (c - 1 = 0 ∧ a' = some ⟨B, o, none⟩)) : C.Mid T w a' (c - 1) l := by
  obtain ⟨h1, h2, ⟨e, _⟩ | ⟨B', pre, post, e, hh, hp⟩⟩ := h
  · cases e
  cases e
  simp only [List.length_cons] at h1 hp
  refine ⟨by omega, Nat.le_trans (Nat.sub_le _ _) h2, ?_⟩
  rcases ha with rfl | ⟨h0, rfl⟩
  · refine .inr ⟨B, pre ++ C.enc x, post, by rw [List.length_append, C.len], ?_, by rw [show c - 1 - l.length = c - (l.length + 1) by omega]; exact hp⟩
    rw [hh]
    show some (Obj.cells (pre ++ (C.enc x ++ C.cells l) ++ post).toArray T (0, 0)) = _
    simp only [List.append_assoc]
  · have hl : l = [] := List.length_eq_zero_iff.1 (by omega)
    subst hl
    refine .inr ⟨B, pre, C.enc x ++ post, rfl, ?_, by simp [h0]⟩
    rw [hh, C.cells_single]
    simp [Cod.cells]
end
/-- copy of values of k cells -/
theorem run_copyK {P : Program} (w : World) (dT sT ty elem : TypeId) (k g o dLen dCap : Nat) (a : Addr) (sLen sCap : Nat) (cur : Array Value) (t : TypeId) (cs : List Value)
    (hu : P.underlying dT = some (.slice elem)) (hs : (P.info? elem).map (·.size) = some k)
    (hg : w.heap[g]? = some (.cells cur t (0, 0))) (m : Nat) (hm : m = Nat.min sLen dLen) (hn : cs.length = m * k)
    (hsrc : ∀ j v, cs[j]? = some v → w.cell? (a.add j) = some v) (hfit : o + cs.length ≤ cur.size) (h1 : ∀ v ∈ cs, v.oneCell' = true) :
    (Builtin.copy_ #[dT, sT] ty #[.slice (some ⟨g, o, none⟩) dLen dCap, .slice (some a) sLen sCap]).run P w =
      .ok (goInt m) (w.setRow g (cur.toList.take o ++ cs ++ cur.toList.drop (o + cs.length)).toArray) := by
  have hl := run_loadCells_list (P := P) w a cs hsrc
  have hst := run_storeCells_at P g o t cs 0 cur w hg (by simpa using hfit) h1
  cases hq : P.info? elem with
  | none => simp [hq] at hs
  | some i =>
    have hi : i.size = k := by simpa [hq] using hs
    rw [hn] at hl
    simp [Builtin.copy_, run_underlying hu, Builtin.lenOf, Builtin.firstCells, sizeOf, typeInfo, hq, hi, ← hm, hl, hst]
section
variable {α : Type} {P : Program} {C : Cod α} {S T : TypeId} {bytes : Nat}
/-- one more at the end, in place or in a new block -/
theorem RowT.push_mid (R : RowT P C S T bytes) {w : World} {a : Option Addr} {c : Nat} {l : List α} (h : C.Mid T w a c l) (hL : l.length + 1 ≤ 1000000) (hby : bytes ≤ 1000000) (x : α) (ad : Addr) (cc : Nat) (hv : ∀ j u, (C.enc x)[j]? = some u → w.cell? (ad.add j) = some u) :
    ∃ a' c' w', (∀ ty, (Builtin.append_ #[S, S] ty #[.slice a l.length c, .slice (some ad) 1 cc]).run P w = .ok (.slice a' (l.length + 1) c') w') ∧ But (blkOf a) w w' ∧ C.Mid T w' a' c' (l ++ [x]) ∧ ∀ b, blkOf a' b → blkOf a b ∨ w.heap.size ≤ b := by
  obtain ⟨z, hz, hzs⟩ := R.info
  obtain ⟨i0, hi0, hz0, hz1, hz2⟩ := info_of hz
  have hS := R.slice
  have hby2 : (l.length + 1) * bytes ≤ 140737488355328 := Nat.le_trans (Nat.mul_le_mul hL hby) (by decide)
  have hnews : ∀ j u, (C.cells [x])[j]? = some u → w.cell? (ad.add j) = some u := by rw [C.cells_single]; exact hv
  obtain ⟨h1, h2, ⟨rfl, rfl⟩ | ⟨B, pre, post, rfl, hh, hp⟩⟩ := h
  · obtain rfl := List.length_eq_zero_iff.1 (Nat.le_zero.1 h1)
    obtain ⟨v', w', hr, k2, k3, k4⟩ := R.run w 0 w.heap.size (.slice none 0 0) [] (Cod.Own.nil _ _) ad 1 cc [x] rfl hnews (by simp) (by simpa using hby2) (Nat.le_refl _)
    obtain ⟨a', c', rfl, hM, hB⟩ := Cod.Mid.of_own k2
    exact ⟨a', c', w', fun ty => hr, (But.grown k3).mono (fun j _ e => by cases e), hM, fun b e => .inr (hB b e)⟩
  · by_cases hroom : l.length + 1 ≤ c
    · have hk : C.k ≤ post.length := by
        have : (1 : Nat) * C.k ≤ (c - l.length) * C.k := Nat.mul_le_mul_right _ (by omega)
        omega
      have hcl := C.cells_len l
      have hel := C.len x
      have hf := run_firstCells_some (P := P) w i0.size 1 ad 1 cc (C.enc x) (by rw [hel, hz1, Nat.one_mul]) hv
      have hst := run_storeCells_at P B (pre.length + l.length * i0.size) T (C.enc x) 0 _ w hh (by rw [hz1]; simp; omega) (C.one x)
      simp only [Nat.add_zero] at hst
      have heq : ((pre ++ C.cells l ++ post).toArray.toList.take (pre.length + l.length * i0.size) ++ C.enc x ++ (pre ++ C.cells l ++ post).toArray.toList.drop (pre.length + l.length * i0.size + (C.enc x).length)) = pre ++ C.cells (l ++ [x]) ++ post.drop C.k := by
        have e0 : pre.length + l.length * i0.size = (pre ++ C.cells l).length := by rw [List.length_append, hcl, hz1]
        rw [e0, hel]
        show (pre ++ C.cells l ++ post).take _ ++ _ ++ (pre ++ C.cells l ++ post).drop _ = _
        rw [List.take_left, List.drop_append, C.cells_app, C.cells_single, List.drop_eq_nil_of_le (by omega), Nat.add_sub_cancel_left]
        simp only [List.append_assoc, List.nil_append]
      rw [heq] at hst
      refine ⟨_, c, w.setRow B (pre ++ C.cells (l ++ [x]) ++ post.drop C.k).toArray, fun ty => ?_, ⟨rfl, rfl, rfl, by simp, fun k _ hk => setRow_other w B k _ fun e => hk ⟨_, rfl, e.symm⟩⟩, ⟨by simpa using hroom, h2, .inr ⟨B, pre, post.drop C.k, rfl, setRow_heap w B _ _ T _ hh, ?_⟩⟩, fun b e => .inl e⟩
      · simp [Builtin.append_, run_underlying hS, sizeOf, typeInfo, hi0, Builtin.lenOf, hroom, hf, Addr.add_lit, hst]
      · simp only [List.length_append, List.length_singleton, List.length_drop]
        have : (c - (l.length + 1)) * C.k + C.k = (c - l.length) * C.k := by rw [← Nat.succ_mul]; congr 1; omega
        omega
    · have hlc : l.length = c := by omega
      obtain ⟨v', w', hr, k2, k3⟩ := run_append_arg_grows (P := P) w S 0 T i0 z C.k bytes hS hi0 hz0 hz1 hz2 hzs C.pos ⟨B, pre.length, none⟩ l.length c (C.cells l) (C.cells_len l) (fun j u hj => by
        have hjl := (List.getElem?_eq_some_iff.1 hj).1
        rw [Addr.add_lit, cell_mid hh hjl]
        exact hj) ad 1 cc (C.enc x) (by rw [C.len, Nat.one_mul]) hv (by omega) (by unfold maxLen; omega) hby2
      have k2' : C.Own T w.heap.size w' v' (l ++ [x]) := by
        unfold Cod.Own
        rw [List.length_append, C.cells_app, C.cells_single]
        exact k2
      obtain ⟨a', c', rfl, hM, hB⟩ := Cod.Mid.of_own k2'
      rw [List.length_append] at hr
      exact ⟨a', c', w', fun ty => hr, (But.grown k3).mono (fun j _ e => by cases e), hM, fun b e => .inr (hB b e)⟩
end
/-- a piece of a block is written over -/
theorem seg_put {α : Type} (A Z N R : List α) (h : Z.length = N.length) : (A ++ Z ++ R).take A.length ++ N ++ (A ++ Z ++ R).drop (A.length + N.length) = A ++ N ++ R := by
  have h1 : (A ++ Z ++ R).take A.length = A := by rw [List.append_assoc, List.take_left]
  have h2 : (A ++ Z ++ R).drop (A.length + N.length) = R := by rw [← h, ← List.length_append, List.drop_left]
  rw [h1, h2]
theorem run_copy_seg {P : Program} (w : World) (dT sT ty elem : TypeId) (k g : Nat) (A Z R : List Value) (T : TypeId) (o dLen dCap : Nat) (a : Addr) (sLen sCap : Nat) (cs : List Value)
    (hu : P.underlying dT = some (.slice elem)) (hs : (P.info? elem).map (·.size) = some k)
    (hg : w.heap[g]? = some (.cells (A ++ Z ++ R).toArray T (0, 0))) (ho : o = A.length) (m : Nat) (hm : m = Nat.min sLen dLen) (hn : cs.length = m * k) (hz : Z.length = cs.length)
    (hsrc : ∀ j v, cs[j]? = some v → w.cell? (a.add j) = some v) (h1 : ∀ v ∈ cs, v.oneCell' = true) :
    (Builtin.copy_ #[dT, sT] ty #[.slice (some ⟨g, o, none⟩) dLen dCap, .slice (some a) sLen sCap]).run P w = .ok (goInt m) (w.setRow g (A ++ cs ++ R).toArray) := by
  subst ho
  rw [run_copyK w dT sT ty elem k g A.length dLen dCap a sLen sCap _ T cs hu hs hg m hm hn hsrc (by simp; omega) h1]
  congr 3
  exact seg_put A Z cs R hz
theorem wp_copy_mid {P : Program} (w : World) {o : Oper} {a : Act} {K : Act → World → Prop} {Q : Exit → Act → World → Prop} (d s : Operand) (t t' : TypeId)
    (ho : o.op = .call { callee := .builtin .copy, args := #[d, s], argTypes := #[t, t'] }) (v u : Value) (hd : a.eval d = v) (hs : a.eval s = u) {v' : Value} {w' : World}
    (hr : (Builtin.copy_ #[t, t'] o.type #[v, u]).run P w = .ok v' w') (h : K (a.put o.dst v') w') : o.wp P a w K Q := by
  unfold Oper.wp execOp
  simp only [ho, resolve, invoke, builtin, Sem.run_bind, Sem.run_pure, Result.andThen_ok, List.map_toArray, List.map_cons, List.map_nil, hd, hs, hr]
  exact h
/-- copy, in a walk; and as one step of a region that draws -/
theorem wpList_copy_mid {P : Program} (w : World) {ops : Array Oper} {rest : List Oper} {o : Oper} {a : Act} {Q : Exit → Act → World → Prop} (hgd : o.guard = none) (d s : Operand) (t t' : TypeId)
    (ho : o.op = .call { callee := .builtin .copy, args := #[d, s], argTypes := #[t, t'] }) (v u : Value) (hd : a.eval d = v) (hs : a.eval s = u) {v' : Value} {w' : World}
    (hr : (Builtin.copy_ #[t, t'] o.type #[v, u]).run P w = .ok v' w') (h : wpList P ops Q rest (a.put o.dst v') w') : wpList P ops Q (o :: rest) a w :=
  wpList_plain hgd fun _ hK => wp_copy_mid w d s t t' ho v u hd hs hr (hK _ _ h)
theorem step_copy_mid {P : Program} {ops : Array Oper} {o : Oper} {a : Act} {w : World} {K : Act → World → Prop} {Q : Exit → Act → World → Prop} {E : Prop}
    (hgd : o.guard = none) (d s : Operand) (t t' : TypeId) (ho : o.op = .call { callee := .builtin .copy, args := #[d, s], argTypes := #[t, t'] }) (v u : Value) (hd : a.eval d = v) (hs : a.eval s = u) {v' : Value} {w' : World}
    (hr : (Builtin.copy_ #[t, t'] o.type #[v, u]).run P w = .ok v' w') (h : K (a.put o.dst v') w') :
    if Region.wanted o (yielded ops a.tmps) = true then Oper.wp P o a w K Q else E := by
  have hw : Region.wanted o (yielded ops a.tmps) = true := by simp [Region.wanted, hgd]
  rw [if_pos hw]
  exact wp_copy_mid w d s t t' ho v u hd hs hr h
section
variable {α : Type} {P : Program} {C : Cod α} {S T : TypeId} {bytes : Nat}
/-- one has been put in at a place -/
def putAt (l : List α) (i : Nat) (x : α) : List α := l.take i ++ x :: l.drop i
theorem putAt_len (l : List α) (i : Nat) (x : α) (hi : i ≤ l.length) : (putAt l i x).length = l.length + 1 := by
  simp [putAt]
  omega
theorem Cod.cells_putAt (l : List α) (i : Nat) (x : α) : C.cells (putAt l i x) = C.cells (l.take i) ++ C.enc x ++ C.cells (l.drop i) := by
  rw [putAt, C.cells_app, List.append_assoc]
  rfl
/-- in place: what stands from i on is moved up by one, then one is written there -/
theorem RowT.shift_mid (R : RowT P C S T bytes) {w : World} {B o : Nat} {c : Nat} {l : List α} (h : C.Mid T w (some ⟨B, o, none⟩) c l) (i : Nat) (hi : i < l.length) (hroom : l.length + 1 ≤ c) (x : α) :
    ∃ w1, (∀ ty dC sC, (Builtin.copy_ #[S, S] ty #[.slice (some ⟨B, o + (i + 1) * C.k, none⟩) (l.length - i) dC, .slice (some ⟨B, o + i * C.k, none⟩) (l.length + 1 - i) sC]).run P w = .ok (goInt (l.length - i : Nat)) w1) ∧ But (fun b => b = B) w w1 ∧
      ∀ W, W.heap[B]? = w1.heap[B]? → ∀ (ad : Addr) (cc : Nat), (∀ j u, (C.enc x)[j]? = some u → W.cell? (ad.add j) = some u) → ∃ w2, (∀ ty dC, (Builtin.copy_ #[S, S] ty #[.slice (some ⟨B, o + i * C.k, none⟩) (l.length + 1 - i) dC, .slice (some ad) 1 cc]).run P W = .ok (goInt (1 : Nat)) w2) ∧ But (fun b => b = B) W w2 ∧ C.Mid T w2 (some ⟨B, o, none⟩) c (putAt l i x) := by
  obtain ⟨z, hz, hzs⟩ := R.info
  obtain ⟨i0, hi0, hz0, hz1, hz2⟩ := info_of hz
  have hsz : (P.info? T).map (·.size) = some C.k := by rw [hi0]; exact congrArg some hz1
  obtain ⟨h1, h2, ⟨e, _⟩ | ⟨B', pre, post, e, hh, hp⟩⟩ := h
  · cases e
  cases e
  have hk := C.pos
  have hkp : C.k ≤ post.length := by
    have : (1 : Nat) * C.k ≤ (c - l.length) * C.k := Nat.mul_le_mul_right _ (by omega)
    omega
  have hcl := C.cells_len l
  have htl : (C.cells (l.take i)).length = i * C.k := by rw [C.cells_len, List.length_take, Nat.min_eq_left (by omega)]
  have hdl : (C.cells (l.drop i)).length = (l.length - i) * C.k := by rw [C.cells_len, List.length_drop]
  have hsp : C.cells l = C.cells (l.take i) ++ C.cells (l.drop i) := by rw [← C.cells_app, List.take_append_drop]
  have hdk : C.k ≤ (C.cells (l.drop i)).length := by
    rw [hdl]
    have : (1 : Nat) * C.k ≤ (l.length - i) * C.k := Nat.mul_le_mul_right _ (by omega)
    omega
  obtain ⟨D, hD⟩ : ∃ D, D = C.cells (l.drop i) := ⟨_, rfl⟩
  rw [← hD] at hdl hdk hsp
  have eA : pre ++ C.cells l ++ post = (pre ++ C.cells (l.take i) ++ D.take C.k) ++ (D.drop C.k ++ post.take C.k) ++ post.drop C.k := by
    rw [hsp]
    conv => lhs; rw [← List.take_append_drop C.k D, ← List.take_append_drop C.k post]
    simp only [List.append_assoc]
  rw [eA] at hh
  have hr := fun ty dC sC => run_copy_seg (P := P) w S S ty T C.k B _ _ _ T (pre.length + (i + 1) * C.k) (l.length - i) dC ⟨B, pre.length + i * C.k, none⟩ (l.length + 1 - i) sC D R.slice hsz hh (by
    rw [List.length_append, List.length_append, htl, List.length_take, Nat.min_eq_left hdk, Nat.add_mul, Nat.one_mul]; omega) (l.length - i) (by simp only [Nat.min_def]; split <;> omega) hdl (by
    rw [List.length_append, List.length_drop, List.length_take, Nat.min_eq_left hkp]; omega) (fun j v hj => by
      have hjl := (List.getElem?_eq_some_iff.1 hj).1
      rw [Addr.add_lit, cell_of_row _ _ _ _ _ _ hh, ← eA, List.getElem?_toArray, hsp, ← List.append_assoc, List.append_assoc, List.getElem?_append_right (by rw [List.length_append, htl]; omega), List.length_append, htl, Nat.add_sub_cancel_left, List.getElem?_append_left hjl]
      exact hj) (fun v hv => C.cells_one _ v (hD ▸ hv))
  refine ⟨_, hr, ⟨rfl, rfl, rfl, by simp, fun k _ hk => setRow_other w B k _ hk⟩, fun W hW ad cc hv => ?_⟩
  have hW2 : W.heap[B]? = some (.cells ((pre ++ C.cells (l.take i)) ++ D.take C.k ++ (D ++ post.drop C.k)).toArray T (0, 0)) := by
    rw [hW, setRow_heap w B _ _ T _ hh]
    simp only [List.append_assoc]
  have hr2 := fun ty dC => run_copy_seg (P := P) W S S ty T C.k B _ _ _ T (pre.length + i * C.k) (l.length + 1 - i) dC ad 1 cc (C.enc x) R.slice hsz hW2 (by rw [List.length_append, htl]) 1 (by simp only [Nat.min_def]; split <;> omega) (by rw [C.len, Nat.one_mul]) (by rw [List.length_take, Nat.min_eq_left hdk, C.len]) hv (C.one x)
  refine ⟨_, hr2, ⟨rfl, rfl, rfl, by simp, fun k _ hk => setRow_other W B k _ hk⟩, by rw [putAt_len l i x (by omega)]; exact hroom, h2, .inr ⟨B, pre, post.drop C.k, rfl, ?_, ?_⟩⟩
  · rw [setRow_heap W B _ _ T _ hW2, C.cells_putAt, ← hD]
    simp only [List.append_assoc]
  · rw [putAt_len l i x (by omega), List.length_drop]
    have : (c - (l.length + 1)) * C.k + C.k = (c - l.length) * C.k := by rw [← Nat.succ_mul]; congr 1; omega
    omega
/-- in a new block -/
theorem RowT.grow_mid (R : RowT P C S T bytes) {w : World} {B o : Nat} {c : Nat} {l : List α} (h : C.Mid T w (some ⟨B, o, none⟩) c l) (i : Nat) (hi : i < l.length) (hroom : c < l.length + 1) (hL : l.length + 1 ≤ 1000000) (hby : bytes ≤ 100000) (tn : TypeId) (kn : IntKind) (htn : P.underlying tn = some (.int kn)) (x : α) :
    ∃ w0 G cap, (∀ ty, (Builtin.append_ #[S, tn] ty #[.slice (some ⟨B, o, none⟩) i c, .int .i64 ((l.length + 1 - i : Nat) : Int)]).run P w = .ok (.slice (some ⟨G, 0, none⟩) (l.length + 1) cap) w0) ∧ G = w.heap.size ∧ l.length + 1 ≤ cap ∧ cap ≤ maxLen ∧ But (fun _ => False) w w0 ∧
      ∀ W0, W0.heap[G]? = w0.heap[G]? → ∀ (ad : Addr) (cc : Nat), (∀ j u, (C.enc x)[j]? = some u → W0.cell? (ad.add j) = some u) → ∃ w1, (∀ ty dC, (Builtin.copy_ #[S, S] ty #[.slice (some ⟨G, i * C.k, none⟩) (l.length + 1 - i) dC, .slice (some ad) 1 cc]).run P W0 = .ok (goInt (1 : Nat)) w1) ∧ But (fun b => b = G) W0 w1 ∧
      ∀ W, W.heap[G]? = w1.heap[G]? → W.heap[B]? = w.heap[B]? → ∃ w2, (∀ ty dC sC, (Builtin.copy_ #[S, S] ty #[.slice (some ⟨G, (i + 1) * C.k, none⟩) (l.length - i) dC, .slice (some ⟨B, o + i * C.k, none⟩) (l.length - i) sC]).run P W = .ok (goInt (l.length - i : Nat)) w2) ∧ But (fun b => b = G) W w2 ∧ C.Mid T w2 (some ⟨G, 0, none⟩) cap (putAt l i x) := by
  obtain ⟨z, hz, hzs⟩ := R.info
  obtain ⟨i0, hi0, hz0, hz1, hz2⟩ := info_of hz
  have hsz : (P.info? T).map (·.size) = some C.k := by rw [hi0]; exact congrArg some hz1
  obtain ⟨h1, h2, ⟨e, _⟩ | ⟨B', pre, post, e, hh, hp⟩⟩ := h
  · cases e
  cases e
  have hk := C.pos
  have hcl := C.cells_len l
  have htl : (C.cells (l.take i)).length = i * C.k := by rw [C.cells_len, List.length_take, Nat.min_eq_left (by omega)]
  have hdl : (C.cells (l.drop i)).length = (l.length - i) * C.k := by rw [C.cells_len, List.length_drop]
  have hsp : C.cells l = C.cells (l.take i) ++ C.cells (l.drop i) := by rw [← C.cells_app, List.take_append_drop]
  have hby2 : (l.length + 1) * bytes ≤ 140737488355328 := Nat.le_trans (Nat.mul_le_mul hL hby) (by decide)
  have hold : (Builtin.firstCells i0.size i (.slice (some ⟨B, pre.length, none⟩) i c)).run P w.drew = .ok (C.cells (l.take i)).toArray w.drew :=
    run_firstCells_some w.drew i0.size i ⟨B, pre.length, none⟩ i c (C.cells (l.take i)) (by rw [htl, hz1]) (fun j v hj => by
      have hjl := (List.getElem?_eq_some_iff.1 hj).1
      have hjl2 : j < (C.cells l).length := by rw [hsp, List.length_append]; omega
      have e1 : w.drew.cell? ((⟨B, pre.length, none⟩ : Addr).add j) = w.cell? ⟨B, pre.length + j, none⟩ := by rw [Addr.add_lit]; rfl
      rw [e1, cell_mid hh hjl2, hsp, List.getElem?_append_left hjl]
      exact hj)
  have hrz := fun ty => Lib.run_append_grow_zeros w S tn ty T i0 z .i64 kn R.slice htn hi0 hz0 (some ⟨B, pre.length, none⟩) i c (C.cells (l.take i)) hold (l.length + 1 - i) (by omega) (by omega) (by omega) (by omega) (by rw [hz2]; exact Nat.le_trans (Nat.mul_le_mul (show l.length + 1 - i ≤ 1000000 by omega) hby) (by decide)) (by
    rw [hz2, show i + (l.length + 1 - i) = l.length + 1 by omega]; exact growslice_fits hroom hby2)
  rw [show i + (l.length + 1 - i) = l.length + 1 by omega] at hrz
  obtain ⟨cap, hcap⟩ : ∃ cap, cap = grownCap w (l.length + 1) c T := ⟨_, rfl⟩
  rw [← hcap] at hrz
  have hGn : l.length + 1 ≤ cap := by rw [hcap]; exact grownCap_ge w _ _ _
  have hG63 : cap ≤ maxLen := by rw [hcap]; exact grownCap_le_maxLen w (l.length + 1) c T (by unfold maxLen; omega)
  obtain ⟨Z, hZ⟩ : ∃ Z, Z = (Builtin.zeroCells z.cells (l.length + 1 - i)).toList := ⟨_, rfl⟩
  obtain ⟨Z2, hZ2⟩ : ∃ Z2, Z2 = (Builtin.zeroCells z.cells (cap - (l.length + 1))).toList := ⟨_, rfl⟩
  have hZl : Z.length = (l.length + 1 - i) * C.k := by rw [hZ]; simp [Builtin.zeroCells, hzs]
  have hZ2l : Z2.length = (cap - (l.length + 1)) * C.k := by rw [hZ2]; simp [Builtin.zeroCells, hzs]
  have hZk : C.k ≤ Z.length := by
    rw [hZl]
    have : (1 : Nat) * C.k ≤ (l.length + 1 - i) * C.k := Nat.mul_le_mul_right _ (by omega)
    omega
  have hZd : (Z.drop C.k).length = (l.length - i) * C.k := by
    rw [List.length_drop, hZl, show l.length + 1 - i = (l.length - i) + 1 by omega, Nat.add_mul, Nat.one_mul, Nat.add_sub_cancel]
  have hrow : (C.cells (l.take i)).toArray ++ Builtin.zeroCells z.cells (l.length + 1 - i) ++ Builtin.zeroCells z.cells (cap - (l.length + 1)) = (C.cells (l.take i) ++ Z ++ Z2).toArray := by
    rw [hZ, hZ2]
    simp
  rw [hrow] at hrz
  refine ⟨_, w.heap.size, cap, hrz, rfl, hGn, hG63, ⟨rfl, rfl, rfl, by simp, fun k hk _ => Below.heap_alloc _ _ _ hk⟩, fun W0 hW0 ad cc hv => ?_⟩
  have hn0 : (w.drew.alloc (.cells (C.cells (l.take i) ++ Z ++ Z2).toArray T)).heap[w.heap.size]? = some (.cells (C.cells (l.take i) ++ Z ++ Z2).toArray T (0, 0)) := heap_alloc_new w.drew _
  have hA0 : W0.heap[w.heap.size]? = some (.cells (C.cells (l.take i) ++ Z.take C.k ++ (Z.drop C.k ++ Z2)).toArray T (0, 0)) := by
    rw [hW0, hn0]
    conv => lhs; rw [← List.take_append_drop C.k Z]
    simp only [List.append_assoc]
  have hr1 := fun ty dC => run_copy_seg (P := P) W0 S S ty T C.k w.heap.size _ _ _ T (i * C.k) (l.length + 1 - i) dC ad 1 cc (C.enc x) R.slice hsz hA0 htl.symm 1 (by simp only [Nat.min_def]; split <;> omega) (by rw [C.len, Nat.one_mul]) (by rw [List.length_take, Nat.min_eq_left hZk, C.len]) hv (C.one x)
  refine ⟨_, hr1, ⟨rfl, rfl, rfl, by simp, fun k _ hk => setRow_other W0 _ k _ hk⟩, fun W hW hWB => ?_⟩
  have hW2 : W.heap[w.heap.size]? = some (.cells ((C.cells (l.take i) ++ C.enc x) ++ Z.drop C.k ++ Z2).toArray T (0, 0)) := by
    rw [hW, setRow_heap W0 _ _ _ T _ hA0]
    simp only [List.append_assoc]
  have hWB' : W.heap[B]? = some (.cells (pre ++ C.cells l ++ post).toArray T (0, 0)) := hWB.trans hh
  have hr2 := fun ty dC sC => run_copy_seg (P := P) W S S ty T C.k w.heap.size _ _ _ T ((i + 1) * C.k) (l.length - i) dC ⟨B, pre.length + i * C.k, none⟩ (l.length - i) sC (C.cells (l.drop i)) R.slice hsz hW2 (by rw [List.length_append, htl, C.len, Nat.add_mul, Nat.one_mul]) (l.length - i) (by simp only [Nat.min_def]; split <;> omega) hdl (by rw [hZd, hdl]) (fun j v hj => by
      have hjl := (List.getElem?_eq_some_iff.1 hj).1
      have hjl2 : i * C.k + j < (C.cells l).length := by rw [hsp, List.length_append, htl]; omega
      rw [Addr.add_lit, Nat.add_assoc, cell_mid hWB' hjl2, hsp, List.getElem?_append_right (by omega), htl, Nat.add_sub_cancel_left]
      exact hj) (C.cells_one _)
  refine ⟨_, hr2, ⟨rfl, rfl, rfl, by simp, fun k _ hk => setRow_other W _ k _ hk⟩, by rw [putAt_len l i x (by omega)]; exact hGn, hG63, .inr ⟨w.heap.size, [], Z2, rfl, ?_, ?_⟩⟩
  · rw [setRow_heap W _ _ _ T _ hW2, C.cells_putAt]
    simp only [List.append_assoc, List.nil_append]
  · rw [putAt_len l i x (by omega), hZ2l]
    exact Nat.le_refl _
end
end Go.Proofs.YthhpoihfaggafaaDoor
