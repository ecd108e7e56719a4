/-
  What the frame layer keeps in memory: byte slices that may be written, in the midst of a block; lists of texts; and append over them.
-/
import Derived.Test.YthlmjadknklafaaDoorBase
import Derived.Test.YthlmjadknklafaaDoorFrMath
import Derived.Deep.Upon
import Derived.Deep.MidRow
namespace Go.Proofs.YthlmjadknklafaaDoor
open Go.RowKit CrcM FrM

/-- nothing that was there has turned, but in the blocks S -/
structure But (S : Nat → Prop) (w w' : World) : Prop where
  os : w'.os = w.os
  tape : w'.tape = w.tape
  output : w'.output = w.output
  size : w.heap.size ≤ w'.heap.size
  block : ∀ k, k < w.heap.size → ¬ S k → w'.heap[k]? = w.heap[k]?

theorem But.refl (S : Nat → Prop) (w : World) : But S w w := ⟨rfl, rfl, rfl, Nat.le_refl _, fun _ _ _ => rfl⟩
theorem But.next {S T : Nat → Prop} {a b c : World} (h : But S a b) (k : But T b c) (hT : ∀ j, j < a.heap.size → T j → S j) : But S a c :=
  ⟨k.os.trans h.os, k.tape.trans h.tape, k.output.trans h.output, Nat.le_trans h.size k.size,
    fun i hi hs => (k.block i (Nat.lt_of_lt_of_le hi h.size) (fun t => hs (hT i hi t))).trans (h.block i hi hs)⟩
theorem But.trans {S : Nat → Prop} {a b c : World} (h : But S a b) (k : But S b c) : But S a c := h.next k fun _ _ t => t
theorem But.mono {S T : Nat → Prop} {a b : World} (h : But S a b) (hT : ∀ j, j < a.heap.size → S j → T j) : But T a b :=
  ⟨h.os, h.tape, h.output, h.size, fun k hk ht => h.block k hk fun s => ht (hT k hk s)⟩
theorem But.of {S : Nat → Prop} {a b : World} (h : Below a.heap.size a b) : But S a b := ⟨h.os, h.tape, h.output, h.size, fun k hk _ => h.block k hk⟩
theorem But.grown {a b : World} {row : Option Nat} (h : a.grownBy b row) : But (fun k => some k = row) a b := ⟨h.os, h.tape, h.output, h.size, h.block⟩
theorem But.below {S : Nat → Prop} {a b : World} (h : But S a b) (B : Nat) (hB : B ≤ a.heap.size) (hS : ∀ k, S k → B ≤ k) : Below B a b :=
  ⟨h.os, h.tape, h.output, h.size, fun k hk => h.block k (by omega) fun s => by have := hS k s; omega⟩
theorem But.alloc {S : Nat → Prop} {a b : World} (h : But S a b) (o : Obj) : But S a (b.alloc o) :=
  h.trans ⟨rfl, rfl, rfl, by simp, fun k hk _ => Below.heap_alloc _ _ _ hk⟩
theorem But.drew {S : Nat → Prop} {a b : World} (h : But S a b) : But S a b.drew := ⟨h.os, h.tape, h.output, h.size, h.block⟩
theorem But.setCell {S : Nat → Prop} {a b : World} (h : But S a b) {p : Addr} (hp : S p.block) (u : Value) : But S a (b.setCell p u) :=
  h.trans ⟨rfl, rfl, rfl, by simp [World.setCell], fun k _ hs => Below.heap_setCell _ _ _ _ (fun e => hs (e ▸ hp))⟩
theorem But.heap {S : Nat → Prop} {a b : World} (h : But S a b) {k : Nat} {o : Obj} (hk : a.heap[k]? = some o) (hs : ¬ S k) : b.heap[k]? = some o :=
  (h.block k (lt_of_block hk) hs).trans hk

theorem Bts.but {S : Nat → Prop} {w w' : World} {a : Option Addr} {len : Nat} {l : List Nat} (h : Bts w a len l) (hb : But S w w') (hs : ∀ x, a = some x → ¬ S x.block) : Bts w' a len l := by
  obtain ⟨h1, h2, h3, h4⟩ := h
  refine ⟨h1, h2, h3, ?_⟩
  rcases h4 with h4 | ⟨B, off, rfl, hB, hc⟩
  · exact .inl h4
  · exact .inr ⟨B, off, rfl, Nat.lt_of_lt_of_le hB hb.size, fun i hi => (World.cell?_of_block (w := w) (hb.block B hB (hs _ rfl))).trans (hc i hi)⟩

/-- a byte slice, in block b if it is not nil, that may be written -/
def Row8 (w : World) (b : Nat) (v : Value) (l : List Nat) : Prop :=
  (v = .slice none 0 0 ∧ l = []) ∨
  ∃ off cap cur, v = .slice (some ⟨b, off, none⟩) l.length cap ∧ w.heap[b]? = some (.cells cur 5 (0, 0)) ∧ l.length ≤ cap ∧ cap ≤ maxLen ∧ off + cap ≤ cur.size ∧
    ∀ i, i < l.length → cur[off + i]? = some (.int .u8 (l.getD i 0 : Nat))

theorem Row8.bts {w : World} {b : Nat} {v : Value} {l : List Nat} (h : Row8 w b v l) (hb : ∀ x ∈ l, x < 256) :
    ∃ a cap, v = .slice a l.length cap ∧ Bts w a l.length l ∧ l.length ≤ cap ∧ (∀ x, a = some x → x.block = b) ∧ (a = none → l = [] ∧ cap = 0) ∧ (∀ x, a = some x → ∃ off, x = ⟨b, off, none⟩) := by
  rcases h with ⟨rfl, rfl⟩ | ⟨off, cap, cur, rfl, hh, h1, h2, h3, h4⟩
  · exact ⟨none, 0, rfl, Bts.nought _ _, Nat.le_refl _, (fun x e => by cases e), (fun _ => ⟨rfl, rfl⟩), (fun x e => by cases e)⟩
  · unfold maxLen at h2
    refine ⟨_, cap, rfl, ⟨rfl, hb, by omega, .inr ⟨b, off, rfl, lt_of_block hh, fun i hi => ?_⟩⟩, h1, (fun x e => by cases e; rfl), (fun e => by cases e), (fun x e => by cases e; exact ⟨off, rfl⟩)⟩
    rw [cell_of_row _ _ _ _ _ _ hh]
    exact h4 i hi

theorem Row8.but {S : Nat → Prop} {w w' : World} {b : Nat} {v : Value} {l : List Nat} (h : Row8 w b v l) (hb : But S w w') (hs : ¬ S b) : Row8 w' b v l := by
  rcases h with h | ⟨off, cap, cur, rfl, hh, h1, h2, h3, h4⟩
  · exact .inl h
  · exact .inr ⟨off, cap, cur, rfl, hb.heap hh hs, h1, h2, h3, h4⟩
theorem Row8.below {B : Nat} {w w' : World} {b : Nat} {v : Value} {l : List Nat} (h : Row8 w b v l) (hb : Below B w w') (hs : b < B) : Row8 w' b v l := by
  rcases h with h | ⟨off, cap, cur, rfl, hh, h1, h2, h3, h4⟩
  · exact .inl h
  · exact .inr ⟨off, cap, cur, rfl, (hb.block b hs).trans hh, h1, h2, h3, h4⟩

theorem setCells_heap (b : Nat) (t : TypeId) : ∀ (vs : List Value) (o : Nat) (w : World) (cur : Array Value), w.heap[b]? = some (.cells cur t (0, 0)) → o + vs.length ≤ cur.size →
    ∃ cur', (w.setCells b o vs).heap[b]? = some (.cells cur' t (0, 0)) ∧ cur'.size = cur.size ∧ (∀ i, i < o → cur'[i]? = cur[i]?) ∧ (∀ i, i < vs.length → cur'[o + i]? = vs[i]?)
  | [], o, w, cur, h, hs => ⟨cur, h, rfl, fun _ _ => rfl, fun i hi => by simp at hi⟩
  | v :: r, o, w, cur, h, hs => by
    simp at hs
    have h1 := heap_setCell_same w b o cur t v h
    obtain ⟨cur', a1, a2, a3, a4⟩ := setCells_heap b t r (o + 1) (w.setCell ⟨b, o, none⟩ v) (cur.setIfInBounds o v) h1 (by simp; omega)
    refine ⟨cur', a1, by rw [a2]; simp, fun i hi => ?_, fun i hi => ?_⟩
    · rw [a3 i (by omega), Array.getElem?_setIfInBounds_ne (by omega)]
    · cases i with
      | zero => rw [Nat.add_zero, a3 o (by omega)]; simp [show o < cur.size from by omega]
      | succ i => rw [show o + (i + 1) = o + 1 + i from by omega, a4 i (by simp at hi; omega)]; simp
theorem setCells_but (b : Nat) : ∀ (vs : List Value) (o : Nat) (w : World), w.grownBy (w.setCells b o vs) (some b)
  | [], o, w => ⟨rfl, rfl, rfl, Nat.le_refl _, fun _ _ _ => rfl⟩
  | v :: r, o, w => by
    obtain ⟨h1, h2, h3, h4, h5⟩ := setCells_but b r (o + 1) (w.setCell ⟨b, o, none⟩ v)
    refine ⟨h1, h2, h3, ?_, fun k hk hne => ?_⟩
    · rw [World.setCells]; simp [World.setCell] at h4 ⊢; exact h4
    · rw [World.setCells, h5 k (by simp [World.setCell]; exact hk) hne]
      exact Below.heap_setCell _ _ _ _ (fun e => hne (by rw [e]))

def cellsB (l : List Nat) : List Value := l.map fun (n : Nat) => Value.int .u8 (n : Int)
theorem cellsB_one (l : List Nat) : ∀ u ∈ cellsB l, u.oneCell' = true := by
  intro u hu; obtain ⟨n, _, rfl⟩ := List.mem_map.1 hu; rfl
theorem cellsB_length (l : List Nat) : (cellsB l).length = l.length := by simp [cellsB]
theorem cellsB_get (l : List Nat) (i : Nat) (h : i < l.length) : (cellsB l)[i]? = some (.int .u8 (l.getD i 0 : Nat)) := by simp [cellsB, List.getD, h]

theorem Bts.src {w : World} {a : Option Addr} {len : Nat} {l : List Nat} (h : Bts w a len l) (cap : Nat) : Src Tryd.prog 1 22 (.slice a len cap) len (cellsB l) w := by
  obtain ⟨h1, h2, h3, h4⟩ := h
  cases a with
  | none =>
    rcases h4 with rfl | ⟨_, _, e, _⟩
    · obtain rfl : l = [] := List.length_eq_zero_iff.1 h1
      exact Src.ofNil w Tryd.underlying22 cap
    · cases e
  | some x =>
    refine Src.ofSlice w Tryd.underlying22 x len cap (cellsB l) (by rw [cellsB_length]; omega) ?_ (cellsB_one l)
    rcases h4 with rfl | ⟨B, off, e, hB, hc⟩
    · obtain rfl : l = [] := List.length_eq_zero_iff.1 h1
      intro j u hu
      simp [cellsB] at hu
    · cases e
      exact Bts.at_ ⟨h1, h2, h3, .inr ⟨B, off, rfl, hB, hc⟩⟩

theorem getD_left (l m : List Nat) (i : Nat) (h : i < l.length) : (l ++ m).getD i 0 = l.getD i 0 := by simp [List.getD, List.getElem?_append_left h]
theorem getD_right (l m : List Nat) (i : Nat) : (l ++ m).getD (l.length + i) 0 = m.getD i 0 := by
  simp [List.getD, List.getElem?_append_right (Nat.le_add_right _ _)]

theorem run_append_row8 (w : World) (ty : TypeId) (b : Nat) (v : Value) (l : List Nat) (hr : Row8 w b v l) (a : Option Addr) (len cap : Nat) (src : List Nat) (hs : Bts w a len src) (hsz : l.length + len ≤ 1000000000) :
    ∃ v' w' b', (Builtin.append_ #[22, 22] ty #[v, .slice a len cap]).run Tryd.prog w = .ok v' w' ∧ Row8 w' b' v' (l ++ src) ∧ w.grownBy w' v.ownBlock ∧ ((b' = b ∧ (v = .slice none 0 0 → v' = .slice none 0 0)) ∨ (b' = w.heap.size ∧ b' < w'.heap.size)) := by
  obtain ⟨i, hi, hz0, hz1, hz2⟩ := info_parts info5
  have S := hs.src cap
  have hl := hs.1
  have hS : Src Tryd.prog i.size 22 (.slice a len cap) len (cellsB src) w := by rw [hz1]; exact S
  by_cases h0 : len = 0
  · subst h0
    obtain rfl : src = [] := List.length_eq_zero_iff.1 hl
    refine ⟨v, w, b, ?_, by rw [List.append_nil]; exact hr, ⟨rfl, rfl, rfl, Nat.le_refl _, fun _ _ _ => rfl⟩, .inl ⟨rfl, fun e => e⟩⟩
    rcases hr with ⟨rfl, rfl⟩ | ⟨off, c, cur, rfl, hh, h1, h2, h3, h4⟩
    · exact run_append_nothing w 22 22 ty 5 i Tryd.underlying22 hi none 0 0 (Nat.le_refl _) _ hS
    · exact run_append_nothing w 22 22 ty 5 i Tryd.underlying22 hi _ _ c h1 _ hS
  · have grow : ∀ (ad : Option Addr) (c : Nat), v = .slice ad l.length c → c < l.length + len → (Builtin.firstCells i.size l.length (.slice ad l.length c)).run Tryd.prog w.drew = .ok (cellsB l).toArray w.drew →
        ∃ v' w' b', (Builtin.append_ #[22, 22] ty #[v, .slice a len cap]).run Tryd.prog w = .ok v' w' ∧ Row8 w' b' v' (l ++ src) ∧ w.grownBy w' v.ownBlock ∧ ((b' = b ∧ (v = .slice none 0 0 → v' = .slice none 0 0)) ∨ (b' = w.heap.size ∧ b' < w'.heap.size)) := by
      rintro ad c rfl hc hold
      have hbig : Builtin.nextslicecap (l.length + len) c * i.bytes ≤ 281474976710656 := growslice_fits (by omega) (by rw [hz2]; omega)
      have hrun := run_append_grow_src (P := Tryd.prog) w 22 22 ty 5 i (.int .u8 0) Tryd.underlying22 hi hz0 ad l.length c (cellsB l) hold (.slice a len cap) len (cellsB src) hS hc (by omega) hbig
      have hge := grownCap_ge w (l.length + len) c 5
      have hcm := grownCap_le_maxLen w (l.length + len) c 5 (by unfold maxLen; omega)
      refine ⟨_, _, w.heap.size, hrun, .inr ⟨0, _, _, ?_, heap_alloc_new w.drew _, ?_, hcm, ?_, ?_⟩, ⟨rfl, rfl, rfl, by simp, fun k hk _ => heap_alloc_old w.drew _ hk⟩, .inr ⟨rfl, by simp⟩⟩
      · rw [List.length_append, hl]
      · rw [List.length_append, hl]; exact hge
      · simp only [Array.size_append, List.size_toArray, List.length_append, size_zeroCells, cellsB_length, hl, Nat.zero_add]
        simp [Value.cells]
        omega
      · intro j hj
        rw [List.length_append, hl] at hj
        rw [Nat.zero_add, Array.getElem?_append_left (by simp [cellsB_length, hl]; omega)]
        rw [show cellsB l ++ cellsB src = cellsB (l ++ src) from by simp [cellsB]]
        rw [List.getElem?_toArray]
        exact cellsB_get _ _ (by rw [List.length_append, hl]; exact hj)
    rcases hr with ⟨rfl, rfl⟩ | ⟨off, c, cur, rfl, hh, h1, h2, h3, h4⟩
    · exact grow none 0 rfl (by simp; omega) (run_firstCells_none w.drew _ _ _ _)
    · by_cases hroom : l.length + len ≤ c
      · have hfit : off + l.length + (cellsB src).length ≤ cur.size := by rw [cellsB_length, hl]; omega
        have hrun := run_append_room_src (P := Tryd.prog) w 22 22 ty 5 i Tryd.underlying22 hi b off l.length c (.slice a len cap) len (cellsB src) hS hroom
          (fun j hj => by rw [hz1, Nat.mul_one, cell_of_row _ _ _ _ _ _ hh]; simp; omega) (fun j hj => frozen_of_row _ _ _ _ _ hh)
        rw [hz1, Nat.mul_one] at hrun
        obtain ⟨cur', c1, c2, c3, c4⟩ := setCells_heap b 5 (cellsB src) (off + l.length) w cur hh hfit
        refine ⟨_, _, b, hrun, .inr ⟨off, c, cur', by rw [List.length_append, hl], c1, by rw [List.length_append, hl]; exact hroom, h2, by omega, fun j hj => ?_⟩, setCells_but b _ _ w, .inl ⟨rfl, fun e => by cases e⟩⟩
        rw [List.length_append, hl] at hj
        by_cases hjl : j < l.length
        · rw [c3 _ (by omega), h4 j hjl, getD_left l src j hjl]
        · obtain ⟨m, rfl⟩ : ∃ m, j = l.length + m := ⟨j - l.length, by omega⟩
          rw [← Nat.add_assoc, c4 m (by rw [cellsB_length, hl]; omega), cellsB_get _ _ (by omega), getD_right]
      · refine grow _ c rfl (by omega) ?_
        refine run_firstCells_some w.drew _ _ _ _ _ _ (by rw [cellsB_length, hz1, Nat.mul_one]) fun j u hu => ?_
        have hj : j < l.length := by
          rcases Nat.lt_or_ge j l.length with h | h
          · exact h
          · rw [List.getElem?_eq_none (by rw [cellsB_length]; exact h)] at hu; cases hu
        rw [Addr.add_mid, World.cell?_drew, cell_of_row _ _ _ _ _ _ hh, h4 j hj, ← cellsB_get l j hj]
        exact hu

theorem wpList_append_row8 {w : World} {ops : Array Oper} {rest : List Oper} {o : Oper} {act : Act} {Q : Exit → Act → World → Prop} (hgd : o.guard = none) (s x : Operand)
    (ho : o.op = .call { callee := .builtin .append, args := #[s, x], argTypes := #[22, 22] })
    (b : Nat) (v : Value) (l : List Nat) (a : Option Addr) (len cap : Nat) (src : List Nat) (hv : act.eval s = v) (hr : Row8 w b v l) (hx : act.eval x = .slice a len cap) (hs : Bts w a len src) (hsz : l.length + len ≤ 1000000000)
    (h : ∀ v' w' b', Row8 w' b' v' (l ++ src) → w.grownBy w' v.ownBlock → ((b' = b ∧ (v = .slice none 0 0 → v' = .slice none 0 0)) ∨ (b' = w.heap.size ∧ b' < w'.heap.size)) → wpList Tryd.prog ops Q rest (act.put o.dst v') w') : wpList Tryd.prog ops Q (o :: rest) act w := by
  refine wpList_plain hgd fun K hK => ?_
  obtain ⟨v', w', b', hrun, h1, h2, h3⟩ := run_append_row8 w o.type b v l hr a len cap src hs hsz
  unfold Oper.wp execOp
  simp only [ho, resolve, invoke, builtin, Sem.run_bind, Sem.run_pure, Result.andThen_ok, List.map_toArray, List.map_cons, List.map_nil, hv, hx, hrun]
  exact hK _ _ (h v' w' b' h1 h2 h3)

/-- a list of texts: slices, in blocks of S -/
def Txts (w : World) (S : Nat → Prop) (vs : List Value) (ps : List (List Nat)) : Prop :=
  vs.length = ps.length ∧ ∀ i, i < ps.length → ∃ a cap, vs[i]? = some (.slice a (ps.getD i []).length cap) ∧ Bts w a (ps.getD i []).length (ps.getD i []) ∧ (ps.getD i []).length ≤ cap ∧ ∀ x, a = some x → S x.block
theorem Txts.nil (w : World) (S : Nat → Prop) : Txts w S [] [] := ⟨rfl, fun i hi => by simp at hi⟩
theorem Txts.but {w w' : World} {S T : Nat → Prop} {vs : List Value} {ps : List (List Nat)} (h : Txts w S vs ps) (hb : But T w w') (hd : ∀ k, S k → ¬ T k) : Txts w' S vs ps := by
  refine ⟨h.1, fun i hi => ?_⟩
  obtain ⟨a, cap, h1, h2, h3, h4⟩ := h.2 i hi
  exact ⟨a, cap, h1, h2.but hb (fun x e => hd _ (h4 x e)), h3, h4⟩
theorem Txts.mono {w : World} {S T : Nat → Prop} {vs : List Value} {ps : List (List Nat)} (h : Txts w S vs ps) (hT : ∀ k, S k → T k) : Txts w T vs ps := by
  refine ⟨h.1, fun i hi => ?_⟩
  obtain ⟨a, cap, h1, h2, h3, h4⟩ := h.2 i hi
  exact ⟨a, cap, h1, h2, h3, fun x e => hT _ (h4 x e)⟩
theorem Txts.append {w : World} {S : Nat → Prop} {vs us : List Value} {ps qs : List (List Nat)} (h : Txts w S vs ps) (k : Txts w S us qs) : Txts w S (vs ++ us) (ps ++ qs) := by
  refine ⟨by rw [List.length_append, List.length_append, h.1, k.1], fun i hi => ?_⟩
  by_cases hl : i < ps.length
  · rw [show (ps ++ qs).getD i [] = ps.getD i [] from by simp [List.getD, List.getElem?_append_left hl], List.getElem?_append_left (by rw [h.1]; exact hl)]
    exact h.2 i hl
  · obtain ⟨j, rfl⟩ : ∃ j, i = ps.length + j := ⟨i - ps.length, by omega⟩
    rw [show (ps ++ qs).getD (ps.length + j) [] = qs.getD j [] from by simp [List.getD, List.getElem?_append_right (Nat.le_add_right _ _)]]
    have e : (vs ++ us)[ps.length + j]? = us[j]? := by rw [← h.1, List.getElem?_append_right (Nat.le_add_right _ _)]; simp
    rw [e]
    exact k.2 j (by rw [List.length_append] at hi; omega)
theorem Txts.one {w : World} {S : Nat → Prop} {a : Option Addr} {cap : Nat} {p : List Nat} (h : Bts w a p.length p) (hc : p.length ≤ cap) (hs : ∀ x, a = some x → S x.block) : Txts w S [.slice a p.length cap] [p] :=
  ⟨rfl, fun i hi => by
    obtain rfl : i = 0 := by simp at hi; exact hi
    exact ⟨a, cap, rfl, h, hc, hs⟩⟩
end Go.Proofs.YthlmjadknklafaaDoor
