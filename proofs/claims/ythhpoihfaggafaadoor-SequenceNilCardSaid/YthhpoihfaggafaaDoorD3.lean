/-
  The walks of Much, and of slices.Clone at instructions and at kinds.
-/
import Derived.Test.YthhpoihfaggafaaDoorD2
import Derived.Laws.AppendOwn
namespace Go.Proofs.YthhpoihfaggafaaDoor
open Go.RowKit CodM

def muchB (p : Prg) : Bool := decide (12 < p.kinds.length) || p.kinds.any (fun l => decide (200 < l.length))
def MuchRel (w : World) (n : Nat) (ks : List (List Ins)) (i : Value) (wr : World) : Prop := ∃ k : Nat, k ≤ n ∧ i = .int .i64 k ∧ (ks.take k).any (fun l => decide (200 < l.length)) = false ∧ w = wr
theorem any_step {α : Type} (f : α → Bool) (l : List α) (k : Nat) (d : α) (h : k < l.length) : (l.take (k + 1)).any f = ((l.take k).any f || f (l.getD k d)) := by
  rw [List.take_succ_eq_append_getElem h, List.any_append]
  simp [List.getD, h]
theorem any_yes {α : Type} (f : α → Bool) (l : List α) (k : Nat) (d : α) (h : k < l.length) (hf : f (l.getD k d) = true) : l.any f = true := by
  rw [List.any_eq_true]
  exact ⟨l.getD k d, by simp [List.getD, h], hf⟩

/-- the cells of instructions -/
def insCells (l : List Ins) : List Value := l.flatMap fun x => [.int .i64 x.1, .int .i64 x.2]
theorem insCells_length (l : List Ins) : (insCells l).length = l.length * 2 := by
  induction l with
  | nil => rfl
  | cons x r ih => unfold insCells at *; simp [List.flatMap_cons, ih]; omega
theorem insCells_get : ∀ (l : List Ins) (i : Nat), i < l.length → (insCells l)[i * 2]? = some (.int .i64 (l.getD i (0, 0)).1) ∧ (insCells l)[i * 2 + 1]? = some (.int .i64 (l.getD i (0, 0)).2)
  | [], i, h => by simp at h
  | x :: r, 0, _ => ⟨rfl, rfl⟩
  | x :: r, i + 1, h => by
    have := insCells_get r i (by simpa using h)
    have e : ∀ k, (insCells (x :: r))[k + 2]? = (insCells r)[k]? := fun k => rfl
    rw [show (i + 1) * 2 = i * 2 + 2 from by omega, show i * 2 + 2 + 1 = i * 2 + 1 + 2 from by omega, e, e]
    simpa using this
theorem insCells_one (l : List Ins) : ∀ u ∈ insCells l, u.oneCell' = true := by
  intro u hu
  unfold insCells at hu
  simp only [List.mem_flatMap, List.mem_cons, List.not_mem_nil, or_false] at hu
  obtain ⟨x, _, rfl | rfl⟩ := hu <;> rfl
theorem InsAt.src {w : World} {x : Addr} {n : Nat} {l : List Ins} (h : InsAt w (some x) n l) : ∀ j u, (insCells l)[j]? = some u → w.cell? (x.add j) = some u := by
  intro j u hu
  obtain ⟨h1, _, _, h4⟩ := h
  have hj : j < l.length * 2 := by
    rw [← insCells_length]
    rcases Nat.lt_or_ge j (insCells l).length with h | h
    · exact h
    · rw [List.getElem?_eq_none h] at hu; cases hu
  rcases h4 with h4 | ⟨B, off, e, hB, hc⟩
  · omega
  · cases e
    have hadd : (⟨B, off, none⟩ : Addr).add j = ⟨B, off + j, none⟩ := by unfold Addr.add; split <;> simp_all
    rw [hadd]
    obtain ⟨g1, g2⟩ := insCells_get l (j / 2) (by omega)
    obtain ⟨k1, k2⟩ := hc (j / 2) (by omega)
    rcases Nat.mod_two_eq_zero_or_one j with hm | hm
    · rw [show j / 2 * 2 = j from by omega] at g1 k1
      rw [k1, ← g1, hu]
    · rw [show j / 2 * 2 + 1 = j from by omega] at g2
      rw [show off + j / 2 * 2 + 1 = off + j from by omega] at k2
      rw [k2, ← g2, hu]

/-- instructions in a block of their own, from B on, that may be written -/
def InsOwn (B : Nat) (w : World) (a : Option Addr) (n : Nat) (l : List Ins) : Prop :=
  InsAt w a n l ∧ (n = 0 ∨ ∃ G cur, a = some ⟨G, 0, none⟩ ∧ B ≤ G ∧ w.heap[G]? = some (.cells cur 66 (0, 0)))
theorem insOwn_of {B : Nat} {w : World} {v : Value} {n : Nat} {l : List Ins} (h : w.ownsRow B 66 2 v n (insCells l)) (hn : l.length = n) (hw : ∀ x ∈ l, I64 x.1 ∧ I64 x.2) (hm : n ≤ 9223372036854775807) :
    ∃ a c, v = .slice a n c ∧ SlOk a n c ∧ InsOwn B w a n l := by
  obtain ⟨h1, ⟨rfl, rfl⟩ | ⟨g, cap, cur, rfl, hg, hh, hc, _, _, ht⟩⟩ := h
  · exact ⟨none, 0, rfl, ⟨Nat.le_refl _, fun _ => rfl⟩, ⟨hn, hw, hm, .inl rfl⟩, .inl rfl⟩
  · have hlt : g < w.heap.size := by
      rcases Nat.lt_or_ge g w.heap.size with h' | h'
      · exact h'
      · rw [Array.getElem?_eq_none h'] at hh; cases hh
    refine ⟨_, cap, rfl, ⟨hc, fun e => by cases e⟩, ⟨hn, hw, hm, .inr ⟨g, 0, rfl, hlt, fun i hi => ?_⟩⟩, .inr ⟨g, cur, rfl, hg, hh⟩⟩
    have hk : ∀ k, k < n * 2 → cur[k]? = (insCells l)[k]? := fun k hk => by
      rw [← ht, List.getElem?_take, if_pos hk]; simp
    obtain ⟨g1, g2⟩ := insCells_get l i (by omega)
    rw [cell_of_row _ _ _ _ _ _ hh, cell_of_row _ _ _ _ _ _ hh, Nat.zero_add, hk _ (by omega), hk _ (by omega)]
    exact ⟨g1, g2⟩

theorem infoI : (Tryd.prog.info? 66).map (fun i => (i.zero, i.size, i.bytes)) = some (some (.agg #[.int .i64 0, .int .i64 0]), 2, 16) := by kernel_rfl
theorem infoS : (Tryd.prog.info? 67).map (fun i => (i.zero, i.size, i.bytes)) = some (some (.slice none 0 0), 1, 24) := by kernel_rfl
def CloneTo (l : List Ins) (n : Nat) (w : World) (e : Ending) (w' : World) : Prop := ∃ a c, e = .returned (.slice a n c) ∧ SlOk a n c ∧ InsOwn w.heap.size w' a n l ∧ Below w.heap.size w w'

set_option maxHeartbeats 1000000 in
set_option maxRecDepth 100000 in
theorem cloneI_any (w : World) (a : Option Addr) (n c : Nat) (l : List Ins) (hl : InsAt w a n l) (hn : n ≤ 200) (ha : SlOk a n c) :
    Calls Tryd.prog 132 #[.slice a n c] w (CloneTo l n w) := by
  obtain ⟨i0, hi, hz0, hz1, hz2⟩ := info_parts infoI
  have qn : ∀ (w : World) (a : Option Addr) (n c n' c' : Nat), (binOp .eql 67 (.slice a n c) (.slice none n' c')).run Tryd.prog w = .ok (.bool a.isNone) w := fun w a n c n' c' => Lib.run_eql_slice_nil w _ _ a n c n' c' Tryd.underlying67
  cases a with
  | none =>
    obtain rfl := ha.2 rfl
    obtain rfl : n = 0 := by have := ha.1; omega
    have HL := Lib.hid hl
    clear hl
    go_enter Tryd.func132, Tryd.ntmps132
    go_wp2
    go_ret
    exact ⟨none, 0, rfl, ⟨Nat.le_refl _, fun _ => rfl⟩, ⟨HL.out, .inl rfl⟩, Below.refl _ _⟩
  | some x =>
    have hlen := hl.1
    have HL := Lib.hid hl
    have HLEN := Lib.hid hlen
    clear hl hlen ha
    go_enter Tryd.func132, Tryd.ntmps132
    go_wp2_with (first
      | (at_builtin; refine wpList_append_own _ rfl _ _ 67 rfl w.heap.size 66 i0 (.agg #[.int .i64 0, .int .i64 0]) 2 16 Tryd.underlying67 hi hz0 hz1 hz2 rfl (by decide) _ 0 [] rfl (World.ownsRow_made w #[] 0 (Nat.le_refl _) (by decide) rfl) x n c (insCells l) rfl (by rw [insCells_length, HLEN.out]) (HL.out.below ((Below.refl _ _).alloc (Nat.le_refl _) _) (Nat.le_refl _)).src (insCells_one l) (by unfold maxLen; omega) (by omega) (by simp) ?_; intro v1 w1 hown1 hgrow1 _; refine Hid.out ?_))
    have hbel : Below w.heap.size w w1 := ((Below.refl _ _).alloc (Nat.le_refl _) _).grown hgrow1 (by simp) (fun k hk => by have h : some w.heap.size = some k := hk; cases h; exact Nat.le_refl _)
    rw [Nat.zero_add, List.nil_append] at hown1
    obtain ⟨a1, c1, rfl, hc1, ho1⟩ := insOwn_of hown1 HLEN.out HL.out.2.1 (by omega)
    have HO1 := Lib.hid ho1
    have HB1 := Lib.hid hbel
    clear hown1 hgrow1 ho1 hbel
    refine Lib.hid ?_
    go_wp2
    go_ret
    exact ⟨a1, c1, rfl, hc1, HO1.out, HB1.out⟩

/-- the values of kinds -/
def KindVals (w : World) (vs : List Value) (ks : List (List Ins)) : Prop :=
  vs.length = ks.length ∧ ∀ i, i < ks.length → ∃ a n c, vs[i]? = some (.slice a n c) ∧ SlOk a n c ∧ InsAt w a n (ks.getD i [])
theorem KindVals.one {w : World} {vs : List Value} {ks : List (List Ins)} (h : KindVals w vs ks) : ∀ u ∈ vs, u.oneCell' = true := by
  intro u hu
  obtain ⟨i, hi, rfl⟩ := List.getElem_of_mem hu
  obtain ⟨a, n, c, e, _⟩ := h.2 i (by rw [← h.1]; exact hi)
  rw [List.getElem?_eq_getElem hi] at e
  rw [Option.some.inj e]
  rfl
theorem KindVals.below {w w' : World} {vs : List Value} {ks : List (List Ins)} (h : KindVals w vs ks) {b : Nat} (hb : Below b w w') (hs : w.heap.size ≤ b) : KindVals w' vs ks := by
  refine ⟨h.1, fun i hi => ?_⟩
  obtain ⟨a, n, c, e1, e2, e3⟩ := h.2 i hi
  exact ⟨a, n, c, e1, e2, e3.below hb hs⟩
theorem KindsAt.vals {w : World} {x : Addr} {n : Nat} {ks : List (List Ins)} (h : KindsAt w (some x) n ks) : ∃ vs, KindVals w vs ks ∧ ∀ j u, vs[j]? = some u → w.cell? (x.add j) = some u := by
  obtain ⟨h1, h2, h3⟩ := h
  rcases h3 with rfl | ⟨B, off, e, hB, hc⟩
  · obtain rfl : ks = [] := List.length_eq_zero_iff.1 h1
    exact ⟨[], ⟨rfl, fun i hi => by simp at hi⟩, fun j u hu => by simp at hu⟩
  · cases e
    refine ⟨(List.range n).map fun i => (w.cell? ⟨B, off + i, none⟩).getD .nilIface, ⟨by simp [h1], fun i hi => ?_⟩, fun j u hu => ?_⟩
    · obtain ⟨a', n', c', e1, e2, e3⟩ := hc i (by omega)
      exact ⟨a', n', c', by simp [show i < n from by omega, e1], e2, e3⟩
    · have hj : j < n := by
        rcases Nat.lt_or_ge j n with h | h
        · exact h
        · rw [List.getElem?_eq_none (by simp; omega)] at hu; cases hu
      have hadd : (⟨B, off, none⟩ : Addr).add j = ⟨B, off + j, none⟩ := by unfold Addr.add; split <;> simp_all
      obtain ⟨a', n', c', e1, e2, e3⟩ := hc j hj
      simp [hj, e1] at hu
      rw [hadd, e1, hu]

theorem add_block (x : Addr) (j : Nat) : (x.add j).block = x.block := by unfold Addr.add; split <;> rfl
/-- kinds in a block of their own, from B on, that may be written -/
def ValsOwn (B : Nat) (w : World) (a : Option Addr) (n : Nat) (vs : List Value) : Prop :=
  vs.length = n ∧ (n = 0 ∨ ∃ G cur, a = some ⟨G, 0, none⟩ ∧ B ≤ G ∧ w.heap[G]? = some (.cells cur 67 (0, 0)) ∧ n ≤ cur.size ∧ ∀ i, i < n → cur[i]? = vs[i]?)
theorem valsOwn_of {B : Nat} {w : World} {v : Value} {n : Nat} {vs : List Value} (h : w.ownsRow B 67 1 v n vs) :
    ∃ a c, v = .slice a n c ∧ SlOk a n c ∧ ValsOwn B w a n vs := by
  obtain ⟨h1, ⟨rfl, rfl⟩ | ⟨g, cap, cur, rfl, hg, hh, hc, _, hs, ht⟩⟩ := h
  · exact ⟨none, 0, rfl, ⟨Nat.le_refl _, fun _ => rfl⟩, by omega, .inl rfl⟩
  · refine ⟨_, cap, rfl, ⟨hc, fun e => by cases e⟩, by omega, .inr ⟨g, cur, rfl, hg, hh, by omega, fun i hi => ?_⟩⟩
    rw [← ht, List.getElem?_take, if_pos (by omega)]
    simp
def CloneKTo (vs : List Value) (n : Nat) (w : World) (e : Ending) (w' : World) : Prop := ∃ a c, e = .returned (.slice a n c) ∧ SlOk a n c ∧ ValsOwn w.heap.size w' a n vs ∧ Below w.heap.size w w'

set_option maxHeartbeats 1000000 in
set_option maxRecDepth 100000 in
theorem cloneK_any (w : World) (a : Option Addr) (n c : Nat) (ks : List (List Ins)) (hl : KindsAt w a n ks) (hn : n ≤ 12) (ha : SlOk a n c) :
    ∃ vs, KindVals w vs ks ∧ Calls Tryd.prog 131 #[.slice a n c] w (CloneKTo vs n w) := by
  obtain ⟨i0, hi, hz0, hz1, hz2⟩ := info_parts infoS
  have qn : ∀ (w : World) (a : Option Addr) (n c n' c' : Nat), (binOp .eql 68 (.slice a n c) (.slice none n' c')).run Tryd.prog w = .ok (.bool a.isNone) w := fun w a n c n' c' => Lib.run_eql_slice_nil w _ _ a n c n' c' Tryd.underlying68
  cases a with
  | none =>
    obtain rfl := ha.2 rfl
    obtain rfl : n = 0 := by have := ha.1; omega
    obtain rfl : ks = [] := List.length_eq_zero_iff.1 hl.1
    refine ⟨[], ⟨rfl, fun i hi => by simp at hi⟩, ?_⟩
    clear hl ha
    go_enter Tryd.func131, Tryd.ntmps131
    go_wp2
    go_ret
    exact ⟨none, 0, rfl, ⟨Nat.le_refl _, fun _ => rfl⟩, ⟨rfl, .inl rfl⟩, Below.refl _ _⟩
  | some x =>
    obtain ⟨vs, hv, hc⟩ := hl.vals
    have hlen : vs.length = n := hv.1.trans hl.1
    refine ⟨vs, hv, ?_⟩
    have hone := hv.one
    have HLEN := Lib.hid hlen
    have HONE := Lib.hid hone
    have HSRC : Hid (∀ j u, vs[j]? = some u → (w.alloc (.cells #[] 67)).cell? (x.add j) = some u) := by
      intro j u hu
      rcases hl.2.2 with h | ⟨B, off, e, hB, _⟩
      · rw [h] at hlen
        rw [List.length_eq_zero_iff.1 hlen] at hu
        cases hu
      · cases e
        exact (((Below.refl w.heap.size w).alloc (Nat.le_refl _) _).cell (p := (⟨B, off, none⟩ : Addr).add j) (by rw [add_block]; exact hB)).trans (hc j u hu)
    clear hl ha hv hc hlen hone
    go_enter Tryd.func131, Tryd.ntmps131
    go_wp2_with (first
      | (at_builtin; refine wpList_append_own _ rfl _ _ 68 rfl w.heap.size 67 i0 (.slice none 0 0) 1 24 Tryd.underlying68 hi hz0 hz1 hz2 rfl (by decide) _ 0 [] rfl (World.ownsRow_made w #[] 0 (Nat.le_refl _) (by decide) rfl) x n c vs rfl (by rw [HLEN.out]; omega) HSRC.out HONE.out (by unfold maxLen; omega) (by omega) (by simp) ?_; intro v1 w1 hown1 hgrow1 _; refine Hid.out ?_))
    have hbel : Below w.heap.size w w1 := ((Below.refl _ _).alloc (Nat.le_refl _) _).grown hgrow1 (by simp) (fun k hk => by have h : some w.heap.size = some k := hk; cases h; exact Nat.le_refl _)
    rw [Nat.zero_add, List.nil_append] at hown1
    obtain ⟨a1, c1, rfl, hc1, ho1⟩ := valsOwn_of hown1
    have HO1 := Lib.hid ho1
    have HB1 := Lib.hid hbel
    clear hown1 hgrow1 ho1 hbel
    refine Lib.hid ?_
    go_wp2
    go_ret
    exact ⟨a1, c1, rfl, hc1, HO1.out, HB1.out⟩
end Go.Proofs.YthhpoihfaggafaaDoor
