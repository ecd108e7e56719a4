/-
  Messages and slices in memory; a pool in memory.
-/
import Derived.Test.YtifniehfbafcoaaPBase
import Derived.Test.YtifniehfbafcoaaGRow
import Derived.Test.YtifniehfbafcoaaGDuo
import Derived.Laws.OwnMore
namespace Go.Proofs.Ytifniehfbafcoaa
open Go Go.RowKit Go.Sort Go.Proofs

theorem encM_one (x : Ms) : ∀ v ∈ encM x, v.oneCell' = true := by
  intro v hv
  simp [encM] at hv
  rcases hv with rfl | rfl | rfl | rfl | rfl | rfl | rfl | rfl | rfl | rfl <;> rfl
def MsC : Cod Ms := ⟨encM, 10, by decide, fun _ => rfl, encM_one⟩
/-- a slice's header -/
abbrev Sl := Option Addr × Nat × Nat
abbrev slV (s : Sl) : Value := .slice s.1 s.2.1 s.2.2
def SlC : Cod Sl := ⟨fun s => [slV s], 1, by decide, fun _ => rfl, fun _ v hv => by simp at hv; subst hv; rfl⟩
theorem rowM : RowT Try.prog MsC 27 36 72 := ⟨Try.underlying27, MsV msZ, by kernel_rfl, rfl⟩
theorem rowS : RowT Try.prog SlC 57 27 24 := ⟨Try.underlying57, .slice none 0 0, by kernel_rfl, rfl⟩

/-- a message's cells, one by one -/
abbrev Ten (w : World) (B o : Nat) (x : Ms) : Prop :=
  w.cell? ⟨B, o, none⟩ = some (.int .i64 x.1.1.1) ∧ w.cell? ⟨B, o + 1, none⟩ = some (.int .i64 x.1.1.2.1) ∧ w.cell? ⟨B, o + 2, none⟩ = some (.int .i64 x.1.1.2.2) ∧
    w.cell? ⟨B, o + 3, none⟩ = some (.int .i64 x.1.2.1) ∧ w.cell? ⟨B, o + 4, none⟩ = some (.int .i64 x.1.2.2.1) ∧ w.cell? ⟨B, o + 5, none⟩ = some (.int .i64 x.1.2.2.2) ∧ w.cell? ⟨B, o + 6, none⟩ = some (.int .i64 x.2.1) ∧
    w.cell? ⟨B, o + 7, none⟩ = some (.bool x.2.2.1) ∧ w.cell? ⟨B, o + 8, none⟩ = some (.bool x.2.2.2.1) ∧ w.cell? ⟨B, o + 9, none⟩ = some (.int .i64 x.2.2.2.2)
theorem ten {w : World} {B o : Nat} {x : Ms} (h : MsC.Cell w B o x) : Ten w B o x :=
  ⟨h 0 (by decide), h 1 (by decide), h 2 (by decide), h 3 (by decide), h 4 (by decide), h 5 (by decide), h 6 (by decide), h 7 (by decide), h 8 (by decide), h 9 (by decide)⟩
/-- .. of a box: and none is frozen -/
theorem ten_box {w : World} {B : Nat} {x : Ms} (h : w.heap[B]? = some (.cells (encM x).toArray 36 (0, 0))) : Ten w B 0 x ∧ ∀ k, w.frozen? ⟨B, k, none⟩ = false :=
  ⟨ten (Cod.Cell.box (C := MsC) h), fun _ => frozen_of_row _ _ _ _ _ h⟩
theorem at_cell {w : World} {a : Option Addr} {n : Nat} {l : List Ms} (h : MsC.At w a n l) {i : Nat} (hi : i < n) : ∃ B off, a = some ⟨B, off, none⟩ ∧ B < w.heap.size ∧ ∃ x : Ms, l[i]? = some x ∧ MsC.Cell w B (off + i * 10) x := h.cell hi

section
variable {α : Type} {C : Cod α} {T : TypeId} {B : Nat} {w : World} {v : Value} {l : List α}
theorem Cod.Own.typ (h : C.Own T B w v l) {b : Nat} (e : v.ownBlock = some b) : ∃ cur, w.heap[b]? = some (.cells cur T (0, 0)) := by
  obtain ⟨_, ⟨e2, _⟩ | ⟨g, cap, cur, e2, _, hh, _⟩⟩ := h
  · rw [e2] at e; cases e
  · rw [e2] at e
    cases e
    exact ⟨cur, hh⟩
theorem Cod.Own.size {a : Option Addr} {n c : Nat} (h : C.Own T B w (.slice a n c) l) : n = l.length ∧ l.length ≤ c := by
  obtain ⟨_, ⟨e2, h0⟩ | ⟨g, cap, cur, e2, _, hh, hc, _⟩⟩ := h
  · cases e2; omega
  · cases e2; exact ⟨rfl, hc⟩
/-- its block, if it holds anything -/
theorem Cod.Own.some_ (h : C.Own T B w v l) (hl : 0 < l.length) : ∃ g c, v = .slice (some ⟨g, 0, none⟩) l.length c ∧ g < w.heap.size ∧ B ≤ g := by
  obtain ⟨_, ⟨e2, h0⟩ | ⟨g, cap, cur, e2, hg, hh, _⟩⟩ := h
  · omega
  · exact ⟨g, cap, e2, (Array.getElem?_eq_some_iff.1 hh).1, hg⟩
end

theorem slcells (vs : List Sl) : SlC.cells vs = vs.map slV := by
  induction vs with
  | nil => rfl
  | cons a t ih =>
    show slV a :: SlC.cells t = _
    rw [ih]
    rfl
theorem sl_cell {w : World} {T : TypeId} {g n c : Nat} {vs : List Sl} (h : SlC.Own T 0 w (.slice (some ⟨g, 0, none⟩) n c) vs) {j : Nat} {s : Sl} (hs : vs[j]? = some s) : w.cell? ⟨g, j, none⟩ = some (slV s) := by
  have hn := h.size.1
  subst hn
  have hj : j < vs.length := (List.getElem?_eq_some_iff.1 hs).1
  have := World.ownsRow.cellAt (h : w.ownsRow 0 T 1 _ vs.length (SlC.cells vs)) j (show j < vs.length * 1 by omega)
  rw [this, slcells, List.getElem?_map, hs]
  rfl
theorem sl_frozen {w : World} {T : TypeId} {g n c : Nat} {vs : List Sl} (h : SlC.Own T 0 w (.slice (some ⟨g, 0, none⟩) n c) vs) (j : Nat) : w.frozen? ⟨g, j, none⟩ = false := by
  have hn := h.size.1
  subst hn
  exact World.ownsRow.frozenAt (h : w.ownsRow 0 T 1 _ vs.length (SlC.cells vs)) j
theorem sl_set {w : World} {T : TypeId} {g n c : Nat} {vs : List Sl} (h : SlC.Own T 0 w (.slice (some ⟨g, 0, none⟩) n c) vs) (j : Nat) (s : Sl) : SlC.Own T 0 (w.setCell ⟨g, j, none⟩ (slV s)) (.slice (some ⟨g, 0, none⟩) n c) (vs.set j s) := by
  have hn := h.size.1
  subst hn
  have := (World.ownsRow.stored (h : w.ownsRow 0 T 1 _ vs.length (SlC.cells vs)) j (slV s)).1
  unfold Cod.Own
  rw [List.length_set, slcells, List.map_set, ← slcells]
  exact this

/-- a pool's blocks in memory; it says that m messages are there, that n were put -/
structure PlX (w : World) (G : Nat) (F : Nat → Prop) (v : Value) (vs : List Sl) (bs : List (List Ms)) (m n : Nat) : Prop where
  g : w.heap[G]? = some (.cells #[v, .int .i64 (m : Nat), .int .i64 (n : Nat)] 59 (0, 0))
  fG : F G
  lt : ∀ b, F b → b < w.heap.size
  row : SlC.Own 27 0 w v vs
  fV : ∀ b, v.ownBlock = some b → F b
  len : vs.length = bs.length
  own : ∀ (j : Nat) (s : Sl) (l : List Ms), vs[j]? = some s → bs[j]? = some l → MsC.Own 36 0 w (slV s) l
  fS : ∀ (j : Nat) (s : Sl) (b : Nat), vs[j]? = some s → (slV s).ownBlock = some b → F b
  apart : ∀ (i j : Nat) (s t : Sl) (b : Nat), i ≠ j → vs[i]? = some s → vs[j]? = some t → (slV s).ownBlock = some b → (slV t).ownBlock ≠ some b
  le : ∀ l ∈ bs, l.length ≤ 128

section
variable {w : World} {G : Nat} {F : Nat → Prop} {v : Value} {vs : List Sl} {bs : List (List Ms)} {m n : Nat}
theorem PlX.cells (h : PlX w G F v vs bs m n) : w.cell? ⟨G, 0, none⟩ = some v ∧ w.cell? ⟨G, 1, none⟩ = some (.int .i64 (m : Nat)) ∧ w.cell? ⟨G, 2, none⟩ = some (.int .i64 (n : Nat)) ∧ ∀ k, w.frozen? ⟨G, k, none⟩ = false :=
  ⟨by rw [cell_of_row _ _ _ _ _ _ h.g]; rfl, by rw [cell_of_row _ _ _ _ _ _ h.g]; rfl, by rw [cell_of_row _ _ _ _ _ _ h.g]; rfl, fun _ => frozen_of_row _ _ _ _ _ h.g⟩
theorem PlX.nG (h : PlX w G F v vs bs m n) : v.ownBlock ≠ some G := fun e => by
  obtain ⟨cur, hh⟩ := h.row.typ e
  rw [h.g] at hh
  cases hh
theorem PlX.ex (h : PlX w G F v vs bs m n) {j : Nat} {s : Sl} (hs : vs[j]? = some s) : ∃ l, bs[j]? = some l := by
  have hj : j < vs.length := (List.getElem?_eq_some_iff.1 hs).1
  rw [h.len] at hj
  exact ⟨_, List.getElem?_eq_getElem hj⟩
theorem PlX.ex2 (h : PlX w G F v vs bs m n) {j : Nat} (hj : j < bs.length) : ∃ s, vs[j]? = some s := by
  rw [← h.len] at hj
  exact ⟨_, List.getElem?_eq_getElem hj⟩
theorem PlX.sG (h : PlX w G F v vs bs m n) {j : Nat} {s : Sl} (hs : vs[j]? = some s) : (slV s).ownBlock ≠ some G := fun e => by
  obtain ⟨l, hl⟩ := h.ex hs
  obtain ⟨cur, hh⟩ := (h.own j s l hs hl).typ e
  rw [h.g] at hh
  cases hh
theorem PlX.sv (h : PlX w G F v vs bs m n) {j b : Nat} {s : Sl} (hs : vs[j]? = some s) (hb : (slV s).ownBlock = some b) : v.ownBlock ≠ some b := fun e => by
  obtain ⟨l, hl⟩ := h.ex hs
  obtain ⟨cur, hh⟩ := (h.own j s l hs hl).typ hb
  obtain ⟨cur', hh'⟩ := h.row.typ e
  rw [hh] at hh'
  cases hh'
theorem PlX.but {S : Nat → Prop} {w' : World} (h : PlX w G F v vs bs m n) (hb : But S w w') (hs : ∀ b, F b → ¬ S b) : PlX w' G F v vs bs m n :=
  ⟨(hb.block _ (h.lt _ h.fG) (hs _ h.fG)).trans h.g, h.fG, fun b e => Nat.lt_of_lt_of_le (h.lt b e) hb.size, h.row.but hb fun b e => hs b (h.fV b e), h.fV, h.len,
    fun j s l h1 h2 => (h.own j s l h1 h2).but hb fun b e => hs b (h.fS j s b h1 e), h.fS, h.apart, h.le⟩
theorem PlX.below {w' : World} (h : PlX w G F v vs bs m n) (hb : Below w.heap.size w w') : PlX w' G F v vs bs m n := h.but (S := fun _ => False) (But.of hb) fun _ _ e => e
theorem PlX.wide {T : Nat → Prop} (h : PlX w G F v vs bs m n) (h1 : ∀ b, F b → T b) (h2 : ∀ b, T b → b < w.heap.size) : PlX w G T v vs bs m n :=
  ⟨h.g, h1 _ h.fG, h2, h.row, fun b e => h1 b (h.fV b e), h.len, h.own, fun j s b h3 e => h1 b (h.fS j s b h3 e), h.apart, h.le⟩
/-- its own cells turned -/
theorem PlX.head {w' : World} {m' n' : Nat} (h : PlX w G F v vs bs m n) (hb : But (fun b => b = G) w w') (hg : w'.heap[G]? = some (.cells #[v, .int .i64 (m' : Nat), .int .i64 (n' : Nat)] 59 (0, 0))) : PlX w' G F v vs bs m' n' :=
  ⟨hg, h.fG, fun b e => Nat.lt_of_lt_of_le (h.lt b e) hb.size, h.row.but hb fun _ e e2 => h.nG (e2 ▸ e), h.fV, h.len,
    fun j s l h1 h2 => (h.own j s l h1 h2).but hb fun _ e e2 => h.sG h1 (e2 ▸ e), h.fS, h.apart, h.le⟩
theorem PlX.set1 {m' : Nat} (h : PlX w G F v vs bs m n) (u : Value) (hu : u = .int .i64 (m' : Nat)) : PlX (w.setCell ⟨G, 1, none⟩ u) G F v vs bs m' n := by
  subst hu
  refine h.head ((But.refl (fun b => b = G) _).setCell (p := ⟨G, 1, none⟩) rfl _) ?_
  rw [heap_setCell_same w G 1 _ _ _ h.g]
  rfl
theorem PlX.set2 {n' : Nat} (h : PlX w G F v vs bs m n) (u : Value) (hu : u = .int .i64 (n' : Nat)) : PlX (w.setCell ⟨G, 2, none⟩ u) G F v vs bs m n' := by
  subst hu
  refine h.head ((But.refl (fun b => b = G) _).setCell (p := ⟨G, 2, none⟩) rfl _) ?_
  rw [heap_setCell_same w G 2 _ _ _ h.g]
  rfl
/-- one of its blocks is another one now -/
theorem PlX.turn {w5 : World} {g k c j : Nat} {s s' : Sl} {l' : List Ms} (h : PlX w G F (.slice (some ⟨g, 0, none⟩) k c) vs bs m n) (hs : vs[j]? = some s) (hb : But (fun b => some b = (slV s).ownBlock) w w5)
    (ho : MsC.Own 36 0 w5 (slV s') l') (hl : l'.length ≤ 128) (hn : ∀ b, (slV s').ownBlock = some b → (slV s).ownBlock = some b ∨ w.heap.size ≤ b) :
    PlX (w5.setCell ⟨g, j, none⟩ (slV s')) G (Ext F w (w5.setCell ⟨g, j, none⟩ (slV s'))) (.slice (some ⟨g, 0, none⟩) k c) (vs.set j s') (bs.set j l') m n ∧ But F w (w5.setCell ⟨g, j, none⟩ (slV s')) := by
  have hj : j < vs.length := (List.getElem?_eq_some_iff.1 hs).1
  have hg := h.row.typ (b := g) rfl
  have hsV := fun b (e : (slV s).ownBlock = some b) => h.sv hs e
  have hb6 : But (fun b => b = g) w5 (w5.setCell ⟨g, j, none⟩ (slV s')) := (But.refl (fun b => b = g) _).setCell (p := ⟨g, j, none⟩) rfl _
  have hsz : w5.heap.size = (w5.setCell ⟨g, j, none⟩ (slV s')).heap.size := by simp [World.setCell]
  have fg : F g := h.fV g rfl
  have row5 : SlC.Own 27 0 w5 (.slice (some ⟨g, 0, none⟩) k c) vs := h.row.but hb fun b e e2 => hsV b e2.symm e
  have own5 : ∀ (i : Nat) (t : Sl) (l : List Ms), i ≠ j → vs[i]? = some t → bs[i]? = some l → MsC.Own 36 0 w5 (slV t) l := fun i t l hij h1 h2 =>
    (h.own i t l h1 h2).but hb fun b e e2 => h.apart i j t s b hij h1 hs e e2.symm
  have typ5 : ∃ cur, w5.heap[g]? = some (.cells cur 27 (0, 0)) := row5.typ rfl
  have ng5 : ∀ (t : Sl) (l : List Ms), MsC.Own 36 0 w5 (slV t) l → ∀ b, (slV t).ownBlock = some b → b ≠ g := fun t l ht b e e2 => by
    obtain ⟨cur, hh⟩ := ht.typ e
    obtain ⟨cur', hh'⟩ := typ5
    rw [e2, hh'] at hh
    cases hh
  have hbw : But F w (w5.setCell ⟨g, j, none⟩ (slV s')) := (hb.mono fun b _ e => h.fS j s b hs e.symm).trans (hb6.mono fun b _ e => e ▸ fg)
  have gG : (w5.setCell ⟨g, j, none⟩ (slV s')).heap[G]? = some (.cells #[.slice (some ⟨g, 0, none⟩) k c, .int .i64 (m : Nat), .int .i64 (n : Nat)] 59 (0, 0)) := by
    have hlt := h.lt _ h.fG
    refine (hb6.block _ (Nat.lt_of_lt_of_le hlt hb.size) fun e => h.nG (by rw [e]; rfl)).trans ((hb.block _ hlt fun e => h.sG hs e.symm).trans h.g)
  refine ⟨⟨gG, .inl h.fG, fun b e => ?_, sl_set row5 j s', fun b e => .inl (h.fV b e), by simpa using h.len, fun i t l h1 h2 => ?_, fun i t b h1 e => ?_, fun i i' t t' b hii h1 h2 e e2 => ?_, fun l hl' => ?_⟩, hbw⟩
  · rcases e with e | e
    · exact Nat.lt_of_lt_of_le (h.lt b e) hbw.size
    · exact e.2
  · by_cases hij : i = j
    · subst hij
      rw [List.getElem?_set_self hj] at h1
      rw [List.getElem?_set_self (by rw [← h.len]; exact hj)] at h2
      cases h1
      cases h2
      exact ho.but hb6 fun b e e2 => ng5 _ _ ho b e e2
    · rw [List.getElem?_set_ne (fun e => hij e.symm)] at h1 h2
      exact (own5 i t l hij h1 h2).but hb6 fun b e e2 => ng5 _ _ (own5 i t l hij h1 h2) b e e2
  · by_cases hij : i = j
    · subst hij
      rw [List.getElem?_set_self hj] at h1
      cases h1
      rcases hn b e with e2 | e2
      · exact .inl (h.fS i s b hs e2)
      · refine .inr ⟨e2, ?_⟩
        rw [← hsz]
        exact (ho.lt b e).2
    · rw [List.getElem?_set_ne (fun e => hij e.symm)] at h1
      exact .inl (h.fS i t b h1 e)
  · by_cases hij : i = j
    · subst hij
      rw [List.getElem?_set_self hj] at h1
      rw [List.getElem?_set_ne hii] at h2
      cases h1
      rcases hn b e with e3 | e3
      · exact h.apart i i' s t' b hii hs h2 e3 e2
      · have := h.lt b (h.fS i' t' b h2 e2)
        omega
    · rw [List.getElem?_set_ne (fun e => hij e.symm)] at h1
      by_cases hij' : i' = j
      · subst hij'
        rw [List.getElem?_set_self hj] at h2
        cases h2
        rcases hn b e2 with e3 | e3
        · exact h.apart i i' t s b hij h1 hs e e3
        · have := h.lt b (h.fS i t b h1 e)
          omega
      · rw [List.getElem?_set_ne (fun e => hij' e.symm)] at h2
        exact h.apart i i' t t' b hii h1 h2 e e2
  · rcases List.mem_or_eq_of_mem_set hl' with e | e
    · exact h.le l e
    · exact e ▸ hl
end

/-- a pool that stands for a list, and how many were put -/
def Pl (w : World) (G : Nat) (F : Nat → Prop) (x : List Ms × Nat) : Prop := ∃ v vs bs, PlX w G F v vs bs x.1.length x.2 ∧ bs.flatten = x.1 ∧ bs.length ≤ x.2 ∧ x.1.length ≤ x.2 ∧ x.2 ≤ 1000000
/-- as a thing -/
def plT : Thing (List Ms × Nat) where
  at_ := Pl
  lt := fun ⟨_, _, _, h, _⟩ => h.lt
  but := fun ⟨v, vs, bs, h, r⟩ hb hs => ⟨v, vs, bs, h.but hb hs, r⟩
end Go.Proofs.Ytifniehfbafcoaa
