/-
  Memory, for any program: what turns and what does not; worlds that grow; rows of structs of k cells: read, owned, appended to.
-/
import Derived.Laws.AppendOwn
import Derived.Laws.AppendOwnNone
import Derived.Laws.Rows
import Derived.Laws.OwnMore
import Derived.Below
import Derived.OwnWalk
import Derived.Deep.RegionLaw
import Derived.Sort.Grow
import Derived.Shelf.SlSortCmp.QuietGrown
import Derived.Shelf.SlSortCmp.KitK
import Derived.Lib.Hide
namespace Go.Proofs.YthhpoihfaggafaaDoor
open Go Go.RowKit Go.Sort Go.Proofs

/-- nothing that was there has turned, but in the blocks S -/
structure But (S : Nat → Prop) (w w' : World) : Prop where
  os : w'.os = w.os
  tape : w'.tape = w.tape
  output : w'.output = w.output
  size : w.heap.size ≤ w'.heap.size
  block : ∀ k, k < w.heap.size → ¬ S k → w'.heap[k]? = w.heap[k]?
theorem But.refl (S : Nat → Prop) (w : World) : But S w w := ⟨rfl, rfl, rfl, Nat.le_refl _, fun _ _ _ => rfl⟩
theorem But.next {S T : Nat → Prop} {a b c : World} (h : But S a b) (k : But T b c) (hT : ∀ j, j < a.heap.size → T j → S j) : But S a c :=
  ⟨k.os.trans h.os, k.tape.trans h.tape, k.output.trans h.output, Nat.le_trans h.size k.size,
    fun i hi hs => (k.block i (Nat.lt_of_lt_of_le hi h.size) (fun t => hs (hT i hi t))).trans (h.block i hi hs)⟩
theorem But.trans {S : Nat → Prop} {a b c : World} (h : But S a b) (k : But S b c) : But S a c := h.next k fun _ _ t => t
theorem But.mono {S T : Nat → Prop} {a b : World} (h : But S a b) (hT : ∀ j, j < a.heap.size → S j → T j) : But T a b :=
  ⟨h.os, h.tape, h.output, h.size, fun k hk ht => h.block k hk fun s => ht (hT k hk s)⟩
theorem But.of {S : Nat → Prop} {a b : World} (h : Below a.heap.size a b) : But S a b := ⟨h.os, h.tape, h.output, h.size, fun k hk _ => h.block k hk⟩
theorem But.grown {a b : World} {row : Option Nat} (h : a.grownBy b row) : But (fun k => some k = row) a b := ⟨h.os, h.tape, h.output, h.size, h.block⟩
theorem But.below {S : Nat → Prop} {a b : World} (h : But S a b) {B : Nat} (hB : B ≤ a.heap.size) (hS : ∀ k, S k → B ≤ k) : Below B a b :=
  ⟨h.os, h.tape, h.output, h.size, fun k hk => h.block k (by omega) fun s => by have := hS k s; omega⟩
theorem But.alloc {S : Nat → Prop} {a b : World} (h : But S a b) (o : Obj) : But S a (b.alloc o) :=
  h.trans ⟨rfl, rfl, rfl, by simp, fun k hk _ => Below.heap_alloc _ _ _ hk⟩
theorem But.drew {S : Nat → Prop} {a b : World} (h : But S a b) : But S a b.drew := ⟨h.os, h.tape, h.output, h.size, h.block⟩
theorem But.setCell {S : Nat → Prop} {a b : World} (h : But S a b) {p : Addr} (hp : S p.block) (u : Value) : But S a (b.setCell p u) :=
  h.trans ⟨rfl, rfl, rfl, by simp [World.setCell], fun k _ hs => Below.heap_setCell _ _ _ _ (fun e => hs (e ▸ hp))⟩
/-- those, and what has been laid since -/
def Ext (F : Nat → Prop) (w w' : World) : Nat → Prop := fun b => F b ∨ (w.heap.size ≤ b ∧ b < w'.heap.size)

/-- some draws on, some blocks behind -/
def Gw (w w' : World) : Prop := ∃ q os, w' = grow (w.drewN q) os
theorem Gw.refl (w : World) : Gw w w := ⟨0, #[], by rw [grow_empty]; rfl⟩
theorem Gw.trans {a b c : World} (h : Gw a b) (h' : Gw b c) : Gw a c := by
  obtain ⟨q, os, rfl⟩ := h
  obtain ⟨q', os', rfl⟩ := h'
  exact ⟨q + q', os ++ os', by show grow (grow ((a.drewN q).drewN q') os) os' = _; rw [grow_grow, World.drewN_drewN]⟩
theorem Gw.drew {a b : World} (h : Gw a b) : Gw a b.drew := h.trans ⟨1, #[], by rw [grow_empty]; rfl⟩
theorem Gw.alloc {a b : World} (h : Gw a b) (o : Obj) : Gw a (b.alloc o) := h.trans ⟨0, #[o], by rw [alloc_eq_grow]; rfl⟩
theorem Gw.grow {a b : World} (h : Gw a b) (os : Array Obj) : Gw a (grow b os) := h.trans ⟨0, os, rfl⟩
theorem Gw.of (w : World) (n : Nat) (os : Array Obj) : Gw w (Go.Sort.grow (w.drewN n) os) := ⟨n, os, rfl⟩
theorem Gw.size {a b : World} (h : Gw a b) : a.heap.size ≤ b.heap.size := by
  obtain ⟨q, os, rfl⟩ := h
  rw [size_grow]
  exact Nat.le_add_right _ _
theorem Gw.cell {a b : World} (h : Gw a b) {p : Addr} {v : Value} (hc : a.cell? p = some v) : b.cell? p = some v := by
  obtain ⟨q, os, rfl⟩ := h
  exact cell_grown (World.block_lt_of_cell? a _ hc) hc q os
theorem Gw.block {a b : World} (h : Gw a b) {k : Nat} (hk : k < a.heap.size) : b.heap[k]? = a.heap[k]? := by
  obtain ⟨q, os, rfl⟩ := h
  exact heap_grow_old (a.drewN q) os (by exact hk)
theorem Gw.below {a b : World} (h : Gw a b) : Below a.heap.size a b := by
  obtain ⟨q, os, rfl⟩ := h
  exact ⟨rfl, rfl, rfl, by rw [size_grow]; exact Nat.le_add_right _ _, fun k hk => heap_grow_old (a.drewN q) os (by exact hk)⟩
theorem But.gw {S : Nat → Prop} {a b c : World} (h : But S a b) (g : Gw b c) : But S a c := h.next (T := fun _ => False) (But.of g.below) fun _ _ h => h.elim
/-- an answer; blocks are laid behind; .. and some draws on -/
def Tells (v : Value) (w : World) (e : Ending) (w' : World) : Prop := e = .returned v ∧ Below w.heap.size w w'
def GwV (v : Value) (w : World) (e : Ending) (w' : World) : Prop := e = .returned v ∧ Gw w w'
theorem GwV.tells {v : Value} {w : World} {e : Ending} {w' : World} (h : GwV v w e w') : Tells v w e w' := ⟨h.1, h.2.below⟩
/-- .. met in a world of the class, for a quiet walk -/
theorem GwV.calls {P : Program} {f : Nat} {args : Array Value} {v : Value} {w : World} {n : Nat} {os : Array Obj} (h : Calls P f args (grow (w.drewN n) os) (GwV v (grow (w.drewN n) os))) :
    Calls P f args (grow (w.drewN n) os) fun e w'' => e = .returned v ∧ ∃ p : GrownBy, w'' = grow (w.drewN p.n) p.os :=
  Calls.grown_of (h.mono fun _ _ ⟨he, hg⟩ => ⟨he, hg⟩)

/-- how a struct lies in cells -/
structure Cod (α : Type) where
  enc : α → List Value
  k : Nat
  pos : 0 < k
  len : ∀ x, (enc x).length = k
  one : ∀ x, ∀ v ∈ enc x, v.oneCell' = true

section
variable {α : Type} (C : Cod α)
/-- their cells, one behind the other -/
def Cod.cells (l : List α) : List Value := l.flatMap C.enc
theorem Cod.cells_len (l : List α) : (C.cells l).length = l.length * C.k := by
  induction l with
  | nil => simp [Cod.cells]
  | cons a t ih =>
    show (C.enc a ++ C.cells t).length = _
    rw [List.length_append, ih, C.len, List.length_cons, Nat.add_mul, Nat.one_mul]
    omega
theorem Cod.cells_app (l m : List α) : C.cells (l ++ m) = C.cells l ++ C.cells m := by simp [Cod.cells]
theorem Cod.cells_single (x : α) : C.cells [x] = C.enc x := by simp [Cod.cells]
theorem Cod.cells_one (l : List α) : ∀ v ∈ C.cells l, v.oneCell' = true := by
  intro v hv
  obtain ⟨x, _, h⟩ := List.mem_flatMap.1 hv
  exact C.one x v h
theorem Cod.cells_get : ∀ (l : List α) (i c : Nat) (hi : i < l.length), c < C.k → (C.cells l)[i * C.k + c]? = (C.enc l[i])[c]?
  | a :: t, 0, c, _, hc => by
    show (C.enc a ++ C.cells t)[0 * C.k + c]? = _
    rw [List.getElem?_append_left (by rw [C.len]; omega), Nat.zero_mul, Nat.zero_add]
    rfl
  | a :: t, i + 1, c, hi, hc => by
    show (C.enc a ++ C.cells t)[(i + 1) * C.k + c]? = _
    have e : (i + 1) * C.k + c = C.k + (i * C.k + c) := by rw [Nat.add_mul, Nat.one_mul]; omega
    rw [e, List.getElem?_append_right (by rw [C.len]; omega), C.len, Nat.add_sub_cancel_left, Cod.cells_get t i c (by simpa using hi) hc]
    rfl
/-- one lies at a place -/
def Cod.Cell (w : World) (B o : Nat) (x : α) : Prop := ∀ c, c < C.k → w.cell? ⟨B, o + c, none⟩ = (C.enc x)[c]?
variable {C}
theorem Cod.Cell.same {w w' : World} {B o : Nat} {x : α} (h : C.Cell w B o x) (hb : w'.heap[B]? = w.heap[B]?) : C.Cell w' B o x := fun c hc => (World.cell?_of_block (w := w) (a := ⟨B, o + c, none⟩) hb).trans (h c hc)
theorem Cod.Cell.below {w w' : World} {K B o : Nat} {x : α} (h : C.Cell w B o x) (hb : Below K w w') (hK : B < K) : C.Cell w' B o x := h.same (hb.block B hK)
theorem Cod.Cell.load {w : World} {B o : Nat} {x : α} (h : C.Cell w B o x) (P : Program) : Sem.run P (loadCellsFrom ⟨B, o, none⟩ 0 C.k #[]) w = .ok (C.enc x).toArray w :=
  run_loadCellsFrom_list P w _ _ C.k (C.len x) fun j v hj => by
    have hlt : j < C.k := by have := (List.getElem?_eq_some_iff.1 hj).1; rwa [C.len] at this
    have := h j hlt
    rw [hj] at this
    rw [Addr.add_lit]
    exact this
/-- a box of one -/
theorem Cod.Cell.box {w : World} {B : Nat} {x : α} {T : TypeId} {m : Nat × Nat} (h : w.heap[B]? = some (.cells (C.enc x).toArray T m)) : C.Cell w B 0 x := fun c _ => by
  obtain ⟨m1, m2⟩ := m
  rw [Nat.zero_add, cell_of_row _ _ _ _ _ _ h]
  simp
variable (C) in
/-- a slice reads as a list -/
def Cod.At (w : World) (a : Option Addr) (n : Nat) (l : List α) : Prop :=
  l.length = n ∧ n ≤ 1000000 ∧ (n = 0 ∨ ∃ B off, a = some ⟨B, off, none⟩ ∧ B < w.heap.size ∧ ∀ i (hi : i < l.length), C.Cell w B (off + i * C.k) l[i])
theorem Cod.At.nil (w : World) : C.At w none 0 [] := ⟨rfl, Nat.zero_le _, .inl rfl⟩
theorem Cod.At.same {w w' : World} {a : Option Addr} {n : Nat} {l : List α} (h : C.At w a n l) (hz : w.heap.size ≤ w'.heap.size) (hb : ∀ p, a = some p → p.block < w.heap.size → w'.heap[p.block]? = w.heap[p.block]?) : C.At w' a n l := by
  obtain ⟨h1, h2, h3 | ⟨B, off, e, hB, hc⟩⟩ := h
  · exact ⟨h1, h2, .inl h3⟩
  · exact ⟨h1, h2, .inr ⟨B, off, e, Nat.lt_of_lt_of_le hB hz, fun i hi => (hc i hi).same (hb _ e hB)⟩⟩
theorem Cod.At.below {w w' : World} {a : Option Addr} {n : Nat} {l : List α} (h : C.At w a n l) (hb : Below w.heap.size w w') : C.At w' a n l := h.same hb.size fun _ _ hp => hb.block _ hp
theorem Cod.At.but {S : Nat → Prop} {w w' : World} {a : Option Addr} {n : Nat} {l : List α} (h : C.At w a n l) (hb : But S w w') (hs : ∀ p, a = some p → ¬ S p.block) : C.At w' a n l := h.same hb.size fun p e hp => hb.block _ hp (hs p e)
theorem Cod.At.cell {w : World} {a : Option Addr} {n : Nat} {l : List α} (h : C.At w a n l) {i : Nat} (hi : i < n) : ∃ B off, a = some ⟨B, off, none⟩ ∧ B < w.heap.size ∧ ∃ x : α, l[i]? = some x ∧ C.Cell w B (off + i * C.k) x := by
  obtain ⟨h1, _, h3 | ⟨B, off, rfl, hB, hc⟩⟩ := h
  · omega
  · exact ⟨B, off, rfl, hB, l[i]'(by omega), List.getElem?_eq_getElem (by omega), hc i (by omega)⟩
theorem Cod.At.news {w : World} {ad : Addr} {n : Nat} {l : List α} (h : C.At w (some ad) n l) : ∀ j u, (C.cells l)[j]? = some u → w.cell? (ad.add j) = some u := by
  intro j u hj
  have hp := C.pos
  have hlt : j < l.length * C.k := by
    rw [← C.cells_len]
    exact (List.getElem?_eq_some_iff.1 hj).1
  have hm := Nat.mod_lt j hp
  have hd : j / C.k < l.length := Nat.div_lt_of_lt_mul (by rw [Nat.mul_comm]; exact hlt)
  have e := C.cells_get l (j / C.k) (j % C.k) hd hm
  have ed : j / C.k * C.k + j % C.k = j := by rw [Nat.mul_comm]; exact Nat.div_add_mod j C.k
  rw [ed] at e
  obtain ⟨h1, _, h3 | ⟨B', off', e', hB, hc⟩⟩ := h
  · rw [h1, h3, Nat.zero_mul] at hlt
    omega
  · cases e'
    rw [Addr.add_lit]
    have := hc (j / C.k) hd (j % C.k) hm
    rw [Nat.add_assoc, ed] at this
    rw [this, ← e, hj]
/-- a part of them -/
theorem Cod.At.part {w : World} {a : Option Addr} {n : Nat} {l : List α} (h : C.At w a n l) (lo hi : Nat) (h1 : lo ≤ hi) (h2 : hi ≤ n) (B off : Nat) (ha : a = some ⟨B, off, none⟩) : C.At w (some ⟨B, off + lo * C.k, none⟩) (hi - lo) ((l.take hi).drop lo) := by
  obtain ⟨g1, g2, g3⟩ := h
  subst ha
  refine ⟨by simp; omega, by omega, ?_⟩
  rcases g3 with g3 | ⟨B', off', e', hB, hc⟩
  · left; omega
  · cases e'
    refine .inr ⟨_, _, rfl, hB, fun i hi' => ?_⟩
    have hl : lo + i < l.length := by simp at hi'; omega
    have := hc (lo + i) hl
    rw [show off + lo * C.k + i * C.k = off + (lo + i) * C.k by rw [Nat.add_mul]; omega]
    have e : ((l.take hi).drop lo)[i] = l[lo + i] := by simp
    rw [e]
    exact this
theorem Cod.At.front {w : World} {a : Option Addr} {n : Nat} {l : List α} (h : C.At w a n l) (q : Nat) (hq : q ≤ n) : C.At w a q (l.take q) := by
  obtain ⟨g1, g2, g3⟩ := h
  refine ⟨by simp; omega, by omega, ?_⟩
  rcases g3 with g3 | ⟨B', off', e', hB, hc⟩
  · left; omega
  · refine .inr ⟨B', off', e', hB, fun i hi => ?_⟩
    have hl : i < l.length := by simp at hi; omega
    have := hc i hl
    rwa [List.getElem_take]

variable (C) in
/-- a list in a row of the call's own, from base on -/
def Cod.Own (T : TypeId) (base : Nat) (w : World) (v : Value) (l : List α) : Prop := w.ownsRow base T C.k v l.length (C.cells l)
section
variable {T : TypeId}
theorem Cod.Own.nil (base : Nat) (w : World) : C.Own T base w (.slice none 0 0) [] := World.ownsRow_nil _ _ _ _
theorem Cod.Own.shape {B : Nat} {w : World} {v : Value} {l : List α} (h : C.Own T B w v l) : ∃ a n c, v = .slice a n c := by
  obtain ⟨h1, ⟨rfl, _⟩ | ⟨g, cap, cur, rfl, _⟩⟩ := h
  · exact ⟨_, _, _, rfl⟩
  · exact ⟨_, _, _, rfl⟩
theorem Cod.Own.mono {B B' : Nat} {w : World} {v : Value} {l : List α} (h : C.Own T B w v l) (hB : B' ≤ B) : C.Own T B' w v l := by
  obtain ⟨h1, h2 | ⟨g, cap, cur, e, hg, r⟩⟩ := h
  · exact ⟨h1, .inl h2⟩
  · exact ⟨h1, .inr ⟨g, cap, cur, e, Nat.le_trans hB hg, r⟩⟩
theorem Cod.Own.lt {B : Nat} {w : World} {v : Value} {l : List α} (h : C.Own T B w v l) : ∀ b, v.ownBlock = some b → B ≤ b ∧ b < w.heap.size := fun b e => World.ownsRow.lt h b e
theorem Cod.Own.but {S : Nat → Prop} {B : Nat} {w w' : World} {v : Value} {l : List α} (h : C.Own T B w v l) (hb : But S w w') (hs : ∀ b, v.ownBlock = some b → ¬ S b) : C.Own T B w' v l := by
  refine ⟨h.1, ?_⟩
  rcases h.2 with h2 | ⟨g, cap, cur, e, hg, hh, rest⟩
  · exact .inl h2
  · exact .inr ⟨g, cap, cur, e, hg, (hb.block g (Array.getElem?_eq_some_iff.1 hh).1 (hs g (by rw [e]; rfl))).trans hh, rest⟩
theorem Cod.Own.below {B : Nat} {w w' : World} {v : Value} {l : List α} (h : C.Own T B w v l) (hb : Below w.heap.size w w') : C.Own T B w' v l := h.but (S := fun _ => False) (But.of hb) fun _ _ e => e
theorem Cod.Own.at_ {B : Nat} {w : World} {v : Value} {l : List α} (h : C.Own T B w v l) (hl : l.length ≤ 1000000) : ∃ a c, v = .slice a l.length c ∧ l.length ≤ c ∧ C.At w a l.length l ∧ (∀ b, v.ownBlock = some b → a = some ⟨b, 0, none⟩ ∧ B ≤ b) ∧ ((a = none ∧ l = [] ∧ c = 0) ∨ ∃ g, a = some ⟨g, 0, none⟩) := by
  have h' : w.ownsRow B T C.k v l.length (C.cells l) := h
  obtain ⟨h1, ⟨rfl, hn⟩ | ⟨g, cap, cur, rfl, hg, hh, hc, _, hs, ht⟩⟩ := h
  · exact ⟨none, 0, by rw [hn], by omega, ⟨rfl, hl, .inl hn⟩, (fun b e => by cases e), .inl ⟨rfl, List.length_eq_zero_iff.1 hn, rfl⟩⟩
  · refine ⟨_, cap, rfl, hc, ⟨rfl, hl, .inr ⟨g, 0, rfl, (Array.getElem?_eq_some_iff.1 hh).1, fun i hi c hck => ?_⟩⟩, (fun b e => by cases e; exact ⟨rfl, hg⟩), .inr ⟨g, rfl⟩⟩
    have e := C.cells_get l i c hi hck
    have hlt : i * C.k + c < (C.enc l[i]).length + i * C.k := by rw [C.len]; omega
    cases hu : (C.enc l[i])[c]? with
    | none =>
      rw [List.getElem?_eq_none_iff, C.len] at hu
      omega
    | some u =>
      rw [hu] at e
      have := h'.cells (g := g) rfl _ _ e
      rwa [Addr.add_lit, ← Nat.add_assoc] at this
end
end
end Go.Proofs.YthhpoihfaggafaaDoor
