/-
  A run in memory, and what leaves it as it is.
-/
import Derived.Test.YthhpoihfaggafaaDoorVBase
namespace Go.Proofs.YthhpoihfaggafaaDoor
open Go Go.RowKit Go.Sort Go.Proofs CodM VmM

/-- what stays through a run: the world when it began, its box, the stack's room, the machine, the event, the code -/
structure Fx where
  w0 : World
  R : Nat
  K : Nat
  M : Nat
  m : Mch
  pv : Int
  kv : Value
  e : Ev
  cd : List Ins
  ca : Option Addr
  cc : Nat
  Ds : List (Nat × Array Value × TypeId)
abbrev boxC (X : Fx) (nx : Nat) (vv : Value) (sent drawn : Int) (sv tv : Value) (n : Nat) : Array Value :=
  #[.pointer (some ⟨X.M, 0, none⟩), .int .i64 X.e.time, .int .i64 X.e.org, .int .i64 X.e.seq, .int .i64 X.e.to, .int .i64 X.e.kind, .int .i64 X.e.data, .slice X.ca X.cd.length X.cc, .int .i64 (nx : Int), vv, .int .i64 sent, .int .i64 drawn, sv, tv, .slice (some ⟨X.K, 0, none⟩) n 16]
abbrev mchC (X : Fx) : Array Value := #[.int .i64 X.pv, X.kv, .int .i64 X.m.self, .int .i64 X.m.procs, .int .i64 X.m.seed]
structure Fx.Ok (X : Fx) : Prop where
  mch : X.w0.heap[X.M]? = some (.cells (mchC X) 132 (0, 0))
  code : InsAt X.w0 X.ca X.cd.length X.cd
  R0 : X.w0.heap.size ≤ X.R
  K0 : X.w0.heap.size ≤ X.K
  time : 0 ≤ X.e.time ∧ X.e.time ≤ 1099511627776
  procs : 1 ≤ X.m.procs ∧ X.m.procs ≤ 16
  self : 1 ≤ X.m.self ∧ X.m.self ≤ 16
  dT : ∀ p ∈ X.Ds, p.2.2 ≠ 176 ∧ p.2.2 ≠ 173 ∧ p.2.2 ≠ 2 ∧ p.2.2 ≠ 45 ∧ p.2.2 ≠ 224
def intsV (l : List Int) : List Value := l.map fun n => Value.int .i64 n
theorem intsV_length (l : List Int) : (intsV l).length = l.length := by simp [intsV]
def RoomAt (W : World) (K : Nat) (l : List Int) : Prop := ∃ rest : List Value, W.heap[K]? = some (.cells (intsV l ++ rest).toArray 173 (0, 0)) ∧ l.length + rest.length = 16
/-- how far it is -/
structure St (X : Fx) (W : World) (s : Run) (vv sv tv : Value) : Prop where
  below : Below X.w0.heap.size X.w0 W
  box : W.heap[X.R]? = some (.cells (boxC X s.next vv s.sent s.drawn sv tv s.stack.length) 176 (0, 0))
  room : RoomAt W X.K s.stack
  vars : CV.Own 2 X.w0.heap.size W vv s.vars
  sends : CEv.Own 45 X.w0.heap.size W sv s.sends
  tells : CRc.Own 224 X.w0.heap.size W tv s.tells
  ls : s.stack.length ≤ 16
  hs : s.sends.length ≤ 4
  ht : s.tells.length ≤ 4
  kept : ∀ p ∈ X.Ds, W.heap[p.1]? = some (.cells p.2.1 p.2.2 (0, 0))
def At (X : Fx) (s : Run) (W : World) : Prop := ∃ vv sv tv, St X W s vv sv tv

theorem Cod.Own.typ {α : Type} {C : Cod α} {T : TypeId} {B : Nat} {w : World} {v : Value} {l : List α} (h : C.Own T B w v l) {b : Nat} (e : v.ownBlock = some b) : ∃ cur, w.heap[b]? = some (.cells cur T (0, 0)) := by
  obtain ⟨_, ⟨e2, _⟩ | ⟨g, cap, cur, e2, _, hh, _⟩⟩ := h
  · rw [e2] at e; cases e
  · rw [e2] at e
    cases e
    exact ⟨cur, hh⟩
theorem ne_types {w : World} {a b : Nat} {x y : Array Value} {S T : TypeId} (h1 : w.heap[a]? = some (.cells x S (0, 0))) (h2 : w.heap[b]? = some (.cells y T (0, 0))) (hne : S ≠ T) : a ≠ b := by
  rintro rfl
  rw [h1] at h2
  cases h2
  exact hne rfl
section
variable {X : Fx} {W W' : World} {s : Run} {vv sv tv : Value}
theorem St.RK (h : St X W s vv sv tv) : X.R ≠ X.K := by
  obtain ⟨rest, h2, _⟩ := h.room
  exact ne_types h.box h2 (by decide)
theorem St.vne (h : St X W s vv sv tv) {b : Nat} (e : vv.ownBlock = some b) : b ≠ X.R ∧ b ≠ X.K := by
  obtain ⟨cur, h1⟩ := h.vars.typ e
  obtain ⟨rest, h2, _⟩ := h.room
  exact ⟨ne_types h1 h.box (by decide), ne_types h1 h2 (by decide)⟩
theorem St.sne (h : St X W s vv sv tv) {b : Nat} (e : sv.ownBlock = some b) : b ≠ X.R ∧ b ≠ X.K := by
  obtain ⟨cur, h1⟩ := h.sends.typ e
  obtain ⟨rest, h2, _⟩ := h.room
  exact ⟨ne_types h1 h.box (by decide), ne_types h1 h2 (by decide)⟩
theorem St.tne (h : St X W s vv sv tv) {b : Nat} (e : tv.ownBlock = some b) : b ≠ X.R ∧ b ≠ X.K := by
  obtain ⟨cur, h1⟩ := h.tells.typ e
  obtain ⟨rest, h2, _⟩ := h.room
  exact ⟨ne_types h1 h.box (by decide), ne_types h1 h2 (by decide)⟩
theorem St.vs (h : St X W s vv sv tv) {b c : Nat} (e : vv.ownBlock = some b) (e2 : sv.ownBlock = some c) : b ≠ c := by
  obtain ⟨cur, h1⟩ := h.vars.typ e
  obtain ⟨cur2, h2⟩ := h.sends.typ e2
  exact ne_types h1 h2 (by decide)
theorem St.vt (h : St X W s vv sv tv) {b c : Nat} (e : vv.ownBlock = some b) (e2 : tv.ownBlock = some c) : b ≠ c := by
  obtain ⟨cur, h1⟩ := h.vars.typ e
  obtain ⟨cur2, h2⟩ := h.tells.typ e2
  exact ne_types h1 h2 (by decide)
theorem St.st (h : St X W s vv sv tv) {b c : Nat} (e : sv.ownBlock = some b) (e2 : tv.ownBlock = some c) : b ≠ c := by
  obtain ⟨cur, h1⟩ := h.sends.typ e
  obtain ⟨cur2, h2⟩ := h.tells.typ e2
  exact ne_types h1 h2 (by decide)
theorem RoomAt.but {K : Nat} {l : List Int} {S : Nat → Prop} (h : RoomAt W K l) (hb : But S W W') (hs : ¬ S K) : RoomAt W' K l := by
  obtain ⟨rest, h1, h2⟩ := h
  exact ⟨rest, (hb.block _ (Array.getElem?_eq_some_iff.1 h1).1 hs).trans h1, h2⟩
/-- blocks laid behind, draws -/
theorem St.next (h : St X W s vv sv tv) (hb : Below W.heap.size W W') : St X W' s vv sv tv := by
  have hb' : But (fun _ => False) W W' := But.of hb
  exact ⟨h.below.trans (hb.mono h.below.size), (hb.block _ (Array.getElem?_eq_some_iff.1 h.box).1).trans h.box, h.room.but hb' (fun e => e), h.vars.below hb, h.sends.below hb, h.tells.below hb, h.ls, h.hs, h.ht, fun p hp => (hb.block _ (Array.getElem?_eq_some_iff.1 (h.kept p hp)).1).trans (h.kept p hp)⟩
theorem St.drew (h : St X W s vv sv tv) : St X W.drew s vv sv tv := h.next (Below.refl _ _).drew
/-- the box's cells -/
theorem St.cells (h : St X W s vv sv tv) : W.cell? ⟨X.R, 0, none⟩ = some (.pointer (some ⟨X.M, 0, none⟩)) ∧ W.cell? ⟨X.R, 7, none⟩ = some (.slice X.ca X.cd.length X.cc) ∧ W.cell? ⟨X.R, 8, none⟩ = some (.int .i64 (s.next : Int)) ∧
    W.cell? ⟨X.R, 9, none⟩ = some vv ∧ W.cell? ⟨X.R, 10, none⟩ = some (.int .i64 s.sent) ∧ W.cell? ⟨X.R, 11, none⟩ = some (.int .i64 s.drawn) ∧ W.cell? ⟨X.R, 12, none⟩ = some sv ∧ W.cell? ⟨X.R, 13, none⟩ = some tv ∧
    W.cell? ⟨X.R, 14, none⟩ = some (.slice (some ⟨X.K, 0, none⟩) s.stack.length 16) := by
  refine ⟨?_, ?_, ?_, ?_, ?_, ?_, ?_, ?_, ?_⟩ <;> (rw [cell_of_row _ _ _ _ _ _ h.box]; rfl)
theorem St.event (h : St X W s vv sv tv) : W.cell? ⟨X.R, 1, none⟩ = some (.int .i64 X.e.time) ∧ W.cell? ⟨X.R, 2, none⟩ = some (.int .i64 X.e.org) ∧ W.cell? ⟨X.R, 3, none⟩ = some (.int .i64 X.e.seq) ∧
    W.cell? ⟨X.R, 4, none⟩ = some (.int .i64 X.e.to) ∧ W.cell? ⟨X.R, 5, none⟩ = some (.int .i64 X.e.kind) ∧ W.cell? ⟨X.R, 6, none⟩ = some (.int .i64 X.e.data) := by
  refine ⟨?_, ?_, ?_, ?_, ?_, ?_⟩ <;> (rw [cell_of_row _ _ _ _ _ _ h.box]; rfl)
theorem St.machine (h : St X W s vv sv tv) (hX : X.Ok) : W.heap[X.M]? = some (.cells (mchC X) 132 (0, 0)) := (h.below.block _ (Array.getElem?_eq_some_iff.1 hX.mch).1).trans hX.mch
theorem St.mcells (h : St X W s vv sv tv) (hX : X.Ok) : W.cell? ⟨X.M, 2, none⟩ = some (.int .i64 X.m.self) ∧ W.cell? ⟨X.M, 3, none⟩ = some (.int .i64 X.m.procs) ∧ W.cell? ⟨X.M, 4, none⟩ = some (.int .i64 X.m.seed) := by
  refine ⟨?_, ?_, ?_⟩ <;> (rw [cell_of_row _ _ _ _ _ _ (h.machine hX)]; rfl)
theorem St.free (h : St X W s vv sv tv) (j : Nat) : W.frozen? ⟨X.R, j, none⟩ = false := frozen_of_row _ _ _ _ _ h.box
/-- a number on the stack -/
theorem St.at_ (h : St X W s vv sv tv) {i : Nat} (hi : i < s.stack.length) : W.cell? ⟨X.K, i, none⟩ = some (.int .i64 (s.stack.getD i 0)) := by
  obtain ⟨rest, h1, _⟩ := h.room
  rw [cell_of_row _ _ _ _ _ _ h1, List.getElem?_toArray, List.getElem?_append_left (by rw [intsV_length]; exact hi)]
  simp [intsV, List.getD, hi]
/-- the box alone turns: another cell of it -/
theorem St.turn {s' : Run} {vv' sv' tv' : Value} (h : St X W s vv sv tv) (hX : X.Ok) (j : Nat) (u : Value) (hbox : (boxC X s.next vv s.sent s.drawn sv tv s.stack.length).setIfInBounds j u = boxC X s'.next vv' s'.sent s'.drawn sv' tv' s'.stack.length)
    (hroom : RoomAt W X.K s'.stack) (hv : vv' = vv ∧ s'.vars = s.vars) (hs : sv' = sv ∧ s'.sends = s.sends) (ht : tv' = tv ∧ s'.tells = s.tells) : St X (W.setCell ⟨X.R, j, none⟩ u) s' vv' sv' tv' := by
  have hb : But (fun k => k = X.R) W (W.setCell ⟨X.R, j, none⟩ u) := (But.refl (fun k => k = X.R) _).setCell (p := ⟨X.R, j, none⟩) rfl _
  obtain ⟨rfl, e1⟩ := hv
  obtain ⟨rfl, e2⟩ := hs
  obtain ⟨rfl, e3⟩ := ht
  refine ⟨h.below.setCell (p := ⟨X.R, j, none⟩) hX.R0 _, ?_, hroom.but hb (fun e => h.RK e.symm), ?_, ?_, ?_, ?_, ?_, ?_, fun p hp => (hb.block _ (Array.getElem?_eq_some_iff.1 (h.kept p hp)).1 (ne_types (h.kept p hp) h.box (hX.dT p hp).1)).trans (h.kept p hp)⟩
  · rw [heap_setCell_same _ _ _ _ _ _ h.box, hbox]
  · rw [e1]; exact h.vars.but hb fun b e e2 => (h.vne e).1 e2
  · rw [e2]; exact h.sends.but hb fun b e e2 => (h.sne e).1 e2
  · rw [e3]; exact h.tells.but hb fun b e e2 => (h.tne e).1 e2
  · obtain ⟨rest, _, h2⟩ := hroom; omega
  · rw [e2]; exact h.hs
  · rw [e3]; exact h.ht
end
end Go.Proofs.YthhpoihfaggafaaDoor
