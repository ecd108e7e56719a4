/-
  Nothing has turned but in some blocks.
-/
import Derived.Test.YtlgbkbmjfmomkaaDoorC3
namespace Go.Proofs.YtlgbkbmjfmomkaaDoor
open Go.RowKit CodM

/-- nothing that was there has turned, but in the blocks S -/
structure But (S : Nat → Prop) (w w' : World) : Prop where
  os : w'.os = w.os
  tape : w'.tape = w.tape
  output : w'.output = w.output
  size : w.heap.size ≤ w'.heap.size
  block : ∀ k, k < w.heap.size → ¬ S k → w'.heap[k]? = w.heap[k]?
theorem But.refl (S : Nat → Prop) (w : World) : But S w w := ⟨rfl, rfl, rfl, Nat.le_refl _, fun _ _ _ => rfl⟩
theorem But.next {S T : Nat → Prop} {a b c : World} (h : But S a b) (k : But T b c) (hT : ∀ j, j < a.heap.size → T j → S j) : But S a c :=
  ⟨k.os.trans h.os, k.tape.trans h.tape, k.output.trans h.output, Nat.le_trans h.size k.size,
    fun i hi hs => (k.block i (Nat.lt_of_lt_of_le hi h.size) (fun t => hs (hT i hi t))).trans (h.block i hi hs)⟩
theorem But.trans {S : Nat → Prop} {a b c : World} (h : But S a b) (k : But S b c) : But S a c := h.next k fun _ _ t => t
theorem But.mono {S T : Nat → Prop} {a b : World} (h : But S a b) (hT : ∀ j, j < a.heap.size → S j → T j) : But T a b :=
  ⟨h.os, h.tape, h.output, h.size, fun k hk ht => h.block k hk fun s => ht (hT k hk s)⟩
theorem But.of {S : Nat → Prop} {a b : World} (h : Below a.heap.size a b) : But S a b := ⟨h.os, h.tape, h.output, h.size, fun k hk _ => h.block k hk⟩
theorem But.below {S : Nat → Prop} {a b : World} (h : But S a b) (B : Nat) (hB : B ≤ a.heap.size) (hS : ∀ k, S k → B ≤ k) : Below B a b :=
  ⟨h.os, h.tape, h.output, h.size, fun k hk => h.block k (by omega) fun s => by have := hS k s; omega⟩
theorem But.alloc {S : Nat → Prop} {a b : World} (h : But S a b) (o : Obj) : But S a (b.alloc o) :=
  h.trans ⟨rfl, rfl, rfl, by simp, fun k hk _ => Below.heap_alloc _ _ _ hk⟩
theorem But.setCell {S : Nat → Prop} {a b : World} (h : But S a b) {p : Addr} (hp : S p.block ∨ a.heap.size ≤ p.block) (u : Value) : But S a (b.setCell p u) := by
  refine ⟨h.os, h.tape, h.output, by simpa [World.setCell] using h.size, fun k hk hs => ?_⟩
  rw [Below.heap_setCell _ _ _ _ (fun e => ?_)]
  · exact h.block k hk hs
  · rcases hp with hp | hp
    · exact hs (e ▸ hp)
    · omega
theorem But.heap {S : Nat → Prop} {a b : World} (h : But S a b) {k : Nat} {o : Obj} (hk : a.heap[k]? = some o) (hs : ¬ S k) : b.heap[k]? = some o :=
  (h.block k (by rcases Nat.lt_or_ge k a.heap.size with h' | h'; exact h'; rw [Array.getElem?_eq_none h'] at hk; cases hk) hs).trans hk
theorem But.cell {S : Nat → Prop} {a b : World} (h : But S a b) {p : Addr} {v : Value} (hc : a.cell? p = some v) (hs : ¬ S p.block) : b.cell? p = some v :=
  (World.cell?_of_block (h.block p.block (World.block_lt_of_cell? a _ hc) hs)).trans hc

/-- the slice at a reads as the bytes l -/
def BytAt (w : World) (a : Option Addr) (l : List UInt8) : Prop :=
  l = [] ∨ ∃ B off, a = some ⟨B, off, none⟩ ∧ ∀ i (h : i < l.length), w.cell? ⟨B, off + i, none⟩ = some (.int .u8 (l[i].toNat : Int))
/-- a byte reader at g, which has l left -/
def RdAt (w : World) (g : Nat) (l : List UInt8) : Prop :=
  ∃ a c, w.heap[g]? = some (.cells #[.slice a l.length c] 66) ∧ l.length ≤ c ∧ c ≤ 9223372036854775807 ∧ BytAt w a l
theorem RdAt.ne {w : World} {g : Nat} {B off : Nat} {l : List UInt8} {a : Option Addr} {c n : Nat} (hh : w.heap[g]? = some (.cells #[.slice a n c] 66)) (hl : l ≠ []) (hc : ∀ i (h : i < l.length), w.cell? ⟨B, off + i, none⟩ = some (.int .u8 (l[i].toNat : Int))) : B ≠ g := by
  intro e
  subst e
  have hp : 0 < l.length := by cases l with | nil => exact absurd rfl hl | cons => simp
  have h0 := hc 0 hp
  rw [cell_of_row _ _ _ _ _ _ hh] at h0
  rcases off with _ | off
  · simp at h0
  · simp at h0
theorem BytAt.but {S : Nat → Prop} {w w' : World} {a : Option Addr} {l : List UInt8} (h : BytAt w a l) (hb : But S w w') (hs : ∀ x, a = some x → l ≠ [] → ¬ S x.block) : BytAt w' a l := by
  rcases h with h | ⟨B, off, rfl, hc⟩
  · exact .inl h
  · by_cases hl : l = []
    · exact .inl hl
    · exact .inr ⟨B, off, rfl, fun i hi => hb.cell (hc i hi) (hs ⟨B, off, none⟩ rfl hl)⟩
theorem BytAt.drop {w : World} {B off : Nat} {l : List UInt8} (h : BytAt w (some ⟨B, off, none⟩) l) (k : Nat) : BytAt w (some ⟨B, off + k, none⟩) (l.drop k) := by
  rcases h with rfl | ⟨B', off', e, hc⟩
  · exact .inl (by simp)
  · cases e
    refine .inr ⟨B, off + k, rfl, fun i hi => ?_⟩
    have hi' : k + i < l.length := by rw [List.length_drop] at hi; omega
    rw [show off + k + i = off + (k + i) from by omega, hc (k + i) hi']
    simp
theorem RdAt.alloc {w : World} {g : Nat} {l : List UInt8} (h : RdAt w g l) (o : Obj) : RdAt (w.alloc o) g l := by
  obtain ⟨a, c, hh, h1, h2, h3⟩ := h
  have hb : But (fun _ => False) w (w.alloc o) := (But.refl _ _).alloc o
  exact ⟨a, c, hb.heap hh (fun h => h), h1, h2, h3.but hb (fun _ _ _ h => h)⟩
theorem RdAt.but {S : Nat → Prop} {w w' : World} {g : Nat} {l : List UInt8} (h : RdAt w g l) (hb : But S w w') (hg : ¬ S g) (hs : ∀ B off x, w.cell? ⟨B, off, none⟩ = some (.int .u8 x) → ¬ S B) : RdAt w' g l := by
  obtain ⟨a, c, hh, h1, h2, h3⟩ := h
  refine ⟨a, c, hb.heap hh hg, h1, h2, ?_⟩
  rcases h3 with h3 | ⟨B, off, rfl, hc⟩
  · exact .inl h3
  · refine BytAt.but (.inr ⟨B, off, rfl, hc⟩) hb (fun x hx hl => ?_)
    cases hx
    have hp : 0 < l.length := by cases l with | nil => exact absurd rfl hl | cons => simp
    exact hs B (off + 0) _ (hc 0 hp)
/-- a block of two numbers of 64 bits holds no byte -/
theorem no_byte {w : World} {R : Nat} {x y : Value} {t : TypeId} {fr : Nat × Nat} (hh : w.heap[R]? = some (.cells #[x, y] t fr)) (hx : ∀ z, x ≠ .int .u8 z) (hy : ∀ z, y ≠ .int .u8 z) : ∀ B off z, w.cell? ⟨B, off, none⟩ = some (.int .u8 z) → ¬ B = R := by
  intro B off z hc e
  subst e
  rw [cell_of_row _ _ _ _ _ _ hh] at hc
  match off, hc with
  | 0, hc => simp at hc; exact hx _ hc
  | 1, hc => simp at hc; exact hy _ hc
  | k + 2, hc => simp at hc
theorem RdAt.lt {w : World} {g : Nat} {l : List UInt8} (h : RdAt w g l) : g < w.heap.size := by
  obtain ⟨a, c, hh, _⟩ := h
  rcases Nat.lt_or_ge g w.heap.size with h' | h'
  · exact h'
  · rw [Array.getElem?_eq_none h'] at hh; cases hh
end Go.Proofs.YtlgbkbmjfmomkaaDoor
