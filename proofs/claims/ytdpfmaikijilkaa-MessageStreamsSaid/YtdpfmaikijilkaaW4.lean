/-
  What passes over a wire at one place: numbers of 4 bytes, of 8.
-/
import Derived.Test.YtdpfmaikijilkaaW1
import Derived.Test.YtdpfmaikijilkaaW3
import Derived.RegionDies
namespace Go.Proofs.Ytdpfmaikijilkaa
open Go Go.RowKit Go.Sort Go.Proofs

theorem num_any (S : Wi) (P g : Nat) (F : Nat → Prop) (n : Int) (s : Nat) (w : World) (h : WAt w P g F S) (hs1 : 1 ≤ s) (hs8 : s ≤ 8) (hL : S.bytes.length ≤ 1000000) :
    Calls Try.prog S.fn1 #[.int .u64 n, .int .i64 s, .pointer (some ⟨P, 0, none⟩)] w (NumTo P g F w (S.num n s)) := by
  cases S with
  | wr o => exact num_wr P g F o n s w h hs1 hs8 hL
  | rd l =>
    by_cases hs : s ≤ l.length
    · exact num_rd_yes P g F l n s w h hs hs1 hs8
    · exact num_rd_no P g F l n s w h (by omega)
theorem rest_any (S : Wi) (P g : Nat) (F : Nat → Prop) (a : Option Addr) (c : Nat) (l : List UInt8) (w : World) (h : WAt w P g F S) (hl : CB.At w a l.length l) (hc : l.length ≤ c) (hF : ∀ p, a = some p → l ≠ [] → ¬ F p.block) (hL : S.bytes.length ≤ 1000000) :
    Calls Try.prog S.fn2 #[.slice a l.length c, .int .i64 4091, .pointer (some ⟨P, 0, none⟩)] w (RestTo a l P g F w (S.rest l)) := by
  cases S with
  | wr o =>
    by_cases h1 : 1 ≤ l.length ∧ l.length ≤ 4091
    · obtain ⟨B, off, rfl, -⟩ := hl.cell (i := 0) (by omega)
      exact rest_wr_yes P g F o _ c l w h hl hc (hF _ rfl (fun e => by subst e; simp at h1)) h1.1 h1.2 hL
    · exact rest_wr_no P g F o a c l w h1
  | rd l' =>
    by_cases h1 : 1 ≤ l'.length ∧ l'.length ≤ 4091
    · exact rest_rd_yes P g F l' l _ _ w h h1.1 h1.2
    · exact rest_rd_no P g F l' l _ _ w h h1

/-- .. behind a place: what it holds, or the panic -/
def LeafTo (P g B o : Nat) (F : Nat → Prop) (w : World) (mk : Int → Value) (r : Option (Int × Wi)) (e : Ending) (w' : World) : Prop :=
  But (fun k => F k ∨ k = B) w w' ∧ match r with
    | none => e = .panicked fieldPanic
    | some (v, S) => e = .returned (.tuple #[]) ∧ (∃ F', (∀ b, F' b → F b ∨ w.heap.size ≤ b) ∧ WAt w' P g F' S) ∧ w'.heap[B]? = (w.setCell ⟨B, o, none⟩ (mk v)).heap[B]?
/-- a place that a field stands at -/
structure Plc (w : World) (P B o : Nat) (F : Nat → Prop) (u : Value) : Prop where
  cell : w.cell? ⟨B, o, none⟩ = some u
  fro : w.frozen? ⟨B, o, none⟩ = false
  nf : ¬ F B
  ne : B ≠ P
theorem Plc.lt {w : World} {P B o : Nat} {F : Nat → Prop} {u : Value} (h : Plc w P B o F u) : B < w.heap.size := World.block_lt_of_cell? w _ h.cell
theorem frozen_same {w w' : World} {a : Addr} (h : w'.heap[a.block]? = w.heap[a.block]?) : w'.frozen? a = w.frozen? a := by simp [World.frozen?, h]
theorem Plc.but {w w' : World} {P B o : Nat} {F T : Nat → Prop} {u : Value} (h : Plc w P B o F u) (hb : But T w w') (hT : ¬ T B) : w'.cell? ⟨B, o, none⟩ = some u ∧ w'.frozen? ⟨B, o, none⟩ = false :=
  ⟨(World.cell?_of_block (hb.block B h.lt hT)).trans h.cell, (frozen_same (a := ⟨B, o, none⟩) (hb.block B h.lt hT)).trans h.fro⟩
theorem heap_setCell_cong {w w2 : World} {B o : Nat} {u : Value} (h : w2.heap[B]? = w.heap[B]?) : (w2.setCell ⟨B, o, none⟩ u).heap[B]? = (w.setCell ⟨B, o, none⟩ u).heap[B]? := by
  simp only [World.setCell, Array.getElem?_modify, h]
/-- bytes stand still where a cell turns that is none -/
theorem Cod.At.set {w : World} {a : Option Addr} {n : Nat} {l : List UInt8} (h : CB.At w a n l) {B o : Nat} {u : Value} (hc : w.cell? ⟨B, o, none⟩ = some u) (hu : ∀ x, u ≠ .int .u8 x) (u' : Value) : CB.At (w.setCell ⟨B, o, none⟩ u') a n l := by
  obtain ⟨h1, h2, h3 | ⟨B', off, e, hB, hk⟩⟩ := h
  · exact ⟨h1, h2, .inl h3⟩
  · refine ⟨h1, h2, .inr ⟨B', off, e, by simpa [World.setCell] using hB, fun i hi c hc' => ?_⟩⟩
    have hk' := hk i hi c hc'
    have hne : (⟨B, o, none⟩ : Addr) ≠ ⟨B', off + i * CB.k + c, none⟩ := by
      intro e2
      rw [← e2, hc] at hk'
      obtain rfl : c = 0 := by have : c < 1 := hc'; omega
      have e3 : (CB.enc l[i])[0]? = some (.int .u8 l[i].toNat) := rfl
      rw [e3] at hk'
      exact hu _ (Option.some.inj hk')
    rw [World.cell?_setCell_other _ _ _ _ hne]
    exact hk'
/-- a wire stands still there -/
theorem WAt.set {w : World} {P g B o : Nat} {F : Nat → Prop} {S : Wi} (h : WAt w P g F S) {u : Value} (hc : w.cell? ⟨B, o, none⟩ = some u) (hu : ∀ x, u ≠ .int .u8 x) (hF : ¬ F B) (hP : B ≠ P) (u' : Value) : WAt (w.setCell ⟨B, o, none⟩ u') P g F S := by
  have hbs : But (fun k => k = B) w (w.setCell ⟨B, o, none⟩ u') := (But.refl (fun k => k = B) _).setCell (p := ⟨B, o, none⟩) rfl _
  refine ⟨(hbs.block P (Array.getElem?_eq_some_iff.1 h.box).1 (Ne.symm hP)).trans h.box, h.notP, h.fg, fun b e => Nat.lt_of_lt_of_le (h.lt b e) hbs.size, ?_⟩
  cases S with
  | wr o => exact h.st.but h.fg hbs (fun b e e2 => hF (by rw [← e2]; exact e)) trivial
  | rd l =>
    obtain ⟨a, c, h1, h2, h3, h4, h5⟩ := h.st
    exact ⟨a, c, (hbs.block g (Array.getElem?_eq_some_iff.1 h1).1 (fun e => hF (e ▸ h.fg))).trans h1, h2.set hc hu u', h3, h4, h5⟩
/-- the end of a leaf: a number was passed, its place is set -/
theorem leaf_end {P g B o : Nat} {F : Nat → Prop} {w w1 w2 : World} {mk : Int → Value} {v v' : Int} {S' : Wi} (hp : Plc w P B o F (mk v)) (hu : ∀ x, mk v ≠ .int .u8 x) (hw : Below w.heap.size w w1) (hb : But F w1 w2) (F' : Nat → Prop) (hsub : ∀ b, F' b → F b ∨ w1.heap.size ≤ b) (h2 : WAt w2 P g F' S') :
    But (fun k => F k ∨ k = B) w (w2.setCell ⟨B, o, none⟩ (mk v')) ∧ (∃ F', (∀ b, F' b → F b ∨ w.heap.size ≤ b) ∧ WAt (w2.setCell ⟨B, o, none⟩ (mk v')) P g F' S') ∧ (w2.setCell ⟨B, o, none⟩ (mk v')).heap[B]? = (w.setCell ⟨B, o, none⟩ (mk v')).heap[B]? := by
  have hz := hw.size
  have hl := hp.lt
  have hbw : But F w w2 := (But.of hw).trans hb
  have hnF : ¬ F' B := fun e => (hsub B e).elim hp.nf (by omega)
  exact ⟨(hbw.mono fun _ _ e => .inl e).setCell (.inr rfl) _, ⟨F', fun b e => (hsub b e).imp_right (by omega), h2.set (hp.but hbw hp.nf).1 hu hnF hp.ne _⟩, heap_setCell_cong (hbw.block B hl hp.nf)⟩
end Go.Proofs.Ytdpfmaikijilkaa
