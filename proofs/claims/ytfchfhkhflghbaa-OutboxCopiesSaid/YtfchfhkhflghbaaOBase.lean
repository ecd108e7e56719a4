/-
  Bytes, numbers, texts in memory; an outbox in memory; the document's; bytes as strings.
-/
import Derived.Test.YtfchfhkhflghbaaOMath
import Derived.Test.YtfchfhkhflghbaaGRow
import Derived.Test.YtfchfhkhflghbaaGOwn
import Derived.Test.YtfchfhkhflghbaaGDuo
import Derived.Test.YtfchfhkhflghbaaGRound
import Derived.Test.YtfchfhkhflghbaaRows
import Derived.Laws.BytesArg
import Derived.Laws.CopyRow
import Derived.Laws.MakeOwn
import Derived.Lib.SliceRun
import Derived.Lib.Slices
import Derived.ArgAppend
import Derived.MapKept
import Derived.ProofKit
import Derived.Lib.Hide
namespace Go.Proofs.Ytfchfhkhflghbaa
open Go Go.RowKit Go.Sort Go.Proofs

/-- bytes, and numbers, in rows; slices of bytes -/
def CB : Cod UInt8 := ⟨fun x => [.int .u8 x.toNat], 1, by decide, fun _ => rfl, fun _ v hv => by simp at hv; subst hv; rfl⟩
def CN : Cod Nat := ⟨fun n => [.int .i64 (n : Nat)], 1, by decide, fun _ => rfl, fun _ v hv => by simp at hv; subst hv; rfl⟩
abbrev Sl := Option Addr × Nat × Nat
abbrev SlV (s : Sl) : Value := .slice s.1 s.2.1 s.2.2
def CS : Cod Sl := ⟨fun s => [SlV s], 1, by decide, fun _ => rfl, fun _ v hv => by simp at hv; subst hv; rfl⟩
theorem rowB : RowT Try.prog CB 30 5 1 := ⟨Try.underlying30, .int .u8 0, by kernel_rfl, rfl⟩
theorem rowN : RowT Try.prog CN 41 3 8 := ⟨Try.underlying41, .int .i64 0, by kernel_rfl, rfl⟩
theorem rowS : RowT Try.prog CS 40 30 24 := ⟨Try.underlying40, .slice none 0 0, by kernel_rfl, rfl⟩

section
variable {α : Type} {C : Cod α} {T : TypeId} {B : Nat} {w : World} {v : Value} {l : List α}
theorem Cod.Own.typ (h : C.Own T B w v l) {b : Nat} (e : v.ownBlock = some b) : ∃ cur, w.heap[b]? = some (.cells cur T (0, 0)) := by
  obtain ⟨_, ⟨e2, _⟩ | ⟨g, cap, cur, e2, _, hh, _⟩⟩ := h
  · rw [e2] at e; cases e
  · rw [e2] at e
    cases e
    exact ⟨cur, hh⟩
theorem Cod.Own.size {a : Option Addr} {n c : Nat} (h : C.Own T B w (.slice a n c) l) : n = l.length ∧ l.length ≤ c := by
  obtain ⟨_, ⟨e2, h0⟩ | ⟨g, cap, cur, e2, _, hh, hc, _⟩⟩ := h
  · cases e2; omega
  · cases e2; exact ⟨rfl, hc⟩
end
theorem heap_lt {w : World} {b : Nat} {o : Obj} (h : w.heap[b]? = some o) : b < w.heap.size := (Array.getElem?_eq_some_iff.1 h).1

/-! ### Bytes as strings -/
def strB (l : List UInt8) : ByteArray := ⟨l.toArray⟩
theorem strB_beq (l m : List UInt8) : ((strB l).toList == (strB m).toList) = decide (l = m) := by
  rw [ByteArray.toList_eq, ByteArray.toList_eq]
  show (l == m) = _
  by_cases h : l = m
  · subst h; simp
  · rw [decide_eq_false h]; simpa using h
theorem Cod.At.str {w : World} {a : Option Addr} {n : Nat} {l : List UInt8} (h : CB.At w a n l) (c : Nat) : (convert 30 9 (.slice a n c)).run Try.prog w = .ok (.string (strB l)) w := by
  obtain ⟨h1, h2, h3 | ⟨B, off, rfl, hB, hc⟩⟩ := h
  · subst h3
    obtain rfl := List.length_eq_zero_iff.1 h1
    rw [run_convert_bytes_string w 30 9 5 _ 0 c Try.underlying30 Try.underlying5 Try.underlying9]
    cases a with
    | none => simp [Conv.bytesToString]; rfl
    | some x =>
      rw [run_bytesToString w x 0 c [] (by simp [loadCells, loadCellsFrom])]
      rfl
  · subst h1
    exact run_convert_bytes_back (P := Try.prog) w 30 9 5 ⟨B, off, none⟩ c l Try.underlying30 Try.underlying5 Try.underlying9 (fun j hj => by
      rw [Addr.add_lit]
      have := hc j hj 0 (by decide)
      have e : off + j * CB.k + 0 = off + j := by show off + j * 1 + 0 = _; omega
      rw [e] at this
      exact this)
theorem equal_any (w : World) (a b : Option Addr) (n m c d : Nat) (l r : List UInt8) (hl : CB.At w a n l) (hr : CB.At w b m r) : Calls Try.prog 28 #[.slice a n c, .slice b m d] w (fun e w' => e = .returned (.bool (decide (l = r))) ∧ w' = w) := by
  have h1 := hl.str c
  have h2 := hr.str d
  have h3 := strB_beq l r
  clear hl hr
  go_enter Try.func28, Try.ntmps28
  go_wp2
  go_ret
  exact ⟨rfl, rfl⟩
def CloneTo (l : List UInt8) (w : World) (e : Ending) (w' : World) : Prop := ∃ v, e = .returned v ∧ CB.Own 5 w.heap.size w' v l ∧ Below w.heap.size w w'
set_option maxHeartbeats 1000000 in
set_option maxRecDepth 100000 in
theorem clone_any (w : World) (p : Addr) (c : Nat) (l : List UInt8) (hl : CB.At w (some p) l.length l) (h0 : 1 ≤ l.length) : Calls Try.prog 26 #[.slice (some p) l.length c] w (CloneTo l w) := by
  have hmx := hl.2.1
  have hnil := fun (w : World) => Lib.run_eql_slice_nil (P := Try.prog) w 30 5 (some p) l.length c 0 0 Try.underlying30
  have hown : CB.Own 5 w.heap.size (w.alloc (.cells #[] 5)) (.slice (some ⟨w.heap.size, 0, none⟩) 0 0) [] := World.ownsRow_made w #[] 0 (Nat.le_refl _) (by decide) rfl
  have HO := Lib.hid hown
  have HB : Hid (Below w.heap.size w (w.alloc (.cells #[] 5))) := (Below.refl _ _).alloc (Nat.le_refl _) _
  have HN := Lib.hid ((hl.below HB.out).news)
  clear hl hown
  go_enter Try.func26, Try.ntmps26
  go_wp2_with (at_builtin; refine rowB.list rfl _ _ rfl w.heap.size (.slice (some ⟨w.heap.size, 0, none⟩) 0 0) [] rfl HO.out p l.length c l rfl rfl HN.out (by simp only [List.length_nil]; omega) (by simp only [List.length_nil]; omega) HB.out.size ?_; intro v1 w1 hown1 hgrow1 _; have H1 := Lib.hid (And.intro hown1 hgrow1); clear hown1 hgrow1)
  go_ret
  exact ⟨_, rfl, H1.out.1, HB.out.trans ((But.grown H1.out.2).below HB.out.size fun k e => (HO.out.lt k e.symm).1)⟩

/-! ### An outbox -/
abbrev OO (most : Int) (v : Value) (left sent : Nat) : Obj := .cells #[.int .i64 most, v, .int .i64 (left : Nat), .int .i64 (sent : Nat)] 48
theorem oo_cells {w : World} {G : Nat} {most : Int} {v : Value} {left sent : Nat} (h : w.heap[G]? = some (OO most v left sent)) : w.cell? ⟨G, 0, none⟩ = some (.int .i64 most) ∧ w.cell? ⟨G, 1, none⟩ = some v ∧ w.cell? ⟨G, 2, none⟩ = some (.int .i64 (left : Nat)) ∧ w.cell? ⟨G, 3, none⟩ = some (.int .i64 (sent : Nat)) := by
  refine ⟨?_, ?_, ?_, ?_⟩
  all_goals (rw [cell_of_row _ _ _ _ _ _ h]; rfl)
theorem oo_frozen {w : World} {G : Nat} {most : Int} {v : Value} {left sent : Nat} (h : w.heap[G]? = some (OO most v left sent)) (i : Nat) : w.frozen? ⟨G, i, none⟩ = false := frozen_of_row _ _ _ _ _ h
/-- a text in memory: its bytes lie in a block of FT -/
def Tx (w : World) (FT : Nat → Prop) (v : Value) (t : By) : Prop :=
  ∃ B off c, v = .slice (some ⟨B, off, none⟩) t.length c ∧ t.length ≤ c ∧ c ≤ maxLen ∧ FT B ∧ CB.At w (some ⟨B, off, none⟩) t.length t
theorem Tx.keep {w w' : World} {FT FT' : Nat → Prop} {v : Value} {t : By} (h : Tx w FT v t) (hz : w.heap.size ≤ w'.heap.size) (hb : ∀ b, FT b → b < w.heap.size → w'.heap[b]? = w.heap[b]?) (hF : ∀ b, FT b → FT' b) : Tx w' FT' v t := by
  obtain ⟨B, off, c, rfl, h1, h2, h3, h4⟩ := h
  exact ⟨B, off, c, rfl, h1, h2, hF _ h3, h4.same hz fun p e hp => by cases e; exact hb _ h3 hp⟩
/-- the row of the texts that wait -/
def Rw (w : World) (FT FB : Nat → Prop) (a : Option Addr) (c : Nat) (L : List By) : Prop :=
  (a = none ∧ c = 0 ∧ L = []) ∨ ∃ B off cur, a = some ⟨B, off, none⟩ ∧ FB B ∧ ¬ FT B ∧ w.heap[B]? = some (.cells cur 30 (0, 0)) ∧ off + c ≤ cur.size ∧ L.length ≤ c ∧ c ≤ maxLen ∧ ∀ i (hi : i < L.length), ∃ v, cur[off + i]? = some v ∧ Tx w FT v L[i]
def Ob (w : World) (G : Nat) (F : Nat → Prop) (x : St) : Prop :=
  ∃ FT a c, w.heap[G]? = some (OO x.1 (.slice a x.2.1.length c) x.2.1.flatten.length x.2.2) ∧ F G ∧ ¬ FT G ∧ (∀ b, FT b → F b) ∧ (∀ b, F b → b < w.heap.size) ∧ Rw w FT (fun b => F b ∧ b ≠ G) a c x.2.1 ∧
    0 ≤ x.1 ∧ x.1 ≤ 9223372036854775807 ∧ (x.2.1.length : Int) ≤ x.1 ∧ x.2.1.flatten.length ≤ 100000 ∧ x.2.1.length ≤ 100000 ∧ x.2.2 ≤ 100000
theorem Rw.keep {w w' : World} {FT FB FT' FB' : Nat → Prop} {a : Option Addr} {c : Nat} {L : List By} (h : Rw w FT FB a c L) (hz : w.heap.size ≤ w'.heap.size) (hb : ∀ b, FT b ∨ FB b → b < w.heap.size → w'.heap[b]? = w.heap[b]?) (hT : ∀ b, FT b → FT' b) (hB : ∀ b, FB b → FB' b) (hn : ∀ b, FB b → ¬ FT b → ¬ FT' b) : Rw w' FT' FB' a c L := by
  rcases h with h | ⟨B, off, cur, rfl, h1, h2, h3, h4, h5, h6, h7⟩
  · exact .inl h
  · refine .inr ⟨B, off, cur, rfl, hB _ h1, hn _ h1 h2, (hb B (.inr h1) (heap_lt h3)).trans h3, h4, h5, h6, fun i hi => ?_⟩
    obtain ⟨v, k1, k2⟩ := h7 i hi
    exact ⟨v, k1, k2.keep hz (fun b hf hl => hb b (.inl hf) hl) hT⟩
def obT : Thing St where
  at_ := Ob
  lt := fun ⟨_, _, _, _, _, _, _, h, _⟩ => h
  but := fun ⟨FT, a, c, h1, h2, h3, h4, h5, h6, r⟩ hb hT =>
    ⟨FT, a, c, (hb.block _ (h5 _ h2) (hT _ h2)).trans h1, h2, h3, h4, fun b e => Nat.lt_of_lt_of_le (h5 b e) hb.size,
      h6.keep hb.size (fun b e hl => hb.block b hl (hT b (e.elim (h4 b) fun e => e.1))) (fun _ e => e) (fun _ e => e) (fun _ _ e => e), r⟩
theorem Ob.below {w w' : World} {G : Nat} {F : Nat → Prop} {x : St} (h : Ob w G F x) (hb : Below w.heap.size w w') : Ob w' G F x := Thing.below (A := obT) h hb
theorem Ob.wide {w : World} {G : Nat} {F T : Nat → Prop} {x : St} (h : Ob w G F x) (h1 : ∀ b, F b → T b) (h2 : ∀ b, T b → b < w.heap.size) : Ob w G T x := by
  obtain ⟨FT, a, c, k1, k2, k3, k4, k5, k6, r⟩ := h
  exact ⟨FT, a, c, k1, h1 _ k2, k3, fun b e => h1 _ (k4 b e), h2, k6.keep (Nat.le_refl _) (fun _ _ _ => rfl) (fun _ e => e) (fun _ e => ⟨h1 _ e.1, e.2⟩) (fun _ _ e => e), r⟩

/-! ### The document's -/
abbrev RO (v u : Value) (sent : Nat) (most : Int) : Obj := .cells #[v, u, .int .i64 (sent : Nat), .int .i64 most] 50
theorem ro_cells {w : World} {R : Nat} {most : Int} {v u : Value} {sent : Nat} (h : w.heap[R]? = some (RO v u sent most)) : w.cell? ⟨R, 0, none⟩ = some v ∧ w.cell? ⟨R, 1, none⟩ = some u ∧ w.cell? ⟨R, 2, none⟩ = some (.int .i64 (sent : Nat)) ∧ w.cell? ⟨R, 3, none⟩ = some (.int .i64 most) := by
  refine ⟨?_, ?_, ?_, ?_⟩
  all_goals (rw [cell_of_row _ _ _ _ _ _ h]; rfl)
theorem ro_frozen {w : World} {R : Nat} {most : Int} {v u : Value} {sent : Nat} (h : w.heap[R]? = some (RO v u sent most)) (i : Nat) : w.frozen? ⟨R, i, none⟩ = false := frozen_of_row _ _ _ _ _ h
def Rf (w : World) (R : Nat) (S : Nat → Prop) (y : Dt) : Prop :=
  ∃ a c d e, w.heap[R]? = some (RO (.slice a y.1.length c) (.slice d y.2.1.length e) y.2.2.1 y.2.2.2) ∧ CB.At w a y.1.length y.1 ∧ CN.At w d y.2.1.length y.2.1 ∧ S R ∧ (∀ b, S b → b < w.heap.size) ∧
    (∀ p, a = some p → S p.block ∧ p.block ≠ R) ∧ (∀ p, d = some p → S p.block ∧ p.block ≠ R) ∧ (a = none → c = 0 ∧ y.1 = []) ∧ (d = none → e = 0 ∧ y.2.1 = []) ∧ y.1.length ≤ c ∧ y.2.1.length ≤ e ∧ c ≤ maxLen ∧ e ≤ maxLen ∧
    y.1.length ≤ 100000 ∧ y.2.1.length ≤ 100000 ∧ y.2.2.1 ≤ y.1.length ∧ 0 ≤ y.2.2.2 ∧ y.2.2.2 ≤ 9223372036854775807
def rfT : Thing Dt where
  at_ := Rf
  lt := fun ⟨_, _, _, _, _, _, _, _, h, _⟩ => h
  but := fun ⟨a, c, d, e, h1, h2, h3, h4, h5, h6, h7, r⟩ hb hT =>
    ⟨a, c, d, e, (hb.block _ (h5 _ h4) (hT _ h4)).trans h1, h2.but hb (fun p k => hT _ (h6 p k).1), h3.but hb (fun p k => hT _ (h7 p k).1), h4, fun b k => Nat.lt_of_lt_of_le (h5 b k) hb.size, h6, h7, r⟩
theorem Rf.below {w w' : World} {R : Nat} {S : Nat → Prop} {y : Dt} (h : Rf w R S y) (hb : Below w.heap.size w w') : Rf w' R S y := Thing.below (A := rfT) h hb
end Go.Proofs.Ytfchfhkhflghbaa
