/-
  Wires in memory; the walks of must, of the functions that a wire holds.
-/
import Derived.Test.YtdpfmaikijilkaaMMath
import Derived.Test.YtdpfmaikijilkaaGMem
import Derived.Test.YtdpfmaikijilkaaGRow
import Derived.Test.YtdpfmaikijilkaaRows
import Derived.Deep.RegionLaw
import Derived.Deep.RegionHeld3
import Derived.Deep.Slices
import Derived.Laws.BitsAllLaws
import Derived.Laws.Pointers
import Derived.ProofKit
import Derived.WalkKit
import Derived.Below
import Derived.Lib.Hide
namespace Go.Proofs.Ytdpfmaikijilkaa
open Go Go.RowKit Go.Sort Go.Proofs

/-- bytes, and numbers, in rows -/
def CB : Cod UInt8 := ⟨fun x => [.int .u8 x.toNat], 1, by decide, fun _ => rfl, fun _ v hv => by simp at hv; subst hv; rfl⟩
def CV : Cod Int := ⟨fun n => [.int .i64 n], 1, by decide, fun _ => rfl, fun _ v hv => by simp at hv; subst hv; rfl⟩
theorem rowB : RowT Try.prog CB 24 5 1 := ⟨Try.underlying24, .int .u8 0, by kernel_rfl, rfl⟩
theorem rowV : RowT Try.prog CV 43 2 8 := ⟨Try.underlying43, .int .i64 0, by kernel_rfl, rfl⟩

section
variable {α : Type} {C : Cod α} {T : TypeId} {B : Nat} {w : World} {v : Value} {l : List α}
theorem Cod.Own.typ (h : C.Own T B w v l) {b : Nat} (e : v.ownBlock = some b) : ∃ cur, w.heap[b]? = some (.cells cur T (0, 0)) := by
  obtain ⟨_, ⟨e2, _⟩ | ⟨g, cap, cur, e2, _, hh, _⟩⟩ := h
  · rw [e2] at e; cases e
  · rw [e2] at e
    cases e
    exact ⟨cur, hh⟩
theorem Cod.Own.size {a : Option Addr} {n c : Nat} (h : C.Own T B w (.slice a n c) l) : n = l.length ∧ l.length ≤ c := by
  obtain ⟨_, ⟨e2, h0⟩ | ⟨g, cap, cur, e2, _, hh, hc, _⟩⟩ := h
  · cases e2; omega
  · cases e2; exact ⟨rfl, hc⟩
end

/-- the panic of a wrong field -/
abbrev fieldPanic : List PanicEntry := [{ v := .iface 34 (.int .i64 14), recovered := false }]
def Panics (w : World) (e : Ending) (w' : World) : Prop := e = .panicked fieldPanic ∧ w = w'
def TellsNone (w : World) (e : Ending) (w' : World) : Prop := e = .returned (.tuple #[]) ∧ w = w'
theorem must_ok (w : World) : Calls Try.prog 83 #[.bool true] w (TellsNone w) := by
  go_enter Try.func83, Try.ntmps83
  go_wp2
  go_end0
  exact ⟨rfl, rfl⟩
theorem must_no (w : World) : Calls Try.prog 83 #[.bool false] w (Panics w) := by
  go_enter Try.func83, Try.ntmps83
  go_wp2
  exact ⟨rfl, rfl, rfl⟩

/-- what a wire holds, as values -/
def Wi.fn1 : Wi → FuncId
  | .wr _ => 81
  | .rd _ => 84
def Wi.fn2 : Wi → FuncId
  | .wr _ => 82
  | .rd _ => 85
abbrev wv (f1 f2 : FuncId) (P : Nat) : Value := .agg #[.func (.func f1) #[] #[.pointer (some ⟨P, 0, none⟩)], .func (.func f2) #[] #[.pointer (some ⟨P, 0, none⟩)]]
/-- what lies behind a wire: bytes that are written, or that are left -/
def WSt (w : World) (g : Nat) (F : Nat → Prop) : Wi → Prop
  | .wr o => ∃ v, w.heap[g]? = some (.cells #[v] 24 (0, 0)) ∧ CB.Own 5 0 w v o ∧ ∀ b, v.ownBlock = some b → F b ∧ b ≠ g
  | .rd l => ∃ a c, w.heap[g]? = some (.cells #[.slice a l.length c] 24 (0, 0)) ∧ CB.At w a l.length l ∧ l.length ≤ c ∧ c ≤ 9223372036854775807 ∧ ∀ p, a = some p → ¬ F p.block
/-- a wire at a box -/
structure WAt (w : World) (P g : Nat) (F : Nat → Prop) (S : Wi) : Prop where
  box : w.heap[P]? = some (.cells #[.pointer (some ⟨g, 0, none⟩)] 105 (0, 0))
  notP : ¬ F P
  fg : F g
  lt : ∀ b, F b → b < w.heap.size
  st : WSt w g F S
theorem WSt.but {w w' : World} {g : Nat} {F T : Nat → Prop} {S : Wi} (h : WSt w g F S) (hg : F g) (hb : But T w w') (hT : ∀ b, F b → ¬ T b) (hs : match S with | .wr _ => True | .rd _ => ∀ b, ¬ F b → b < w.heap.size → ¬ T b) : WSt w' g F S := by
  cases S with
  | wr o =>
    obtain ⟨v, h1, h2, h3⟩ := h
    exact ⟨v, (hb.block _ (Array.getElem?_eq_some_iff.1 h1).1 (hT _ hg)).trans h1, h2.but hb fun b e => hT b (h3 b e).1, h3⟩
  | rd l =>
    obtain ⟨a, c, h1, h2, h3, h4, h5⟩ := h
    exact ⟨a, c, (hb.block _ (Array.getElem?_eq_some_iff.1 h1).1 (hT _ hg)).trans h1, h2.same hb.size fun p e hp => hb.block _ hp (hs _ (h5 p e) hp), h3, h4, h5⟩
theorem WAt.below {w w' : World} {P g : Nat} {F : Nat → Prop} {S : Wi} (h : WAt w P g F S) (hb : Below w.heap.size w w') : WAt w' P g F S :=
  ⟨(hb.block _ (Array.getElem?_eq_some_iff.1 h.box).1).trans h.box, h.notP, h.fg, fun b e => Nat.lt_of_lt_of_le (h.lt b e) hb.size,
    h.st.but h.fg (T := fun _ => False) (But.of hb) (fun _ _ e => e) (by cases S <;> simp)⟩
/-- .. the world behind a number: the answer, or the panic -/
def NumTo (P g : Nat) (F : Nat → Prop) (w : World) (r : Option (Int × Wi)) (e : Ending) (w' : World) : Prop :=
  But F w w' ∧ match r with
    | none => e = .panicked fieldPanic
    | some (v, S) => e = .returned (.int .u64 v) ∧ ∃ F', (∀ b, F' b → F b ∨ w.heap.size ≤ b) ∧ WAt w' P g F' S

theorem wrapI (n : Int) : IntKind.i64.wrap n = wrap64 n := by
  simp [IntKind.wrap, IntKind.signed, IntKind.bits, wrap64]
  omega
theorem wrapU (m : Int) : IntKind.u64.wrap m = m % 18446744073709551616 := by simp [IntKind.wrap, IntKind.signed, IntKind.bits]
end Go.Proofs.Ytdpfmaikijilkaa
