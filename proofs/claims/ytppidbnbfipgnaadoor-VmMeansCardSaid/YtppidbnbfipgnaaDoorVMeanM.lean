/-
  What the law VmMeans holds in memory from round to round: the machine, the state in its box.
-/
import Derived.Test.YtppidbnbfipgnaaDoorVNew2
import Derived.Test.YtppidbnbfipgnaaDoorVRMay
import Derived.Test.YtppidbnbfipgnaaDoorVMuch
import Derived.Test.YtppidbnbfipgnaaDoorVInv
namespace Go.Proofs.YtppidbnbfipgnaaDoor
open Go Go.RowKit Go.Sort Go.Proofs CodM VmM

/-- a machine whose program lies in rows of its own -/
def MCop (w : World) (M : Nat) (m : Mch) (p : Prg) (a : Option Addr) (n c : Nat) : Prop := MAt w M m p a n c ∧ ∃ B, Cop B w a n p.kinds
theorem MCop.below {w w' : World} {M : Nat} {m : Mch} {p : Prg} {a : Option Addr} {n c : Nat} (h : MCop w M m p a n c) (hb : Below w.heap.size w w') : MCop w' M m p a n c := by
  obtain ⟨h1, B, h2⟩ := h
  exact ⟨h1.below hb, B, h2.keep (X := w.heap.size) (Keep.below _ hb) (fun cur => by rw [Array.getElem?_eq_none (Nat.le_refl _)]; exact fun h => by cases h) (fun cur => by rw [Array.getElem?_eq_none (Nat.le_refl _)]; exact fun h => by cases h)⟩
abbrev stC (va : Option Addr) (vn vc : Nat) (sent drawn : Int) : Array Value := #[.slice va vn vc, .int .i64 sent, .int .i64 drawn]
theorem keep_but {S : Nat} {w w' : World} (h : But (fun k => k = S) w w') : Keep S w w' := ⟨h.size, fun k _ _ _ hne hh => (h.block k (heap_lt hh) hne).trans hh⟩
theorem MCop.but {w w' : World} {M S : Nat} {m : Mch} {p : Prg} {a : Option Addr} {n c : Nat} (h : MCop w M m p a n c) {cs : Array Value} (hS : w.heap[S]? = some (.cells cs 27 (0, 0))) (hb : But (fun k => k = S) w w') : MCop w' M m p a n c := by
  obtain ⟨h1, B, h2⟩ := h
  have h3 : Cop B w' a n p.kinds := h2.keep (keep_but hb) (fun cur he => by rw [hS] at he; cases he) (fun cur he => by rw [hS] at he; cases he)
  have hn : n ≤ 9223372036854775807 := h1.prog.2.2.1
  exact ⟨⟨(hb.block M (heap_lt h1.box) (ne_types h1.box hS (by decide))).trans h1.box, ⟨h1.prog.1, h3.kinds hn⟩, h1.may, h1.procs, h1.self⟩, B, h3⟩
/-- a state in its box -/
structure SAt (w : World) (S : Nat) (va : Option Addr) (vc : Nat) (s : Ps) : Prop where
  box : w.heap[S]? = some (.cells (stC va s.vars.length vc s.sent s.drawn) 27 (0, 0))
  vars : CV.At w va s.vars.length s.vars
  nil : va = none → vc = 0
theorem SAt.below {w w' : World} {S : Nat} {va : Option Addr} {vc : Nat} {s : Ps} (h : SAt w S va vc s) (hb : Below w.heap.size w w') : SAt w' S va vc s :=
  ⟨(hb.block _ (heap_lt h.box)).trans h.box, h.vars.below hb, h.nil⟩
/-- the state that a step leaves is put into the box -/
theorem SAt.put {w w' : World} {S : Nat} {va : Option Addr} {vc : Nat} {s : Ps} (h : SAt w S va vc s) {B : Nat} {R : Stp} {vv sv tv : Value} (hs : StepAt B w R vv sv tv) (hl : R.st.vars.length ≤ 1000) (hb : But (fun k => k = S) w w')
    {va' : Option Addr} {vc' : Nat} (hv : vv = .slice va' R.st.vars.length vc')
    (hbox : w'.heap[S]? = some (.cells (stC va' R.st.vars.length vc' R.st.sent R.st.drawn) 27 (0, 0))) : SAt w' S va' vc' R.st := by
  have ho : CV.Own 2 B w' vv R.st.vars := hs.vars.but hb (fun b e => by
    obtain ⟨cur, hc⟩ := hs.vars.typ e
    exact fun e2 => ne_types hc h.box (by decide) e2)
  obtain ⟨a, c, e1, _, h2, _, h3⟩ := ho.at_ (by omega)
  rw [hv] at e1
  cases e1
  refine ⟨hbox, h2, fun he => ?_⟩
  rcases h3 with ⟨_, _, rfl⟩ | ⟨g, h3⟩
  · rfl
  · rw [he] at h3; cases h3
/-- what a step answers -/
def okS (ok : Bool) (R : Stp) : Stp := if ok = true then R else ⟨⟨[], 0, 0⟩, [], []⟩
theorem RunTo.one {w : World} {ok : Bool} {R : Stp} {e : Ending} {w' : World} (h : RunTo w ok R e w') :
    Below w.heap.size w w' ∧ ∃ vv sv tv, e = .returned (.tuple #[.agg (stepV (okS ok R) vv sv tv), .int .i64 (if ok = true then 0 else 2)]) ∧ StepAt w.heap.size w' (okS ok R) vv sv tv := by
  refine ⟨h.1, ?_⟩
  have h2 := h.2
  unfold okS
  cases ok with
  | true => exact h2
  | false =>
    refine ⟨.slice none 0 0, .slice none 0 0, .slice none 0 0, h2, ⟨Cod.Own.nil _ _, Cod.Own.nil _ _, Cod.Own.nil _ _, by simp, by simp⟩⟩
end Go.Proofs.YtppidbnbfipgnaaDoor
