/-
  Regions that draw their order, walked once: outside and within a round of a range over a function.
-/
import Derived.Test.YtfchfhkhflghbaaGMem
import Derived.Deep.RegionHeld3
import Derived.Deep.LoopGhost
import Derived.BigQuiet
import Derived.Deep.CutRange
import Derived.RangeFuncNested
import Derived.RangeFuncCalls
import Derived.RangeFuncBox
import Derived.OrdersIn
import Derived.TacticsIn
namespace Go.Proofs.Ytfchfhkhflghbaa
open Go Go.RowKit Go.Lib Go.Sort Go.Proofs

/-- the lexical walk of a region, shut against unfolding -/
structure WQ (P : Program) (ops : Array Oper) (C : World → Prop) (Q : Act → Prop) (l : List Oper) (a : Act) : Prop where
  out : wpQuiet P ops C Q l a
theorem WQ.nil {P : Program} {ops : Array Oper} {C : World → Prop} {Q : Act → Prop} {a : Act} (h : Q a) : WQ P ops C Q [] a := ⟨h⟩
theorem WQ.step {P : Program} {ops : Array Oper} {C : World → Prop} {Q : Act → Prop} {a : Act} {o : Oper} {rest : List Oper}
    (h : ∀ K : Act → Prop, (∀ a, WQ P ops C Q rest a → K a) → if Region.wanted o (yielded ops a.tmps) then o.quiet P a C K else K (a.put o.dst undef)) : WQ P ops C Q (o :: rest) a := by
  refine ⟨wpQuiet_step fun K hK => ?_⟩
  exact h K fun a ha => hK a ha.out
/-- a region that draws its order, walked once: its calls lay blocks -/
theorem wp_region_gw {P : Program} {id : Nat} {Q : Exit → Act → World → Prop} {a : Act} {w : World} {l : List Oper} (hm : P.follows .mixedOrders = true) (hB : Region.lexB .any l.toArray = true)
    (h : WQ P l.toArray (fun w' => ∃ p : GrownBy, w' = grow (w.drewN p.n) p.os) (fun a' => ∀ w', (∃ p : GrownBy, w' = grow (w.drewN p.n) p.os) → Q .normal a' w') l a) : (Code.region id l.toArray true).wp P Q a w :=
  wp_region_quiet_grown hm hB h.out

def noDefer (o : Oper) : Bool := match o.op with
  | .defer _ => false
  | _ => true
theorem noDefer_ne {o : Oper} (h : noDefer o = true) : ∀ c, o.op ≠ .defer c := fun c e => by
  unfold noDefer at h
  rw [e] at h
  cases h
/-- a quiet operation, in a round -/
theorem op_round {P : Program} {C : World → Prop} {l n : Nat} {o : Oper} {a : Act} {K : Act → Prop} {K' : Act → World → Prop} {Q' : Exit → Act → World → Prop} {w : World} (hnd : noDefer o = true) (hw : C w) (h : ∀ a w', C w' → K a → K' a w') (hh : o.quiet P a C K) : o.wpIn (Fence.wide.inRound l) n P a w K' Q' := by
  obtain ⟨v, h1, h2⟩ := hh
  have h3 : Oper.quietUpon P C w v ((execOp a.eval o).run P w) := h1 w hw
  refine ⟨fun _ _ => trivial, ?_⟩
  show o.uponIn _ n P a K' Q' ((o.semAt (some l) a.eval).run P w)
  rw [Oper.semAt_some l a.eval o (noDefer_ne hnd)]
  revert h3
  generalize (execOp a.eval o).run P w = r
  intro h3
  rcases r with ⟨x, w'⟩ | ⟨x, w'⟩
  · cases x with
    | value u =>
      obtain ⟨e1, e2⟩ := h3
      rw [e1, e2]
      exact h _ _ hw h2
    | skip =>
      obtain ⟨e1, e2⟩ := h3
      rw [e1, Oper.uponIn_skip, ← e2]
      exact h _ _ hw h2
    | enter f args =>
      obtain ⟨e1, hc⟩ := h3
      rw [e1]
      rw [Oper.uponIn_enter]
      refine ⟨fun e => (by cases e), CallsIn.inRound l (callsIn_wide.2 (hc.mono ?_))⟩
      rintro e w'' ⟨rfl, hw''⟩
      exact h _ _ hw'' h2
    | _ => exact h3.elim
  · exact h3.elim
theorem ops_round {P : Program} {C : World → Prop} {l n : Nat} {ops : Array Oper} {i : Nat} {a : Act} {K : Act → Prop} {K' : Act → World → Prop} {Q' : Exit → Act → World → Prop} {w : World} (hnd : ∀ (i : Nat) (o : Oper), ops[i]? = some o → noDefer o = true) (hw : C w) (h : ∀ a w', C w' → K a → K' a w')
    (hh : qOp P ops C i K a) : wpOpIn (Fence.wide.inRound l) n P ops Q' i K' a w := by
  unfold qOp at hh
  unfold wpOpIn
  cases ho : ops[i]? with
  | none =>
    simp only [ho] at hh ⊢
    exact h _ _ hw hh
  | some o =>
    simp only [ho] at hh ⊢
    by_cases hw2 : Region.wanted o (yielded ops a.tmps) = true
    · rw [if_pos hw2] at hh ⊢
      exact op_round (hnd i o ho) hw h hh
    · rw [if_neg hw2] at hh ⊢
      exact ⟨fun _ _ => trivial, h _ _ hw hh⟩
theorem any_round {P : Program} {C : World → Prop} {l n : Nat} {md : Region.Mode} {ops : Array Oper} {Q : Act → Prop} {Q' : Exit → Act → World → Prop} (hnd : ∀ (i : Nat) (o : Oper), ops[i]? = some o → noDefer o = true) (hQ : ∀ a w, C w → Q a → Q' .normal a w) : ∀ (fuel : Nat) (listed : Array Bool) (a : Act) (w : World), C w →
    wpAnyQ P md ops C Q fuel listed a → wpAnyIn (Fence.wide.inRound l) n P md ops Q' fuel listed a w
  | 0, _, _, _, hw, h => ⟨h.1, hQ _ _ hw h.2⟩
  | fuel + 1, _, _, _, hw, h => ⟨fun h0 => hQ _ _ hw (h.1 h0), fun i hi => ops_round hnd hw (fun a' w' hw' => any_round hnd hQ fuel _ a' w' hw') (h.2 i hi)⟩
theorem region_round {P : Program} {r n : Nat} {id : Nat} {Q : Exit → Act → World → Prop} {a : Act} {w : World} {l : List Oper} (hm : P.follows .mixedOrders = true) (hB : Region.lexB .any l.toArray = true) (hnd : l.all noDefer = true)
    (h : WQ P l.toArray (fun w' => ∃ p : GrownBy, w' = grow (w.drewN p.n) p.os) (fun a' => ∀ w', (∃ p : GrownBy, w' = grow (w.drewN p.n) p.os) → Q .normal a' w') l a) : (Code.region id l.toArray true).wpIn (Fence.wide.inRound r) n P Q a w := by
  have hnd' : ∀ (i : Nat) (o : Oper), l.toArray[i]? = some o → noDefer o = true := fun i o ho => List.all_eq_true.1 hnd o (List.mem_of_getElem? (by simpa using ho))
  have hB' := hB
  simp only [Region.lexB, Bool.and_eq_true] at hB'
  refine wpIn_region_any hm (any_round (Q := fun a' => ∀ w', (∃ p : GrownBy, w' = grow (w.drewN p.n) p.os) → Q .normal a' w') hnd' (fun _ w' hw' h => h w' hw') _ _ _ _ ⟨⟨1, #[]⟩, by rw [grow_empty]; rfl⟩ ?_)
  have := wpAnyQ_lex (P := P) (C := fun w' => ∃ p : GrownBy, w' = grow (w.drewN p.n) p.os) (md := .any) hB'.1 l 0 (Array.replicate l.toArray.size false) a (by simp) (by simpa using hB'.2) h.out
  simpa using this

theorem keeps_gw {A B : World} (g : Gw A B) : KeepsOthers A B := ⟨g.size, fun _ _ hk _ => (g.block (Array.getElem?_eq_some_iff.1 hk).1).trans hk⟩
/-- what a round must keep: the row that is gone over -/
def KpB (a : Option Addr) (W W' : World) : Prop := W.heap.size ≤ W'.heap.size ∧ ∀ p, a = some p → p.block < W.heap.size → W'.heap[p.block]? = W.heap[p.block]?
theorem KpB.refl (a : Option Addr) (W : World) : KpB a W W := ⟨Nat.le_refl _, fun _ _ _ => rfl⟩
theorem KpB.trans {a : Option Addr} {A B C : World} (h : KpB a A B) (k : KpB a B C) : KpB a A C := ⟨Nat.le_trans h.1 k.1, fun p e hp => (k.2 p e (Nat.lt_of_lt_of_le hp h.1)).trans (h.2 p e hp)⟩
theorem KpB.alloc {a : Option Addr} {A B : World} (h : KpB a A B) (o : Obj) : KpB a A (B.alloc o) := h.trans ⟨by simp, fun _ _ hp => Below.heap_alloc _ _ _ hp⟩
theorem KpB.of_but {a : Option Addr} {S : Nat → Prop} {A B : World} (h : But S A B) (hs : ∀ p, a = some p → ¬ S p.block) : KpB a A B := ⟨h.size, fun p e hp => h.block _ hp (hs p e)⟩
theorem KpB.gw {a : Option Addr} {A B : World} (g : Gw A B) : KpB a A B := ⟨g.size, fun _ _ hp => g.block hp⟩
theorem Cod.At.kp {α : Type} {C : Cod α} {a : Option Addr} {W W' : World} {n : Nat} {L : List α} (h : C.At W a n L) (k : KpB a W W') : C.At W' a n L := h.same k.1 k.2
theorem kpB_b {a : Option Addr} {B : Nat} (ha : ∀ p, a = some p → p.block < B) (W : World) (l : Nat) (o o' : Obj) (hl : B ≤ l) (_ : W.heap[l]? = some o) (_ : o.isCells = false) (_ : o.isWalk = false) : KpB a W (W.putObj l o') :=
  ⟨(grownBy_putObj' W l o').size, fun p e hp => (grownBy_putObj' W l o').block _ hp fun e2 => by have := ha p e; have := Option.some.inj e2; omega⟩
end Go.Proofs.Ytfchfhkhflghbaa
