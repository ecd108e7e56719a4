/-
  The walk of what All tells: the iterator's contract.
-/
import Derived.Test.YtgfoagpmkbdciaaHAll
import Derived.RangeFuncNested
import Derived.RangeFuncBound
import Derived.RangeFuncCalls
import Derived.RangeFuncLeaves
import Derived.RangeFuncBox
import Derived.Shelf.Abstract
import Derived.Shelf.RegionOpen
import Derived.WalkKit
import Derived.OwnWalkIn
import Derived.TacticsInMore
import Derived.LoopNIn
import Derived.LoopIn
namespace Go.Proofs.Ytgfoagpmkbdciaa
open Go Go.Shelf Go.RowKit Go.Lib Go.Sort Go.Proofs HpM

attribute [local go_sem] Oper.semAt_some

/-- what a round must keep: the items that are gone over -/
def KpB (a : Option Addr) (W W' : World) : Prop := W.heap.size ≤ W'.heap.size ∧ ∀ p, a = some p → p.block < W.heap.size → W'.heap[p.block]? = W.heap[p.block]?
theorem KpB.refl (a : Option Addr) (W : World) : KpB a W W := ⟨Nat.le_refl _, fun _ _ _ => rfl⟩
theorem KpB.trans {a : Option Addr} {A B C : World} (h : KpB a A B) (k : KpB a B C) : KpB a A C := ⟨Nat.le_trans h.1 k.1, fun p e hp => (k.2 p e (Nat.lt_of_lt_of_le hp h.1)).trans (h.2 p e hp)⟩
theorem KpB.alloc {a : Option Addr} {A B : World} (h : KpB a A B) (o : Obj) : KpB a A (B.alloc o) := h.trans ⟨by simp, fun _ _ hp => Below.heap_alloc _ _ _ hp⟩
theorem KpB.of_but {a : Option Addr} {S : Nat → Prop} {A B : World} (h : But S A B) (hs : ∀ p, a = some p → ¬ S p.block) : KpB a A B := ⟨h.size, fun p e hp => h.block _ hp (hs p e)⟩
theorem ItAt.kp {a : Option Addr} {W W' : World} {n : Nat} {L : List It} (h : ItAt W a n L) (k : KpB a W W') : ItAt W' a n L := by
  obtain ⟨h1, h2, h3 | ⟨B, off, e, hB, hc⟩⟩ := h
  · exact ⟨h1, h2, .inl h3⟩
  · exact ⟨h1, h2, .inr ⟨B, off, e, Nat.lt_of_lt_of_le hB k.1, fun i hi => (hc i hi).same (k.2 _ e hB)⟩⟩

set_option maxRecDepth 100000 in
set_option maxHeartbeats 2000000 in
theorem iter_in (F : Fence) (n : Nat) (hf : F.fn 43) (hro : F.round = none) (hn : 1 ≤ n) (l S0 : Nat) (a b : Option Addr) (c : Nat) (L : List It) (hba : L = [] ∨ b = a) (J Jx : List It → World → Prop) (W : World) (hJ : AbidesFrom W.heap.size J)
    (hY : ∀ pre x W, J pre W → pre.length < L.length → YieldAt F (n - 1) Try.prog l #[ItV x] W fun e W' =>
      (e = .returned (.bool true) ∧ J (pre ++ [x]) W' ∧ KpB b W W') ∨ (e = .returned (.bool false) ∧ Jx (pre ++ [x]) W'))
    (hc : W.cell? ⟨S0, 0, none⟩ = some (.slice a L.length c)) (hL : ItAt W a L.length L) (h0 : J [] W) :
    CallsIn F n Try.prog 43 #[.func (.yield l) #[] #[], .pointer (some ⟨S0, 0, none⟩)] W fun e W' => (∃ v, e = .returned v) ∧ ((∃ ys, ys = L ∧ J ys W') ∨ (∃ pre, pre <+: L ∧ Jx pre W')) := by
  have HL := Lib.hid hL
  have HJ := Lib.hid hJ
  have hlb := hL.2.1
  clear hL hJ
  refine callsIn_of_wp Try.func43 rfl hf ?_ hro
  simp only [Try.ntmps43, List.size_toArray, List.length_cons, List.length_nil, Nat.reduceAdd, Nat.reduceSub, Array.replicate_succ, Array.replicate_zero, List.push_toArray, List.append_toArray, List.nil_append, List.cons_append]
  gi_wp2
  gi_loopw [7] (fun i wr => ∃ k : Nat, k ≤ L.length ∧ i = .int .i64 k ∧ Hid (J (L.take k) wr ∧ KpB b W wr))
    (fun i _ => L.length - (intOf i).toNat)
  case atStart => exact ⟨0, Nat.zero_le _, rfl, h0, KpB.refl _ _⟩
  case round =>
    obtain ⟨k, hk, rfl, HS⟩ := hrel
    by_cases hlt : k < L.length
    · obtain rfl : b = a := by
        rcases hba with h | h
        · rw [h] at hlt
          simp at hlt
        · exact h
      obtain ⟨B, off, rfl, -, x, hx, hcell⟩ := (HL.out.kp HS.out.2).cell hlt
      obtain ⟨x0, x1, x2, x3, x4, x5, x6⟩ := hcell.seven
      have hJa : J (L.take k) (wr.alloc (ItO x)) := HJ.out _ _ _ none HS.out.1 (World.grownBy_alloc wr _ none) (fun r e => by cases e)
      obtain ⟨fn, tmps, assign, body, hy, hR⟩ := hY _ x _ hJa (by rw [List.length_take]; omega)
      have htk : Hid (L.take (k + 1) = L.take k ++ [x]) := by
        show _ = _
        rw [List.take_add_one, hx]
        rfl
      have hkz : (k : Int) < (L.length : Int) := by omega
      clear hJa hcell hx
      gi_wp2
      refine hR.mono ?_
      rintro e W3 (⟨rfl, hJ3, hk3⟩ | ⟨rfl, hJx3⟩)
      · have HJ3 : Hid (J (L.take (k + 1)) W3 ∧ KpB (some ⟨B, off, none⟩) W W3) := ⟨by rw [htk.out]; exact hJ3, (HS.out.2.alloc _).trans hk3⟩
        clear hk3 hJ3 hR hy
        gi_wp2
        go_roundw
        case rel => exact ⟨k + 1, by omega, by go_num, HJ3⟩
        case measure => simp [intOf]; omega
      · gi_wp2
        refine bodyPost_ret (results_none rfl _ _ _) rfl ?_
        refine ⟨⟨_, rfl⟩, .inr ⟨L.take (k + 1), List.take_prefix _ _, ?_⟩⟩
        rw [htk.out]
        exact hJx3
    · obtain rfl : k = L.length := by omega
      gi_wp2
      go_end0
      refine ⟨⟨_, rfl⟩, .inl ⟨L, rfl, ?_⟩⟩
      have := HS.out.1
      rwa [List.take_length] at this

/-- what All tells: all of the items, in their order; or a part of them, a round having said that it is enough -/
theorem iter_stops (F : Fence) (n : Nat) (hf : F.fn 43) (hro : F.round = none) (hn : 1 ≤ n) (S0 : Nat) (a b : Option Addr) (c : Nat) (L : List It) (hba : L = [] ∨ b = a) (w : World) (hS : w.heap[S0]? = some (.cells #[.slice a L.length c] 27 (0, 0))) (hL : ItAt w a L.length L) :
    SeqStopsK F n Try.prog 43 #[.pointer (some ⟨S0, 0, none⟩)] (fun x : It => #[ItV x]) (KpB b) (fun ys => ys = L) (fun pre => pre <+: L) L.length w := fun l J Jx W hW hJ _ hY h0 => by
  have hS' : W.heap[S0]? = some (.cells #[.slice a L.length c] 27 (0, 0)) := (hW.block _ (Array.getElem?_eq_some_iff.1 hS).1).trans hS
  have hL' := hL.below hW
  exact iter_in F n hf hro hn l S0 a b c L hba J Jx W hJ hY (by rw [cell_of_row _ _ _ _ _ _ hS']; rfl) hL' h0
theorem kpB_b {a : Option Addr} {B : Nat} (ha : ∀ p, a = some p → p.block < B) (W : World) (l : Nat) (o o' : Obj) (hl : B ≤ l) (_ : W.heap[l]? = some o) (_ : o.isCells = false) (_ : o.isWalk = false) : KpB a W (W.putObj l o') :=
  ⟨(grownBy_putObj' W l o').size, fun p e hp => (grownBy_putObj' W l o').block _ hp fun e2 => by have := ha p e; have := Option.some.inj e2; omega⟩
end Go.Proofs.Ytgfoagpmkbdciaa
