/-
  The walk of what each tells: the iterator's contract.
-/
import Derived.Test.YtifniehfbafcoaaPPlace
import Derived.Test.YtifniehfbafcoaaGRound
import Derived.RangeFuncNested
import Derived.RangeFuncBound
import Derived.RangeFuncCalls
import Derived.RangeFuncLeaves
import Derived.RangeFuncBox
import Derived.Shelf.Abstract
import Derived.Shelf.RegionOpen
import Derived.WalkKit
import Derived.OwnWalkIn
import Derived.TacticsInMore
import Derived.LoopNIn
import Derived.LoopIn
namespace Go.Proofs.Ytifniehfbafcoaa
open Go Go.Shelf Go.RowKit Go.Lib Go.Sort Go.Proofs

attribute [local go_sem] Oper.semAt_some

/-- what a round must keep: the blocks F -/
def KpF (F : Nat → Prop) (W W' : World) : Prop := W.heap.size ≤ W'.heap.size ∧ ∀ b, F b → b < W.heap.size → W'.heap[b]? = W.heap[b]?
theorem KpF.refl (F : Nat → Prop) (W : World) : KpF F W W := ⟨Nat.le_refl _, fun _ _ _ => rfl⟩
theorem KpF.trans {F : Nat → Prop} {A B C : World} (h : KpF F A B) (k : KpF F B C) : KpF F A C := ⟨Nat.le_trans h.1 k.1, fun b e hp => (k.2 b e (Nat.lt_of_lt_of_le hp h.1)).trans (h.2 b e hp)⟩
theorem KpF.alloc {F : Nat → Prop} {A B : World} (h : KpF F A B) (o : Obj) : KpF F A (B.alloc o) := h.trans ⟨by simp, fun _ _ hp => Below.heap_alloc _ _ _ hp⟩
theorem KpF.of_but {F S : Nat → Prop} {A B : World} (h : But S A B) (hs : ∀ b, F b → ¬ S b) : KpF F A B := ⟨h.size, fun b e hp => h.block _ hp (hs b e)⟩
theorem kpF_b {F : Nat → Prop} {B : Nat} (hF : ∀ b, F b → b < B) (W : World) (l : Nat) (o o' : Obj) (hl : B ≤ l) (_ : W.heap[l]? = some o) (_ : o.isCells = false) (_ : o.isWalk = false) : KpF F W (W.putObj l o') :=
  ⟨(grownBy_putObj' W l o').size, fun b e hp => (grownBy_putObj' W l o').block _ hp fun e2 => by have := hF b e; have := Option.some.inj e2; omega⟩
theorem Cod.Own.kpF {α : Type} {C : Cod α} {T : TypeId} {F : Nat → Prop} {B : Nat} {w w' : World} {v : Value} {l : List α} (h : C.Own T B w v l) (k : KpF F w w') (hs : ∀ b, v.ownBlock = some b → F b) : C.Own T B w' v l := by
  refine ⟨h.1, ?_⟩
  rcases h.2 with h2 | ⟨g, cap, cur, e, hg, hh, rest⟩
  · exact .inl h2
  · exact .inr ⟨g, cap, cur, e, hg, (k.2 g (hs g (by rw [e]; rfl)) (Array.getElem?_eq_some_iff.1 hh).1).trans hh, rest⟩
theorem PlX.kp {w w' : World} {G : Nat} {F : Nat → Prop} {v : Value} {vs : List Sl} {bs : List (List Ms)} {m n : Nat} (h : PlX w G F v vs bs m n) (k : KpF F w w') : PlX w' G F v vs bs m n :=
  ⟨(k.2 _ h.fG (h.lt _ h.fG)).trans h.g, h.fG, fun b e => Nat.lt_of_lt_of_le (h.lt b e) k.1, h.row.kpF k h.fV, h.fV, h.len,
    fun j s l h1 h2 => (h.own j s l h1 h2).kpF k fun b e => h.fS j s b h1 e, h.fS, h.apart, h.le⟩

set_option maxRecDepth 100000 in
set_option maxHeartbeats 2000000 in
theorem each_in (Fc : Fence) (n : Nat) (hf : Fc.fn 40) (hro : Fc.round = none) (hn : 1 ≤ n) (l S0 G : Nat) (F : Nat → Prop) (v : Value) (vs : List Sl) (bs : List (List Ms)) (m nn : Nat) (J Jx : List Ms → World → Prop) (W : World) (hJ : AbidesFrom W.heap.size J)
    (hY : ∀ pre x W, J pre W → pre.length < bs.flatten.length → YieldAt Fc (n - 1) Try.prog l #[MsV x] W fun e W' =>
      (e = .returned (.bool true) ∧ J (pre ++ [x]) W' ∧ KpF F W W') ∨ (e = .returned (.bool false) ∧ Jx (pre ++ [x]) W'))
    (hc : W.cell? ⟨S0, 0, none⟩ = some (.pointer (some ⟨G, 0, none⟩))) (h : PlX W G F v vs bs m nn) (hbl : bs.length ≤ 1000000) (h0 : J [] W) :
    CallsIn Fc n Try.prog 40 #[.func (.yield l) #[] #[], .pointer (some ⟨S0, 0, none⟩)] W fun e W' => (∃ v, e = .returned v) ∧ ((∃ ys, ys = bs.flatten ∧ J ys W') ∨ (∃ pre, pre <+: bs.flatten ∧ Jx pre W')) := by
  obtain ⟨a, q, c, rfl⟩ := h.row.shape
  have HQ : Hid (q = vs.length ∧ vs.length = bs.length) := ⟨h.row.size.1, h.len⟩
  have hqb : q ≤ 1000000 := by rw [HQ.out.1, HQ.out.2]; exact hbl
  obtain ⟨c0, -, -, -⟩ := h.cells
  have H := Lib.hid h
  have HJ := Lib.hid hJ
  have H00 := Lib.hid h0
  clear h hJ hbl h0
  refine callsIn_of_wp Try.func40 rfl hf ?_ hro
  simp only [Try.ntmps40, List.size_toArray, List.length_cons, List.length_nil, Nat.reduceAdd, Nat.reduceSub, Array.replicate_succ, Array.replicate_zero, List.push_toArray, List.append_toArray, List.nil_append, List.cons_append]
  gi_wp2
  gi_loopw [14] (fun i wr => ∃ k : Nat, k ≤ q ∧ i = .int .i64 k ∧ Hid (J (bs.take k).flatten wr ∧ KpF F W wr))
    (fun i _ => q - (intOf i).toNat)
  case atStart => exact ⟨0, Nat.zero_le _, rfl, H00.out, KpF.refl _ _⟩
  case round =>
    obtain ⟨k, hk, rfl, HS⟩ := hrel
    by_cases hlt : k < q
    · obtain ⟨s, hs⟩ := H.out.ex2 (j := k) (by have := HQ.out; omega)
      obtain ⟨bl, hl⟩ := H.out.ex hs
      obtain ⟨g, c', e, -, -⟩ := H.out.row.some_ (by have := HQ.out; omega)
      injection e with e1 e2 e3
      subst e1
      have hcell := sl_cell (H.out.kp HS.out.2).row hs
      have ho := H.out.own k s bl hs hl
      have fs := fun b => H.out.fS k s b hs
      obtain ⟨sa, sn, sc⟩ := s
      replace hcell : wr.cell? ⟨g, k, none⟩ = some (.slice sa sn sc) := hcell
      have hsn : sn = bl.length := ho.size.1
      have h128 : bl.length ≤ 128 := H.out.le bl (List.mem_of_getElem? hl)
      have HSN := Lib.hid hsn
      have HO := Lib.hid (And.intro ho fs)
      have HL := Lib.hid hl
      have hsb : sn ≤ 128 := by omega
      have hkz : (k : Int) < (q : Int) := by omega
      clear e2 e3 ho fs hs hl hsn h128
      gi_wp2
      gi_loopw [20] (fun i wr => ∃ r : Nat, r ≤ sn ∧ i = .int .i64 r ∧ Hid (J ((bs.take k).flatten ++ bl.take r) wr ∧ KpF F W wr))
        (fun i _ => sn - (intOf i).toNat)
      case atStart => exact ⟨0, Nat.zero_le _, rfl, by show _ ∧ _; rw [List.take_zero, List.append_nil]; exact HS.out⟩
      case round =>
        obtain ⟨r, hr, rfl, HS2⟩ := hrel
        by_cases hlt2 : r < sn
        · obtain ⟨B, sc', e, -, -⟩ := HO.out.1.some_ (by have := HSN.out; omega)
          injection e with e1 e2 e3
          subst e1
          have hw2 := HO.out.1.kpF HS2.out.2 HO.out.2
          obtain ⟨a', c2, e', -, hat, -, -⟩ := hw2.at_ (by have := HSN.out; omega)
          injection e' with e4 e5 e6
          subst e4
          obtain ⟨B', off, e7, -, x, hx, hcl⟩ := at_cell hat (i := r) (by have := HSN.out; omega)
          cases e7
          obtain ⟨x0, x1, x2, x3, x4, x5, x6, x7, x8, x9⟩ := ten hcl
          simp only [Nat.zero_add] at x0 x1 x2 x3 x4 x5 x6 x7 x8 x9
          have hJa : J ((bs.take k).flatten ++ bl.take r) (wr.alloc (MsO x)) := HJ.out _ _ _ none HS2.out.1 (World.grownBy_alloc wr _ none) (fun r e => by cases e)
          obtain ⟨fn, tmps, assign, body, hy, hR⟩ := hY _ x _ hJa (by
            rw [flat_split HL.out, List.length_append, List.length_append, List.length_append, List.length_take]
            have := HSN.out
            omega)
          have htk : Hid ((bs.take k).flatten ++ bl.take (r + 1) = ((bs.take k).flatten ++ bl.take r) ++ [x]) := by
            show _ = _
            rw [List.take_add_one, hx, List.append_assoc]
            rfl
          have hrz : (r : Int) < (sn : Int) := by omega
          clear hJa hcl hx e2 e3 e5 e6 hw2 hat
          gi_wp2
          refine hR.mono ?_
          rintro e W3 (⟨rfl, hJ3, hk3⟩ | ⟨rfl, hJx3⟩)
          · have HJ3 : Hid (J ((bs.take k).flatten ++ bl.take (r + 1)) W3 ∧ KpF F W W3) := ⟨by rw [htk.out]; exact hJ3, (HS2.out.2.alloc _).trans hk3⟩
            clear hk3 hJ3 hR hy
            gi_wp2
            go_roundw
            case rel => exact ⟨r + 1, by omega, by go_num, HJ3⟩
            case measure => simp [intOf]; omega
          · gi_wp2
            refine bodyPost_ret (results_none rfl _ _ _) rfl ?_
            refine ⟨⟨_, rfl⟩, .inr ⟨(bs.take k).flatten ++ bl.take (r + 1), ?_, ?_⟩⟩
            · rw [flat_split HL.out]
              exact (List.prefix_append_right_inj _).2 ((List.take_prefix _ _).trans (List.prefix_append _ _))
            · rw [htk.out]
              exact hJx3
        · obtain rfl : r = sn := by omega
          have HJ4 : Hid (J (bs.take (k + 1)).flatten wr ∧ KpF F W wr) := ⟨by rw [flat_take_succ HL.out]; have := HS2.out.1; rwa [HSN.out, List.take_length] at this, HS2.out.2⟩
          gi_wp2
          go_roundw
          case rel => exact ⟨k + 1, by omega, by go_num, HJ4⟩
          case measure => simp [intOf]; omega
    · obtain rfl : k = q := by omega
      gi_wp2
      go_end0
      refine ⟨⟨_, rfl⟩, .inl ⟨bs.flatten, rfl, ?_⟩⟩
      have := HS.out.1
      rwa [HQ.out.1, HQ.out.2, List.take_length] at this

/-- what each tells: all of the messages, in their order; or a part of them, a round having said that it is enough -/
theorem each_stops (Fc : Fence) (n : Nat) (hf : Fc.fn 40) (hro : Fc.round = none) (hn : 1 ≤ n) (S0 G : Nat) (F : Nat → Prop) (v : Value) (vs : List Sl) (bs : List (List Ms)) (m nn : Nat) (w : World) (hS : w.heap[S0]? = some (.cells #[.pointer (some ⟨G, 0, none⟩)] 24 (0, 0))) (h : PlX w G F v vs bs m nn) (hbl : bs.length ≤ 1000000) :
    SeqStopsK Fc n Try.prog 40 #[.pointer (some ⟨S0, 0, none⟩)] (fun x : Ms => #[MsV x]) (KpF F) (fun ys => ys = bs.flatten) (fun pre => pre <+: bs.flatten) bs.flatten.length w := fun l J Jx W hW hJ _ hY h0 => by
  have hS' : W.heap[S0]? = some (.cells #[.pointer (some ⟨G, 0, none⟩)] 24 (0, 0)) := (hW.block _ (Array.getElem?_eq_some_iff.1 hS).1).trans hS
  exact each_in Fc n hf hro hn l S0 G F v vs bs m nn J Jx W hJ hY (by rw [cell_of_row _ _ _ _ _ _ hS']; rfl) (h.below hW) hbl h0
/-- a closure over a box of the pool's address -/
def EachTo (G : Nat) (w : World) (e : Ending) (w' : World) : Prop := e = .returned (.func (.func 40) #[] #[.pointer (some ⟨w.heap.size, 0, none⟩)]) ∧ w' = w.alloc (.cells #[.pointer (some ⟨G, 0, none⟩)] 24)
theorem each_any (w : World) (G : Nat) : Calls Try.prog 33 #[.pointer (some ⟨G, 0, none⟩)] w (EachTo G w) := by
  go_enter Try.func33, Try.ntmps33
  go_wp2_with fail
  go_ret
  exact ⟨rfl, rfl⟩
end Go.Proofs.Ytifniehfbafcoaa
