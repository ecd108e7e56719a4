/-
  maps.Clone; what All tells: the iterator's contract.
-/
import Derived.Test.YtfonbompglddaaaWKeys
import Derived.Test.YtfonbompglddaaaShelf
namespace Go.Proofs.Ytfonbompglddaaa
open Go Go.Shelf Go.RowKit Go.Lib Go.Sort Go.Proofs

attribute [local go_sem] Oper.semAt_some

def CloneTo (m : Option Nat) (L : List On) (w : World) (e : Ending) (w' : World) : Prop := ∃ m', e = .returned (.map m') ∧ ((m = none ∧ m' = none ∧ L = [] ∧ w' = w) ∨ (m' = some w.heap.size ∧ MapL w' w.heap.size L)) ∧ Below w.heap.size w w'
theorem clone_any {w : World} {m : Option Nat} {L : List On} (h : (m = none ∧ L = []) ∨ ∃ M, m = some M ∧ MapL w M L) : Calls Try.prog 29 #[.map m] w (CloneTo m L w) := by
  rcases h with ⟨rfl, rfl⟩ | ⟨M, rfl, D, h1, h2⟩
  · have := AnyW.maps_Clone_nil Try.cloneMap w
    change Calls Try.prog 29 _ _ _ at this
    refine this.mono ?_
    rintro e w' ⟨rfl, rfl⟩
    exact ⟨none, rfl, .inl ⟨rfl, rfl, rfl, rfl⟩, Below.refl _ _⟩
  · have := AnyW.maps_Clone_owns Try.cloneMap uT bR M L.length D w h1
    change Calls Try.prog 29 _ _ _ at this
    refine this.mono ?_
    rintro e w' ⟨rfl, k1, k2, k3⟩
    exact ⟨some w.heap.size, rfl, .inr ⟨rfl, D, k1, h2⟩, k3⟩

/-- what a round must keep: the blocks F -/
def KpF (F : Nat → Prop) (W W' : World) : Prop := W.heap.size ≤ W'.heap.size ∧ ∀ b, F b → b < W.heap.size → W'.heap[b]? = W.heap[b]?
theorem KpF.refl (F : Nat → Prop) (W : World) : KpF F W W := ⟨Nat.le_refl _, fun _ _ _ => rfl⟩
theorem KpF.trans {F : Nat → Prop} {A B C : World} (h : KpF F A B) (k : KpF F B C) : KpF F A C := ⟨Nat.le_trans h.1 k.1, fun b e hp => (k.2 b e (Nat.lt_of_lt_of_le hp h.1)).trans (h.2 b e hp)⟩
theorem KpF.alloc {F : Nat → Prop} {A B : World} (h : KpF F A B) (o : Obj) : KpF F A (B.alloc o) := h.trans ⟨by simp, fun _ _ hp => Below.heap_alloc _ _ _ hp⟩
theorem KpF.of_but {F S : Nat → Prop} {A B : World} (h : But S A B) (hs : ∀ b, F b → ¬ S b) : KpF F A B := ⟨h.size, fun b e hp => h.block _ hp (hs b e)⟩
theorem kpF_b {F : Nat → Prop} {B : Nat} (hF : ∀ b, F b → b < B) (W : World) (l : Nat) (o o' : Obj) (hl : B ≤ l) (_ : W.heap[l]? = some o) (_ : o.isCells = false) (_ : o.isWalk = false) : KpF F W (W.putObj l o') :=
  ⟨(grownBy_putObj' W l o').size, fun b e hp => (grownBy_putObj' W l o').block _ hp fun e2 => by have := hF b e; have := Option.some.inj e2; omega⟩
/-- what All's closure goes over: the numbers' row, a map's box, within F -/
structure It (w : World) (F : Nat → Prop) (a : Option Addr) (S1 : Nat) (L : List On) : Prop where
  row : IdC.At w a L.length (ids L)
  fa : ∀ p, a = some p → F p.block
  fS : F S1
  box : ∃ m, w.heap[S1]? = some (.cells #[.map m] mT (0, 0)) ∧ ((m = none ∧ L = []) ∨ ∃ M, m = some M ∧ F M ∧ MapL w M L)
  lt : ∀ b, F b → b < w.heap.size
theorem It.kp {w w' : World} {F : Nat → Prop} {a : Option Addr} {S1 : Nat} {L : List On} (h : It w F a S1 L) (k : KpF F w w') : It w' F a S1 L := by
  obtain ⟨m, h1, h2⟩ := h.box
  refine ⟨h.row.same k.1 fun p e hp => k.2 _ (h.fa p e) hp, h.fa, h.fS, ⟨m, (k.2 _ h.fS (h.lt _ h.fS)).trans h1, ?_⟩, fun b e => Nat.lt_of_lt_of_le (h.lt b e) k.1⟩
  rcases h2 with h2 | ⟨M, e, fM, hM⟩
  · exact .inl h2
  · exact .inr ⟨M, e, fM, hM.same (k.2 _ fM hM.lt)⟩
theorem It.below {w w' : World} {F : Nat → Prop} {a : Option Addr} {S1 : Nat} {L : List On} (h : It w F a S1 L) (hb : Below w.heap.size w w') : It w' F a S1 L := h.kp ⟨hb.size, fun _ _ hp => hb.block _ hp⟩

set_option maxRecDepth 100000 in
set_option maxHeartbeats 2000000 in
theorem iter_in (Fc : Fence) (n : Nat) (hf : Fc.fn 35) (hro : Fc.round = none) (hn : 1 ≤ n) (l S0 S1 : Nat) (F : Nat → Prop) (a : Option Addr) (c : Nat) (L : List On) (hL : Wl L) (J Jx : List On → World → Prop) (W : World)
    (hY : ∀ pre x W, J pre W → pre.length < L.length → YieldAt Fc (n - 1) Try.prog l #[.int .u32 (x.1 : Nat), BkV x.2] W fun e W' =>
      (e = .returned (.bool true) ∧ J (pre ++ [x]) W' ∧ KpF F W W') ∨ (e = .returned (.bool false) ∧ Jx (pre ++ [x]) W'))
    (hc : W.cell? ⟨S0, 0, none⟩ = some (.slice a L.length c)) (h : It W F a S1 L) (h0 : J [] W) :
    CallsIn Fc n Try.prog 35 #[.func (.yield l) #[] #[], .pointer (some ⟨S0, 0, none⟩), .pointer (some ⟨S1, 0, none⟩)] W fun e W' => (∃ v, e = .returned v) ∧ ((∃ ys, ys = L ∧ J ys W') ∨ (∃ pre, pre <+: L ∧ Jx pre W')) := by
  have H := Lib.hid h
  have HL : Hid (Wl L) := hL
  have hlb : L.length ≤ 1000000 := by have := hL.le; omega
  clear h hL
  refine callsIn_of_wp Try.func35 rfl hf ?_ hro
  simp only [Try.ntmps35, List.size_toArray, List.length_cons, List.length_nil, Nat.reduceAdd, Nat.reduceSub, Array.replicate_succ, Array.replicate_zero, List.push_toArray, List.append_toArray, List.nil_append, List.cons_append]
  gi_wp2
  gi_loopw [8] (fun i wr => ∃ k : Nat, k ≤ L.length ∧ i = .int .i64 k ∧ Hid (J (L.take k) wr ∧ KpF F W wr))
    (fun i _ => L.length - (intOf i).toNat)
  case atStart => exact ⟨0, Nat.zero_le _, rfl, h0, KpF.refl _ _⟩
  case round =>
    obtain ⟨k, hk, rfl, HS⟩ := hrel
    by_cases hlt : k < L.length
    · have hw := H.out.kp HS.out.2
      obtain ⟨B, off, rfl, -, i, hi, hcell⟩ := hw.row.cell hlt
      have x0 := hcell 0 (by decide)
      simp only [show IdC.k = 1 from rfl, Nat.mul_one, Nat.add_zero] at x0
      have x1 : wr.cell? ⟨B, off + k, none⟩ = some (.int .u32 (i : Nat)) := x0
      obtain ⟨⟨i2, b⟩, hx⟩ : ∃ x, L[k]? = some x := ⟨_, List.getElem?_eq_getElem hlt⟩
      obtain rfl : i = i2 := by
        rw [List.getElem?_map, hx] at hi
        exact (Option.some.inj hi).symm
      have hmem := List.mem_of_getElem? hx
      obtain ⟨m, b1, b2⟩ := hw.box
      have c1 : wr.cell? ⟨S1, 0, none⟩ = some (.map m) := by rw [cell_of_row _ _ _ _ _ _ b1]; rfl
      have hlk : (Instr.lookup mT (.map m) (.int .u32 (i : Nat)) false).run Try.prog wr = .ok (BkV b) wr := by
        rcases b2 with ⟨-, e⟩ | ⟨M, rfl, -, hM⟩
        · rw [e] at hmem; cases hmem
        · have := hM.look1 (HL.out.lt _ hmem)
          rw [lget_of HL.out hmem] at this
          exact this
      obtain ⟨fn, tmps, assign, body, hy, hR⟩ := hY _ (i, b) _ HS.out.1 (by rw [List.length_take]; omega)
      have htk : Hid (L.take (k + 1) = L.take k ++ [(i, b)]) := by
        show _ = _
        rw [List.take_add_one, hx]
        rfl
      have hkz : (k : Int) < (L.length : Int) := by omega
      clear hcell hx hi hw b1 b2 hmem x0
      gi_wp2
      refine hR.mono ?_
      rintro e W3 (⟨rfl, hJ3, hk3⟩ | ⟨rfl, hJx3⟩)
      · have HJ3 : Hid (J (L.take (k + 1)) W3 ∧ KpF F W W3) := ⟨by rw [htk.out]; exact hJ3, HS.out.2.trans hk3⟩
        clear hk3 hJ3 hR hy
        gi_wp2
        go_roundw
        case rel => exact ⟨k + 1, by omega, by go_num, HJ3⟩
        case measure => simp [intOf]; omega
      · gi_wp2
        refine bodyPost_ret (results_none rfl _ _ _) rfl ?_
        refine ⟨⟨_, rfl⟩, .inr ⟨L.take (k + 1), List.take_prefix _ _, ?_⟩⟩
        rw [htk.out]
        exact hJx3
    · obtain rfl : k = L.length := by omega
      gi_wp2
      go_end0
      refine ⟨⟨_, rfl⟩, .inl ⟨L, rfl, ?_⟩⟩
      have := HS.out.1
      rwa [List.take_length] at this
/-- what All tells: all of them, in their order; or a part of them, a round having said that it is enough -/
theorem iter_stops (Fc : Fence) (n : Nat) (hf : Fc.fn 35) (hro : Fc.round = none) (hn : 1 ≤ n) (S0 S1 : Nat) (F : Nat → Prop) (a : Option Addr) (c : Nat) (L : List On) (hL : Wl L) (w : World) (hS : w.heap[S0]? = some (.cells #[.slice a L.length c] suT (0, 0))) (h : It w F a S1 L) :
    SeqStopsK Fc n Try.prog 35 #[.pointer (some ⟨S0, 0, none⟩), .pointer (some ⟨S1, 0, none⟩)] (fun x : On => #[.int .u32 (x.1 : Nat), BkV x.2]) (KpF F) (fun ys => ys = L) (fun pre => pre <+: L) L.length w := fun l J Jx W hW _ _ hY h0 => by
  have hS' : W.heap[S0]? = some (.cells #[.slice a L.length c] suT (0, 0)) := (hW.block _ (Array.getElem?_eq_some_iff.1 hS).1).trans hS
  exact iter_in Fc n hf hro hn l S0 S1 F a c L hL J Jx W hY (by rw [cell_of_row _ _ _ _ _ _ hS']; rfl) (h.below hW) h0
end Go.Proofs.Ytfonbompglddaaa
