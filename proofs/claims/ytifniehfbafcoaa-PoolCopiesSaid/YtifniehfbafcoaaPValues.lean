/-
  The walks of slices.Values and of what it tells.
-/
import Derived.Test.YtifniehfbafcoaaPEach
namespace Go.Proofs.Ytifniehfbafcoaa
open Go Go.Shelf Go.RowKit Go.Lib Go.Sort Go.Proofs

attribute [local go_sem] Oper.semAt_some

set_option maxRecDepth 100000 in
set_option maxHeartbeats 2000000 in
theorem iter_in (F : Fence) (n : Nat) (hf : F.fn 36) (hro : F.round = none) (hn : 1 ≤ n) (l S0 : Nat) (a b : Option Addr) (c : Nat) (L : List Ms) (hba : L = [] ∨ b = a) (J Jx : List Ms → World → Prop) (W : World) (hJ : AbidesFrom W.heap.size J)
    (hY : ∀ pre x W, J pre W → pre.length < L.length → YieldAt F (n - 1) Try.prog l #[MsV x] W fun e W' =>
      (e = .returned (.bool true) ∧ J (pre ++ [x]) W' ∧ KpB b W W') ∨ (e = .returned (.bool false) ∧ Jx (pre ++ [x]) W'))
    (hc : W.cell? ⟨S0, 0, none⟩ = some (.slice a L.length c)) (hL : MsC.At W a L.length L) (h0 : J [] W) :
    CallsIn F n Try.prog 36 #[.func (.yield l) #[] #[], .pointer (some ⟨S0, 0, none⟩)] W fun e W' => (∃ v, e = .returned v) ∧ ((∃ ys, ys = L ∧ J ys W') ∨ (∃ pre, pre <+: L ∧ Jx pre W')) := by
  have HL := Lib.hid hL
  have HJ := Lib.hid hJ
  have hlb := hL.2.1
  clear hL hJ
  refine callsIn_of_wp Try.func36 rfl hf ?_ hro
  simp only [Try.ntmps36, List.size_toArray, List.length_cons, List.length_nil, Nat.reduceAdd, Nat.reduceSub, Array.replicate_succ, Array.replicate_zero, List.push_toArray, List.append_toArray, List.nil_append, List.cons_append]
  gi_wp2
  gi_loopw [7] (fun i wr => ∃ k : Nat, k ≤ L.length ∧ i = .int .i64 k ∧ Hid (J (L.take k) wr ∧ KpB b W wr))
    (fun i _ => L.length - (intOf i).toNat)
  case atStart => exact ⟨0, Nat.zero_le _, rfl, h0, KpB.refl _ _⟩
  case round =>
    obtain ⟨k, hk, rfl, HS⟩ := hrel
    by_cases hlt : k < L.length
    · obtain rfl : b = a := by
        rcases hba with h | h
        · rw [h] at hlt
          simp at hlt
        · exact h
      obtain ⟨B, off, rfl, -, x, hx, hcell⟩ := at_cell (HL.out.kp HS.out.2) hlt
      obtain ⟨x0, x1, x2, x3, x4, x5, x6, x7, x8, x9⟩ := ten hcell
      have hJa : J (L.take k) (wr.alloc (MsO x)) := HJ.out _ _ _ none HS.out.1 (World.grownBy_alloc wr _ none) (fun r e => by cases e)
      obtain ⟨fn, tmps, assign, body, hy, hR⟩ := hY _ x _ hJa (by rw [List.length_take]; omega)
      have htk : Hid (L.take (k + 1) = L.take k ++ [x]) := by
        show _ = _
        rw [List.take_add_one, hx]
        rfl
      have hkz : (k : Int) < (L.length : Int) := by omega
      clear hJa hcell hx
      gi_wp2
      refine hR.mono ?_
      rintro e W3 (⟨rfl, hJ3, hk3⟩ | ⟨rfl, hJx3⟩)
      · have HJ3 : Hid (J (L.take (k + 1)) W3 ∧ KpB (some ⟨B, off, none⟩) W W3) := ⟨by rw [htk.out]; exact hJ3, (HS.out.2.alloc _).trans hk3⟩
        clear hk3 hJ3 hR hy
        gi_wp2
        go_roundw
        case rel => exact ⟨k + 1, by omega, by go_num, HJ3⟩
        case measure => simp [intOf]; omega
      · gi_wp2
        refine bodyPost_ret (results_none rfl _ _ _) rfl ?_
        refine ⟨⟨_, rfl⟩, .inr ⟨L.take (k + 1), List.take_prefix _ _, ?_⟩⟩
        rw [htk.out]
        exact hJx3
    · obtain rfl : k = L.length := by omega
      gi_wp2
      go_end0
      refine ⟨⟨_, rfl⟩, .inl ⟨L, rfl, ?_⟩⟩
      have := HS.out.1
      rwa [List.take_length] at this

/-- what All tells: all of the messages, in their order; or a part of them, a round having said that it is enough -/
theorem iter_stops (F : Fence) (n : Nat) (hf : F.fn 36) (hro : F.round = none) (hn : 1 ≤ n) (S0 : Nat) (a b : Option Addr) (c : Nat) (L : List Ms) (hba : L = [] ∨ b = a) (w : World) (hS : w.heap[S0]? = some (.cells #[.slice a L.length c] 27 (0, 0))) (hL : MsC.At w a L.length L) :
    SeqStopsK F n Try.prog 36 #[.pointer (some ⟨S0, 0, none⟩)] (fun x : Ms => #[MsV x]) (KpB b) (fun ys => ys = L) (fun pre => pre <+: L) L.length w := fun l J Jx W hW hJ _ hY h0 => by
  have hS' : W.heap[S0]? = some (.cells #[.slice a L.length c] 27 (0, 0)) := (hW.block _ (Array.getElem?_eq_some_iff.1 hS).1).trans hS
  have hL' := hL.below hW
  exact iter_in F n hf hro hn l S0 a b c L hba J Jx W hJ hY (by rw [cell_of_row _ _ _ _ _ _ hS']; rfl) hL' h0
/-- a closure over a box of the slice -/
def ValuesTo (v : Value) (w : World) (e : Ending) (w' : World) : Prop := e = .returned (.func (.func 36) #[] #[.pointer (some ⟨w.heap.size, 0, none⟩)]) ∧ w' = w.alloc (.cells #[v] 27)
theorem values_any (w : World) (a : Option Addr) (n c : Nat) : Calls Try.prog 28 #[.slice a n c] w (ValuesTo (.slice a n c) w) := by
  go_enter Try.func28, Try.ntmps28
  go_wp2_with fail
  go_ret
  exact ⟨rfl, rfl⟩
end Go.Proofs.Ytifniehfbafcoaa
