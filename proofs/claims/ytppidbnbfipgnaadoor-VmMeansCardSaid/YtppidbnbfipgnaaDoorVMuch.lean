/-
  The walk of the document's Much.
-/
import Derived.Test.YtppidbnbfipgnaaDoorD3
import Derived.Test.YtppidbnbfipgnaaDoorVMay
namespace Go.Proofs.YtppidbnbfipgnaaDoor
open Go Go.RowKit CodM

def muchR (p : Prg) : Bool := (p.kinds.take 10).any (fun l => decide (200 < l.length)) || decide (10 < p.kinds.length)
def MuchRRel (w : World) (n : Nat) (ks : List (List Ins)) (i : Value) (wr : World) : Prop := ∃ k : Nat, k ≤ n ∧ k ≤ 10 ∧ i = .int .i64 k ∧ (ks.take k).any (fun l => decide (200 < l.length)) = false ∧ w = wr
theorem any_ten (f : List Ins → Bool) (l : List (List Ins)) (k : Nat) (h : (l.take k).any f = false) (hk : l.length ≤ k ∨ k = 10) : (l.take 10).any f = false := by
  rcases hk with hk | rfl
  · rw [List.take_of_length_le hk] at h
    rw [List.any_eq_false] at h ⊢
    exact fun x hx => h x (List.mem_of_mem_take hx)
  · exact h
theorem any_ten_yes (f : List Ins → Bool) (l : List (List Ins)) (k : Nat) (h : k < l.length) (h10 : k < 10) (hf : f (l.getD k []) = true) : (l.take 10).any f = true := by
  refine any_yes f (l.take 10) k [] (by simp; omega) ?_
  rw [List.getD, List.getElem?_take, if_pos h10]
  exact hf

set_option maxHeartbeats 1000000 in
theorem rmuch_any (w : World) (a : Option Addr) (n c : Nat) (p : Prg) (hp : ProgAt w a n p) :
    Calls Tryd.prog 6 #[.agg #[.int .i64 p.vars, .slice a n c]] w (TellsBB (muchR p) w) := by
  obtain ⟨x, ks⟩ := p
  simp only
  have hnl : ks.length = n := hp.2.1
  have hmax := hp.2.2.1
  obtain ⟨t, ht⟩ : ∃ t, t = muchR ⟨x, ks⟩ := ⟨_, rfl⟩
  rw [← ht]
  have HT : Hid (t = ((ks.take 10).any (fun l => decide (200 < l.length)) || decide (10 < n))) := Lib.hid (by rw [ht, ← hnl]; rfl)
  have HP := Lib.hid hp.2
  have HNL := Lib.hid hnl
  clear ht hp hnl
  go_enter Tryd.func6, Tryd.ntmps6
  go_wp2
  obtain ⟨wb, hwb⟩ : ∃ wb, wb = w.alloc (.cells #[.int .i64 x, .slice a n c] 24) := ⟨_, rfl⟩
  have HB0 := Lib.hid (show Below w.heap.size w wb from by rw [hwb]; exact (Below.refl _ _).alloc (Nat.le_refl _) _)
  have q1 : wb.cell? ⟨w.heap.size, 1, none⟩ = some (.slice a n c) := by rw [hwb]; simp
  rw [← hwb]
  clear hwb
  go_loopw [3] (fun i wr => MuchRRel wb n ks i wr) (fun i _ => n - (intOf i).toNat)
  case atStart => exact ⟨0, Nat.zero_le _, Nat.zero_le _, rfl, rfl, rfl⟩
  case round =>
    obtain ⟨k, hk, hk10, rfl, htk, rfl⟩ := hrel
    have HTK := Lib.hid htk
    clear htk
    by_cases hlt : k < n
    · by_cases h10 : k < 10
      · obtain ⟨B1, off1, a1, n1, d1, rfl, hB1, c1, l1, i1⟩ := (HP.out.below HB0.out (Nat.le_refl _)).cell k hlt
        have hm1 := i1.2.2.1
        have HI1 := Lib.hid i1.1
        clear i1
        by_cases h200 : 200 < n1
        · go_wp2
          go_ret
          refine ⟨?_, HB0.out⟩
          rw [HT.out, any_ten_yes _ ks k (by rw [HNL.out]; exact hlt) h10 (by rw [HI1.out]; simpa using h200)]
          rfl
        · go_wp2
          go_roundw
          case rel =>
            refine ⟨k + 1, by omega, by omega, by go_num, ?_, rfl⟩
            rw [any_step _ ks k [] (by rw [HNL.out]; exact hlt), HTK.out, HI1.out]
            simpa using h200
          case measure => simp [intOf]; omega
      · obtain rfl : k = 10 := by omega
        clear hk hk10 h10
        go_wp2
        go_ret
        exact ⟨ret_b (by rw [HT.out, any_ten _ ks _ HTK.out (.inr rfl), Bool.false_or]; simp; omega), HB0.out⟩
    · go_wp2
      go_ret
      exact ⟨ret_b (by rw [HT.out, any_ten _ ks k HTK.out (.inl (by rw [HNL.out]; omega)), Bool.false_or]; simp; omega), HB0.out⟩
end Go.Proofs.YtppidbnbfipgnaaDoor
