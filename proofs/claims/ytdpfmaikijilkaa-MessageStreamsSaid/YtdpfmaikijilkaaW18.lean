/-
  The walks of writer, reader, and of decode, for requests.
-/
import Derived.Test.YtdpfmaikijilkaaW16
import Derived.Test.YtdpfmaikijilkaaG2
namespace Go.Proofs.Ytdpfmaikijilkaa
open Go Go.RowKit Go.Sort Go.Proofs Go.MapKept

def WireTo (S : Wi) (b : Nat) (w : World) (e : Ending) (w' : World) : Prop := ∃ P, e = .returned (wv S.fn1 S.fn2 P) ∧ w.heap.size ≤ P ∧ Below w.heap.size w w' ∧ w'.heap[P]? = some (.cells #[.pointer (some ⟨b, 0, none⟩)] 105 (0, 0))
theorem reader_any (w : World) (b : Nat) (l : List UInt8) : Calls Try.prog 62 #[.pointer (some ⟨b, 0, none⟩)] w (WireTo (.rd l) b w) := by
  have hmf : ∀ (fn : Fn) (first cap : Array Value) (w : World), (Instr.makeFunc fn first cap).run Try.prog w = .ok (.func fn first cap) w := fun _ _ _ _ => rfl
  go_enter Try.func62, Try.ntmps62
  go_wp2
  refine ⟨rfl, _, results_cell_row rfl _ _ (w.heap.size + 1) 103 #[.func (.func 84) #[] #[.pointer (some ⟨w.heap.size, 0, none⟩)], .func (.func 85) #[] #[.pointer (some ⟨w.heap.size, 0, none⟩)]] (0, 0) _ rfl ?_ Try.underlying103 rfl (by kernel_rfl), w.heap.size, rfl, Nat.le_refl _, ?_, ?_⟩
  · exact heap_alloc2_new _ _ _
  · exact ((Below.refl _ _).alloc (Nat.le_refl _) _).alloc (by simp) _
  · exact heap_alloc2_old _ _ _
theorem writer_any (w : World) (b : Nat) (l : List UInt8) : Calls Try.prog 61 #[.pointer (some ⟨b, 0, none⟩)] w (WireTo (.wr l) b w) := by
  have hmf : ∀ (fn : Fn) (first cap : Array Value) (w : World), (Instr.makeFunc fn first cap).run Try.prog w = .ok (.func fn first cap) w := fun _ _ _ _ => rfl
  go_enter Try.func61, Try.ntmps61
  go_wp2
  refine ⟨rfl, _, results_cell_row rfl _ _ (w.heap.size + 1) 103 #[.func (.func 81) #[] #[.pointer (some ⟨w.heap.size, 0, none⟩)], .func (.func 82) #[] #[.pointer (some ⟨w.heap.size, 0, none⟩)]] (0, 0) _ rfl ?_ Try.underlying103 rfl (by kernel_rfl), w.heap.size, rfl, Nat.le_refl _, ?_, ?_⟩
  · exact heap_alloc2_new _ _ _
  · exact ((Below.refl _ _).alloc (Nat.le_refl _) _).alloc (by simp) _
  · exact heap_alloc2_old _ _ _
theorem wpList_lookF {P : Program} {ops : Array Oper} {rest : List Oper} {o : Oper} {a : Act} {Q : Exit → Act → World → Prop} {w : World} (hg : o.guard = none) (m x : Operand) (mt : TypeId) (hop : o.op = Op.lookup mt m x true)
    (mv xv r : Value) (hm : a.eval m = mv) (hx : a.eval x = xv) (hr : (Instr.lookup mt mv xv true).run P w = .ok r w) (hK : wpList P ops Q rest (a.put o.dst r) w) : wpList P ops Q (o :: rest) a w := by
  refine wpList_plain hg fun K' hK' => ?_
  unfold Oper.wp
  simp [execOp, hop, hm, hx, hr, Result.andThen]
  exact hK' _ _ hK
theorem kindQ_any (w : World) (M : Nat) : Calls Try.prog 51 #[.pointer (some ⟨M, 0, none⟩)] w (fun e w' => e = .returned (.pointer (some ⟨M, 0, none⟩)) ∧ w = w') := by
  go_enter Try.func51, Try.ntmps51
  go_wp2
  go_ret
  exact ⟨rfl, rfl⟩

def zeroQ (k : Int) : Rq := ⟨k, 0, 0, [], 0, 0, 0, 0, 0, 0, 0, 0, 0, 0, 0, 0, 0⟩
/-- the fields that a kind names -/
def tabQ (k : Int) : Option (List (FuncId × FldQ)) :=
  if k = 1 then some [(52, fID), (53, fVer)] else
  if k = 2 then some [(52, fID), (54, fModel)] else
  if k = 3 then some [(52, fID), (55, fEvent)] else
  if k = 4 then some [(52, fID), (56, fNum), (57, fBreak)] else
  if k = 5 then some [(52, fID), (56, fNum)] else
  if k = 6 then some [(52, fID), (58, fProc)] else
  if k = 7 then some [(52, fID)] else
  if k = 8 then some [(52, fID)] else
  if k = 9 then some [(52, fID)] else
  if k = 10 then some [(52, fID), (59, fRate)] else
  if k = 11 then some [(52, fID)] else
  if k = 12 then some [(52, fID)] else none
theorem tabQ_look (k : Int) : lookF tabReq k = (tabQ k).map (·.map (·.1)) := by
  unfold tabQ tabReq
  simp only [lookF]
  by_cases h1 : k = 1
  · subst h1; rfl
  rw [if_neg h1, if_neg h1]
  by_cases h2 : k = 2
  · subst h2; rfl
  rw [if_neg h2, if_neg h2]
  by_cases h3 : k = 3
  · subst h3; rfl
  rw [if_neg h3, if_neg h3]
  by_cases h4 : k = 4
  · subst h4; rfl
  rw [if_neg h4, if_neg h4]
  by_cases h5 : k = 5
  · subst h5; rfl
  rw [if_neg h5, if_neg h5]
  by_cases h6 : k = 6
  · subst h6; rfl
  rw [if_neg h6, if_neg h6]
  by_cases h7 : k = 7
  · subst h7; rfl
  rw [if_neg h7, if_neg h7]
  by_cases h8 : k = 8
  · subst h8; rfl
  rw [if_neg h8, if_neg h8]
  by_cases h9 : k = 9
  · subst h9; rfl
  rw [if_neg h9, if_neg h9]
  by_cases h10 : k = 10
  · subst h10; rfl
  rw [if_neg h10, if_neg h10]
  by_cases h11 : k = 11
  · subst h11; rfl
  rw [if_neg h11, if_neg h11]
  by_cases h12 : k = 12
  · subst h12; rfl
  rw [if_neg h12, if_neg h12]
  rfl
theorem forall_two {α : Type} {p : α → Prop} {a b : α} (h1 : p a) (h2 : p b) : ∀ x ∈ [a, b], p x := by simp [h1, h2]
theorem forall_one {α : Type} {p : α → Prop} {a : α} (h1 : p a) : ∀ x ∈ [a], p x := by simp [h1]
theorem forall_three {α : Type} {p : α → Prop} {a b c : α} (h1 : p a) (h2 : p b) (h3 : p c) : ∀ x ∈ [a, b, c], p x := by simp [h1, h2, h3]
theorem tabQ_ok {k : Int} {fs : List (FuncId × FldQ)} (h : tabQ k = some fs) : fs.length ≤ 10 ∧ (∀ x ∈ fs, FieldQ x.1 x.2) ∧ ∀ x ∈ fs, ∀ args w, Sem.run Try.prog (callFunc x.1 args) w = .ok (.enter x.1 args) w := by
  unfold tabQ at h
  by_cases h1 : k = 1
  · rw [if_pos h1] at h
    cases h
    refine ⟨by decide, ?_, ?_⟩
    · exact forall_two fieldID fieldVer
    · intro x hx args w
      simp only [List.mem_cons, List.not_mem_nil, or_false] at hx
      rcases hx with rfl | rfl <;> rfl
  rw [if_neg h1] at h
  by_cases h2 : k = 2
  · rw [if_pos h2] at h
    cases h
    refine ⟨by decide, ?_, ?_⟩
    · exact forall_two fieldID fieldModel
    · intro x hx args w
      simp only [List.mem_cons, List.not_mem_nil, or_false] at hx
      rcases hx with rfl | rfl <;> rfl
  rw [if_neg h2] at h
  by_cases h3 : k = 3
  · rw [if_pos h3] at h
    cases h
    refine ⟨by decide, ?_, ?_⟩
    · exact forall_two fieldID fieldEvent
    · intro x hx args w
      simp only [List.mem_cons, List.not_mem_nil, or_false] at hx
      rcases hx with rfl | rfl <;> rfl
  rw [if_neg h3] at h
  by_cases h4 : k = 4
  · rw [if_pos h4] at h
    cases h
    refine ⟨by decide, ?_, ?_⟩
    · exact forall_three fieldID fieldNum fieldBreak
    · intro x hx args w
      simp only [List.mem_cons, List.not_mem_nil, or_false] at hx
      rcases hx with rfl | rfl | rfl <;> rfl
  rw [if_neg h4] at h
  by_cases h5 : k = 5
  · rw [if_pos h5] at h
    cases h
    refine ⟨by decide, ?_, ?_⟩
    · exact forall_two fieldID fieldNum
    · intro x hx args w
      simp only [List.mem_cons, List.not_mem_nil, or_false] at hx
      rcases hx with rfl | rfl <;> rfl
  rw [if_neg h5] at h
  by_cases h6 : k = 6
  · rw [if_pos h6] at h
    cases h
    refine ⟨by decide, ?_, ?_⟩
    · exact forall_two fieldID fieldProc
    · intro x hx args w
      simp only [List.mem_cons, List.not_mem_nil, or_false] at hx
      rcases hx with rfl | rfl <;> rfl
  rw [if_neg h6] at h
  by_cases h7 : k = 7
  · rw [if_pos h7] at h
    cases h
    refine ⟨by decide, ?_, ?_⟩
    · exact forall_one fieldID
    · intro x hx args w
      simp only [List.mem_cons, List.not_mem_nil, or_false] at hx
      subst hx; rfl
  rw [if_neg h7] at h
  by_cases h8 : k = 8
  · rw [if_pos h8] at h
    cases h
    refine ⟨by decide, ?_, ?_⟩
    · exact forall_one fieldID
    · intro x hx args w
      simp only [List.mem_cons, List.not_mem_nil, or_false] at hx
      subst hx; rfl
  rw [if_neg h8] at h
  by_cases h9 : k = 9
  · rw [if_pos h9] at h
    cases h
    refine ⟨by decide, ?_, ?_⟩
    · exact forall_one fieldID
    · intro x hx args w
      simp only [List.mem_cons, List.not_mem_nil, or_false] at hx
      subst hx; rfl
  rw [if_neg h9] at h
  by_cases h10 : k = 10
  · rw [if_pos h10] at h
    cases h
    refine ⟨by decide, ?_, ?_⟩
    · exact forall_two fieldID fieldRate
    · intro x hx args w
      simp only [List.mem_cons, List.not_mem_nil, or_false] at hx
      rcases hx with rfl | rfl <;> rfl
  rw [if_neg h10] at h
  by_cases h11 : k = 11
  · rw [if_pos h11] at h
    cases h
    refine ⟨by decide, ?_, ?_⟩
    · exact forall_one fieldID
    · intro x hx args w
      simp only [List.mem_cons, List.not_mem_nil, or_false] at hx
      subst hx; rfl
  rw [if_neg h11] at h
  by_cases h12 : k = 12
  · rw [if_pos h12] at h
    cases h
    refine ⟨by decide, ?_, ?_⟩
    · exact forall_one fieldID
    · intro x hx args w
      simp only [List.mem_cons, List.not_mem_nil, or_false] at hx
      subst hx; rfl
  rw [if_neg h12] at h
  cases h
/-- what bytes are, as a request; an error -/
def decQ : List UInt8 → Rq × Int
  | [] => (zeroQ 0, 12)
  | x :: l => match tabQ x.toNat with
    | none => (zeroQ 0, 12)
    | some fs => match passQ (fs.map (·.2)) (zeroQ x.toNat) (.rd l) with
      | some (q, .rd []) => (q, 0)
      | _ => (zeroQ 0, 14)
end Go.Proofs.Ytdpfmaikijilkaa
