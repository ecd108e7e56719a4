/-
  AppendInt onto the row of a constant; lengths of texts.
-/
import Derived.Test.YtclbbpkphfllbaaDoorC6
import Derived.Lib.ItoaLen
namespace Go.Proofs.YtclbbpkphfllbaaDoor
open Go.RowKit CodM

theorem run_append_full (w : World) (ty : TypeId) (B g : Nat) (l : List UInt8) (s : ByteArray) (hc : ∀ j u, (Lib.byteCells l)[j]? = some u → w.cell? ⟨g, j, none⟩ = some u) (hs : 0 < s.size) (hsz : l.length + s.size ≤ 1000000) (hB : B ≤ w.heap.size) :
    ∃ v' w', (Builtin.append_ #[22, 9] ty #[.slice (some ⟨g, 0, none⟩) l.length l.length, .string s]).run Tryd.prog w = .ok v' w' ∧ Buf B w' v' (l ++ s.data.toList) ∧ w.grownBy w' none := by
  obtain ⟨i, hi, hz0, hz1, hz2⟩ := info_parts infoB
  have hS : Src Tryd.prog i.size 9 (.string s) s.size (Go.byteCells s) w := by rw [hz1]; exact Src.ofString w Tryd.underlying9 s
  have hlen : (Lib.byteCells l).length = l.length := by simp [Lib.byteCells]
  have hold : (Builtin.firstCells i.size l.length (.slice (some ⟨g, 0, none⟩) l.length l.length)).run Tryd.prog w.drew = .ok (Lib.byteCells l).toArray w.drew := by
    refine run_firstCells_some w.drew _ _ _ _ _ _ (by rw [hlen, hz1, Nat.mul_one]) fun j u hu => ?_
    have hadd : (⟨g, 0, none⟩ : Addr).add j = ⟨g, j, none⟩ := by unfold Addr.add; split <;> simp_all
    rw [hadd, World.cell?_drew]
    exact hc j u hu
  have hbig : Builtin.nextslicecap (l.length + s.size) l.length * i.bytes ≤ 281474976710656 := growslice_fits (by omega) (by rw [hz2]; omega)
  have hrun := run_append_grow_src (P := Tryd.prog) w 22 9 ty 5 i (.int .u8 0) Tryd.underlying22 hi hz0 (some ⟨g, 0, none⟩) l.length l.length (Lib.byteCells l) hold (.string s) s.size (Go.byteCells s) hS (by omega) (by omega) hbig
  have hge := grownCap_ge w (l.length + s.size) l.length 5
  have hcm := grownCap_le_maxLen w (l.length + s.size) l.length 5 (by unfold maxLen; omega)
  have hsb : (Go.byteCells s).length = s.size := by unfold Go.byteCells; rw [List.length_map]; exact Array.length_toList
  have hss : s.data.toList.length = s.size := Array.length_toList
  have heq : Go.byteCells s = Lib.byteCells s.data.toList := rfl
  refine ⟨_, _, hrun, ⟨?_, .inr ⟨w.heap.size, _, _, ?_, hB, heap_alloc_new w.drew _, ?_, hcm, ?_, ?_⟩⟩, ⟨rfl, rfl, rfl, by simp, fun k hk _ => heap_alloc_old w.drew _ hk⟩⟩
  · simp [Lib.byteCells]
  · rw [List.length_append, hss]
  · rw [List.length_append, hss]; exact hge
  · simp only [Array.size_append, List.size_toArray, List.length_append, size_zeroCells, hlen, hsb]
    simp [Value.cells]
    omega
  · rw [heq, byteCells_append, Array.toList_append, Nat.mul_one]
    exact List.take_left' (by simp [Lib.byteCells])
theorem wpList_append_full {w : World} {ops : Array Oper} {rest : List Oper} {o : Oper} {act : Act} {Q : Exit → Act → World → Prop} (hgd : o.guard = none) (sl x : Operand)
    (ho : o.op = .call { callee := .builtin .append, args := #[sl, x], argTypes := #[22, 9] })
    (B g : Nat) (l : List UInt8) (s : ByteArray) (hv : act.eval sl = .slice (some ⟨g, 0, none⟩) l.length l.length) (hx : act.eval x = .string s) (hc : ∀ j u, (Lib.byteCells l)[j]? = some u → w.cell? ⟨g, j, none⟩ = some u) (hs : 0 < s.size) (hsz : l.length + s.size ≤ 1000000) (hB : B ≤ w.heap.size)
    (h : ∀ v' w', Buf B w' v' (l ++ s.data.toList) → w.grownBy w' none → wpList Tryd.prog ops Q rest (act.put o.dst v') w') : wpList Tryd.prog ops Q (o :: rest) act w := by
  refine wpList_plain hgd fun K hK => ?_
  obtain ⟨v', w', hrun, h1, h2⟩ := run_append_full w o.type B g l s hc hs hsz hB
  unfold Oper.wp execOp
  simp only [ho, resolve, invoke, builtin, Sem.run_bind, Sem.run_pure, Result.andThen_ok, List.map_toArray, List.map_cons, List.map_nil, hv, hx, hrun]
  exact hK _ _ (h v' w' h1 h2)

theorem digit_size (k : Nat) (hk : k < 10) : (⟨(Lib.decDigits k).toArray⟩ : ByteArray).size = 1 := by
  rw [Lib.decDigits_one hk]; rfl

set_option maxHeartbeats 2000000 in
set_option maxRecDepth 100000 in
theorem appendUint_full (B g k : Nat) (l : List UInt8) (w : World) (hk : k < 10) (hc : ∀ j u, (Lib.byteCells l)[j]? = some u → w.cell? ⟨g, j, none⟩ = some u) (hl : l.length ≤ 1000) (hB : B ≤ w.heap.size) :
    Calls Tryd.prog 78 #[.slice (some ⟨g, 0, none⟩) l.length l.length, .int .u64 k, .int .i64 10] w (LineTo B (l ++ Lib.decDigits k) w) := by
  have HC := Lib.hid hc
  clear hc
  obtain ⟨s, hs⟩ : ∃ s : ByteArray, s = ⟨(Lib.decDigits k).toArray⟩ := ⟨_, rfl⟩
  have hsz : s.size = 1 := by rw [hs]; exact digit_size k hk
  have HSZ := Lib.hid hsz
  have HS := Lib.hid hs
  clear hsz hs
  go_enter Tryd.func78, Tryd.ntmps78
  go_wp2_with (first
    | (go_at_call 84; refine (Tryd.internal_strconv_small k (by omega) _).mono ?_; rintro e w' ⟨rfl, rfl⟩; rw [← HS.out])
    | (at_builtin; refine wpList_append_full rfl _ _ rfl B g l s rfl rfl HC.out (by rw [HSZ.out]; omega) (by rw [HSZ.out]; omega) hB ?_; intro v1 w1 hb1 hg1; have HB1 := Lib.hid hb1; have HG1 := Lib.hid hg1; clear hb1 hg1))
  go_ret
  refine ⟨_, rfl, ?_, (Below.refl _ _).grown HG1.out hB (fun k hk => by cases hk)⟩
  have := HB1.out
  rw [HS.out] at this
  simpa using this
set_option maxHeartbeats 1000000 in
theorem appendIntI_full (B g k : Nat) (l : List UInt8) (w : World) (hk : k < 10) (hc : ∀ j u, (Lib.byteCells l)[j]? = some u → w.cell? ⟨g, j, none⟩ = some u) (hl : l.length ≤ 1000) (hB : B ≤ w.heap.size) :
    Calls Tryd.prog 69 #[.slice (some ⟨g, 0, none⟩) l.length l.length, .int .i64 k, .int .i64 10] w (LineTo B (l ++ Lib.decDigits k) w) := by
  have HC := Lib.hid hc
  clear hc
  go_enter Tryd.func69, Tryd.ntmps69
  go_wp2_with (first
    | (go_at_call 78; refine (appendUint_full B g k l _ hk HC.out hl hB).mono ?_; rintro e w1 ⟨v1, rfl, hb1, hg1⟩; have HB1 := Lib.hid hb1; have HG1 := Lib.hid hg1; clear hb1 hg1))
  go_ret
  exact ⟨_, rfl, HB1.out, HG1.out⟩
set_option maxHeartbeats 1000000 in
theorem appendInt_full (B g k : Nat) (l : List UInt8) (w : World) (hk : k < 10) (hc : ∀ j u, (Lib.byteCells l)[j]? = some u → w.cell? ⟨g, j, none⟩ = some u) (hl : l.length ≤ 1000) (hB : B ≤ w.heap.size) :
    Calls Tryd.prog 56 #[.slice (some ⟨g, 0, none⟩) l.length l.length, .int .i64 k, .int .i64 10] w (LineTo B (l ++ Lib.decDigits k) w) := by
  have HC := Lib.hid hc
  clear hc
  go_enter Tryd.func56, Tryd.ntmps56
  go_wp2_with (first
    | (go_at_call 69; refine (appendIntI_full B g k l _ hk HC.out hl hB).mono ?_; rintro e w1 ⟨v1, rfl, hb1, hg1⟩; have HB1 := Lib.hid hb1; have HG1 := Lib.hid hg1; clear hb1 hg1))
  go_ret
  exact ⟨_, rfl, HB1.out, HG1.out⟩

theorem line_length (x : Ins) (h : I64 x.2) : (line x).length ≤ 30 := by
  have h1 := word_length x.1
  have h2 := Lib.itoa_length_le x.2 h.1 h.2
  unfold line
  split
  · simp; omega
  · simp; omega
theorem lines_length : ∀ (l : List Ins), (∀ x ∈ l, I64 x.1 ∧ I64 x.2) → (l.flatMap line).length ≤ 30 * l.length
  | [], _ => by simp
  | x :: r, h => by
    have h1 := line_length x (h x (by simp)).2
    have h2 := lines_length r (fun y hy => h y (by simp [hy]))
    rw [List.flatMap_cons, List.length_append, List.length_cons]
    omega
theorem kindText_length (l : List Ins) (h : ∀ x ∈ l, I64 x.1 ∧ I64 x.2) (hl : l.length ≤ 128) : (kindText l).length ≤ 3845 := by
  have := lines_length l h
  unfold kindText
  simp only [List.length_append, List.length_cons, List.length_nil]
  omega
theorem kinds_length : ∀ (ks : List (List Ins)), (∀ l ∈ ks, (∀ x ∈ l, I64 x.1 ∧ I64 x.2) ∧ l.length ≤ 128) → (ks.flatMap kindText).length ≤ 3845 * ks.length
  | [], _ => by simp
  | x :: r, h => by
    have h1 := kindText_length x (h x (by simp)).1 (h x (by simp)).2
    have h2 := kinds_length r (fun y hy => h y (by simp [hy]))
    rw [List.flatMap_cons, List.length_append, List.length_cons]
    omega
theorem flat_step {α : Type} (f : α → List UInt8) (l : List α) (k : Nat) (d : α) (h : k < l.length) : (l.take (k + 1)).flatMap f = (l.take k).flatMap f ++ f (l.getD k d) := by
  rw [List.take_succ_eq_append_getElem h, List.flatMap_append]
  simp [List.getD, h]
theorem may_parts {nk : Int} {p : Prg} (h : CodM.may nk p = true) : (0 ≤ p.vars ∧ p.vars ≤ 8 ∧ 1 ≤ p.kinds.length ∧ p.kinds.length ≤ 8) ∧ ∀ l ∈ p.kinds, l.length ≤ 128 := by
  unfold CodM.may mayHead at h
  simp only [Bool.and_eq_true, decide_eq_true_eq, List.all_eq_true] at h
  refine ⟨h.1, fun l hl => ?_⟩
  have := h.2 l hl
  unfold CodM.mayKind at this
  simp only [Bool.and_eq_true, decide_eq_true_eq] at this
  exact this.1
end Go.Proofs.YtclbbpkphfllbaaDoor
