/-
  The walks of operations, whole.
-/
import Derived.Test.YthhpoihfaggafaaDoorVSend
namespace Go.Proofs.YthhpoihfaggafaaDoor
open Go Go.RowKit Go.Sort Go.Proofs CodM VmM

abbrev opsC : Array Value := #[.nilFunc, .func (.func 110) #[] #[], .func (.func 111) #[] #[], .func (.func 112) #[] #[], .func (.func 113) #[] #[], .func (.func 114) #[] #[], .func (.func 115) #[] #[], .func (.func 116) #[] #[], .func (.func 117) #[] #[], .func (.func 118) #[] #[], .func (.func 119) #[] #[], .func (.func 120) #[] #[], .func (.func 121) #[] #[], .func (.func 122) #[] #[], .func (.func 123) #[] #[], .func (.func 124) #[] #[], .func (.func 125) #[] #[], .func (.func 126) #[] #[]]
theorem opsC_info : (Tryd.prog.info? 178).map (·.size) = some opsC.size := by kernel_rfl
set_option maxRecDepth 100000 in
theorem operations_any (W : World) : Calls Tryd.prog 95 #[] W (fun e w' => e = .returned (.agg opsC) ∧ Below W.heap.size W w') := by
  have hb : ∀ (o : Obj) (cs : Array Value), Below W.heap.size W ((W.alloc o).setRow W.heap.size cs) := fun o cs => ((Below.refl _ W).alloc (Nat.le_refl _) o).trans ((setRow_but _ _ _).below (by simp) (fun k e => by rw [e]; exact Nat.le_refl _))
  go_enter Tryd.func95, Tryd.ntmps95
  go_upto_region 1 with fail
  refine wp_region_lit ?_
  refine wpList_build rfl 178 _ rfl (by kernel_rfl) ?_
  refine wpList_store_row rfl 178 (.tmp 0) (.tmp 1) rfl W.heap.size opsC rfl (by kernel_rfl) 178 #[.nilFunc, .nilFunc, .nilFunc, .nilFunc, .nilFunc, .nilFunc, .nilFunc, .nilFunc, .nilFunc, .nilFunc, .nilFunc, .nilFunc, .nilFunc, .nilFunc, .nilFunc, .nilFunc, .nilFunc, .nilFunc] (heap_alloc_new _ _) opsC_info rfl (by simp [opsC, Value.oneCell']) ?_
  refine wpList_nil ?_
  go_wp2
  exact ⟨rfl, _, results_cell_row rfl _ _ W.heap.size 178 opsC (0, 0) _ rfl (setRow_heap _ _ _ _ _ _ (heap_alloc_new _ _)) Tryd.underlying178 rfl opsC_info, rfl, hb _ _⟩
/-- what an instruction may be, where it stands -/
structure InsOk (X : Fx) (s : Run) (x : Ins) : Prop where
  op : 1 ≤ x.1 ∧ x.1 ≤ 17
  var : x.1 = 2 ∨ x.1 = 3 → 0 ≤ x.2 ∧ x.2 < s.vars.length
  jmp : x.1 = 13 ∨ x.1 = 14 → 0 ≤ x.2 ∧ x.2 ≤ 128
def fnOf (o : Int) : Nat := if o = 1 then 110 else if o = 2 then 111 else if o = 3 then 112 else if o = 4 then 113 else if o = 5 then 114 else if o = 6 then 115 else if o = 7 then 116 else if o = 8 then 117 else if o = 9 then 118 else if o = 10 then 119 else if o = 11 then 120 else if o = 12 then 121 else if o = 13 then 122 else if o = 14 then 123 else if o = 15 then 124 else if o = 16 then 125 else 126
theorem does_push (X : Fx) (hX : X.Ok) (s : Run) (W : World) (h : At X s W) (n : Int) : Calls Tryd.prog 110 #[.pointer (some ⟨X.R, 0, none⟩), .int .i64 n] W (Done X (VmM.op X.m X.e X.cd.length (1, n) s)) := by
  have h0 : Calls Tryd.prog 110 #[.pointer (some ⟨X.R, 0, none⟩), .int .i64 n] W (Done X (VmM.op X.m X.e X.cd.length (1, n) s)) := by
    exact push_any X hX s W h n
  exact h0
theorem does_load (X : Fx) (hX : X.Ok) (s : Run) (W : World) (h : At X s W) (hn : s.vars.length ≤ 8) (n : Int) (hx : InsOk X s (2, n)) : Calls Tryd.prog 111 #[.pointer (some ⟨X.R, 0, none⟩), .int .i64 n] W (Done X (VmM.op X.m X.e X.cd.length (2, n) s)) := by
  have h0 : Calls Tryd.prog 111 #[.pointer (some ⟨X.R, 0, none⟩), .int .i64 n] W (Done X (VmM.op X.m X.e X.cd.length (2, n) s)) := by
    obtain ⟨v1, v2⟩ := hx.var (.inl rfl)
    obtain ⟨k, rfl⟩ : ∃ k : Nat, n = (k : Int) := ⟨n.toNat, by have : (0 : Int) ≤ n := v1; omega⟩
    have hk : k < s.vars.length := by have : (k : Int) < s.vars.length := v2; omega
    exact load_any X hX s W h hn k hk
  exact h0
theorem does_store (X : Fx) (hX : X.Ok) (s : Run) (W : World) (h : At X s W) (hn : s.vars.length ≤ 8) (n : Int) (hx : InsOk X s (3, n)) : Calls Tryd.prog 112 #[.pointer (some ⟨X.R, 0, none⟩), .int .i64 n] W (Done X (VmM.op X.m X.e X.cd.length (3, n) s)) := by
  have h0 : Calls Tryd.prog 112 #[.pointer (some ⟨X.R, 0, none⟩), .int .i64 n] W (Done X (VmM.op X.m X.e X.cd.length (3, n) s)) := by
    obtain ⟨v1, v2⟩ := hx.var (.inr rfl)
    obtain ⟨k, rfl⟩ : ∃ k : Nat, n = (k : Int) := ⟨n.toNat, by have : (0 : Int) ≤ n := v1; omega⟩
    have hk : k < s.vars.length := by have : (k : Int) < s.vars.length := v2; omega
    exact store_any X hX s W h hn k hk
  exact h0
theorem does_time (X : Fx) (hX : X.Ok) (s : Run) (W : World) (h : At X s W) (n : Int) : Calls Tryd.prog 113 #[.pointer (some ⟨X.R, 0, none⟩), .int .i64 n] W (Done X (VmM.op X.m X.e X.cd.length (4, n) s)) := by
  have h0 : Calls Tryd.prog 113 #[.pointer (some ⟨X.R, 0, none⟩), .int .i64 n] W (Done X (VmM.op X.m X.e X.cd.length (4, n) s)) := by
    exact time_any X hX s W h n
  exact h0
theorem does_data (X : Fx) (hX : X.Ok) (s : Run) (W : World) (h : At X s W) (n : Int) : Calls Tryd.prog 114 #[.pointer (some ⟨X.R, 0, none⟩), .int .i64 n] W (Done X (VmM.op X.m X.e X.cd.length (5, n) s)) := by
  have h0 : Calls Tryd.prog 114 #[.pointer (some ⟨X.R, 0, none⟩), .int .i64 n] W (Done X (VmM.op X.m X.e X.cd.length (5, n) s)) := by
    exact data_any X hX s W h n
  exact h0
theorem does_self (X : Fx) (hX : X.Ok) (s : Run) (W : World) (h : At X s W) (n : Int) : Calls Tryd.prog 115 #[.pointer (some ⟨X.R, 0, none⟩), .int .i64 n] W (Done X (VmM.op X.m X.e X.cd.length (6, n) s)) := by
  have h0 : Calls Tryd.prog 115 #[.pointer (some ⟨X.R, 0, none⟩), .int .i64 n] W (Done X (VmM.op X.m X.e X.cd.length (6, n) s)) := by
    exact self_any X hX s W h n
  exact h0
theorem does_rand (X : Fx) (hX : X.Ok) (s : Run) (W : World) (h : At X s W) (n : Int) : Calls Tryd.prog 116 #[.pointer (some ⟨X.R, 0, none⟩), .int .i64 n] W (Done X (VmM.op X.m X.e X.cd.length (7, n) s)) := by
  have h0 : Calls Tryd.prog 116 #[.pointer (some ⟨X.R, 0, none⟩), .int .i64 n] W (Done X (VmM.op X.m X.e X.cd.length (7, n) s)) := by
    exact rand_any X hX s W h n
  exact h0
theorem does_add (X : Fx) (hX : X.Ok) (s : Run) (W : World) (h : At X s W) (n : Int) : Calls Tryd.prog 117 #[.pointer (some ⟨X.R, 0, none⟩), .int .i64 n] W (Done X (VmM.op X.m X.e X.cd.length (8, n) s)) := by
  have h0 : Calls Tryd.prog 117 #[.pointer (some ⟨X.R, 0, none⟩), .int .i64 n] W (Done X (VmM.op X.m X.e X.cd.length (8, n) s)) := by
    exact add_any X hX s W h n
  exact h0
theorem does_sub (X : Fx) (hX : X.Ok) (s : Run) (W : World) (h : At X s W) (n : Int) : Calls Tryd.prog 118 #[.pointer (some ⟨X.R, 0, none⟩), .int .i64 n] W (Done X (VmM.op X.m X.e X.cd.length (9, n) s)) := by
  have h0 : Calls Tryd.prog 118 #[.pointer (some ⟨X.R, 0, none⟩), .int .i64 n] W (Done X (VmM.op X.m X.e X.cd.length (9, n) s)) := by
    exact sub_any X hX s W h n
  exact h0
theorem does_mul (X : Fx) (hX : X.Ok) (s : Run) (W : World) (h : At X s W) (n : Int) : Calls Tryd.prog 119 #[.pointer (some ⟨X.R, 0, none⟩), .int .i64 n] W (Done X (VmM.op X.m X.e X.cd.length (10, n) s)) := by
  have h0 : Calls Tryd.prog 119 #[.pointer (some ⟨X.R, 0, none⟩), .int .i64 n] W (Done X (VmM.op X.m X.e X.cd.length (10, n) s)) := by
    exact mul_any X hX s W h n
  exact h0
theorem does_less (X : Fx) (hX : X.Ok) (s : Run) (W : World) (h : At X s W) (n : Int) : Calls Tryd.prog 120 #[.pointer (some ⟨X.R, 0, none⟩), .int .i64 n] W (Done X (VmM.op X.m X.e X.cd.length (11, n) s)) := by
  have h0 : Calls Tryd.prog 120 #[.pointer (some ⟨X.R, 0, none⟩), .int .i64 n] W (Done X (VmM.op X.m X.e X.cd.length (11, n) s)) := by
    exact less_any X hX s W h n
  exact h0
theorem does_same (X : Fx) (hX : X.Ok) (s : Run) (W : World) (h : At X s W) (n : Int) : Calls Tryd.prog 121 #[.pointer (some ⟨X.R, 0, none⟩), .int .i64 n] W (Done X (VmM.op X.m X.e X.cd.length (12, n) s)) := by
  have h0 : Calls Tryd.prog 121 #[.pointer (some ⟨X.R, 0, none⟩), .int .i64 n] W (Done X (VmM.op X.m X.e X.cd.length (12, n) s)) := by
    exact opSame_any X hX s W h n
  exact h0
theorem does_jump (X : Fx) (hX : X.Ok) (s : Run) (W : World) (h : At X s W) (n : Int) (hx : InsOk X s (13, n)) : Calls Tryd.prog 122 #[.pointer (some ⟨X.R, 0, none⟩), .int .i64 n] W (Done X (VmM.op X.m X.e X.cd.length (13, n) s)) := by
  have h0 : Calls Tryd.prog 122 #[.pointer (some ⟨X.R, 0, none⟩), .int .i64 n] W (Done X (VmM.op X.m X.e X.cd.length (13, n) s)) := by
    obtain ⟨v1, v2⟩ := hx.jmp (.inl rfl)
    obtain ⟨k, rfl⟩ : ∃ k : Nat, n = (k : Int) := ⟨n.toNat, by have : (0 : Int) ≤ n := v1; omega⟩
    have hk : k ≤ 128 := by have : (k : Int) ≤ 128 := v2; omega
    exact jump_any X hX s W h k hk
  exact h0
theorem does_zero (X : Fx) (hX : X.Ok) (s : Run) (W : World) (h : At X s W) (n : Int) (hx : InsOk X s (14, n)) : Calls Tryd.prog 123 #[.pointer (some ⟨X.R, 0, none⟩), .int .i64 n] W (Done X (VmM.op X.m X.e X.cd.length (14, n) s)) := by
  have h0 : Calls Tryd.prog 123 #[.pointer (some ⟨X.R, 0, none⟩), .int .i64 n] W (Done X (VmM.op X.m X.e X.cd.length (14, n) s)) := by
    obtain ⟨v1, v2⟩ := hx.jmp (.inr rfl)
    obtain ⟨k, rfl⟩ : ∃ k : Nat, n = (k : Int) := ⟨n.toNat, by have : (0 : Int) ≤ n := v1; omega⟩
    have hk : k ≤ 128 := by have : (k : Int) ≤ 128 := v2; omega
    exact zero_any X hX s W h k hk
  exact h0
theorem does_send (X : Fx) (hX : X.Ok) (s : Run) (W : World) (h : At X s W) (n : Int) : Calls Tryd.prog 124 #[.pointer (some ⟨X.R, 0, none⟩), .int .i64 n] W (Done X (VmM.op X.m X.e X.cd.length (15, n) s)) := by
  have h0 : Calls Tryd.prog 124 #[.pointer (some ⟨X.R, 0, none⟩), .int .i64 n] W (Done X (VmM.op X.m X.e X.cd.length (15, n) s)) := by
    exact send_any X hX s W h n
  exact h0
theorem does_tell (X : Fx) (hX : X.Ok) (s : Run) (W : World) (h : At X s W) (n : Int) : Calls Tryd.prog 125 #[.pointer (some ⟨X.R, 0, none⟩), .int .i64 n] W (Done X (VmM.op X.m X.e X.cd.length (16, n) s)) := by
  have h0 : Calls Tryd.prog 125 #[.pointer (some ⟨X.R, 0, none⟩), .int .i64 n] W (Done X (VmM.op X.m X.e X.cd.length (16, n) s)) := by
    exact tell_any X hX s W h n
  exact h0
theorem does_end (X : Fx) (hX : X.Ok) (s : Run) (W : World) (h : At X s W) (n : Int) : Calls Tryd.prog 126 #[.pointer (some ⟨X.R, 0, none⟩), .int .i64 n] W (Done X (VmM.op X.m X.e X.cd.length (17, n) s)) := by
  have h0 : Calls Tryd.prog 126 #[.pointer (some ⟨X.R, 0, none⟩), .int .i64 n] W (Done X (VmM.op X.m X.e X.cd.length (17, n) s)) := by
    exact end_any X hX s W h n
  exact h0
end Go.Proofs.YthhpoihfaggafaaDoor
