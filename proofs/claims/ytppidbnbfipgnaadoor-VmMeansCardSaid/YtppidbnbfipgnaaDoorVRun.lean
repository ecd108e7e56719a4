/-
  The walks of operations, whole.
-/
import Derived.Test.YtppidbnbfipgnaaDoorVSend
namespace Go.Proofs.YtppidbnbfipgnaaDoor
open Go Go.RowKit Go.Sort Go.Proofs CodM VmM

abbrev opsC : Array Value := #[.nilFunc, .func (.func 46) #[] #[], .func (.func 47) #[] #[], .func (.func 48) #[] #[], .func (.func 49) #[] #[], .func (.func 50) #[] #[], .func (.func 51) #[] #[], .func (.func 52) #[] #[], .func (.func 53) #[] #[], .func (.func 54) #[] #[], .func (.func 55) #[] #[], .func (.func 56) #[] #[], .func (.func 57) #[] #[], .func (.func 58) #[] #[], .func (.func 59) #[] #[], .func (.func 60) #[] #[], .func (.func 61) #[] #[], .func (.func 62) #[] #[]]
theorem opsC_info : (Tryd.prog.info? 94).map (·.size) = some opsC.size := by kernel_rfl
set_option maxRecDepth 100000 in
theorem operations_any (W : World) : Calls Tryd.prog 41 #[] W (fun e w' => e = .returned (.agg opsC) ∧ Below W.heap.size W w') := by
  have hb : ∀ (o : Obj) (cs : Array Value), Below W.heap.size W ((W.alloc o).setRow W.heap.size cs) := fun o cs => ((Below.refl _ W).alloc (Nat.le_refl _) o).trans ((setRow_but _ _ _).below (by simp) (fun k e => by rw [e]; exact Nat.le_refl _))
  go_enter Tryd.func41, Tryd.ntmps41
  go_upto_region 1 with fail
  refine wp_region_lit ?_
  refine wpList_build rfl 94 _ rfl (by kernel_rfl) ?_
  refine wpList_store_row rfl 94 (.tmp 0) (.tmp 1) rfl W.heap.size opsC rfl (by kernel_rfl) 94 #[.nilFunc, .nilFunc, .nilFunc, .nilFunc, .nilFunc, .nilFunc, .nilFunc, .nilFunc, .nilFunc, .nilFunc, .nilFunc, .nilFunc, .nilFunc, .nilFunc, .nilFunc, .nilFunc, .nilFunc, .nilFunc] (heap_alloc_new _ _) opsC_info rfl (by simp [opsC, Value.oneCell']) ?_
  refine wpList_nil ?_
  go_wp2
  exact ⟨rfl, _, results_cell_row rfl _ _ W.heap.size 94 opsC (0, 0) _ rfl (setRow_heap _ _ _ _ _ _ (heap_alloc_new _ _)) Tryd.underlying94 rfl opsC_info, rfl, hb _ _⟩
/-- what an instruction may be, where it stands -/
structure InsOk (X : Fx) (s : Run) (x : Ins) : Prop where
  op : 1 ≤ x.1 ∧ x.1 ≤ 17
  var : x.1 = 2 ∨ x.1 = 3 → 0 ≤ x.2 ∧ x.2 < s.vars.length
  jmp : x.1 = 13 ∨ x.1 = 14 → 0 ≤ x.2 ∧ x.2 ≤ 128
def fnOf (o : Int) : Nat := if o = 1 then 46 else if o = 2 then 47 else if o = 3 then 48 else if o = 4 then 49 else if o = 5 then 50 else if o = 6 then 51 else if o = 7 then 52 else if o = 8 then 53 else if o = 9 then 54 else if o = 10 then 55 else if o = 11 then 56 else if o = 12 then 57 else if o = 13 then 58 else if o = 14 then 59 else if o = 15 then 60 else if o = 16 then 61 else 62
theorem does_push (X : Fx) (hX : X.Ok) (s : Run) (W : World) (h : At X s W) (n : Int) : Calls Tryd.prog 46 #[.pointer (some ⟨X.R, 0, none⟩), .int .i64 n] W (Done X (VmM.op X.m X.e X.cd.length (1, n) s)) := by
  have h0 : Calls Tryd.prog 46 #[.pointer (some ⟨X.R, 0, none⟩), .int .i64 n] W (Done X (VmM.op X.m X.e X.cd.length (1, n) s)) := by
    exact push_any X hX s W h n
  exact h0
theorem does_load (X : Fx) (hX : X.Ok) (s : Run) (W : World) (h : At X s W) (hn : s.vars.length ≤ 8) (n : Int) (hx : InsOk X s (2, n)) : Calls Tryd.prog 47 #[.pointer (some ⟨X.R, 0, none⟩), .int .i64 n] W (Done X (VmM.op X.m X.e X.cd.length (2, n) s)) := by
  have h0 : Calls Tryd.prog 47 #[.pointer (some ⟨X.R, 0, none⟩), .int .i64 n] W (Done X (VmM.op X.m X.e X.cd.length (2, n) s)) := by
    obtain ⟨v1, v2⟩ := hx.var (.inl rfl)
    obtain ⟨k, rfl⟩ : ∃ k : Nat, n = (k : Int) := ⟨n.toNat, by have : (0 : Int) ≤ n := v1; omega⟩
    have hk : k < s.vars.length := by have : (k : Int) < s.vars.length := v2; omega
    exact load_any X hX s W h hn k hk
  exact h0
theorem does_store (X : Fx) (hX : X.Ok) (s : Run) (W : World) (h : At X s W) (hn : s.vars.length ≤ 8) (n : Int) (hx : InsOk X s (3, n)) : Calls Tryd.prog 48 #[.pointer (some ⟨X.R, 0, none⟩), .int .i64 n] W (Done X (VmM.op X.m X.e X.cd.length (3, n) s)) := by
  have h0 : Calls Tryd.prog 48 #[.pointer (some ⟨X.R, 0, none⟩), .int .i64 n] W (Done X (VmM.op X.m X.e X.cd.length (3, n) s)) := by
    obtain ⟨v1, v2⟩ := hx.var (.inr rfl)
    obtain ⟨k, rfl⟩ : ∃ k : Nat, n = (k : Int) := ⟨n.toNat, by have : (0 : Int) ≤ n := v1; omega⟩
    have hk : k < s.vars.length := by have : (k : Int) < s.vars.length := v2; omega
    exact store_any X hX s W h hn k hk
  exact h0
theorem does_time (X : Fx) (hX : X.Ok) (s : Run) (W : World) (h : At X s W) (n : Int) : Calls Tryd.prog 49 #[.pointer (some ⟨X.R, 0, none⟩), .int .i64 n] W (Done X (VmM.op X.m X.e X.cd.length (4, n) s)) := by
  have h0 : Calls Tryd.prog 49 #[.pointer (some ⟨X.R, 0, none⟩), .int .i64 n] W (Done X (VmM.op X.m X.e X.cd.length (4, n) s)) := by
    exact time_any X hX s W h n
  exact h0
theorem does_data (X : Fx) (hX : X.Ok) (s : Run) (W : World) (h : At X s W) (n : Int) : Calls Tryd.prog 50 #[.pointer (some ⟨X.R, 0, none⟩), .int .i64 n] W (Done X (VmM.op X.m X.e X.cd.length (5, n) s)) := by
  have h0 : Calls Tryd.prog 50 #[.pointer (some ⟨X.R, 0, none⟩), .int .i64 n] W (Done X (VmM.op X.m X.e X.cd.length (5, n) s)) := by
    exact data_any X hX s W h n
  exact h0
theorem does_self (X : Fx) (hX : X.Ok) (s : Run) (W : World) (h : At X s W) (n : Int) : Calls Tryd.prog 51 #[.pointer (some ⟨X.R, 0, none⟩), .int .i64 n] W (Done X (VmM.op X.m X.e X.cd.length (6, n) s)) := by
  have h0 : Calls Tryd.prog 51 #[.pointer (some ⟨X.R, 0, none⟩), .int .i64 n] W (Done X (VmM.op X.m X.e X.cd.length (6, n) s)) := by
    exact self_any X hX s W h n
  exact h0
theorem does_rand (X : Fx) (hX : X.Ok) (s : Run) (W : World) (h : At X s W) (n : Int) : Calls Tryd.prog 52 #[.pointer (some ⟨X.R, 0, none⟩), .int .i64 n] W (Done X (VmM.op X.m X.e X.cd.length (7, n) s)) := by
  have h0 : Calls Tryd.prog 52 #[.pointer (some ⟨X.R, 0, none⟩), .int .i64 n] W (Done X (VmM.op X.m X.e X.cd.length (7, n) s)) := by
    exact rand_any X hX s W h n
  exact h0
theorem does_add (X : Fx) (hX : X.Ok) (s : Run) (W : World) (h : At X s W) (n : Int) : Calls Tryd.prog 53 #[.pointer (some ⟨X.R, 0, none⟩), .int .i64 n] W (Done X (VmM.op X.m X.e X.cd.length (8, n) s)) := by
  have h0 : Calls Tryd.prog 53 #[.pointer (some ⟨X.R, 0, none⟩), .int .i64 n] W (Done X (VmM.op X.m X.e X.cd.length (8, n) s)) := by
    exact add_any X hX s W h n
  exact h0
theorem does_sub (X : Fx) (hX : X.Ok) (s : Run) (W : World) (h : At X s W) (n : Int) : Calls Tryd.prog 54 #[.pointer (some ⟨X.R, 0, none⟩), .int .i64 n] W (Done X (VmM.op X.m X.e X.cd.length (9, n) s)) := by
  have h0 : Calls Tryd.prog 54 #[.pointer (some ⟨X.R, 0, none⟩), .int .i64 n] W (Done X (VmM.op X.m X.e X.cd.length (9, n) s)) := by
    exact sub_any X hX s W h n
  exact h0
theorem does_mul (X : Fx) (hX : X.Ok) (s : Run) (W : World) (h : At X s W) (n : Int) : Calls Tryd.prog 55 #[.pointer (some ⟨X.R, 0, none⟩), .int .i64 n] W (Done X (VmM.op X.m X.e X.cd.length (10, n) s)) := by
  have h0 : Calls Tryd.prog 55 #[.pointer (some ⟨X.R, 0, none⟩), .int .i64 n] W (Done X (VmM.op X.m X.e X.cd.length (10, n) s)) := by
    exact mul_any X hX s W h n
  exact h0
theorem does_less (X : Fx) (hX : X.Ok) (s : Run) (W : World) (h : At X s W) (n : Int) : Calls Tryd.prog 56 #[.pointer (some ⟨X.R, 0, none⟩), .int .i64 n] W (Done X (VmM.op X.m X.e X.cd.length (11, n) s)) := by
  have h0 : Calls Tryd.prog 56 #[.pointer (some ⟨X.R, 0, none⟩), .int .i64 n] W (Done X (VmM.op X.m X.e X.cd.length (11, n) s)) := by
    exact less_any X hX s W h n
  exact h0
theorem does_same (X : Fx) (hX : X.Ok) (s : Run) (W : World) (h : At X s W) (n : Int) : Calls Tryd.prog 57 #[.pointer (some ⟨X.R, 0, none⟩), .int .i64 n] W (Done X (VmM.op X.m X.e X.cd.length (12, n) s)) := by
  have h0 : Calls Tryd.prog 57 #[.pointer (some ⟨X.R, 0, none⟩), .int .i64 n] W (Done X (VmM.op X.m X.e X.cd.length (12, n) s)) := by
    exact same_any X hX s W h n
  exact h0
theorem does_jump (X : Fx) (hX : X.Ok) (s : Run) (W : World) (h : At X s W) (n : Int) (hx : InsOk X s (13, n)) : Calls Tryd.prog 58 #[.pointer (some ⟨X.R, 0, none⟩), .int .i64 n] W (Done X (VmM.op X.m X.e X.cd.length (13, n) s)) := by
  have h0 : Calls Tryd.prog 58 #[.pointer (some ⟨X.R, 0, none⟩), .int .i64 n] W (Done X (VmM.op X.m X.e X.cd.length (13, n) s)) := by
    obtain ⟨v1, v2⟩ := hx.jmp (.inl rfl)
    obtain ⟨k, rfl⟩ : ∃ k : Nat, n = (k : Int) := ⟨n.toNat, by have : (0 : Int) ≤ n := v1; omega⟩
    have hk : k ≤ 128 := by have : (k : Int) ≤ 128 := v2; omega
    exact jump_any X hX s W h k hk
  exact h0
theorem does_zero (X : Fx) (hX : X.Ok) (s : Run) (W : World) (h : At X s W) (n : Int) (hx : InsOk X s (14, n)) : Calls Tryd.prog 59 #[.pointer (some ⟨X.R, 0, none⟩), .int .i64 n] W (Done X (VmM.op X.m X.e X.cd.length (14, n) s)) := by
  have h0 : Calls Tryd.prog 59 #[.pointer (some ⟨X.R, 0, none⟩), .int .i64 n] W (Done X (VmM.op X.m X.e X.cd.length (14, n) s)) := by
    obtain ⟨v1, v2⟩ := hx.jmp (.inr rfl)
    obtain ⟨k, rfl⟩ : ∃ k : Nat, n = (k : Int) := ⟨n.toNat, by have : (0 : Int) ≤ n := v1; omega⟩
    have hk : k ≤ 128 := by have : (k : Int) ≤ 128 := v2; omega
    exact zero_any X hX s W h k hk
  exact h0
theorem does_send (X : Fx) (hX : X.Ok) (s : Run) (W : World) (h : At X s W) (n : Int) : Calls Tryd.prog 60 #[.pointer (some ⟨X.R, 0, none⟩), .int .i64 n] W (Done X (VmM.op X.m X.e X.cd.length (15, n) s)) := by
  have h0 : Calls Tryd.prog 60 #[.pointer (some ⟨X.R, 0, none⟩), .int .i64 n] W (Done X (VmM.op X.m X.e X.cd.length (15, n) s)) := by
    exact send_any X hX s W h n
  exact h0
theorem does_tell (X : Fx) (hX : X.Ok) (s : Run) (W : World) (h : At X s W) (n : Int) : Calls Tryd.prog 61 #[.pointer (some ⟨X.R, 0, none⟩), .int .i64 n] W (Done X (VmM.op X.m X.e X.cd.length (16, n) s)) := by
  have h0 : Calls Tryd.prog 61 #[.pointer (some ⟨X.R, 0, none⟩), .int .i64 n] W (Done X (VmM.op X.m X.e X.cd.length (16, n) s)) := by
    exact tell_any X hX s W h n
  exact h0
theorem does_end (X : Fx) (hX : X.Ok) (s : Run) (W : World) (h : At X s W) (n : Int) : Calls Tryd.prog 62 #[.pointer (some ⟨X.R, 0, none⟩), .int .i64 n] W (Done X (VmM.op X.m X.e X.cd.length (17, n) s)) := by
  have h0 : Calls Tryd.prog 62 #[.pointer (some ⟨X.R, 0, none⟩), .int .i64 n] W (Done X (VmM.op X.m X.e X.cd.length (17, n) s)) := by
    exact end_any X hX s W h n
  exact h0
end Go.Proofs.YtppidbnbfipgnaaDoor
