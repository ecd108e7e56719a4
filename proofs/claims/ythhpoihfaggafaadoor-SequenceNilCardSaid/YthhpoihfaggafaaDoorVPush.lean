/-
  The walks of push, take, takeTwo, pushTruth.
-/
import Derived.Test.YthhpoihfaggafaaDoorVSt
import Derived.Deep.CutRange
import Derived.Lib.Hide
namespace Go.Proofs.YthhpoihfaggafaaDoor
open Go Go.RowKit Go.Sort Go.Proofs CodM VmM

theorem Lib.hid_eq (p : Prop) : Hid p = p := rfl
theorem wpList_run_append {P : Program} {ops : Array Oper} {rest : List Oper} {o : Oper} {a : Act} {w : World} {X : Exit → Act → World → Prop} (hgd : o.guard = none) (s x : Operand) (S : TypeId)
    (ho : o.op = .call { callee := .builtin .append, args := #[s, x], argTypes := #[S, S] }) (v1 v2 v3 : Value) (w3 : World) (hs : a.eval s = v1) (hx : a.eval x = v2) (hr : (Builtin.append_ #[S, S] o.type #[v1, v2]).run P w = .ok v3 w3) (h : wpList P ops X rest (a.put o.dst v3) w3) : wpList P ops X (o :: rest) a w :=
  wpList_plain hgd fun _ hK => by
    unfold Oper.wp execOp
    simp only [ho, resolve, invoke, builtin, Sem.run_bind, Sem.run_pure, Result.andThen_ok, List.map_toArray, List.map_cons, List.map_nil, hs, hx, hr]
    exact hK _ _ h
/-- one more, where there is room, in a block of whatever type -/
theorem run_append_one {P : Program} (w : World) (t ty e T : TypeId) (i : TypeInfo) (ht : P.underlying t = some (.slice e)) (hi : P.info? e = some i) (hsz : i.size = 1) (g n cap : Nat) (pre rest : List Value) (hn : pre.length = n) (hg : w.heap[g]? = some (.cells (pre ++ rest).toArray T (0, 0))) (B : Nat) (u : Value) (hu : w.cell? ⟨B, 0, none⟩ = some u) (h1 : u.oneCell' = true) (hroom : n + 1 ≤ cap) (hr : 1 ≤ rest.length) :
    (Builtin.append_ #[t, t] ty #[.slice (some ⟨g, 0, none⟩) n cap, .slice (some ⟨B, 0, none⟩) 1 1]).run P w = .ok (.slice (some ⟨g, 0, none⟩) (n + 1) cap) (w.setRow g (pre ++ [u] ++ rest.tail).toArray) := by
  have hnews : ∀ j v, [u][j]? = some v → w.cell? ((⟨B, 0, none⟩ : Addr).add j) = some v := by
    intro j v hv
    cases j with
    | zero => simp at hv; subst hv; rw [Addr.add_lit]; exact hu
    | succ j => simp at hv
  have hf := run_firstCells_some (P := P) w i.size 1 ⟨B, 0, none⟩ 1 1 [u] (by simp [hsz]) hnews
  have hst := run_storeCells_at P g (n * i.size) T [u] 0 (pre ++ rest).toArray w hg (by rw [hsz]; simp; omega) (by simpa using h1)
  have e1 : ((pre ++ rest).toArray.toList.take (n * i.size + 0) ++ [u] ++ (pre ++ rest).toArray.toList.drop (n * i.size + 0 + [u].length)) = pre ++ [u] ++ rest.tail := by
    rw [hsz, Nat.mul_one, Nat.add_zero, List.take_left' hn, ← List.drop_one]
    congr 1
    rw [List.length_singleton, ← hn]
    simp [List.drop_append]
  rw [e1] at hst
  simp [Builtin.append_, run_underlying ht, sizeOf, typeInfo, hi, Builtin.lenOf, hroom, hf, Addr.add_lit, hst]
theorem setRow_but (w : World) (g : Nat) (cs : Array Value) : But (fun k => k = g) w (w.setRow g cs) :=
  ⟨rfl, rfl, rfl, by simp [World.setRow], fun k _ hk => by simp only [World.setRow]; rw [Array.getElem?_modify, if_neg fun e => hk e.symm]⟩
def Done (X : Fx) (s : Run) (e : Ending) (w' : World) : Prop := e = .returned (.tuple #[]) ∧ At X s w'
def Taken (X : Fx) (s : Run) (e : Ending) (w' : World) : Prop := e = .returned (.int .i64 (top s)) ∧ At X (drop s) w'
def Two (X : Fx) (s : Run) (e : Ending) (w' : World) : Prop := e = .returned (.tuple #[.int .i64 (top (drop s)), .int .i64 (top s)]) ∧ At X (drop (drop s)) w'
theorem intsV_app (l m : List Int) : intsV (l ++ m) = intsV l ++ intsV m := by simp [intsV]
section
variable {X : Fx} {W : World} {s : Run} {vv sv tv : Value}
theorem St.room_push (h : St X W s vv sv tv) (hX : X.Ok) (n : Int) (hl : s.stack.length < 16) : ∃ (w1 : World) (W0 : World), W0 = W.alloc (.cells #[.int .i64 n] 2) ∧ (∀ ty, (Builtin.append_ #[49, 49] ty #[.slice (some ⟨X.K, 0, none⟩) s.stack.length 16, .slice (some ⟨W.heap.size, 0, none⟩) 1 1]).run Tryd.prog W0 = .ok (.slice (some ⟨X.K, 0, none⟩) (s.stack.length + 1) 16) w1) ∧ St X w1 s vv sv tv ∧ RoomAt w1 X.K (s.stack ++ [n]) := by
  have hb1 : Below W.heap.size W (W.alloc (.cells #[.int .i64 n] 2)) := (Below.refl _ _).alloc (Nat.le_refl _) _
  have h1 := h.next hb1
  obtain ⟨rest, h2, h3⟩ := h1.room
  obtain ⟨i, hi, _, hz1, _⟩ := info_of (P := Tryd.prog) (T := 2) (z := some (.int .i64 0)) (k := 1) (bytes := 8) (by kernel_rfl)
  refine ⟨_, _, rfl, fun ty => run_append_one _ 49 ty 2 173 i Tryd.underlying49 hi hz1 X.K s.stack.length 16 (intsV s.stack) rest (intsV_length _) h2 W.heap.size (.int .i64 n) ?_ rfl (by omega) (by omega), ?_, ?_⟩
  · rw [cell_of_row _ _ _ _ _ _ (heap_alloc_new W _)]
    rfl
  · have hb2 := setRow_but (W.alloc (.cells #[.int .i64 n] 2)) X.K (intsV s.stack ++ [Value.int .i64 n] ++ rest.tail).toArray
    have hk := setRow_heap _ _ _ (intsV s.stack ++ [Value.int .i64 n] ++ rest.tail).toArray _ _ h2
    refine ⟨h1.below.trans (hb2.below h1.below.size fun k e => by rw [e]; exact hX.K0), (hb2.block _ (Array.getElem?_eq_some_iff.1 h1.box).1 h1.RK).trans h1.box, ⟨[Value.int .i64 n] ++ rest.tail, by rw [hk, List.append_assoc], by simp; omega⟩, h1.vars.but hb2 fun b e e2 => (h1.vne e).2 e2, h1.sends.but hb2 fun b e e2 => (h1.sne e).2 e2, h1.tells.but hb2 fun b e e2 => (h1.tne e).2 e2, h1.ls, h1.hs, h1.ht, fun p hp => (hb2.block _ (Array.getElem?_eq_some_iff.1 (h1.kept p hp)).1 (ne_types (h1.kept p hp) h2 (hX.dT p hp).2.1)).trans (h1.kept p hp)⟩
  · have hk := setRow_heap _ _ _ (intsV s.stack ++ [Value.int .i64 n] ++ rest.tail).toArray _ _ h2
    exact ⟨rest.tail, by rw [hk, intsV_app]; rfl, by simp; omega⟩
end
set_option maxHeartbeats 1000000 in
theorem push_any (X : Fx) (hX : X.Ok) (s : Run) (W : World) (h : At X s W) (n : Int) : Calls Tryd.prog 110 #[.pointer (some ⟨X.R, 0, none⟩), .int .i64 n] W (Done X (push n s)) := by
  obtain ⟨vv, sv, tv, h⟩ := h
  have HS := Lib.hid h
  have HX := Lib.hid hX
  have c14 := h.cells.2.2.2.2.2.2.2.2
  by_cases hl : s.stack.length < 16
  · obtain ⟨w1, W0, hW0, hr, h1, h2⟩ := h.room_push hX n hl
    have HR := Lib.hid hr
    have H1 := Lib.hid (And.intro h1 h2)
    have HW := Lib.hid hW0
    have HL : Hid (push n s = { s with stack := s.stack ++ [n] }) := by rw [Lib.hid_eq]; exact if_pos hl
    have hlI : (s.stack.length : Int) < 16 := by omega
    have d14 := h1.cells.2.2.2.2.2.2.2.2
    have f14 := h1.free 14
    clear h hX hr h1 h2 hW0 hl
    go_enter Tryd.func110, Tryd.ntmps110
    go_wp2_with (at_builtin; rw [← HW.out]; refine wpList_run_append rfl _ _ 49 rfl _ _ _ w1 rfl rfl (HR.out _) ?_)
    go_end0
    refine ⟨rfl, vv, sv, tv, ?_⟩
    rw [HL.out]
    exact H1.out.1.turn HX.out 14 _ (by rw [List.length_append]; rfl) H1.out.2 ⟨rfl, rfl⟩ ⟨rfl, rfl⟩ ⟨rfl, rfl⟩
  · have HL : Hid (push n s = s) := by rw [Lib.hid_eq]; exact if_neg hl
    have hlI : ¬ (s.stack.length : Int) < 16 := by omega
    clear h hX hl
    go_enter Tryd.func110, Tryd.ntmps110
    go_wp2
    go_end0
    refine ⟨rfl, vv, sv, tv, ?_⟩
    rw [HL.out]
    exact HS.out
theorem getLastD_concat (l : List Int) (x : Int) : (l ++ [x]).getLastD 0 = x := by simp
set_option maxHeartbeats 1000000 in
theorem take_st (X : Fx) (hX : X.Ok) (s : Run) (W : World) (vv sv tv : Value) (h : St X W s vv sv tv) : Calls Tryd.prog 140 #[.pointer (some ⟨X.R, 0, none⟩)] W (fun e w' => e = .returned (.int .i64 (top s)) ∧ St X w' (drop s) vv sv tv) := by
  have HS := Lib.hid h
  have HX := Lib.hid hX
  have c14 := h.cells.2.2.2.2.2.2.2.2
  have f14 := h.free 14
  rcases List.eq_nil_or_concat s.stack with hn | ⟨l, x, hn⟩
  · have HL : Hid (top s = 0 ∧ drop s = s) := by
      rw [Lib.hid_eq]
      unfold top drop
      rw [hn]
      refine ⟨rfl, ?_⟩
      cases s
      simp at hn
      rw [hn]
      rfl
    rw [hn] at c14
    simp only [List.length_nil] at c14
    clear h hX hn
    go_enter Tryd.func140, Tryd.ntmps140
    go_wp2
    go_ret
    refine ⟨by rw [HL.out.1]; rfl, ?_⟩
    rw [HL.out.2]
    exact HS.out
  · rw [List.concat_eq_append] at hn
    have hlen : s.stack.length = l.length + 1 := by rw [hn]; simp
    have hx : W.cell? ⟨X.K, l.length, none⟩ = some (.int .i64 x) := by
      rw [h.at_ (by omega), hn]
      simp [List.getD]
    have hl16 := h.ls
    have HL : Hid (top s = x ∧ drop s = { s with stack := l }) := by
      rw [Lib.hid_eq]
      unfold top drop
      rw [hn]
      exact ⟨getLastD_concat l x, by simp⟩
    have HR : Hid (RoomAt W X.K l) := by
      rw [Lib.hid_eq]
      obtain ⟨rest, h1, h2⟩ := h.room
      refine ⟨.int .i64 x :: rest, ?_, ?_⟩
      · rw [h1, hn, intsV_app]
        simp [intsV]
      · simp
        omega
    rw [hlen] at c14 hl16
    obtain ⟨k, hk⟩ : ∃ k, k = l.length := ⟨_, rfl⟩
    rw [← hk] at c14 hx hl16 hlen
    have HK := Lib.hid hk
    have HLN := Lib.hid hlen
    clear h hX hn hk hlen
    go_enter Tryd.func140, Tryd.ntmps140
    go_wp2
    go_ret
    refine ⟨by rw [HL.out.1]; rfl, ?_⟩
    rw [HL.out.2]
    exact HS.out.turn HX.out 14 _ (by rw [HK.out]; rfl) HR.out ⟨rfl, rfl⟩ ⟨rfl, rfl⟩ ⟨rfl, rfl⟩
theorem take_any (X : Fx) (hX : X.Ok) (s : Run) (W : World) (h : At X s W) : Calls Tryd.prog 140 #[.pointer (some ⟨X.R, 0, none⟩)] W (Taken X s) := by
  obtain ⟨vv, sv, tv, h⟩ := h
  exact (take_st X hX s W vv sv tv h).mono fun _ _ ⟨h1, h2⟩ => ⟨h1, vv, sv, tv, h2⟩
set_option maxHeartbeats 1000000 in
theorem takeTwo_any (X : Fx) (hX : X.Ok) (s : Run) (W : World) (h : At X s W) : Calls Tryd.prog 142 #[.pointer (some ⟨X.R, 0, none⟩)] W (Two X s) := by
  have HS := Lib.hid h
  have HX := Lib.hid hX
  clear h hX
  go_enter Tryd.func142, Tryd.ntmps142
  go_wp2_with (first
    | (go_at_call 140; refine (take_any X HX.out _ _ H1.out).mono ?_; rintro e w2 ⟨rfl, h2⟩; have H2 := Lib.hid h2; clear h2)
    | (go_at_call 140; refine (take_any X HX.out _ _ HS.out).mono ?_; rintro e w1 ⟨rfl, h1⟩; have H1 := Lib.hid h1; clear h1))
  go_ret2
  exact ⟨rfl, H2.out⟩
set_option maxHeartbeats 1000000 in
theorem pushTruth_any (X : Fx) (hX : X.Ok) (s : Run) (W : World) (h : At X s W) (t : Bool) : Calls Tryd.prog 143 #[.pointer (some ⟨X.R, 0, none⟩), .bool t] W (Done X (push (if t = true then 1 else 0) s)) := by
  have HS := Lib.hid h
  have HX := Lib.hid hX
  clear h hX
  cases t
  all_goals
    go_enter Tryd.func143, Tryd.ntmps143
    go_wp2_with (go_at_call 110; refine (push_any X HX.out _ _ HS.out _).mono ?_; rintro e w1 ⟨rfl, h1⟩; have H1 := Lib.hid h1; clear h1)
    go_end0
    exact ⟨rfl, H1.out⟩
end Go.Proofs.YthhpoihfaggafaaDoor
