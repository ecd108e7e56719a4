/-
  A decoder that has told all of a prefix of a stream: what Push, tell, Rest and wrong make of it; and append over lists of texts.
-/
import Derived.Test.YthlmjadknklafaaDoorBack1
import Derived.Maps.AppendAt
namespace Go.Proofs.YthlmjadknklafaaDoor
open Go.RowKit CrcM FrM

/-- all of p is told: ps; what is wrong (0: nothing), and how many bytes belong to payloads -/
def Std (w : World) (gd lb : Nat) (p : List Nat) (ps : List (List Nat)) (e k : Nat) : Prop :=
  Tld p ps e k ∧ ((e = 0 ∧ Dec w gd lb k (p.drop k) 0 0) ∨ (e ≠ 0 ∧ ∃ at_, Dec w gd lb at_ [] k e))
/-- all of q has come, ps is told of it -/
def Mid (w : World) (gd lb : Nat) (q : List Nat) (ps : List (List Nat)) (e k : Nat) : Prop :=
  (e = 0 ∧ Got q ps k ∧ Dec w gd lb k (q.drop k) 0 0) ∨ (e ≠ 0 ∧ Tld q ps e k ∧ ∃ at_, Dec w gd lb at_ [] k e)

theorem Std.lt {w : World} {gd lb e k : Nat} {p : List Nat} {ps : List (List Nat)} (h : Std w gd lb p ps e k) : gd < w.heap.size := by
  rcases h.2 with ⟨_, h⟩ | ⟨_, _, h⟩ <;> exact h.lt
theorem Std.but {S : Nat → Prop} {w w' : World} {gd lb e k : Nat} {p : List Nat} {ps : List (List Nat)} (h : Std w gd lb p ps e k) (hb : But S w w') (h1 : ¬ S gd) (h2 : ¬ S lb) : Std w' gd lb p ps e k := by
  refine ⟨h.1, ?_⟩
  rcases h.2 with ⟨he, h⟩ | ⟨he, at_, h⟩
  · exact .inl ⟨he, h.but hb h1 h2⟩
  · exact .inr ⟨he, at_, h.but hb h1 h2⟩
theorem Std.below {w w' : World} {gd lb e k : Nat} {p : List Nat} {ps : List (List Nat)} (h : Std w gd lb p ps e k) (hb : Below w.heap.size w w') : Std w' gd lb p ps e k :=
  h.but (S := fun _ => False) (But.of hb) (fun h => h) (fun h => h)
theorem Mid.but {S : Nat → Prop} {w w' : World} {gd lb e k : Nat} {p : List Nat} {ps : List (List Nat)} (h : Mid w gd lb p ps e k) (hb : But S w w') (h1 : ¬ S gd) (h2 : ¬ S lb) : Mid w' gd lb p ps e k := by
  rcases h with ⟨he, hg, h⟩ | ⟨he, hg, at_, h⟩
  · exact .inl ⟨he, hg, h.but hb h1 h2⟩
  · exact .inr ⟨he, hg, at_, h.but hb h1 h2⟩
theorem Mid.below {w w' : World} {gd lb e k : Nat} {p : List Nat} {ps : List (List Nat)} (h : Mid w gd lb p ps e k) (hb : Below w.heap.size w w') : Mid w' gd lb p ps e k :=
  h.but (S := fun _ => False) (But.of hb) (fun h => h) (fun h => h)

set_option maxHeartbeats 400000 in
theorem push_broken (w : World) (gd lb at_ wat werr : Nat) (l : List Nat) (x : Value) (h : Dec w gd lb at_ l wat werr) (he : 0 < werr) :
    Calls Tryd.prog 7 #[.pointer (some ⟨gd, 0, none⟩), x] w fun e w' => e = .returned (.tuple #[]) ∧ w = w' := by
  have HD := Lib.hid h
  have hd : decide (werr ≠ 0) = true := by simp; omega
  clear h
  go_enter Tryd.func7, Tryd.ntmps7
  go_wp2_with (go_at_call 17; refine (isBroken_any _ gd lb _ _ _ _ HD.out).mono ?_; rintro e w' ⟨rfl, rfl⟩; rw [hd])
  (try simp only [Exit.inBlock, Exit.then])
  refine bodyPost_ret (results_none rfl _ _ _) rfl ?_
  exact ⟨rfl, rfl⟩

def PushTo (gd lb : Nat) (q : List Nat) (ps : List (List Nat)) (e k : Nat) (w : World) (ev : Ending) (w' : World) : Prop :=
  ev = .returned (.tuple #[]) ∧ ∃ lb', Mid w' gd lb' q ps e k ∧ But (fun j => j = gd ∨ j = lb) w w' ∧ (lb' = lb ∨ (w.heap.size ≤ lb' ∧ lb' < w'.heap.size))

theorem push_any (w : World) (gd lb e k : Nat) (p x : List Nat) (ps : List (List Nat)) (a : Option Addr) (len cap : Nat) (h : Std w gd lb p ps e k) (hx : Bts w a len x) (hl : p.length + len ≤ 9000) :
    Calls Tryd.prog 7 #[.pointer (some ⟨gd, 0, none⟩), .slice a len cap] w (PushTo gd lb (p ++ x) ps e k w) := by
  obtain ⟨ht, ⟨rfl, hd⟩ | ⟨he, at_, hd⟩⟩ := h
  · have hk := ht.1.le.1
    refine (push_good w gd lb k (p.drop k) a len cap x hd hx (by rw [List.length_drop]; omega)).mono ?_
    rintro ev w' ⟨rfl, lb', hd', hb, hc⟩
    refine ⟨rfl, lb', .inl ⟨rfl, ht.1.append x, ?_⟩, hb, hc⟩
    rw [List.drop_append_of_le_length hk]
    exact hd'
  · refine (push_broken w gd lb at_ k e [] _ hd (by omega)).mono ?_
    rintro ev w' ⟨rfl, rfl⟩
    exact ⟨rfl, lb, .inr ⟨he, ht.bad_append he x, at_, hd⟩, But.refl _ _, .inl rfl⟩

def TellTo (gd lb : Nat) (q : List Nat) (ps : List (List Nat)) (w : World) (ev : Ending) (w' : World) : Prop :=
  ∃ v us qs f m, ev = .returned (.tuple #[v, .int .i64 ((f : Nat) : Int)]) ∧ Std w' gd lb q (ps ++ qs) f m ∧ w'.ownsRow w.heap.size 22 1 v qs.length us ∧ Txts w' (Own w.heap.size w'.heap.size v) us qs ∧ But (fun j => j = gd) w w'

theorem tell_any (w : World) (a0 : Addr) (gd lb e k : Nat) (q : List Nat) (ps : List (List Nat)) (hG : Glo w a0) (hgd2 : 2 ≤ gd) (h : Mid w gd lb q ps e k) (hl : q.length ≤ 9000) (hlb : lb < w.heap.size) :
    Calls Tryd.prog 9 #[.pointer (some ⟨gd, 0, none⟩)] w (TellTo gd lb q ps w) := by
  rcases h with ⟨rfl, hg, hd⟩ | ⟨he, ht, at_, hd⟩
  · refine (tell_good w a0 gd lb k (q.drop k) hG hgd2 hd (by rw [List.length_drop]; omega) hlb).mono ?_
    rintro ev w' ⟨v, us, qs, f, m, rfl, ht, ho, htx, hdec, hb⟩
    refine ⟨v, us, qs, f, k + m, rfl, ⟨Tld.trans hg ht, ?_⟩, ho, htx, hb⟩
    rcases hdec with ⟨hf, hd'⟩ | ⟨hf, hd'⟩
    · rw [List.drop_drop] at hd'
      exact .inl ⟨hf, hd'⟩
    · exact .inr ⟨hf, _, hd'⟩
  · refine (tell_broken w a0 gd lb at_ k e [] hG hd (by omega)).mono ?_
    rintro ev w' ⟨rfl, hd', hb⟩
    refine ⟨_, [], [], e, k, rfl, ⟨by rw [List.append_nil]; exact ht, .inr ⟨he, at_, hd'⟩⟩, World.ownsRow_nil _ _ _ _, Txts.nil _ _, hb⟩

theorem rest_std (w : World) (gd lb e k : Nat) (q : List Nat) (ps : List (List Nat)) (h : Std w gd lb q ps e k) :
    Calls Tryd.prog 11 #[.pointer (some ⟨gd, 0, none⟩)] w fun ev w' => ev = .returned (.int .i64 ((if e = 0 then q.length - k else 0 : Nat) : Int)) ∧ w = w' := by
  rcases h.2 with ⟨rfl, hd⟩ | ⟨he, at_, hd⟩
  · rw [if_pos rfl, ← List.length_drop]
    exact rest_any w gd lb k 0 0 _ hd
  · rw [if_neg he]
    exact rest_any w gd lb at_ k e [] hd

theorem wrong_std (w : World) (a0 : Addr) (gd lb e k : Nat) (q : List Nat) (ps : List (List Nat)) (hG : Glo w a0) (h : Std w gd lb q ps e k) :
    Calls Tryd.prog 12 #[.pointer (some ⟨gd, 0, none⟩), .int .i64 (e : Int), .int .i64 (k : Int)] w (TellsYes w) := by
  rcases h.2 with ⟨rfl, hd⟩ | ⟨he, at_, hd⟩
  · exact wrong_none w gd lb k 0 _ _ hd
  · exact wrong_some w a0 gd lb at_ k e [] hG hd (by omega)

theorem run_append_rows (w : World) (ty : TypeId) (base base2 : Nat) (v v2 : Value) (n m : Nat) (xs ys : List Value) (h1 : w.ownsRow base 22 1 v n xs) (h2 : w.ownsRow base2 22 1 v2 m ys) (hy : ∀ u ∈ ys, u.oneCell' = true) (hsz : n + m ≤ 1000000) (hbase : base ≤ w.heap.size) :
    ∃ v' w', (Builtin.append_ #[27, 27] ty #[v, v2]).run Tryd.prog w = .ok v' w' ∧ w'.ownsRow base 22 1 v' (n + m) (xs ++ ys) ∧ w.grownBy w' v.ownBlock ∧ (v'.ownBlock = v.ownBlock ∨ v'.ownBlock = some w.heap.size) := by
  obtain ⟨i0, hi, hz0, hz1, hz2⟩ := info_parts info22
  have hform := h2.2
  rcases hform with ⟨rfl, rfl⟩ | ⟨g, cap, cur, rfl, _, hg, _⟩
  · obtain rfl : ys = [] := List.length_eq_zero_iff.1 (by have := h2.1; omega)
    refine ⟨v, w, run_append_owned_none (P := Tryd.prog) (w := w) base 27 ty 22 i0 1 Tryd.underlying27 hi v n xs h1, by rw [List.append_nil]; exact h1, ⟨rfl, rfl, rfl, Nat.le_refl _, fun _ _ _ => rfl⟩, .inl rfl⟩
  · obtain ⟨v', w', hr, r1, r2, _, r3⟩ := run_append_own_at (P := Tryd.prog) w base 27 ty 22 i0 (.slice none 0 0) 1 24 Tryd.underlying27 hi hz0 hz1 hz2 rfl (by decide) v n xs h1 ⟨g, 0, none⟩ m cap ys (by have := h2.1; omega) (h2.cells (g := g) rfl) hy (by unfold maxLen; omega) (by omega) hbase
    exact ⟨v', w', hr, r1, r2, r3⟩

theorem wpList_append_rows {w : World} {ops : Array Oper} {rest : List Oper} {o : Oper} {act : Act} {Q : Exit → Act → World → Prop} (hgd : o.guard = none) (s x : Operand)
    (ho : o.op = .call { callee := .builtin .append, args := #[s, x], argTypes := #[27, 27] })
    (base base2 : Nat) (v v2 : Value) (n m : Nat) (xs ys : List Value) (hv : act.eval s = v) (h1 : w.ownsRow base 22 1 v n xs) (hx : act.eval x = v2) (h2 : w.ownsRow base2 22 1 v2 m ys) (hy : ∀ u ∈ ys, u.oneCell' = true) (hsz : n + m ≤ 1000000) (hbase : base ≤ w.heap.size)
    (h : ∀ v' w', w'.ownsRow base 22 1 v' (n + m) (xs ++ ys) → w.grownBy w' v.ownBlock → (v'.ownBlock = v.ownBlock ∨ v'.ownBlock = some w.heap.size) → wpList Tryd.prog ops Q rest (act.put o.dst v') w') : wpList Tryd.prog ops Q (o :: rest) act w := by
  refine wpList_plain hgd fun K hK => ?_
  obtain ⟨v', w', hrun, r1, r2, r3⟩ := run_append_rows w o.type base base2 v v2 n m xs ys h1 h2 hy hsz hbase
  unfold Oper.wp execOp
  simp only [ho, resolve, invoke, builtin, Sem.run_bind, Sem.run_pure, Result.andThen_ok, List.map_toArray, List.map_cons, List.map_nil, hv, hx, hrun]
  exact hK _ _ (h v' w' r1 r2 r3)

theorem Txts.oneCell {w : World} {S : Nat → Prop} {vs : List Value} {ps : List (List Nat)} (h : Txts w S vs ps) : ∀ u ∈ vs, u.oneCell' = true := by
  intro u hu
  obtain ⟨i, hi, rfl⟩ := List.getElem_of_mem hu
  obtain ⟨a, cap, e, _⟩ := h.2 i (by rw [← h.1]; exact hi)
  rw [List.getElem?_eq_getElem hi] at e
  rw [Option.some.inj e]
  rfl

/-- s[l:h], whatever s is -/
theorem slice_lh (W : World) (a : Option Addr) (len cap l h : Nat) (hlh : l ≤ h) (hh : h ≤ cap) :
    (Instr.slice 22 (.slice a len cap) (some (.int .i64 (l : Int))) (some (.int .i64 (h : Int))) none).run Tryd.prog W = .ok (.slice (if cap = l then a else a.map (·.add l)) (h - l) (cap - l)) W := by
  have ht' : Tryd.prog.underlying 22 = some (.slice (Tryd.prog.elem 22)) := by simp [Program.elem, Tryd.underlying22]
  have he : Tryd.prog.elem 22 = 5 := by simp [Program.elem, Tryd.underlying22]
  rw [run_slice_lh W 22 _ _ _ ht' .i64 .i64 _ _ (by omega) (by omega) (by omega), he, sz5]
  have e1 : (h : Int).toNat = h := by omega
  have e2 : (l : Int).toNat = l := by omega
  rw [e1, e2]
  simp [Result.andThen, sliced]
theorem bts_lh {w : World} {a : Option Addr} {len cap : Nat} {s : List Nat} (hb : Bts w a len s) (l h : Nat) (hlh : l ≤ h) (hh : h ≤ len) (hc : len ≤ cap) :
    Bts w (if cap = l then a else a.map (·.add l)) (h - l) ((s.take h).drop l) := by
  have ht := hb.take h hh
  by_cases h0 : h = l
  · subst h0
    rw [Nat.sub_self, List.drop_eq_nil_of_le (by rw [List.length_take]; omega)]
    exact Bts.nought _ _
  · rw [if_neg (by omega)]
    obtain ⟨B, off, rfl⟩ : ∃ B off, a = some ⟨B, off, none⟩ := by
      obtain ⟨_, _, _, h4 | ⟨B, off, e, _, _⟩⟩ := hb
      · omega
      · exact ⟨B, off, e⟩
    simp only [Option.map_some, Addr.add_mid]
    exact ht.drop l hlh
theorem wpList_slice_of {w : World} {ops : Array Oper} {rest : List Oper} {o : Oper} {act : Act} {Q : Exit → Act → World → Prop} (hgd : o.guard = none) (x : Operand) (lo hi : Option Operand)
    (ho : o.op = .slice 22 x lo hi none) (X V : Value) (L H : Option Value) (hx : act.eval x = X) (hL : lo.map act.eval = L) (hH : hi.map act.eval = H) (hr : (Instr.slice 22 X L H none).run Tryd.prog w = .ok V w)
    (h : wpList Tryd.prog ops Q rest (act.put o.dst V) w) : wpList Tryd.prog ops Q (o :: rest) act w := by
  refine wpList_plain hgd fun K hK => ?_
  have ht' : Tryd.prog.underlying 22 = some (.slice (Tryd.prog.elem 22)) := by simp [Program.elem, Tryd.underlying22]
  unfold Oper.wp execOp
  simp only [ho, hx, hL, hH, Option.map_none, Sem.run_bind, Sem.run_pure, run_sliceAt_slice w 22 _ _ _ _ ht', hr, Result.andThen_ok]
  exact hK _ _ h
end Go.Proofs.YthlmjadknklafaaDoor
