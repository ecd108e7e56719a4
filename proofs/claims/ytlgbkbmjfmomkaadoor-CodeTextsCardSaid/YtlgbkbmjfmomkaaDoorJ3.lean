/-
  The law CodeBytes, walked.
-/
import Derived.Test.YtlgbkbmjfmomkaaDoorJ2
import Derived.Test.YtlgbkbmjfmomkaaDoorC9
import Derived.Test.YtlgbkbmjfmomkaaDoorD6
import Derived.Laws.AppendOwnNone
namespace Go.Proofs.YtlgbkbmjfmomkaaDoor
open Go.RowKit CodM

theorem strU_inj {l m : List UInt8} (h : strU l = strU m) : l = m := by rw [← strU_toList l, h, strU_toList]
theorem strU_beq (l : List UInt8) : ((strU l).toList == (strU l).toList) = true := by simp
/-- the copy of what came in: nil, or a buffer of the call's own -/
theorem own_copy (w : World) (a : Option Addr) (l : List UInt8) (c : Nat) (hsrc : (a = none ∧ c = 0 ∧ l = []) ∨ ∃ y, a = some y ∧ ∀ j u, (Lib.byteCells l)[j]? = some u → w.cell? (y.add j) = some u) (hl : l.length ≤ 3000) (ty : TypeId) :
    ∃ v' w', (Builtin.append_ #[25, 25] ty #[.slice none 0 0, .slice a l.length c]).run Tryd.prog w = .ok v' w' ∧ Buf w.heap.size w' v' l ∧ Below w.heap.size w w' := by
  obtain ⟨i0, hi, hz0, hz1, hz2⟩ := info_parts infoB
  rcases hsrc with ⟨rfl, rfl, rfl⟩ | ⟨y, rfl, hc⟩
  · exact ⟨_, _, run_append_owned_none (P := Tryd.prog) (w := w) w.heap.size 25 ty 5 i0 1 Tryd.underlying25 hi (.slice none 0 0) 0 [] (World.ownsRow_nil _ _ _ _), World.ownsRow_nil _ _ _ _, Below.refl _ _⟩
  · obtain ⟨v', w', h1, h2, h3, _⟩ := run_append_own (P := Tryd.prog) w w.heap.size 25 ty 5 i0 (.int .u8 0) 1 1 Tryd.underlying25 hi hz0 hz1 hz2 rfl (by decide) (.slice none 0 0) 0 [] (World.ownsRow_nil _ _ _ _) y l.length c (Lib.byteCells l) (by simp [Lib.byteCells]) hc (bytes_one l) (by unfold maxLen; omega) (by omega) (Nat.le_refl _)
    exact ⟨v', w', h1, Buf.of h2 (by simp) (by simp), (Below.refl _ _).grown h3 (Nat.le_refl _) (fun k hk => by simp [Value.ownBlock] at hk)⟩

theorem wpList_run_append {P : Program} {w w' : World} {ops : Array Oper} {rest : List Oper} {o : Oper} {act : Act} {Q : Exit → Act → World → Prop} (hgd : o.guard = none) (s x : Operand) (t : TypeId) (u v v' : Value)
    (ho : o.op = .call { callee := .builtin .append, args := #[s, x], argTypes := #[t, t] }) (hs : act.eval s = u) (hx : act.eval x = v)
    (hrun : (Builtin.append_ #[t, t] o.type #[u, v]).run P w = .ok v' w') (h : wpList P ops Q rest (act.put o.dst v') w') : wpList P ops Q (o :: rest) act w := by
  refine wpList_plain hgd fun K hK => ?_
  unfold Oper.wp
  simp [execOp, ho, resolve, invoke, builtin, hs, hx, hrun, Result.andThen]
  exact hK _ _ h

set_option maxHeartbeats 2000000 in
set_option maxRecDepth 100000 in
theorem bytesLaw_long (a : Option Addr) (n c : Nat) (w : World) (hG : Glo w) (hn : 3000 < n) : Calls Tryd.prog 5 #[.slice a n c] w (TellsBB true w) := by
  have HG := Lib.hid hG
  clear hG
  go_enter Tryd.func5, Tryd.ntmps5
  go_wp2_with (first
    | (go_at_call 10; refine (known_any _ HG.out).mono ?_; rintro e w3 ⟨rfl, hb⟩; have HB3 := Lib.hid hb; clear hb))
  go_ret
  exact ⟨rfl, HB3.out⟩
theorem rof_none (l : List UInt8) (N : Nat) (a : Option Addr) (c : Nat) (w : World) (hN : N = l.length) (h1 : N ≤ c) (h2 : N ≤ 3000) (hb : BytAt w a l) (hg : goodP l = none) :
    Calls Tryd.prog 21 #[.slice a N c] w fun e w' => e = .returned (.tuple #[.agg #[.int .i64 0, .slice none 0 0], .int .i64 0, .bool false]) ∧ Below w.heap.size w w' := by
  subst hN
  refine (rofBytes_any l a c w h1 h2 hb).mono ?_
  rintro e w' ⟨h3, h4⟩
  rw [hg] at h4
  exact ⟨h4, h3⟩
theorem cof_none (l : List UInt8) (N : Nat) (a : Option Addr) (c : Nat) (w : World) (hW : Wds w) (hN : N = l.length) (h1 : N ≤ c) (h2 : c ≤ 9223372036854775807) (hb : BytAt w a l) (hg : goodP l = none) :
    Calls Tryd.prog 18 #[.slice a N c] w (OfNo w) := by
  subst hN
  exact ofBytes_no l a c w hW h1 h2 hb (goodP_left hg)
theorem byt_str {w : World} {a : Option Addr} {l : List UInt8} {N : Nat} (hN : N = l.length) (h : BytAt w a l) (c : Nat) (s : ByteArray) (hs : s = strU l) : (convert 25 9 (.slice a N c)).run Tryd.prog w = .ok (.string s) w := by
  subst hN
  subst hs
  exact h.str c
theorem st_known {w : World} (hG : Glo w) (W : World) (hb : Hid (Below w.heap.size w W)) : Calls Tryd.prog 10 #[] W fun e w' => e = .returned (.bool true) ∧ Hid (Below w.heap.size w w') :=
  (known_any W (hG.next hb.out (Nat.le_refl _))).mono fun _ _ ⟨h1, h2⟩ => ⟨h1, Lib.hid (hb.out.trans (h2.mono hb.out.size))⟩
/-- the lexical walk, shut against unfolding -/
structure WQ (P : Program) (ops : Array Oper) (C : World → Prop) (Q : Act → Prop) (l : List Oper) (a : Act) : Prop where
  out : wpQuiet P ops C Q l a
theorem WQ.skip {P : Program} {ops : Array Oper} {C : World → Prop} {Q : Act → Prop} {a : Act} {o : Oper} {rest : List Oper} (hw : Region.wanted o (yielded ops a.tmps) = false) (h : WQ P ops C Q rest (a.put o.dst undef)) : WQ P ops C Q (o :: rest) a := by
  refine ⟨?_⟩
  unfold wpQuiet
  rw [hw]
  exact h.out
theorem WQ.take {P : Program} {ops : Array Oper} {C : World → Prop} {Q : Act → Prop} {a : Act} {o : Oper} {rest : List Oper} (v : Value) (hw : Region.wanted o (yielded ops a.tmps) = true) (hy : ∀ W, C W → o.quietAt P a C W v) (h : WQ P ops C Q rest (a.put o.dst v)) : WQ P ops C Q (o :: rest) a := by
  refine ⟨?_⟩
  unfold wpQuiet
  rw [hw]
  exact ⟨v, hy, h.out⟩
theorem WQ.nil {P : Program} {ops : Array Oper} {C : World → Prop} {Q : Act → Prop} {a : Act} (h : Q a) : WQ P ops C Q [] a := ⟨h⟩
theorem wp_region_class {P : Program} {C : World → Prop} {id : Nat} {Q : Exit → Act → World → Prop} {a : Act} {w : World} {l : List Oper} (hm : P.follows .mixedOrders = true) (hB : Region.lexB .any l.toArray = true) (hC : C w.drew)
    (h : WQ P l.toArray C (fun a' => ∀ w', C w' → Q .normal a' w') l a) : (Code.region id l.toArray true).wp P Q a w :=
  wp_region_quiet (C := C) hm hB hC (by simpa using h.out)
theorem prog_zero (w : World) : ProgAt w none 0 ⟨0, []⟩ := ⟨by show -9223372036854775808 ≤ (0 : Int) ∧ (0 : Int) ≤ 9223372036854775807; omega, rfl, by omega, .inl rfl⟩
theorem same_zero : sameP ⟨0, []⟩ ⟨0, []⟩ = true := rfl
set_option maxHeartbeats 1000000 in
set_option maxRecDepth 100000 in
theorem bytesLaw_none (a : Option Addr) (l : List UInt8) (c : Nat) (w : World) (hG : Glo w) (hn : l.length ≤ 3000) (h1 : l.length ≤ c) (hb : BytAt w a l) (hsrc : (a = none ∧ c = 0 ∧ l = []) ∨ ∃ y, a = some y ∧ ∀ j u, (Lib.byteCells l)[j]? = some u → w.cell? (y.add j) = some u) (hg : goodP l = none) :
    Calls Tryd.prog 5 #[.slice a l.length c] w (TellsBB true w) := by
  obtain ⟨v1, w1, hap, hbuf1, hb1⟩ := own_copy w a l c hsrc hn 25
  obtain ⟨a1, c1, rfl, hlc1, hc1, hbyt1⟩ := hbuf1.byt
  obtain ⟨N, hN⟩ : ∃ N, N = l.length := ⟨_, rfl⟩
  have HG := Lib.hid hG
  have HB := Lib.hid hb
  have HB1 := Lib.hid hb1
  have HY1 := Lib.hid hbyt1
  have HGP := Lib.hid hg
  have HL := Lib.hid hN
  have HLC1 := Lib.hid hlc1
  have HLC := Lib.hid h1
  have HN := Lib.hid hn
  rw [← hN] at hap hn h1 hlc1 ⊢
  have HAP := Lib.hid hap
  clear hG hb hb1 hbyt1 hg hsrc hbuf1 hN hap
  go_enter Tryd.func5, Tryd.ntmps5
  obtain ⟨S, hS⟩ : ∃ S, S = strU l := ⟨_, rfl⟩
  have HS := Lib.hid hS
  have hse : (S.toList == S.toList) = true := by simp
  clear hS
  go_wp2_with (first
    | (at_builtin; refine wpList_run_append rfl _ _ 25 _ _ _ rfl rfl rfl HAP.out ?_)
    | (go_at_call 18; refine (cof_none l N a1 c1 _ (HG.out.next HB1.out (Nat.le_refl _)).words HL.out hlc1 hc1 HY1.out HGP.out).mono ?_; rintro e w2 ⟨rfl, hb2⟩; have HB2 := Lib.hid (HB1.out.trans (hb2.mono HB1.out.size)); have HY2 := Lib.hid (HY1.out.below hb2 (Nat.le_refl _)); clear hb2)
    | (go_at_call 21; refine (rof_none l N a c _ HL.out h1 hn ?_ HGP.out).mono ?_; exact (HB.out.below HB2.out (Nat.le_refl _)).below ((Below.refl _ _).alloc (Nat.le_refl _) _) (Nat.le_refl _); rintro e w3 ⟨rfl, hb3⟩; have HB3 := Lib.hid (HB2.out.trans ((((Below.refl w2.heap.size w2).alloc (Nat.le_refl _) _).trans (hb3.mono (by simp))).mono HB2.out.size)); have HB23 := Lib.hid (((Below.refl w2.heap.size w2).alloc (Nat.le_refl _) (.cells #[.int .i64 0, .slice none 0 0] 24)).trans (hb3.mono (by simp))); have hbx := (hb3.block _ (by simp)).trans (heap_alloc_new w2 (.cells #[.int .i64 0, .slice none 0 0] 24)); have p0 : w3.cell? ⟨w2.heap.size, 0, none⟩ = some (.int .i64 0) := (by rw [cell_of_row _ _ _ _ _ _ hbx]; rfl); have p1 : w3.cell? ⟨w2.heap.size, 1, none⟩ = some (.slice none 0 0) := (by rw [cell_of_row _ _ _ _ _ _ hbx]; rfl); have hs2 := heap_lt hbx; clear hb3)
    | (go_at_call 19; refine (rsame_any _ none none 0 0 0 0 ⟨0, []⟩ ⟨0, []⟩ (prog_zero _) (prog_zero _)).mono ?_; rintro e w4 ⟨rfl, hb4⟩; rw [same_zero]; have hb4' := ((Below.refl w3.heap.size w3).alloc (Nat.le_refl _) (.cells #[.int .i64 0, .slice none 0 0] 24)).trans (hb4.mono (by simp)); have s1 := byt_str HL.out ((HY2.out.below HB23.out (Nat.le_refl _)).below hb4' (Nat.le_refl _)) c1 S HS.out; have s2 := byt_str HL.out ((HB.out.below HB3.out (Nat.le_refl _)).below hb4' (Nat.le_refl _)) c S HS.out; have HB4 := Lib.hid (HB3.out.trans (hb4'.mono HB3.out.size)); clear hb4 hb4'))
  clear p0 p1 s1 s2 hbx hse
  refine wp_region_class (C := fun W => Hid (Below w.heap.size w W)) (by kernel_rfl) (by kernel_rfl) HB4.out.drew ?_
  refine WQ.take (.bool false) (by kernel_rfl) (fun _ _ => ⟨rfl, rfl⟩) ?_
  simp only [Act.put, List.setIfInBounds_toArray, List.set_cons_zero, List.set_cons_succ]
  refine WQ.take (.bool true) (by kernel_rfl) (fun _ _ => ⟨rfl, rfl⟩) ?_
  simp only [Act.put, List.setIfInBounds_toArray, List.set_cons_zero, List.set_cons_succ]
  refine WQ.take (.bool true) (by kernel_rfl) (fun _ _ => ⟨rfl, rfl⟩) ?_
  simp only [Act.put, List.setIfInBounds_toArray, List.set_cons_zero, List.set_cons_succ]
  refine WQ.skip (by kernel_rfl) ?_
  simp only [Act.put, List.setIfInBounds_toArray, List.set_cons_zero, List.set_cons_succ]
  refine WQ.skip (by kernel_rfl) ?_
  simp only [Act.put, List.setIfInBounds_toArray, List.set_cons_zero, List.set_cons_succ]
  refine WQ.skip (by kernel_rfl) ?_
  simp only [Act.put, List.setIfInBounds_toArray, List.set_cons_zero, List.set_cons_succ]
  refine WQ.skip (by kernel_rfl) ?_
  simp only [Act.put, List.setIfInBounds_toArray, List.set_cons_zero, List.set_cons_succ]
  refine WQ.skip (by kernel_rfl) ?_
  simp only [Act.put, List.setIfInBounds_toArray, List.set_cons_zero, List.set_cons_succ]
  refine WQ.skip (by kernel_rfl) ?_
  simp only [Act.put, List.setIfInBounds_toArray, List.set_cons_zero, List.set_cons_succ]
  refine WQ.skip (by kernel_rfl) ?_
  simp only [Act.put, List.setIfInBounds_toArray, List.set_cons_zero, List.set_cons_succ]
  refine WQ.skip (by kernel_rfl) ?_
  simp only [Act.put, List.setIfInBounds_toArray, List.set_cons_zero, List.set_cons_succ]
  refine WQ.take (.bool true) (by kernel_rfl) (fun _ _ => ⟨rfl, rfl⟩) ?_
  simp only [Act.put, List.setIfInBounds_toArray, List.set_cons_zero, List.set_cons_succ]
  refine WQ.take (.bool true) (by kernel_rfl) (fun _ _ => ⟨rfl, rfl⟩) ?_
  simp only [Act.put, List.setIfInBounds_toArray, List.set_cons_zero, List.set_cons_succ]
  refine WQ.take (.bool true) (by kernel_rfl) (fun W hW => ⟨rfl, by simpa using st_known HG.out W hW⟩) ?_
  simp only [Act.put, List.setIfInBounds_toArray, List.set_cons_zero, List.set_cons_succ]
  refine WQ.take (.bool true) (by kernel_rfl) (fun _ _ => ⟨rfl, rfl⟩) ?_
  simp only [Act.put, List.setIfInBounds_toArray, List.set_cons_zero, List.set_cons_succ]
  refine WQ.take (.bool true) (by kernel_rfl) (fun _ _ => ⟨rfl, rfl⟩) ?_
  simp only [Act.put, List.setIfInBounds_toArray, List.set_cons_zero, List.set_cons_succ]
  refine WQ.nil ?_
  intro W hW
  go_wp2
  go_ret
  exact ⟨rfl, hW.out⟩

abbrev StB (w4 : World) (g k : Nat) (v3 vb : Value) (T : ByteArray) (W : World) : Prop :=
  W.cell? ⟨g, 0, none⟩ = some (.int .i64 k) ∧ W.cell? ⟨g, 1, none⟩ = some v3 ∧ (convert 25 9 vb).run Tryd.prog W = .ok (.string T) W ∧ Hid (Below w4.heap.size w4 W)
theorem rof_some (l r : List UInt8) (p : Prg) (N : Nat) (a : Option Addr) (c : Nat) (w : World) (hN : N = l.length) (h1 : N ≤ c) (h2 : N ≤ 3000) (hb : BytAt w a l) (hg : goodP l = some (p, r)) (m : Nat) (hm : m = l.length - r.length) :
    Calls Tryd.prog 21 #[.slice a N c] w fun e w' => ∃ a n c, e = .returned (.tuple #[.agg #[.int .i64 p.vars, .slice a n c], .int .i64 m, .bool true]) ∧ SlOk a n c ∧ ProgAt w' a n p ∧ Below w.heap.size w w' := by
  subst hN
  subst hm
  refine (rofBytes_any l a c w h1 h2 hb).mono ?_
  rintro e w' ⟨h3, h4⟩
  rw [hg] at h4
  obtain ⟨a', n', c', e1, e2, e3⟩ := h4
  have hp := rdProg_len (goodP_parts hg).1
  exact ⟨a', n', c', e1, e2, ⟨hp.2, e3.kinds (by rw [← e3.1]; omega)⟩, h3⟩
theorem cof_some (l r : List UInt8) (p : Prg) (N : Nat) (a : Option Addr) (c : Nat) (w : World) (hW : Wds w) (hN : N = l.length) (h1 : N ≤ c) (h2 : c ≤ 9223372036854775807) (hb : BytAt w a l) (hg : goodP l = some (p, r)) (m : Nat) (hm : m = l.length - r.length) :
    Calls Tryd.prog 18 #[.slice a N c] w fun e w' => ∃ a n c, e = .returned (.tuple #[.agg #[.int .i64 p.vars, .slice a n c], .int .i64 m, .int .i64 0]) ∧ SlOk a n c ∧ ProgAt w' a n p ∧ Below w.heap.size w w' := by
  subst hN
  subst hm
  refine (ofBytes_yes l r p a c w hW h1 h2 hb (goodP_parts hg).1 (goodP_parts hg).2).mono ?_
  rintro e w' ⟨a', n', c', e1, e2, e3, e4⟩
  have hp := rdProg_len (goodP_parts hg).1
  exact ⟨a', n', c', e1, e2, ⟨hp.2, e3.kinds (by rw [← e3.1]; omega)⟩, e4⟩

set_option maxHeartbeats 2000000 in
set_option maxRecDepth 100000 in
theorem bytesLaw_some (a : Option Addr) (l r : List UInt8) (p : Prg) (c : Nat) (w : World) (hG : Glo w) (hn : l.length ≤ 3000) (h1 : l.length ≤ c) (hb : BytAt w a l) (hsrc : (a = none ∧ c = 0 ∧ l = []) ∨ ∃ y, a = some y ∧ ∀ j u, (Lib.byteCells l)[j]? = some u → w.cell? (y.add j) = some u) (hg : goodP l = some (p, r)) :
    Calls Tryd.prog 5 #[.slice a l.length c] w (TellsBB true w) := by
  obtain ⟨v1, w1, hap, hbuf1, hb1⟩ := own_copy w a l c hsrc hn 25
  obtain ⟨a1, c1, rfl, hlc1, hc1, hbyt1⟩ := hbuf1.byt
  obtain ⟨N, hN⟩ : ∃ N, N = l.length := ⟨_, rfl⟩
  obtain ⟨m, hm⟩ : ∃ m, m = l.length - r.length := ⟨_, rfl⟩
  have hmN : m ≤ N := by omega
  obtain ⟨hpr, hmay⟩ := goodP_parts hg
  obtain ⟨hhead, h128⟩ := may_parts hmay
  have hvI := (rdProg_len hpr).2
  obtain ⟨k, hk⟩ : ∃ k : Nat, p.vars = (k : Int) := ⟨p.vars.toNat, by omega⟩
  obtain ⟨pv, ks⟩ := p
  simp only at hk
  subst hk
  obtain ⟨B, off, rfl⟩ : ∃ B off, a = some ⟨B, off, none⟩ := by
    rcases hb with h | ⟨B, off, h, _⟩
    · rw [h] at hpr; simp [rdProg] at hpr
    · exact ⟨B, off, h⟩
  have HG := Lib.hid hG
  have HB := Lib.hid hb
  have HB1 := Lib.hid hb1
  have HY1 := Lib.hid hbyt1
  have HGP := Lib.hid hg
  have HL := Lib.hid hN
  have HM := Lib.hid hm
  have HT := Lib.hid (goodP_take hg)
  have HML := Lib.hid (show m = (l.take m).length from by simp; omega)
  have HHEAD := Lib.hid hhead
  have H128 := Lib.hid h128
  rw [← hN] at hap hn h1 hlc1 ⊢
  have HAP := Lib.hid hap
  clear hG hb hb1 hbyt1 hg hsrc hbuf1 hN hap hpr hmay hm hhead h128
  go_enter Tryd.func5, Tryd.ntmps5
  obtain ⟨S, hS⟩ : ∃ S, S = strU l := ⟨_, rfl⟩
  have HS := Lib.hid hS
  have hse : (S.toList == S.toList) = true := by simp
  clear hS
  go_wp2_with (first
    | (at_builtin; refine wpList_run_append rfl _ _ 25 _ _ _ rfl rfl rfl HAP.out ?_)
    | (go_at_call 18; refine (cof_some l r _ N a1 c1 _ (HG.out.next HB1.out (Nat.le_refl _)).words HL.out hlc1 hc1 HY1.out HGP.out m HM.out).mono ?_; rintro e w2 ⟨a2, n2, c2, rfl, -, hp2, hb2⟩; have HB2 := Lib.hid (HB1.out.trans (hb2.mono HB1.out.size)); have HY2 := Lib.hid (HY1.out.below hb2 (Nat.le_refl _)); have HP2 := Lib.hid hp2; clear hb2 hp2)
    | (go_at_call 21; refine (rof_some l r _ N (some ⟨B, off, none⟩) c _ HL.out h1 hn ?_ HGP.out m HM.out).mono ?_; exact (HB.out.below HB2.out (Nat.le_refl _)).below ((Below.refl _ _).alloc (Nat.le_refl _) _) (Nat.le_refl _); rintro e w3 ⟨a3, n3, c3, rfl, -, hp3, hb3⟩; refine Hid.out ?_))
  have HB23 := Lib.hid (((Below.refl w2.heap.size w2).alloc (Nat.le_refl _) (.cells #[.int .i64 k, .slice a2 n2 c2] 24)).trans (hb3.mono (by simp)))
  have HB3 := Lib.hid (HB2.out.trans (HB23.out.mono HB2.out.size))
  have hbx := (hb3.block _ (by simp)).trans (heap_alloc_new w2 (.cells #[.int .i64 k, .slice a2 n2 c2] 24))
  have hs2 := heap_lt hbx
  have hbal := (Below.refl w3.heap.size w3).alloc (Nat.le_refl _) (.cells #[.int .i64 k, .slice a3 n3 c3] 24)
  obtain ⟨w4, hw4⟩ : ∃ w4, w4 = w3.alloc (.cells #[.int .i64 k, .slice a3 n3 c3] 24) := ⟨_, rfl⟩
  have hbx4 : w4.heap[w2.heap.size]? = some (.cells #[.int .i64 k, .slice a2 n2 c2] 24) := by rw [hw4]; exact (heap_alloc_old _ _ hs2).trans hbx
  have hby4 : w4.heap[w3.heap.size]? = some (.cells #[.int .i64 k, .slice a3 n3 c3] 24) := by rw [hw4]; exact heap_alloc_new _ _
  rw [← hw4] at hbal
  have HP24 := Lib.hid ((HP2.out.below HB23.out (Nat.le_refl _)).below hbal (Nat.le_refl _))
  have HP34 := Lib.hid (hp3.below hbal (Nat.le_refl _))
  have HB4 := Lib.hid (HB3.out.trans (hbal.mono HB3.out.size))
  have HY4 := Lib.hid ((HY2.out.below HB23.out (Nat.le_refl _)).below hbal (Nat.le_refl _))
  have p0 : w3.cell? ⟨w2.heap.size, 0, none⟩ = some (.int .i64 k) := by rw [cell_of_row _ _ _ _ _ _ hbx]; rfl
  have p1 : w3.cell? ⟨w2.heap.size, 1, none⟩ = some (.slice a2 n2 c2) := by rw [cell_of_row _ _ _ _ _ _ hbx]; rfl
  have HBY4 := Lib.hid hby4
  have HW4 := Lib.hid hw4
  clear hb3 hp3 hbx hbal hw4 hbx4 hby4
  refine Lib.hid ?_
  go_wp2_with (first
    | (go_at_call 19; rw [← HW4.out]; refine (rsame_any _ a2 a3 n2 n3 c2 c3 _ _ HP24.out HP34.out).mono ?_; rintro e w5 ⟨rfl, hb5⟩; rw [sameP_self]; refine Hid.out ?_))
  have hb45 : Below w4.heap.size w4 w5 := hb5
  have s1 := byt_str HL.out ((HY4.out.below hb45 (Nat.le_refl _))) c1 S HS.out
  have s2 := byt_str HL.out (((HB.out.below HB4.out (Nat.le_refl _))).below hb45 (Nat.le_refl _)) c S HS.out
  have HB45 := Lib.hid hb45
  clear hb5 hb45 p0 p1
  refine Lib.hid ?_
  have hn3 : n3 = ks.length := HP34.out.2.1.symm
  have hh := HHEAD.out
  obtain ⟨T, hT⟩ : ∃ T, T = strU (l.take m) := ⟨_, rfl⟩
  have hte : (T.toList == T.toList) = true := by simp
  have HST : Hid (∀ W, Hid (Below w4.heap.size w4 W) → StB w4 w3.heap.size k (.slice a3 n3 c3) (.slice (some ⟨B, off, none⟩) m c) T W) := fun W hb => by
    have hbx := (hb.out.block _ (heap_lt HBY4.out)).trans HBY4.out
    exact ⟨by rw [cell_of_row _ _ _ _ _ _ hbx]; rfl, by rw [cell_of_row _ _ _ _ _ _ hbx]; rfl, byt_str HML.out (((HB.out.below HB4.out (Nat.le_refl _)).below hb.out (Nat.le_refl _)).take m) c T hT, hb⟩
  have HRB : Hid (∀ W, Hid (Below w4.heap.size w4 W) → Calls Tryd.prog 16 #[.agg #[.int .i64 k, .slice a3 n3 c3]] W fun e w' => ∃ a n c', e = .returned (.slice a n c') ∧ (convert 25 9 (.slice a n c')).run Tryd.prog w' = .ok (.string T) w' ∧ StB w4 w3.heap.size k (.slice a3 n3 c3) (.slice (some ⟨B, off, none⟩) m c) T w') := fun W hb =>
    (rbytes_any W a3 n3 c3 k ks (HP34.out.below hb.out (Nat.le_refl _)) (by omega) (by omega) H128.out).mono fun e w' ⟨v, h1, h2, h3⟩ => by
      obtain ⟨a9, c9, rfl, _, _, h4⟩ := h2.byt
      refine ⟨a9, _, c9, h1, byt_str rfl h4 c9 T ?_, HST.out w' (Lib.hid (hb.out.trans (h3.mono hb.out.size)))⟩
      rw [hT, HT.out, HM.out]
  have HKN : Hid (∀ W, Hid (Below w4.heap.size w4 W) → Calls Tryd.prog 10 #[] W fun e w' => e = .returned (.bool true) ∧ StB w4 w3.heap.size k (.slice a3 n3 c3) (.slice (some ⟨B, off, none⟩) m c) T w') := fun W hb =>
    (known_any W (HG.out.next (HB4.out.trans (hb.out.mono HB4.out.size)) (Nat.le_refl _))).mono fun e w' ⟨h1, h2⟩ => ⟨h1, HST.out w' (Lib.hid (hb.out.trans (h2.mono hb.out.size)))⟩
  have im0 : (0 : Int) ≤ (m : Int) := by omega
  have im1 : (m : Int) ≤ (N : Int) := by omega
  have im2 : (m : Int) ≤ (c : Int) := by omega
  clear hT hh hn3
  go_wp2
  clear s1 s2 hse
  go_region_held (fun W => StB w4 w3.heap.size k (.slice a3 n3 c3) (.slice (some ⟨B, off, none⟩) m c) T W) (first | assumption | exact HST.out _ (Lib.hid HB45.out.drew))
    (first
      | (go_at_call 16; ((with_reducible refine (HRB.out _ ?_).mono ?_)); (go_split_ands; assumption); rintro e w' ⟨a9, n9, c9, rfl, hcv9, hst'⟩)
      | (go_at_call 10; ((with_reducible refine (HKN.out _ ?_).mono ?_)); (go_split_ands; assumption); rintro e w' ⟨rfl, hst'⟩))
  all_goals
    go_wp2
    go_ret
    exact ⟨rfl, HB4.out.trans (hst'.2.2.2.out.mono HB4.out.size)⟩
/-- the law at every slice of bytes -/
theorem bytesLaw_any (a : Option Addr) (l : List UInt8) (c : Nat) (w : World) (hG : Glo w) (h1 : l.length ≤ c) (hb : BytAt w a l) (hsrc : (a = none ∧ c = 0 ∧ l = []) ∨ ∃ y, a = some y ∧ ∀ j u, (Lib.byteCells l)[j]? = some u → w.cell? (y.add j) = some u) :
    Calls Tryd.prog 5 #[.slice a l.length c] w (TellsBB true w) := by
  by_cases hn : 3000 < l.length
  · exact bytesLaw_long a l.length c w hG hn
  · rcases hg : goodP l with _ | ⟨p, r⟩
    · exact bytesLaw_none a l c w hG (by omega) h1 hb hsrc hg
    · exact bytesLaw_some a l r p c w hG (by omega) h1 hb hsrc hg
end Go.Proofs.YtlgbkbmjfmomkaaDoor
