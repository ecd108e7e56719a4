/-
  The walk of the document's Put.
-/
import Derived.Test.YtfchfhkhflghbaaOLook
import Derived.Deep.RegionHeld3
namespace Go.Proofs.Ytfchfhkhflghbaa
open Go Go.RowKit Go.Lib Go.Sort Go.Proofs

section
variable {α : Type} {P : Program} {C : Cod α} {S T : TypeId} {bytes : Nat}
/-- a row that is read, appended -/
theorem RowT.run_at (R : RowT P C S T bytes) (w : World) (ty : TypeId) (base : Nat) (v : Value) (l t : List α) (hown : C.Own T base w v l) (a : Option Addr) (n c : Nat) (hA : C.At w a n t) (hnil : a = none → c = 0 ∧ n = 0) (hsz : l.length + n ≤ 100000000) (hby : (l.length + n) * bytes ≤ 140737488355328) (hb : base ≤ w.heap.size) :
    ∃ v' w', (Builtin.append_ #[S, S] ty #[v, .slice a n c]).run P w = .ok v' w' ∧ C.Own T base w' v' (l ++ t) ∧ w.grownBy w' v.ownBlock ∧ NewOr w v v' := by
  cases a with
  | none =>
    obtain ⟨rfl, rfl⟩ := hnil rfl
    obtain rfl := List.eq_nil_of_length_eq_zero hA.1
    exact ⟨v, w, R.run_none w ty base v l hown, by rw [List.append_nil]; exact hown, ⟨rfl, rfl, rfl, Nat.le_refl _, fun _ _ _ => rfl⟩, fun g hg => .inl hg, fun e => e⟩
  | some ad => exact R.run w ty base v l hown ad n c t hA.1.symm hA.news hsz hby hb
theorem RowT.step_at (R : RowT P C S T bytes) {ops : Array Oper} {o : Oper} {ac : Act} {w : World} {K : Act → World → Prop} {Q : Exit → Act → World → Prop} {E : Prop} (hgd : o.guard = none) (s x : Operand)
    (ho : o.op = .call { callee := .builtin .append, args := #[s, x], argTypes := #[S, S] })
    (base : Nat) (v : Value) (l t : List α) (hs : ac.eval s = v) (hown : C.Own T base w v l) (a : Option Addr) (n c : Nat) (hx : ac.eval x = .slice a n c) (hA : C.At w a n t) (hnil : a = none → c = 0 ∧ n = 0)
    (hsz : l.length + n ≤ 100000000) (hby : (l.length + n) * bytes ≤ 140737488355328) (hb : base ≤ w.heap.size) (h : ∀ v' w', C.Own T base w' v' (l ++ t) → w.grownBy w' v.ownBlock → NewOr w v v' → K (ac.put o.dst v') w') :
    if Region.wanted o (yielded ops ac.tmps) = true then Oper.wp P o ac w K Q else E := by
  have hw : Region.wanted o (yielded ops ac.tmps) = true := by simp [Region.wanted, hgd]
  rw [if_pos hw]
  obtain ⟨v', w', hr, h2, h3, h4⟩ := R.run_at w o.type base v l t hown a n c hA hnil hsz hby hb
  unfold Oper.wp execOp
  simp only [ho, resolve, invoke, builtin, Sem.run_bind, Sem.run_pure, Result.andThen_ok, List.map_toArray, List.map_cons, List.map_nil, hs, hx, hr]
  exact h v' w' h2 h3 h4
theorem RowT.list_at (R : RowT P C S T bytes) {ops : Array Oper} {rest : List Oper} {o : Oper} {ac : Act} {w : World} {Q : Exit → Act → World → Prop} (hgd : o.guard = none) (s x : Operand)
    (ho : o.op = .call { callee := .builtin .append, args := #[s, x], argTypes := #[S, S] })
    (base : Nat) (v : Value) (l t : List α) (hs : ac.eval s = v) (hown : C.Own T base w v l) (a : Option Addr) (n c : Nat) (hx : ac.eval x = .slice a n c) (hA : C.At w a n t) (hnil : a = none → c = 0 ∧ n = 0)
    (hsz : l.length + n ≤ 100000000) (hby : (l.length + n) * bytes ≤ 140737488355328) (hb : base ≤ w.heap.size) (h : ∀ v' w', C.Own T base w' v' (l ++ t) → w.grownBy w' v.ownBlock → NewOr w v v' → wpList P ops Q rest (ac.put o.dst v') w') : wpList P ops Q (o :: rest) ac w :=
  wpList_plain hgd fun _ hK => by
    obtain ⟨v', w', hr, h2, h3, h4⟩ := R.run_at w o.type base v l t hown a n c hA hnil hsz hby hb
    unfold Oper.wp execOp
    simp only [ho, resolve, invoke, builtin, Sem.run_bind, Sem.run_pure, Result.andThen_ok, List.map_toArray, List.map_cons, List.map_nil, hs, hx, hr]
    exact hK _ _ (h v' w' h2 h3 h4)
end
theorem rput_arg {w : World} {R : Nat} (a : Option Addr) (c : Nat) : Calls Try.prog 21 #[.pointer (some ⟨R, 0, none⟩), .slice a 0 c] w (Tells (.int .i64 2) w) := by
  go_enter Try.func21, Try.ntmps21
  go_wp2
  go_ret
  exact ⟨rfl, Below.refl _ _⟩
theorem rlen_n {w : World} {R : Nat} {S : Nat → Prop} {y : Dt} (h : Rf w R S y) (q : Nat) (hq : q = rlen y) : Calls Try.prog 23 #[.pointer (some ⟨R, 0, none⟩)] w (GwV (.int .i64 (q : Nat)) w) := hq ▸ rlen_any h
theorem rlen_g {w : World} {R : Nat} {S : Nat → Prop} {y : Dt} (h : Rf w R S y) (q : Nat) (hq : q = rlen y) (n : Nat) (os : Array Obj) : Calls Try.prog 23 #[.pointer (some ⟨R, 0, none⟩)] (grow (w.drewN n) os) (fun e w'' => e = .returned (.int .i64 (q : Nat)) ∧ ∃ p : GrownBy, w'' = grow (w.drewN p.n) p.os) :=
  GwV.calls (rlen_n (h.below (Gw.of w n os).below) q hq)
set_option maxHeartbeats 1000000 in
theorem rput_full {w : World} {R : Nat} {S : Nat → Prop} {y : Dt} (h : Rf w R S y) (a : Option Addr) (n c : Nat) (hn : n ≠ 0) (hf : y.2.2.2 ≤ (rlen y : Nat)) : Calls Try.prog 21 #[.pointer (some ⟨R, 0, none⟩), .slice a n c] w (Tells (.int .i64 5) w) := by
  have mixed : Try.prog.follows .mixedOrders = true := by kernel_rfl
  have H := Lib.hid h
  obtain ⟨q, hq⟩ : ∃ q, q = rlen y := ⟨_, rfl⟩
  rw [← hq] at hf
  have HQ := Lib.hid hq
  have hz : (n == 0) = false := by simpa using hn
  have hz2 : ((n : Int) == 0) = false := by simpa using hn
  have hd : decide ((q : Int) ≥ y.2.2.2) = true := by simpa using hf
  obtain ⟨_, _, _, _, hR, _⟩ := h
  obtain ⟨c0, c1, c2, c3⟩ := ro_cells hR
  have g3 := fun nq os => (Gw.of w nq os).cell c3
  clear hR hf hn hq c0 c1 c2 c3
  go_enter Try.func21, Try.ntmps21
  go_wp2_with fail
  refine wp_region_gw mixed (by kernel_rfl) ?_
  iterate 7 (refine WQ.step (fun K hK => ?_); go_simp; first | (refine hK _ ?_; clear hK K) | (apply Exists.intro; refine ⟨fun _ => ?_, hK _ ?_⟩; (go_at_call 23; exact rlen_g H.out q HQ.out _ _); clear hK K))
  refine WQ.nil ?_
  intro _ hw'
  obtain ⟨⟨nq, osq⟩, hw''⟩ := hw'
  subst hw''
  have G2 : Hid (Gw w (grow (w.drewN nq) osq)) := Gw.of w nq osq
  clear g3
  generalize grow (w.drewN nq) osq = w2 at G2 ⊢
  go_wp2
  go_ret
  exact ⟨rfl, G2.out.below⟩
theorem own_slice {α : Type} {C : Cod α} {T : TypeId} {B n c : Nat} {w : World} {a : Option Addr} {l : List α} (h : C.Own T B w (.slice a n c) l) (hl : l.length ≤ 1000000) : n = l.length ∧ C.At w a l.length l ∧ (∀ p, a = some p → B ≤ p.block ∧ p.block < w.heap.size) ∧ (a = none → c = 0 ∧ l = []) ∧ l.length ≤ c ∧ c ≤ maxLen := by
  obtain ⟨a', c', e, hc, hA, hb, h3⟩ := h.at_ hl
  cases e
  refine ⟨rfl, hA, fun p e => ?_, fun e => ?_, hc, ?_⟩
  · rcases h3 with ⟨h3, _⟩ | ⟨g, h3⟩
    · rw [h3] at e; cases e
    · subst h3
      cases e
      exact h.lt g rfl
  · rcases h3 with ⟨_, h4, h5⟩ | ⟨g, h3⟩
    · exact ⟨h5, h4⟩
    · rw [h3] at e; cases e
  · obtain ⟨_, ⟨e, _⟩ | ⟨g', cap, cur, e, _, _, _, hm, _⟩⟩ := h
    · rw [(Value.slice.inj e).2.2]; exact Nat.zero_le _
    · rw [(Value.slice.inj e).2.2]; exact hm
theorem rput_end {w w3 w5 w7 : World} {R : Nat} {S : Nat → Prop} {B : By} {E : List Nat} {a d2 a5 : Option Addr} {n k m5 e5 n5 k5 sent : Nat} {most : Int} (hb3 : But (fun k => k = R) w w3) (hb5 : Below w3.heap.size w3 w5) (hB : CB.Own 5 w.heap.size w3 (.slice a n k) B) (hE : CN.Own 3 w3.heap.size w5 (.slice a5 n5 k5) E) (hR : w5.heap[R]? = some (RO (.slice a n k) (.slice d2 m5 e5) sent most)) (hS : S R) (hSl : ∀ b, S b → b < w.heap.size)
    (l1 : B.length ≤ 100000) (l2 : E.length ≤ 100000) (l3 : sent ≤ B.length) (l4 : 0 ≤ most) (l5 : most ≤ 9223372036854775807) (hw7 : w7 = w5.setCell ⟨R, 1, none⟩ (.slice a5 n5 k5)) : Rf w7 R (Ext S w w7) (B, E, sent, most) ∧ But (fun k => k = R) w w7 := by
  have g7 : w7.heap[R]? = some (RO (.slice a n k) (.slice a5 n5 k5) sent most) := by
    rw [hw7, heap_setCell_same w5 R 1 _ _ _ hR]
    rfl
  have hb7 : But (fun k => k = R) w5 w7 := by rw [hw7]; exact (But.refl (fun k => k = R) _).setCell (p := ⟨R, 1, none⟩) rfl _
  have hbw : But (fun k => k = R) w w7 := (hb3.trans (But.of hb5)).trans hb7
  have hRl := hSl _ hS
  obtain ⟨hn, hA, hp, hna, hc, hm⟩ := own_slice hB (by omega)
  obtain ⟨hn5, hA5, hp5, hna5, hc5, hm5⟩ := own_slice hE (by omega)
  have s3 := hb3.size
  have s5 := hb5.size
  have s7 := hb7.size
  refine ⟨⟨a, k, a5, k5, ?_, ?_, ?_, .inl hS, fun b e => ?_, fun p e => ?_, fun p e => ?_, hna, hna5, hc, hc5, hm, hm5, l1, l2, l3, l4, l5⟩, hbw⟩
  · rw [g7, hn, hn5]
  · exact (hA.below hb5).but hb7 fun p e e2 => by have := (hp p e).1; omega
  · exact hA5.but hb7 fun p e e2 => by have := (hp5 p e).1; omega
  · rcases e with e | e
    · exact Nat.lt_of_lt_of_le (hSl b e) hbw.size
    · exact e.2
  · have := hp p e
    exact ⟨.inr ⟨this.1, by omega⟩, by omega⟩
  · have := hp5 p e
    exact ⟨.inr ⟨by omega, by omega⟩, by omega⟩
set_option maxHeartbeats 4000000 in
set_option maxRecDepth 100000 in
theorem rput_there {w : World} {R : Nat} {S : Nat → Prop} {y : Dt} (h : Rf w R S y) (p : Addr) (c0 : Nat) (b : By) (hb : CB.At w (some p) b.length b) (h0 : b ≠ []) (hr : (rlen y : Int) < y.2.2.2) (hs : y.1.length + b.length ≤ 100000) (hs2 : y.2.1.length + 1 ≤ 100000) :
    Calls Try.prog 21 #[.pointer (some ⟨R, 0, none⟩), .slice (some p) b.length c0] w (fun e w' => e = .returned (.int .i64 0) ∧ Rf w' R (Ext S w w') (y.1 ++ b, y.2.1 ++ [y.1.length + b.length], y.2.2.1, y.2.2.2) ∧ But (fun k => k = R) w w') := by
  have mixed : Try.prog.follows .mixedOrders = true := by kernel_rfl
  have H := Lib.hid h
  obtain ⟨q, hq⟩ : ∃ q, q = rlen y := ⟨_, rfl⟩
  rw [← hq] at hr
  have HQ := Lib.hid hq
  obtain ⟨Bs, Es, sent, most⟩ := y
  obtain ⟨a, c, d, e, hR, hA, hE, hSR, hSl, hSa, hSd, hna, hnd, hlc, hle, hcm, hem, l1, l2, l3, l4, l5⟩ := h
  simp only at hr hs hs2 hR hA hE hSa hSd hna hnd hlc hle hcm hem l1 l2 l3 l4 l5
  obtain ⟨m, hm⟩ : ∃ m, m = b.length := ⟨_, rfl⟩
  obtain ⟨nB, hnB⟩ : ∃ nB, nB = Bs.length := ⟨_, rfl⟩
  obtain ⟨nE, hnE⟩ : ∃ nE, nE = Es.length := ⟨_, rfl⟩
  rw [← hm, ← hnB] at hs
  rw [← hnB, ← hnE] at hR
  rw [← hnB] at hA l1
  rw [← hnE] at hE hs2
  rw [← hm] at hb
  have hm0 : 0 < m := by rw [hm]; exact List.length_pos_iff.2 h0
  have hz : (m == 0) = false := by simp; omega
  have hz2 : ((m : Int) == 0) = false := by simp; omega
  have hd : decide ((q : Int) ≥ most) = false := by simp; omega
  obtain ⟨c0', c1', c2', c3'⟩ := ro_cells hR
  have g3 := fun nq os => (Gw.of w nq os).cell c3'
  have HR := Lib.hid hR
  have HA := Lib.hid (And.intro hA (fun (e : a = none) => And.intro (hna e).1 (show nB = 0 by rw [hnB, (hna e).2]; rfl)))
  have HE := Lib.hid (And.intro hE (fun (e : d = none) => And.intro (hnd e).1 (show nE = 0 by rw [hnE, (hnd e).2]; rfl)))
  have HS := Lib.hid (And.intro hSR (And.intro hSl (And.intro hSd hSa)))
  have HZ := Lib.hid (And.intro hs (And.intro hs2 (And.intro l3 (And.intro l4 l5))))
  have HB := Lib.hid hb
  have HN := Lib.hid (And.intro hnB (And.intro hnE hm))
  rw [show (b.length = m) from hm.symm]
  clear hR hA hE hSR hSl hSa hSd hna hnd hlc hle hcm hem l1 l2 l3 l4 l5 hm hnB hnE hs hs2 hb hr h0 hm0 hq c0' c1' c2' c3'
  go_enter Try.func21, Try.ntmps21
  go_wp2_with fail
  refine wp_region_gw mixed (by kernel_rfl) ?_
  iterate 7 (refine WQ.step (fun K hK => ?_); go_simp; first | (refine hK _ ?_; clear hK K) | (apply Exists.intro; refine ⟨fun _ => ?_, hK _ ?_⟩; (go_at_call 23; exact rlen_g H.out q HQ.out _ _); clear hK K))
  refine WQ.nil ?_
  intro _ hw'
  obtain ⟨⟨nq, osq⟩, hw''⟩ := hw'
  subst hw''
  have G2 : Hid (Below w.heap.size w (grow (w.drewN nq) osq)) := (Gw.of w nq osq).below
  clear g3
  generalize grow (w.drewN nq) osq = w0 at G2 ⊢
  have hst : ∀ W, Below w.heap.size w W → W.heap[R]? = some (RO (.slice a nB c) (.slice d nE e) sent most) := fun W hW => (hW.block _ (heap_lt HR.out)).trans HR.out
  have HST := Lib.hid hst
  have e0 := (ro_cells (hst _ G2.out)).1
  clear hst
  go_wp2_with (first
    | (at_builtin; refine rowB.list_at rfl _ _ rfl w.heap.size v1 _ b rfl H1.out.1 (some p) m c0 rfl (HB.out.below H1.out.2) (fun e => by cases e) (by have := HZ.out.1; have := HN.out.1; simp only [List.length_append, List.length_nil]; omega) (by have := HZ.out.1; have := HN.out.1; simp only [List.length_append, List.length_nil]; omega) H1.out.2.size ?_; intro v2 w2 hown2 hgrow2 _; obtain ⟨a2, n2, k2, rfl⟩ := hown2.shape; have hb2 := H1.out.2.trans ((But.grown hgrow2).below H1.out.2.size fun k e => (H1.out.1.lt k e.symm).1); have H2 := Lib.hid (And.intro hown2 hb2); have e2 := (ro_cells (HST.out _ hb2)).1; have f2 := ro_frozen (HST.out _ hb2) 0; clear hown2 hgrow2 hb2)
    | (at_builtin; refine rowB.list_at rfl _ _ rfl w.heap.size (.slice none 0 0) [] Bs rfl (World.ownsRow_nil _ _ _ _) a nB c rfl (HA.out.1.below G2.out) HA.out.2 (by have := HZ.out.1; simp only [List.length_nil]; omega) (by have := HZ.out.1; simp only [List.length_nil]; omega) G2.out.size ?_; intro v1 w1 hown1 hgrow1 _; have hb1 := G2.out.trans ((But.grown hgrow1).below G2.out.size fun _ e => by cases e); have H1 := Lib.hid (And.intro hown1 hb1); clear hown1 hgrow1 hb1))
  obtain ⟨w3, hw3⟩ : ∃ w3, w3 = w2.setCell ⟨R, 0, none⟩ (.slice a2 n2 k2) := ⟨_, rfl⟩
  rw [← hw3]
  have g2 := HST.out _ H2.out.2
  have g3 : w3.heap[R]? = some (RO (.slice a2 n2 k2) (.slice d nE e) sent most) := by
    rw [hw3, heap_setCell_same w2 R 0 _ _ _ g2]
    rfl
  have hb3 : But (fun k => k = R) w2 w3 := by rw [hw3]; exact (But.refl (fun k => k = R) _).setCell (p := ⟨R, 0, none⟩) rfl _
  have hRl : R < w.heap.size := heap_lt HR.out
  have hbw3 : But (fun k => k = R) w w3 := (But.of H2.out.2).trans hb3
  have hn2 : n2 = nB + m := by have := H2.out.1.size.1; have := HN.out.1; have := HN.out.2.2; simp only [List.length_append, List.length_nil] at *; omega
  have hE3 : CN.At w3 d nE Es := HE.out.1.but hbw3 fun p e e2 => (HS.out.2.2.1 p e).2 e2
  have hO3 : CB.Own 5 w.heap.size w3 (.slice a2 n2 k2) (Bs ++ b) := H2.out.1.but hb3 fun k e e2 => by have := (H2.out.1.lt k e).1; omega
  have HB3 := Lib.hid hbw3
  have HO3 := Lib.hid hO3
  have HN2 := Lib.hid hn2
  have hst : ∀ W, Below w3.heap.size w3 W → W.cell? ⟨R, 0, none⟩ = some (.slice a2 n2 k2) ∧ W.cell? ⟨R, 1, none⟩ = some (.slice d nE e) ∧ CN.At W d nE Es ∧ W.heap[R]? = some (RO (.slice a2 n2 k2) (.slice d nE e) sent most) := fun W hW => by
    have hg := (hW.block _ (heap_lt g3)).trans g3
    exact ⟨(ro_cells hg).1, (ro_cells hg).2.1, hE3.below hW, hg⟩
  have HST3 := Lib.hid hst
  have hbd : Below w3.heap.size w3 w3.drew := (Below.refl _ _).drew
  have HBD : Hid (Below w3.heap.size w3 w3.drew) := hbd
  have HBA : Hid (Below w3.heap.size w3 (w3.drew.alloc (.cells #[.int .i64 (n2 : Nat)] 3))) := hbd.alloc (Nat.le_refl _) _
  obtain ⟨b0, b1, -, -⟩ := hst _ hbd
  obtain ⟨d0, d1, -, -⟩ := hst _ HBA.out
  have d2 : (w3.alloc (.cells #[.int .i64 (n2 : Nat)] 3)).cell? ⟨R, 1, none⟩ = some (.slice d nE e) := d1
  have d3 : (w3.alloc (.cells #[.int .i64 (n2 : Nat)] 3)).cell? ⟨R, 0, none⟩ = some (.slice a2 n2 k2) := d0
  clear hst hbd hw3 g2 g3 hb3 hbw3 hn2 hE3 hO3 e2 f2 hRl
  go_region_law (first
    | (refine rowN.step rfl _ _ rfl w3.heap.size v6 _ rfl (HO6.out.but ((But.refl (fun _ => False) w6).alloc _) (fun _ _ e => e)) ⟨w6.heap.size, 0, none⟩ 1 1 [n2] rfl rfl (Cod.news_one (C := CN) _ n2 _ _ (heap_alloc_new _ _)) (by have := HZ.out.2.1; have := HN.out.2.1; simp only [List.length_append, List.length_nil]; omega) (by have := HZ.out.2.1; have := HN.out.2.1; simp only [List.length_append, List.length_nil]; omega) (HB6.out.alloc HB6.out.size _).size ?_; intro v5 w5 hown5 hgrow5 hnew5; obtain ⟨a5, n5, k5, rfl⟩ := hown5.shape; have HO5 := Lib.hid hown5; have HB5 : Hid (Below w3.heap.size w3 w5) := (HB6.out.alloc HB6.out.size _).trans ((But.grown hgrow5).below (HB6.out.alloc HB6.out.size _).size fun k e => (HO6.out.lt k e.symm).1); have c5 := (HST3.out _ HB5.out).2.1; have f5 : w5.frozen? ⟨R, 1, none⟩ = false := frozen_of_row _ _ _ _ _ (HST3.out _ HB5.out).2.2.2; clear hown5 hgrow5 hnew5)
    | (refine rowN.step rfl _ _ rfl w3.heap.size v8 _ rfl HO8.out ⟨w3.heap.size, 0, none⟩ 1 1 [n2] rfl rfl (Cod.news_one (C := CN) _ n2 _ _ HE8.out) (by have := HZ.out.2.1; have := HN.out.2.1; simp only [List.length_append, List.length_nil]; omega) (by have := HZ.out.2.1; have := HN.out.2.1; simp only [List.length_append, List.length_nil]; omega) HB8.out.size ?_; intro v5 w5 hown5 hgrow5 hnew5; obtain ⟨a5, n5, k5, rfl⟩ := hown5.shape; have HO5 := Lib.hid hown5; have HB5 : Hid (Below w3.heap.size w3 w5) := HB8.out.trans ((But.grown hgrow5).below HB8.out.size fun k e => (HO8.out.lt k e.symm).1); have c5 := (HST3.out _ HB5.out).2.1; have f5 : w5.frozen? ⟨R, 1, none⟩ = false := frozen_of_row _ _ _ _ _ (HST3.out _ HB5.out).2.2.2; clear hown5 hgrow5 hnew5)
    | (refine rowN.step_at rfl _ _ rfl w3.heap.size (.slice none 0 0) [] Es rfl (World.ownsRow_nil _ _ _ _) d nE e rfl (HST3.out _ HBD.out).2.2.1 HE.out.2 (by have := HZ.out.2.1; simp only [List.length_nil]; omega) (by have := HZ.out.2.1; simp only [List.length_nil]; omega) HBD.out.size ?_; intro v6 w6 hown6 hgrow6 hnew6; have HO6 := Lib.hid hown6; have HB6 : Hid (Below w3.heap.size w3 w6) := HBD.out.trans ((But.grown hgrow6).below HBD.out.size fun _ e => by cases e); have c6 := (HST3.out _ HB6.out).1; have c6a := (HST3.out _ (HB6.out.alloc HB6.out.size (.cells #[.int .i64 (n2 : Nat)] 3))).1; clear hown6 hgrow6 hnew6)
    | (refine rowN.step_at rfl _ _ rfl w3.heap.size (.slice none 0 0) [] Es rfl (World.ownsRow_nil _ _ _ _) d nE e rfl (HST3.out _ HBA.out).2.2.1 HE.out.2 (by have := HZ.out.2.1; simp only [List.length_nil]; omega) (by have := HZ.out.2.1; simp only [List.length_nil]; omega) HBA.out.size ?_; intro v8 w8 hown8 hgrow8 hnew8; have HO8 := Lib.hid hown8; have HB8 : Hid (Below w3.heap.size w3 w8) := HBA.out.trans ((But.grown hgrow8).below HBA.out.size fun _ e => by cases e); have c8 := (HST3.out _ HB8.out).1; have HE8 : Hid (w8.heap[w3.heap.size]? = some (.cells #[.int .i64 (n2 : Nat)] 3)) := ((But.grown hgrow8).block _ (by simp) (fun e => by cases e)).trans (heap_alloc_new w3.drew _); clear hown8 hgrow8 hnew8))
  all_goals
    obtain ⟨w7, hw7⟩ : ∃ w7, w7 = w5.setCell ⟨R, 1, none⟩ (.slice a5 n5 k5) := ⟨_, rfl⟩
    have he : Rf w7 R (Ext S w w7) (Bs ++ b, Es ++ [Bs.length + b.length], sent, most) ∧ But (fun k => k = R) w w7 := by
      have ho5 := HO5.out
      rw [show ([] ++ Es) ++ [n2] = Es ++ [Bs.length + b.length] by rw [HN2.out, HN.out.1, HN.out.2.2, List.nil_append]] at ho5
      exact rput_end HB3.out HB5.out HO3.out ho5 (HST3.out _ HB5.out).2.2.2 HS.out.1 HS.out.2.1 (by have := HZ.out.1; rw [List.length_append, ← HN.out.1, ← HN.out.2.2]; exact this) (by have := HZ.out.2.1; rw [List.length_append, List.length_singleton, ← HN.out.2.1]; exact this) (by have := HZ.out.2.2.1; rw [List.length_append]; omega) HZ.out.2.2.2.1 HZ.out.2.2.2.2 hw7
    have HE7 := Lib.hid he
    rw [← hw7]
    clear he hw7
    go_wp2
    go_ret
    exact ⟨rfl, by have := HE7.out; rw [← HN.out.2.2] at this; exact this⟩
end Go.Proofs.Ytfchfhkhflghbaa
