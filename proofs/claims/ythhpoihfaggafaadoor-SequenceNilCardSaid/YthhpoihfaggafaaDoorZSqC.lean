/-
  The walk of model.Start, of a process that is there.
-/
import Derived.Test.YthhpoihfaggafaaDoorZSqB
import Derived.Test.YthhpoihfaggafaaDoorMoMay
import Derived.Test.YthhpoihfaggafaaDoorZOr
import Derived.Deep.RegionLaw
namespace Go.Proofs.YthhpoihfaggafaaDoor
open Go Go.RowKit Go.Sort Go.Proofs CodM VmM

def StartTo (l : List Int) (w : World) (e : Ending) (w' : World) : Prop := ∃ a c, e = .returned (.agg #[.slice a l.length c, .int .i64 0, .int .i64 0]) ∧ CV.Own 2 w.heap.size w' (.slice a l.length c) l ∧ Below w.heap.size w w'
abbrev stZ : Array Value := #[.slice none 0 0, .int .i64 0, .int .i64 0]
theorem szS : (Tryd.prog.info? stT).map (·.size) = some 3 := by kernel_rfl
theorem results_cell1 {P : Program} {fn : Func} {p : Tmp} {ty : TypeId} (h : fn.results = #[.cell p ty]) (tmps : Array Value) (w : World) (g : Nat) (t : TypeId) (cs : Array Value) (fr : Nat × Nat) (d : TypeDesc)
    (hp : tmps.getD p undef = .pointer (some ⟨g, 0, none⟩)) (hg : w.heap[g]? = some (.cells cs t fr))
    (hu : P.underlying ty = some d) (hd : (match d with | .struct _ | .array _ _ => true | _ => false) = true) (hi : (P.info? ty).map (·.size) = some cs.size) :
    (results fn tmps).run P w = .ok (.agg cs) w := by
  have hp' : tmps[p]?.getD undef = .pointer (some ⟨g, 0, none⟩) := by simpa using hp
  simp [results, h, hp', asAddr, run_loadVar_row w g t ty cs fr d hg hu hd hi]
set_option maxHeartbeats 4000000 in
set_option maxRecDepth 100000 in
theorem start_any (w : World) (m : Mo) (a : Option Addr) (n c : Nat) (fa : Option Addr) (fn fc : Nat) (h : MoAt w m a n fa fn) (i : Nat) (x : Pm) (hx : m.procs[i]? = some x) : Calls Tryd.prog 81 #[.agg #[.slice a n c, .slice fa fn fc], .int .i64 ((i : Int) + 1)] w (StartTo x.vars w) := by
  have hn := h.procs.1
  have hn1000 := h.many
  have hin : i < n := by rw [← hn]; exact (List.getElem?_eq_some_iff.1 hx).1
  obtain ⟨w1, hw1⟩ : ∃ w1, w1 = (w.alloc (.cells #[.slice a n c, .slice fa fn fc] 27)).alloc (.cells stZ stT) := ⟨_, rfl⟩
  have hb1 : Below w.heap.size w w1 := by rw [hw1]; exact ((Below.refl _ _).alloc (Nat.le_refl _) _).alloc (by simp) _
  have hx1 : w1.heap[w.heap.size]? = some (.cells #[.slice a n c, .slice fa fn fc] 27 (0, 0)) := by rw [hw1, heap_alloc_old _ _ (by simp), heap_alloc_new]
  have hz1 : w1.heap[w.heap.size + 1]? = some (.cells stZ stT (0, 0)) := by
    rw [hw1]
    have z : (w.alloc (.cells #[.slice a n c, .slice fa fn fc] 27)).heap.size = w.heap.size + 1 := by simp
    rw [← z, heap_alloc_new]
  have b0 : w1.cell? ⟨w.heap.size, 0, none⟩ = some (.slice a n c) := by rw [cell_of_row _ _ _ _ _ _ hx1]; rfl
  obtain ⟨B, off, rfl, hB, x', hx', hc⟩ := h.procs.cell hin
  rw [hx] at hx'
  cases hx'
  obtain ⟨pa, pn, pc, va, vc, c0, c1, c2, c3, hP⟩ := hc
  have d2 := keepc hb1 c2
  have hvl := h.small x (List.mem_of_getElem? hx)
  have HCL : Hid (∀ W, Below w.heap.size w W → Calls Tryd.prog 71 #[.slice va x.vars.length vc] W (ClonedTo x.vars W)) := Lib.hid fun W hb => clone_any W va vc x.vars ((hP.vars hvl).below hb) hvl hP.nil
  have H1 := Lib.hid (And.intro hb1 hz1)
  have HW := Lib.hid hw1
  have hI : (i : Int) + 1 - 1 = (i : Int) := by omega
  have hi1 : ¬ ((i : Int) + 1 < 1) := by omega
  have hi2 : ¬ ((n : Int) < (i : Int) + 1) := by omega
  obtain ⟨vn, hvn⟩ : ∃ vn, vn = x.vars.length := ⟨_, rfl⟩
  rw [← hvn] at d2 HCL
  have HV := Lib.hid hvn
  clear hb1 hx1 hz1 hw1 h hx hP c0 c1 c2 c3 hB hn hvl hvn
  go_enter Tryd.func81, Tryd.ntmps81
  go_upto_region 1 with fail
  rw [← HW.out]
  go_wp2_with (first
    | (go_at_call 71; refine (HCL.out _ H1.out.1).mono ?_; rintro e w2 ⟨v, rfl, ho, hb2⟩; obtain ⟨v1, v2, v3, rfl⟩ := ho.shape; have H2 := Lib.hid (And.intro (H1.out.1.trans (hb2.mono H1.out.1.size)) (And.intro ho ((hb2.block _ (heap_lt H1.out.2)).trans H1.out.2))); have HS2 : Hid (w1.heap.size ≤ w2.heap.size ∧ w.heap.size + 1 < w1.heap.size) := Lib.hid ⟨hb2.size, heap_lt H1.out.2⟩; clear ho hb2)
    | (show wpList _ _ _ (Oper.mk _ (.store _ (.tmp 4) (.tmp 23)) _ _ _ _ :: _) _ _; refine wpList_store_row rfl stT (.tmp 4) (.tmp 23) rfl (w.heap.size + 1) _ rfl rfl stT stZ H2.out.2.2 szS rfl (by simp [Value.oneCell']) ?_))
  obtain ⟨hb2, ho, hz2⟩ := H2.out
  have hz := HS2.out
  have e1 : v2 = x.vars.length := ho.sl
  subst e1
  refine ⟨rfl, _, results_cell1 rfl _ _ (w.heap.size + 1) stT _ (0, 0) _ rfl (setRow_heap _ _ _ _ _ _ hz2) Tryd.underlying51 rfl szS, v1, v3, rfl, ?_, hb2.trans (setRow_b (by omega) _)⟩
  exact (ho.but (S := fun b => b = w.heap.size + 1) (setRow_but _ _ _) fun b e e2 => by have := (ho.lt b e).1; omega).mono (by omega)
end Go.Proofs.YthhpoihfaggafaaDoor
namespace Go.Proofs.YthhpoihfaggafaaDoor
open Go Go.RowKit Go.Sort Go.Proofs CodM VmM

def sortE (l : List Ev) : List Ev := Or.StM.isort evB l
theorem put_map (e : Ev) : ∀ l : List Ev, (Or.StM.put evB l e).map toO = Or.StM.put Or.evLt (l.map toO) (toO e)
  | [] => rfl
  | a :: t => by
    have h : evB e a = Or.evLt (toO e) (toO a) := rfl
    simp only [Or.StM.put, List.map_cons]
    rw [← h]
    split
    · rfl
    · rw [List.map_cons, put_map e t]
theorem sort_map (l : List Ev) : (sortE l).map toO = Or.evSort (l.map toO) := by
  have key : ∀ (t acc : List Ev), (t.foldl (Or.StM.put evB) acc).map toO = (t.map toO).foldl (Or.StM.put Or.evLt) (acc.map toO) := by
    intro t
    induction t with
    | nil => intro acc; rfl
    | cons a t ih => intro acc; rw [List.foldl_cons, ih, put_map, List.map_cons, List.foldl_cons]
  exact key l []
theorem sortE_asc (l : List Ev) : Asc (sortE l) := (Or.StM.isort_spec evB_swo l [] List.Pairwise.nil).1
theorem sortE_len (l : List Ev) : (sortE l).length = l.length := by
  have h := congrArg List.length (sort_map l)
  rw [List.length_map, Or.sorted_len, List.length_map] at h
  exact h
theorem sortE_mem (l : List Ev) (x : Ev) : x ∈ sortE l ↔ x ∈ l := by
  have key : ∀ (t acc : List Ev), x ∈ t.foldl (Or.StM.put evB) acc ↔ x ∈ acc ∨ x ∈ t := by
    intro t
    induction t with
    | nil => intro acc; simp
    | cons a t ih =>
      intro acc
      rw [List.foldl_cons, ih, Or.StM.mem_put, List.mem_cons]
      constructor
      · rintro ((h | h) | h) <;> simp [h]
      · rintro (h | h | h) <;> simp [h]
  have := key l []
  simpa [sortE, Or.StM.isort] using this
theorem evCells_map (l : List Ev) : Or.evCells (l.map toO) = CEv.cells l := by
  unfold Or.evCells Cod.cells
  rw [List.flatMap_map]
  rfl
theorem evAt_of {w : World} {a : Option Addr} {n : Nat} {l : List Ev} (h : CEv.At w a n l) : Or.EvAt w a n (l.map toO) := by
  obtain ⟨h1, h2, h3 | ⟨B, off, e, hB, hc⟩⟩ := h
  · exact ⟨by rw [List.length_map]; exact h1, h2, .inl h3⟩
  · refine ⟨by rw [List.length_map]; exact h1, h2, .inr ⟨B, off, e, hB, fun i hi => ?_⟩⟩
    have hi' : i < l.length := by simpa using hi
    have := hc i hi'
    rw [List.getElem_map]
    exact Or.EvCell.of fun c hk => this c hk
def SortTo (l : List Ev) (w : World) (e : Ending) (w' : World) : Prop := ∃ a c, e = .returned (.slice a l.length c) ∧ CEv.Own 45 w.heap.size w' (.slice a l.length c) (sortE l) ∧ Below w.heap.size w w'
theorem sortedE_any (w : World) (a : Option Addr) (n c : Nat) (l : List Ev) (hl : CEv.At w a n l) : Calls Tryd.prog 79 #[.slice a n c] w (SortTo l w) :=
  (Or.sorted_any w a n c _ (evAt_of hl)).mono fun e w' ⟨v, he, ho, hb⟩ => by
    have ho' : CEv.Own 45 w.heap.size w' v (sortE l) := by
      have h1 : w'.ownsRow w.heap.size 45 6 v (Or.evSort (l.map toO)).length (Or.evCells (Or.evSort (l.map toO))) := ho
      rw [← sort_map, evCells_map, List.length_map] at h1
      exact h1
    obtain ⟨v1, v2, v3, rfl⟩ := ho'.shape
    have e1 := ho'.sl
    rw [sortE_len] at e1
    subst e1
    exact ⟨v1, v3, he, ho', hb⟩
/-- of a model, nothing done -/
def newQ (m : Mo) : Sq := ⟨m, m.procs.map fun x => ⟨x.vars, 0, 0⟩, sortE m.first, [], -1, 0⟩
theorem may_prog {x : Pm} (h : mayPm x = true) : CodM.may (codeNk x.prog) x.prog = true ∧ (x.vars.length : Int) = x.prog.vars ∧ 0 ≤ x.prog.vars ∧ x.prog.vars ≤ 8 ∧ x.prog.kinds.length ≤ 8 ∧ ∀ l ∈ x.prog.kinds, l.length ≤ 128 := by
  unfold mayPm at h
  rw [Bool.and_eq_true, decide_eq_true_eq] at h
  have h' := h.1
  unfold CodM.may mayHead at h'
  simp only [Bool.and_eq_true, decide_eq_true_eq, List.all_eq_true] at h'
  refine ⟨h.1, h.2, by omega, by omega, h'.1.2.2.2, fun l hl => ?_⟩
  have := h'.2 l hl
  unfold CodM.mayKind at this
  simp only [Bool.and_eq_true, decide_eq_true_eq] at this
  exact this.1
theorem newQ_good {m : Mo} (h : mayMo m = true) : GoodQ 64 (newQ m) := by
  obtain ⟨⟨h1, h2, h3⟩, h4, h5⟩ := (mayMo_iff m).1 h
  refine ⟨by show (m.procs.map _).length = _; rw [List.length_map]; rfl, sortE_asc _, fun e he => ?_, fun i x s hx hs => ?_, by show (sortE m.first).length ≤ 64; rw [sortE_len]; exact h3, Nat.zero_le _, Nat.zero_le _⟩
  · have hm := (sortE_mem m.first e).1 he
    obtain ⟨j, hj, rfl⟩ := List.getElem_of_mem hm
    have := h5 j hj
    unfold mayFst at this
    rw [Bool.and_eq_true] at this
    exact this.1
  · have hs' : (m.procs.map fun x => (⟨x.vars, 0, 0⟩ : Ps))[i]? = some s := hs
    have hx' : m.procs[i]? = some x := hx
    rw [List.getElem?_map, hx'] at hs'
    cases hs'
    obtain ⟨hi, hxe⟩ := List.getElem?_eq_some_iff.1 hx'
    have := may_prog (x := x) (by rw [← hxe]; exact h4 i hi)
    refine ⟨?_, by show (0 : Int) ≤ _; omega, by show (0 : Int) ≤ _; omega⟩
    unfold isOf
    simp only [decide_eq_true_eq]
    exact ⟨this.2.1, by omega, by omega⟩
end Go.Proofs.YthhpoihfaggafaaDoor
namespace Go.Proofs.YthhpoihfaggafaaDoor
open Go Go.RowKit Go.Sort Go.Proofs CodM VmM

abbrev ptT : TypeId := 94
/-- machines, programs, numbers stay -/
structure Nm (w w' : World) : Prop where
  size : w.heap.size ≤ w'.heap.size
  row : ∀ (b : Nat) (cur : Array Value) (t : TypeId) (m : Nat × Nat), (t = 132 ∨ t = 66 ∨ t = 67 ∨ t = 2) → w.heap[b]? = some (.cells cur t m) → w'.heap[b]? = some (.cells cur t m)
theorem Nm.below {w w' : World} (h : Below w.heap.size w w') : Nm w w' := ⟨h.size, fun b _ _ _ _ hb => (h.block b (heap_lt hb)).trans hb⟩
theorem Nm.of {S : Nat → Prop} {w w' : World} (h : But S w w') (hS : ∀ b, S b → ∃ cs t m, w.heap[b]? = some (.cells cs t m) ∧ (t = qT ∨ t = stT ∨ t = ptT)) : Nm w w' := ⟨h.size, fun b cur t m ht hb => (h.block b (heap_lt hb) fun e => by
  obtain ⟨cs, t', m', e2, e3⟩ := hS b e
  rw [hb] at e2
  cases e2
  rcases ht with rfl | rfl | rfl | rfl <;> rcases e3 with e3 | e3 | e3 <;> exact absurd e3 (by decide)).trans hb⟩
section
variable {w w' : World}
theorem Nm.own {α : Type} {C : Cod α} {B : Nat} {v : Value} {l : List α} (h : Nm w w') (ho : C.Own 2 B w v l) : C.Own 2 B w' v l := by
  refine ⟨ho.1, ?_⟩
  rcases ho.2 with h4 | ⟨g, cap, cur, e, hg, hh, rest⟩
  · exact .inl h4
  · exact .inr ⟨g, cap, cur, e, hg, h.row _ _ _ _ (.inr (.inr (.inr rfl))) hh, rest⟩
theorem Nm.ins {B : Nat} {a : Option Addr} {n : Nat} {l : List Ins} (h : Nm w w') (ho : InsOwn B w a n l) : InsOwn B w' a n l :=
  ho.keep (X := w.heap.size) ⟨h.size, fun k cur t ht _ hh => h.row k cur t _ (by rcases ht with rfl | rfl <;> simp) hh⟩ (fun cur e => by have := heap_lt e; omega)
theorem Nm.cop {B : Nat} {a : Option Addr} {n : Nat} {ks : List (List Ins)} (h : Nm w w') (ho : Cop B w a n ks) : Cop B w' a n ks := by
  refine ⟨ho.1, ?_⟩
  rcases ho.2 with h2 | ⟨G, cur, rfl, hG, hh, hc⟩
  · exact .inl h2
  · refine .inr ⟨G, cur, rfl, hG, h.row _ _ _ _ (.inr (.inr (.inl rfl))) hh, fun i hi => ?_⟩
    obtain ⟨a', n', c', e1, e2, e3⟩ := hc i hi
    exact ⟨a', n', c', e1, e2, h.ins e3⟩
theorem Nm.mcop {M : Nat} {m : Mch} {p : Prg} {a : Option Addr} {n c : Nat} (h : Nm w w') (ho : MCop w M m p a n c) : MCop w' M m p a n c := by
  obtain ⟨h1, B, h2⟩ := ho
  have h3 := h.cop h2
  exact ⟨⟨h.row _ _ _ _ (.inl rfl) h1.box, ⟨h1.prog.1, h3.kinds h1.prog.2.2.1⟩, h1.may, h1.procs, h1.self⟩, B, h3⟩
theorem Nm.rs {r : Rs} {s : Ps} (h : Nm w w') (ho : RsIs w r s) : RsIs w' r s := ⟨ho.n, ho.sent, ho.drawn, h.own ho.vars, ho.few⟩
end
/-- so many machines, so many states -/
structure NL (w3 : World) (G : Nat) (pv fv : Value) (wa : Option Addr) (L wcp mp : Nat) (m : Mo) (k i : Nat) (ma : Option Addr) (mc : Nat) (sa : Option Addr) (sc : Nat) (Ms : List Nat) (rs : List Rs) (W : World) : Prop where
  box : W.heap[G]? = some (sqO pv fv ma k mc sa i sc wa L wcp (some mp) (-1) 0)
  mach : CPt.Own ptT w3.heap.size W (.slice ma k mc) Ms
  st : CRs.Own stT w3.heap.size W (.slice sa i sc) rs
  ms : ∀ (j : Nat) (x : Pm), m.procs[j]? = some x → j < k → ∃ M a n c, Ms[j]? = some M ∧ MCop W M ⟨j + 1, m.procs.length, x.seed⟩ x.prog a n c
  rs : ∀ (j : Nat) (x : Pm), m.procs[j]? = some x → j < i → ∃ r, rs[j]? = some r ∧ RsIs W r ⟨x.vars, 0, 0⟩
  bel : But (fun b => b = G) w3 W
section
variable {w3 : World} {G : Nat} {pv fv : Value} {wa : Option Addr} {L wcp mp : Nat} {m : Mo} {k i : Nat} {ma : Option Addr} {mc : Nat} {sa : Option Addr} {sc : Nat} {Ms : List Nat} {rs : List Rs} {W W' : World}
theorem NL.below (h : NL w3 G pv fv wa L wcp mp m k i ma mc sa sc Ms rs W) (hb : Below W.heap.size W W') : NL w3 G pv fv wa L wcp mp m k i ma mc sa sc Ms rs W' := by
  have hn := Nm.below hb
  exact ⟨(hb.block G (heap_lt h.box)).trans h.box, h.mach.below hb, h.st.below hb, fun j x hx hj => by
    obtain ⟨M, a, n, c, e1, e2⟩ := h.ms j x hx hj
    exact ⟨M, a, n, c, e1, hn.mcop e2⟩, fun j x hx hj => by
    obtain ⟨r, e1, e2⟩ := h.rs j x hx hj
    exact ⟨r, e1, hn.rs e2⟩, h.bel.next (T := fun _ => False) (But.of hb) fun _ _ e => e.elim⟩
theorem own_ty {α : Type} {C : Cod α} {T : TypeId} {B : Nat} {w : World} {v : Value} {l : List α} (h : C.Own T B w v l) {b : Nat} (e : some b = v.ownBlock) : ∃ cur, w.heap[b]? = some (.cells cur T (0, 0)) := h.typ e.symm
/-- a machine more -/
theorem NL.addM (h : NL w3 G pv fv wa L wcp mp m k i ma mc sa sc Ms rs W) {M : Nat} {x : Pm} (hx : m.procs[k]? = some x) {a : Option Addr} {n c : Nat} (hM : MCop W M ⟨k + 1, m.procs.length, x.seed⟩ x.prog a n c) {v : Value} (ho : CPt.Own ptT w3.heap.size W' v (Ms ++ [M])) (hg : W.grownBy W' (Value.slice ma k mc).ownBlock) :
    ∃ ma' mc', v = .slice ma' (k + 1) mc' ∧ NL w3 G pv fv wa L wcp mp m (k + 1) i ma' mc' sa sc (Ms ++ [M]) rs (W'.setCell ⟨G, 2, none⟩ (.slice ma' (k + 1) mc')) := by
  have hk := h.mach.sl
  obtain ⟨ma', k', mc', rfl⟩ := ho.shape
  have hk' := ho.sl
  rw [List.length_append, ← hk] at hk'
  obtain rfl : k' = k + 1 := hk'
  have hb := But.grown hg
  have hGn : ¬ some G = (Value.slice ma k mc).ownBlock := fun e => by
    obtain ⟨cur, e2⟩ := own_ty h.mach e
    rw [h.box] at e2
    cases e2
  have hG' := (hb.block G (heap_lt h.box) hGn).trans h.box
  have hb2 : But (fun b => b = G ∨ some b = (Value.slice ma k mc).ownBlock) W (W'.setCell ⟨G, 2, none⟩ (.slice ma' (k + 1) mc')) := (hb.mono fun _ _ e => .inr e).setCell (p := ⟨G, 2, none⟩) (.inl rfl) _
  have hn : Nm W (W'.setCell ⟨G, 2, none⟩ (.slice ma' (k + 1) mc')) := Nm.of hb2 fun b e => by
    rcases e with rfl | e
    · exact ⟨_, _, _, h.box, .inl rfl⟩
    · obtain ⟨cur, e2⟩ := own_ty h.mach e
      exact ⟨_, _, _, e2, .inr (.inr rfl)⟩
  have hsG : But (fun b => b = G) W' (W'.setCell ⟨G, 2, none⟩ (.slice ma' (k + 1) mc')) := (But.refl (fun b => b = G) W').setCell (p := ⟨G, 2, none⟩) rfl _
  refine ⟨ma', mc', rfl, ⟨heap_setCell_same W' G 2 _ _ _ hG', ho.but hsG fun b e e2 => ?_, h.st.but hb2 fun b e e2 => ?_, fun j y hy hj => ?_, fun j y hy hj => ?_, (h.bel.next hb2 fun j hj e => ?_)⟩⟩
  · obtain ⟨cur, e3⟩ := ho.typ e
    rw [e2, hG'] at e3
    cases e3
  · obtain ⟨cur, e3⟩ := h.st.typ e
    rcases e2 with rfl | e2
    · rw [h.box] at e3
      cases e3
    · obtain ⟨cur2, e4⟩ := own_ty h.mach e2
      rw [e3] at e4
      cases e4
  · rcases Nat.lt_or_ge j k with hlt | hge
    · obtain ⟨M', a', n', c', e1, e2⟩ := h.ms j y hy hlt
      exact ⟨M', a', n', c', by rw [List.getElem?_append_left (by rw [← hk]; exact hlt)]; exact e1, hn.mcop e2⟩
    · obtain rfl : j = k := by omega
      rw [hx] at hy
      cases hy
      exact ⟨M, a, n, c, by rw [List.getElem?_append_right (by rw [← hk]; exact Nat.le_refl _), ← hk, Nat.sub_self]; rfl, hn.mcop hM⟩
  · obtain ⟨r, e1, e2⟩ := h.rs j y hy hj
    exact ⟨r, e1, hn.rs e2⟩
  · rcases e with e | e
    · exact e
    · have := (h.mach.lt j e.symm).1
      omega
/-- a state more -/
theorem NL.addS (h : NL w3 G pv fv wa L wcp mp m k i ma mc sa sc Ms rs W) {r : Rs} {x : Pm} (hx : m.procs[i]? = some x) (hr : RsIs W r ⟨x.vars, 0, 0⟩) {v : Value} (ho : CRs.Own stT w3.heap.size W' v (rs ++ [r])) (hg : W.grownBy W' (Value.slice sa i sc).ownBlock) :
    ∃ sa' sc', v = .slice sa' (i + 1) sc' ∧ NL w3 G pv fv wa L wcp mp m k (i + 1) ma mc sa' sc' Ms (rs ++ [r]) (W'.setCell ⟨G, 3, none⟩ (.slice sa' (i + 1) sc')) := by
  have hk := h.st.sl
  obtain ⟨sa', k', sc', rfl⟩ := ho.shape
  have hk' := ho.sl
  rw [List.length_append, ← hk] at hk'
  obtain rfl : k' = i + 1 := hk'
  have hb := But.grown hg
  have hGn : ¬ some G = (Value.slice sa i sc).ownBlock := fun e => by
    obtain ⟨cur, e2⟩ := own_ty h.st e
    rw [h.box] at e2
    cases e2
  have hG' := (hb.block G (heap_lt h.box) hGn).trans h.box
  have hb2 : But (fun b => b = G ∨ some b = (Value.slice sa i sc).ownBlock) W (W'.setCell ⟨G, 3, none⟩ (.slice sa' (i + 1) sc')) := (hb.mono fun _ _ e => .inr e).setCell (p := ⟨G, 3, none⟩) (.inl rfl) _
  have hn : Nm W (W'.setCell ⟨G, 3, none⟩ (.slice sa' (i + 1) sc')) := Nm.of hb2 fun b e => by
    rcases e with rfl | e
    · exact ⟨_, _, _, h.box, .inl rfl⟩
    · obtain ⟨cur, e2⟩ := own_ty h.st e
      exact ⟨_, _, _, e2, .inr (.inl rfl)⟩
  have hsG : But (fun b => b = G) W' (W'.setCell ⟨G, 3, none⟩ (.slice sa' (i + 1) sc')) := (But.refl (fun b => b = G) W').setCell (p := ⟨G, 3, none⟩) rfl _
  refine ⟨sa', sc', rfl, ⟨heap_setCell_same W' G 3 _ _ _ hG', h.mach.but hb2 fun b e e2 => ?_, ho.but hsG fun b e e2 => ?_, fun j y hy hj => ?_, fun j y hy hj => ?_, (h.bel.next hb2 fun j hj e => ?_)⟩⟩
  · obtain ⟨cur, e3⟩ := h.mach.typ e
    rcases e2 with rfl | e2
    · rw [h.box] at e3
      cases e3
    · obtain ⟨cur2, e4⟩ := own_ty h.st e2
      rw [e3] at e4
      cases e4
  · obtain ⟨cur, e3⟩ := ho.typ e
    rw [e2, hG'] at e3
    cases e3
  · obtain ⟨M', a', n', c', e1, e2⟩ := h.ms j y hy hj
    exact ⟨M', a', n', c', e1, hn.mcop e2⟩
  · rcases Nat.lt_or_ge j i with hlt | hge
    · obtain ⟨r', e1, e2⟩ := h.rs j y hy hlt
      exact ⟨r', by rw [List.getElem?_append_left (by rw [← hk]; exact hlt)]; exact e1, hn.rs e2⟩
    · obtain rfl : j = i := by omega
      rw [hx] at hy
      cases hy
      exact ⟨r, by rw [List.getElem?_append_right (by rw [← hk]; exact Nat.le_refl _), ← hk, Nat.sub_self]; rfl, hn.rs hr⟩
  · rcases e with e | e
    · exact e
    · have := (h.st.lt j e.symm).1
      omega
theorem NL.gM (h : NL w3 G pv fv wa L wcp mp m k i ma mc sa sc Ms rs W) (hg : W.grownBy W' (Value.slice ma k mc).ownBlock) : W'.heap[G]? = some (sqO pv fv ma k mc sa i sc wa L wcp (some mp) (-1) 0) :=
  ((But.grown hg).block G (heap_lt h.box) fun e => by
    obtain ⟨cur, e2⟩ := own_ty h.mach e
    rw [h.box] at e2
    cases e2).trans h.box
theorem NL.gS (h : NL w3 G pv fv wa L wcp mp m k i ma mc sa sc Ms rs W) (hg : W.grownBy W' (Value.slice sa i sc).ownBlock) : W'.heap[G]? = some (sqO pv fv ma k mc sa i sc wa L wcp (some mp) (-1) 0) :=
  ((But.grown hg).block G (heap_lt h.box) fun e => by
    obtain ⟨cur, e2⟩ := own_ty h.st e
    rw [h.box] at e2
    cases e2).trans h.box
theorem box2 {w : World} {G : Nat} {pv fv : Value} {ma : Option Addr} {mn mc : Nat} {sa : Option Addr} {sn sc : Nat} {wa : Option Addr} {wn wc : Nat} {mp : Option Nat} {fl dn : Int} (h : w.heap[G]? = some (sqO pv fv ma mn mc sa sn sc wa wn wc mp fl dn)) : w.cell? ⟨G, 2, none⟩ = some (.slice ma mn mc) ∧ w.frozen? ⟨G, 2, none⟩ = false ∧ w.cell? ⟨G, 3, none⟩ = some (.slice sa sn sc) ∧ w.frozen? ⟨G, 3, none⟩ = false := by
  refine ⟨?_, frozen_of_row _ _ _ _ _ h, ?_, frozen_of_row _ _ _ _ _ h⟩ <;> (rw [cell_of_row _ _ _ _ _ _ h]; rfl)
end
end Go.Proofs.YthhpoihfaggafaaDoor
namespace Go.Proofs.YthhpoihfaggafaaDoor
open Go Go.RowKit Go.Sort Go.Proofs CodM VmM

/-- the box of the model, as the regions read it -/
abbrev NB (w1 : World) (b : Nat) (a : Option Addr) (n c : Nat) (fa : Option Addr) (fn fc : Nat) (W : World) : Prop :=
  W.cell? ⟨b, 0, none⟩ = some (.slice a n c) ∧ W.cell? ⟨b, 1, none⟩ = some (.slice fa fn fc) ∧ Hid (Below w1.heap.size w1 W)
theorem nb_next {w1 : World} {b : Nat} {a : Option Addr} {n c : Nat} {fa : Option Addr} {fn fc : Nat} {W W' : World} (h : NB w1 b a n c fa fn fc W) (hb : Below W.heap.size W W') : NB w1 b a n c fa fn fc W' :=
  ⟨keepc hb h.1, keepc hb h.2.1, Lib.hid (h.2.2.out.trans (hb.mono h.2.2.out.size))⟩
/-- what the two calls have made -/
structure Md (w1 : World) (m : Mo) (pv : Value) (W : World) : Prop where
  cop : ∃ pa pc fa fc, pv = .agg #[.slice pa m.procs.length pc, .slice fa m.first.length fc] ∧ CopPs w1.heap.size W pa m.procs.length m.procs ∧ CEv.Own 45 w1.heap.size W (.slice fa m.first.length fc) m.first
structure Ms3 (w1 : World) (m : Mo) (wa : Option Addr) (wc : Nat) (W : World) : Prop where
  srt : CEv.Own 45 w1.heap.size W (.slice wa m.first.length wc) (sortE m.first)
/-- a new sequence's box, its rows -/
def R3 (w1 : World) (m : Mo) (s4 : Value) (W : World) : Prop := ∃ G pa pc fa fc wa wc mp, s4 = ptr G ∧ w1.heap.size ≤ G ∧ W.heap[G]? = some (sqO (.slice pa m.procs.length pc) (.slice fa m.first.length fc) none 0 0 none 0 0 wa m.first.length wc (some mp) (-1) 0) ∧
  CopPs w1.heap.size W pa m.procs.length m.procs ∧ CEv.Own 45 w1.heap.size W (.slice fa m.first.length fc) m.first ∧ CEv.Own 45 w1.heap.size W (.slice wa m.first.length wc) (sortE m.first) ∧ SetAt W mp [] ∧ w1.heap.size ≤ mp ∧
  (∀ b, (Value.slice fa m.first.length fc).ownBlock = some b → ¬ (Value.slice wa m.first.length wc).ownBlock = some b) ∧ Below w1.heap.size w1 W
theorem CopPs.low {B B' : Nat} {w : World} {a : Option Addr} {n : Nat} {l : List Pm} (h : CopPs B w a n l) (hB : B' ≤ B) : CopPs B' w a n l := by
  obtain ⟨h1, h2 | ⟨G, cur, rfl, hG, hh, hc⟩⟩ := h
  · exact ⟨h1, .inl h2⟩
  · refine ⟨h1, .inr ⟨G, cur, rfl, by omega, hh, fun i x hx => ?_⟩⟩
    obtain ⟨a, n, c, va, vc, c0, c1, c2, c3, h4, h5, h6⟩ := hc i x hx
    have h5' : Cop B' w a n x.prog.kinds := by
      refine ⟨h5.1, ?_⟩
      rcases h5.2 with h7 | ⟨G, cur, e, h8, h9, h10⟩
      · exact .inl h7
      · exact .inr ⟨G, cur, e, by omega, h9, fun i hi => by
          obtain ⟨a', n', c', e1, e2, e3⟩ := h10 i hi
          exact ⟨a', n', c', e1, e2, e3.mono hB⟩⟩
    exact ⟨a, n, c, va, vc, c0, c1, c2, c3, h4, h5', h6.mono hB⟩
/-- both calls have been made -/
structure Two3 (w2 : World) (m : Mo) (pa : Option Addr) (pc : Nat) (fa : Option Addr) (fc : Nat) (wa : Option Addr) (wc : Nat) (W : World) : Prop where
  cop : CopPs w2.heap.size W pa m.procs.length m.procs
  fst : CEv.Own 45 w2.heap.size W (.slice fa m.first.length fc) m.first
  srt : CEv.Own 45 w2.heap.size W (.slice wa m.first.length wc) (sortE m.first)
  dis : ∀ b, (Value.slice fa m.first.length fc).ownBlock = some b → ¬ (Value.slice wa m.first.length wc).ownBlock = some b
  bel : Below w2.heap.size w2 W
theorem Two3.below {w2 : World} {m : Mo} {pa : Option Addr} {pc : Nat} {fa : Option Addr} {fc : Nat} {wa : Option Addr} {wc : Nat} {W W' : World} (h : Two3 w2 m pa pc fa fc wa wc W) (hb : Below W.heap.size W W') : Two3 w2 m pa pc fa fc wa wc W' :=
  ⟨(Ny.below hb).cops h.cop, h.fst.below hb, h.srt.below hb, h.dis, h.bel.trans (hb.mono h.bel.size)⟩
theorem r3_of {w2 : World} {m : Mo} {pa : Option Addr} {pc : Nat} {fa : Option Addr} {fc : Nat} {wa : Option Addr} {wc : Nat} {W : World} (h : Two3 w2 m pa pc fa fc wa wc W) {mp : Nat} (hm : W.heap[mp]? = some (.map #[] 0)) (hmp : w2.heap.size ≤ mp) {z : Nat} (hz : z = W.heap.size) :
    R3 w2 m (ptr z) (W.alloc (sqO (.slice pa m.procs.length pc) (.slice fa m.first.length fc) none 0 0 none 0 0 wa m.first.length wc (some mp) (-1) 0)) := by
  subst hz
  have hb : Below W.heap.size W (W.alloc (sqO (.slice pa m.procs.length pc) (.slice fa m.first.length fc) none 0 0 none 0 0 wa m.first.length wc (some mp) (-1) 0)) := (Below.refl _ _).alloc (Nat.le_refl _) _
  have h' := h.below hb
  refine ⟨W.heap.size, pa, pc, fa, fc, wa, wc, mp, rfl, h.bel.size, heap_alloc_new _ _, h'.cop, h'.fst, h'.srt, ?_, hmp, h.dis, h'.bel⟩
  have e : SetAt (W.alloc (.map #[] 0)) W.heap.size [] := SetAt.made W
  obtain ⟨D, ⟨es, c, k1, k2⟩, k3⟩ := e
  rw [heap_alloc_new] at k1
  cases k1
  exact ⟨D, ⟨#[], 0, (hb.block mp (heap_lt hm)).trans hm, k2⟩, k3⟩
theorem mid_of {α : Type} {C : Cod α} {T : TypeId} {B : Nat} {w : World} {a : Option Addr} {n c : Nat} {l : List α} (h : C.Own T B w (.slice a n c) l) : C.Mid T w a c l ∧ ∀ b, blkOf a b → (Value.slice a n c).ownBlock = some b := by
  obtain ⟨a', c', e, hm, _⟩ := Cod.Mid.of_own h
  obtain ⟨rfl, _, rfl⟩ := Value.slice.inj e
  refine ⟨hm, fun b hb => ?_⟩
  obtain ⟨p, rfl, rfl⟩ := hb
  obtain ⟨_, ⟨e2, _⟩ | ⟨g, cap, cur, e2, _⟩⟩ := h
  · cases e2
  · cases e2
    rfl
/-- all are there: a new sequence -/
theorem nl_fin {w2 w3 W : World} {G : Nat} {m : Mo} (hm : mayMo m = true) {pa : Option Addr} {pc : Nat} {fa : Option Addr} {fc : Nat} {wa : Option Addr} {wcp mp : Nat} {ma : Option Addr} {mc : Nat} {sa : Option Addr} {sc : Nat} {Ms : List Nat} {rs : List Rs}
    (h : NL w3 G (.slice pa m.procs.length pc) (.slice fa m.first.length fc) wa m.first.length wcp mp m m.procs.length m.procs.length ma mc sa sc Ms rs W)
    (hG : w3.heap[G]? = some (sqO (.slice pa m.procs.length pc) (.slice fa m.first.length fc) none 0 0 none 0 0 wa m.first.length wcp (some mp) (-1) 0)) (hcop : CopPs w2.heap.size w3 pa m.procs.length m.procs) (hfo : CEv.Own 45 w2.heap.size w3 (.slice fa m.first.length fc) m.first) (hso : CEv.Own 45 w2.heap.size w3 (.slice wa m.first.length wcp) (sortE m.first)) (hset : SetAt w3 mp []) (hmp : w2.heap.size ≤ mp)
    (hdis : ∀ b, (Value.slice fa m.first.length fc).ownBlock = some b → ¬ (Value.slice wa m.first.length wcp).ownBlock = some b) (hG0 : w2.heap.size ≤ G) (hz : w2.heap.size ≤ w3.heap.size) :
    ∃ F Z, SqAt 64 W G F Z (newQ m) ∧ (∀ b, F b → w2.heap.size ≤ b) ∧ ∀ b, Z b → w2.heap.size ≤ b := by
  have hS : ∀ b, b < w3.heap.size → b = G → Mty w3 b := fun b _ e => by rw [e]; exact .inl ⟨_, _, _, hG, .inl rfl⟩
  have hy := Ny.of h.bel hS
  have hne : ∀ {v : Value} {l : List Ev}, CEv.Own 45 w2.heap.size w3 v l → ∀ b, v.ownBlock = some b → ¬ b = G := fun ho b e e2 => by
    obtain ⟨cur, e3⟩ := ho.typ e
    rw [e2, hG] at e3
    cases e3
  have hfo' := hfo.but h.bel (hne hfo)
  have hso' := hso.but h.bel (hne hso)
  have hset' := hset.same (h.bel.block mp hset.lt (box_map hG hset))
  obtain ⟨hst, hstb⟩ := mid_of h.st
  obtain ⟨hwt, hwtb⟩ := mid_of hso'
  have hlen : rs.length = m.procs.length := h.st.sl.symm
  have hl1 := ((mayMo_iff m).1 hm).1
  refine ⟨mutB G sa wa mp, fun b => (Value.slice fa m.first.length fc).ownBlock = some b, ⟨_, .slice fa m.first.length fc, ma, mc, Ms, sa, sc, wa, wcp, mp, rs, newQ_good hm, ⟨⟨hl1.1, hl1.2.1⟩, rfl, h.mach.mono (Nat.zero_le _), fun i x hx => h.ms i x hx (List.getElem?_eq_some_iff.1 hx).1, ⟨pa, pc, rfl, (hy.cops hcop).low (Nat.zero_le _)⟩, hfo'.mono (Nat.zero_le _)⟩, ⟨?_, hst, hwt, hset', hlen, fun i s hs => ?_⟩, fun b e => e, fun b e => e, fun b e e2 => ?_, fun b e => e, fun b e => e⟩, ?_, fun b e => (hfo.lt b e).1⟩
  · have hbx := h.box
    show W.heap[G]? = some (sqO _ _ ma m.procs.length mc sa m.procs.length sc wa (sortE m.first).length wcp (some mp) (-1) ((0 : Nat) : Int))
    rw [sortE_len]
    exact hbx
  · have hs' : (m.procs.map fun x => (⟨x.vars, 0, 0⟩ : Ps))[i]? = some s := hs
    rw [List.getElem?_map] at hs'
    cases hx : m.procs[i]? with
    | none => rw [hx] at hs'; cases hs'
    | some x =>
      rw [hx] at hs'
      cases hs'
      exact h.rs i x hx (List.getElem?_eq_some_iff.1 hx).1
  · rcases e2 with e2 | e2 | e2 | e2
    · exact hne hfo b e e2
    · obtain ⟨cur, e3⟩ := hfo'.typ e
      obtain ⟨cur2, e4⟩ := mid_ty hst e2
      rw [e3] at e4
      cases e4
    · exact hdis b e (hwtb b e2)
    · obtain ⟨cur, e3⟩ := hfo'.typ e
      obtain ⟨es, c, e4⟩ := hset'.obj
      rw [e2, e4] at e3
      cases e3
  · rintro b (e | e | e | e)
    · omega
    · exact Nat.le_trans hz (h.st.lt b (hstb b e)).1
    · exact (hso.lt b (hwtb b e)).1
    · omega
section
variable {w : World} {m : Mo} {a : Option Addr} {n c : Nat} {fa : Option Addr} {fn fc : Nat}
set_option maxHeartbeats 4000000 in
set_option maxRecDepth 100000 in
/-- of one that may not be -/
theorem new_not (hW : Wds w) (h : MoAt w m a n fa fn) (hm : mayMo m = false) : Calls Tryd.prog 47 #[.agg #[.slice a n c, .slice fa fn fc]] w (fun e w' => e = .returned (.tuple #[.pointer none, .int .i64 4]) ∧ Below w.heap.size w w') := by
  obtain ⟨w1, hw1⟩ : ∃ w1, w1 = w.alloc (.cells #[.slice a n c, .slice fa fn fc] 27) := ⟨_, rfl⟩
  have hb1 : Below w.heap.size w w1 := by rw [hw1]; exact (Below.refl _ _).alloc (Nat.le_refl _) _
  have hx1 : w1.heap[w.heap.size]? = some (.cells #[.slice a n c, .slice fa fn fc] 27 (0, 0)) := by rw [hw1]; exact heap_alloc_new _ _
  have b0 : w1.cell? ⟨w.heap.size, 0, none⟩ = some (.slice a n c) := by rw [cell_of_row _ _ _ _ _ _ hx1]; rfl
  have b1 : w1.cell? ⟨w.heap.size, 1, none⟩ = some (.slice fa fn fc) := by rw [cell_of_row _ _ _ _ _ _ hx1]; rfl
  have HM : Hid (∀ W, Below w.heap.size w W → Calls Tryd.prog 49 #[.agg #[.slice a n c, .slice fa fn fc]] W (TellsM false W)) := Lib.hid fun W hb => hm ▸ moMay_any W (wds_keep hW hb) m a n c fa fn fc (h.below hb)
  have H1 := Lib.hid hb1
  have HW := Lib.hid hw1
  clear hb1 hx1 hw1 h hm hW
  go_enter Tryd.func47, Tryd.ntmps47
  go_upto_region 1 with fail
  rw [← HW.out]
  go_wp2_with (go_at_call 49; refine (HM.out _ H1.out).mono ?_; rintro e w2 ⟨rfl, hb2⟩; have H2 := Lib.hid (H1.out.trans (hb2.mono H1.out.size)); clear hb2)
  go_ret2
  exact ⟨rfl, H2.out⟩
set_option maxHeartbeats 3000000 in
set_option maxRecDepth 100000 in
theorem new_may (hW : Wds w) (h : MoAt w m a n fa fn) (hm : mayMo m = true) (hnil : a = none → c = 0) (hfnil : fa = none → fc = 0) : Calls Tryd.prog 47 #[.agg #[.slice a n c, .slice fa fn fc]] w (fun e w' => ∃ G F Z, e = .returned (.tuple #[ptr G, .int .i64 0]) ∧ SqAt 64 w' G F Z (newQ m) ∧ (∀ b, F b → w.heap.size ≤ b) ∧ (∀ b, Z b → w.heap.size ≤ b) ∧ Below w.heap.size w w') := by
  obtain ⟨w1, hw1⟩ : ∃ w1, w1 = w.alloc (.cells #[.slice a n c, .slice fa fn fc] 27) := ⟨_, rfl⟩
  have hb1 : Below w.heap.size w w1 := by rw [hw1]; exact (Below.refl _ _).alloc (Nat.le_refl _) _
  have hx1 : w1.heap[w.heap.size]? = some (.cells #[.slice a n c, .slice fa fn fc] 27 (0, 0)) := by rw [hw1]; exact heap_alloc_new _ _
  have b0 : w1.cell? ⟨w.heap.size, 0, none⟩ = some (.slice a n c) := by rw [cell_of_row _ _ _ _ _ _ hx1]; rfl
  have b1 : w1.cell? ⟨w.heap.size, 1, none⟩ = some (.slice fa fn fc) := by rw [cell_of_row _ _ _ _ _ _ hx1]; rfl
  obtain ⟨⟨m1, m2, m3⟩, m4, m5⟩ := (mayMo_iff m).1 hm
  have hpr : ∀ x ∈ m.procs, mayPm x = true := fun x hx => by
    obtain ⟨j, hj, rfl⟩ := List.getElem_of_mem hx
    exact m4 j hj
  have hk12 : ∀ x ∈ m.procs, x.prog.kinds.length ≤ 12 ∧ ∀ l ∈ x.prog.kinds, l.length ≤ 200 := fun x hx => by
    have := may_prog (hpr x hx)
    exact ⟨by omega, fun l hl => by have := this.2.2.2.2.2 l hl; omega⟩
  have HM : Hid (∀ W, Below w.heap.size w W → Calls Tryd.prog 49 #[.agg #[.slice a n c, .slice fa fn fc]] W (TellsM true W)) := Lib.hid fun W hb => hm ▸ moMay_any W (wds_keep hW hb) m a n c fa fn fc (h.below hb)
  have HC : Hid (∀ W, Below w.heap.size w W → Calls Tryd.prog 78 #[.agg #[.slice a n c, .slice fa fn fc]] W (fun e w' => ∃ pa pc fa' fc', e = .returned (.agg #[.slice pa m.procs.length pc, .slice fa' m.first.length fc']) ∧ CopPs W.heap.size w' pa m.procs.length m.procs ∧ CEv.Own 45 W.heap.size w' (.slice fa' m.first.length fc') m.first ∧ Below W.heap.size W w')) := Lib.hid fun W hb => by
    refine (moCopy_any W m a fa n c fn fc (h.below hb) (by rw [← h.first.1]; omega) hk12 hnil hfnil).mono fun e w' ⟨pa, pc, fa', fn', fc', he, h1, h2, h3⟩ => ?_
    have e1 := h2.sl
    subst e1
    exact ⟨pa, pc, fa', fc', he, h1, h2, h3⟩
  have HS : Hid (∀ W, Below w.heap.size w W → Calls Tryd.prog 79 #[.slice fa fn fc] W (SortTo m.first W)) := Lib.hid fun W hb => sortedE_any W fa fn fc m.first (h.below hb).first
  have H1 := Lib.hid (And.intro hb1 hx1)
  have HW := Lib.hid hw1
  have HH := Lib.hid (And.intro h (And.intro hm hW))
  have HP := Lib.hid (And.intro hpr (And.intro m1 m2))
  clear hb1 hx1 hw1 h hm hW m1 m2 m3 m4 m5 hpr hk12 hnil hfnil
  go_enter Tryd.func47, Tryd.ntmps47
  go_upto_region 1 with fail
  rw [← HW.out]
  go_upto_region 3 with (go_at_call 49; refine (HM.out _ H1.out.1).mono ?_; rintro e w2 ⟨rfl, hb2⟩; have b0 := keepc hb2 b0; have b1 := keepc hb2 b1; have H2 := Lib.hid (H1.out.1.trans (hb2.mono H1.out.1.size)); clear hb2)
  obtain ⟨b, hbe⟩ : ∃ b, b = w.heap.size := ⟨_, rfl⟩
  rw [← hbe] at b0 b1 ⊢
  have HBE := Lib.hid hbe
  clear hbe
  have hst : NB w2 b a n c fa fn fc w2 := ⟨b0, b1, Lib.hid (Below.refl _ _)⟩
  have HST := Lib.hid hst
  have HC2 : Hid (∀ W, Below w2.heap.size w2 W → Calls Tryd.prog 78 #[.agg #[.slice a n c, .slice fa fn fc]] W (fun e w' => ∃ pa pc fa' fc', e = .returned (.agg #[.slice pa m.procs.length pc, .slice fa' m.first.length fc']) ∧ CopPs W.heap.size w' pa m.procs.length m.procs ∧ CEv.Own 45 W.heap.size w' (.slice fa' m.first.length fc') m.first ∧ Below W.heap.size W w')) := Lib.hid fun W hb => HC.out W (H2.out.trans (hb.mono H2.out.size))
  have HS2 : Hid (∀ W, Below w2.heap.size w2 W → Calls Tryd.prog 79 #[.slice fa fn fc] W (SortTo m.first W)) := Lib.hid fun W hb => HS.out W (H2.out.trans (hb.mono H2.out.size))
  clear hst HC HS HM
  go_cut [4] from 12 to 19 (fun s4 wz => R3 w2 m s4 wz)
  case first =>
    have hmm := @run_makeMap Tryd.prog
    go_region_held3 (fun V => NB w2 b a n c fa fn fc V) (first | with_reducible exact nb_next HST.out HB10.out | with_reducible exact nb_next HST.out (HB10.out.alloc HB10.out.size _) | with_reducible exact nb_next HST.out HB9.out | with_reducible exact nb_next HST.out (HB9.out.alloc HB9.out.size _) | with_reducible exact nb_next HST.out ((Below.refl _ _).drew) | with_reducible exact nb_next HST.out (((Below.refl _ _).alloc (Nat.le_refl _) _).drew) | exact nb_next (by assumption) ((Below.refl _ _).alloc (Nat.le_refl _) _))
      (first
        | (go_at_call 78; ((with_reducible refine (HC2.out _ ?_).mono ?_)); (first | (with_reducible exact (Below.refl _ _).drew) | (with_reducible exact ((Below.refl _ _).alloc (Nat.le_refl _) _).drew)); rintro e w9 ⟨pa, pc, fa', fc', rfl, hcop, hfo, hb0⟩; (first
            | (have hm9 := (hb0.block w2.heap.size (by show w2.heap.size < (w2.alloc _).heap.size; simp)).trans (heap_alloc_new w2 _); have HM9 := Lib.hid hm9; have hb9 : Below w2.heap.size w2 w9 := (((Below.refl w2.heap.size w2).alloc (Nat.le_refl _) _).drew).trans (hb0.mono (by show w2.heap.size ≤ (w2.alloc _).heap.size; simp)); have HK9 := Lib.hid (And.intro (hcop.low (B' := w2.heap.size) (by show w2.heap.size ≤ (w2.alloc _).heap.size; simp)) (hfo.mono (B' := w2.heap.size) (by show w2.heap.size ≤ (w2.alloc _).heap.size; simp))); clear hm9)
            | (have hb9 : Below w2.heap.size w2 w9 := ((Below.refl w2.heap.size w2).drew).trans (hb0.mono (Nat.le_refl _)); have HK9 := Lib.hid (And.intro (hcop.low (B' := w2.heap.size) (Nat.le_refl _)) (hfo.mono (B' := w2.heap.size) (Nat.le_refl _))))); have HB9 := Lib.hid hb9; clear hb9 hb0 hcop hfo)
        | (go_at_call 79; ((with_reducible refine (HS2.out _ ?_).mono ?_)); (first | (with_reducible exact HB9.out) | (with_reducible exact (HB9.out.alloc HB9.out.size _))); rintro e w10 ⟨wa, wc, rfl, hso, hb1⟩; (first
            | (have hm10 := (hb1.block w9.heap.size (by show w9.heap.size < (w9.alloc _).heap.size; simp)).trans (heap_alloc_new w9 _); have HM10 := Lib.hid hm10; have hx : Below w9.heap.size w9 w10 := ((Below.refl w9.heap.size w9).alloc (Nat.le_refl _) _).trans (hb1.mono (by simp)); have hl : w9.heap.size ≤ (w9.alloc (.map #[] 0)).heap.size := (by simp); clear hm10)
            | (have hm10 := (hb1.block _ (heap_lt HM9.out)).trans HM9.out; have HM10 := Lib.hid hm10; have hx : Below w9.heap.size w9 w10 := hb1; have hl : w9.heap.size ≤ w9.heap.size := Nat.le_refl _; clear hm10)
            | (have hx : Below w9.heap.size w9 w10 := hb1; have hl : w9.heap.size ≤ w9.heap.size := Nat.le_refl _)); have H10 : Hid (Two3 w2 m pa pc fa' fc' wa wc w10) := Lib.hid ⟨(Ny.below hx).cops HK9.out.1, HK9.out.2.below hx, hso.mono (Nat.le_trans HB9.out.size hl), (fun b e e2 => by have := (HK9.out.2.lt b e).2; have := (hso.lt b e2).1; omega), HB9.out.trans (hx.mono HB9.out.size)⟩; have HB10 : Hid (Below w2.heap.size w2 w10) := Lib.hid (HB9.out.trans (hx.mono HB9.out.size)); have HB91 : Hid (w2.heap.size ≤ w9.heap.size ∧ w9.heap.size ≤ w10.heap.size) := Lib.hid ⟨HB9.out.size, hx.size⟩; clear hx hl hso hb1))
    all_goals
      go_wp2_with fail
      go_meet
      case rel => first
        | exact r3_of H10.out HM10.out (Nat.le_refl _) rfl
        | exact r3_of H10.out HM10.out HB91.out.1 rfl
        | exact r3_of (H10.out.below ((Below.refl _ _).alloc (Nat.le_refl _) _)) (heap_alloc_new _ _) HB10.out.size (by simp)
  case rest =>
    obtain ⟨w3, hw3⟩ : ∃ w3, w3 = wc := ⟨_, rfl⟩
    rw [← hw3] at hcut ⊢
    clear hw3 wc
    obtain ⟨G, pa, pc, fa', fc', wa, wcp, mp, rfl, hG0, hG, hcop, hfo, hso, hset, hmp, hdis, hb3⟩ := hcut
    obtain ⟨h, hm, hW⟩ := HH.out
    have hb03 : Below w.heap.size w w3 := H2.out.trans (hb3.mono H2.out.size)
    have HM3 : Hid (MoAt w3 m a n fa fn ∧ Wds w3) := Lib.hid ⟨h.below hb03, wds_keep hW hb03⟩
    have hn : n = m.procs.length := h.procs.1.symm
    have hn16 : n ≤ 16 := by rw [hn]; exact HP.out.2.2
    have b0 := keepc hb3 b0
    have b1 := keepc hb3 b1
    have hN0 : NL w3 G (.slice pa m.procs.length pc) (.slice fa' m.first.length fc') wa m.first.length wcp mp m 0 0 none 0 none 0 [] [] w3 := ⟨hG, Cod.Own.nil _ _, Cod.Own.nil _ _, fun j x _ hj => absurd hj (Nat.not_lt_zero _), fun j x _ hj => absurd hj (Nat.not_lt_zero _), But.refl _ _⟩
    have hbG : b ≠ G := fun e => by
      rw [e, cell_of_row _ _ _ _ _ _ hG] at b0
      have h0 : G < w2.heap.size := by
        have := World.block_lt_of_cell? w2 _ HST.out.1
        rw [e] at this
        exact this
      omega
    have H3 := Lib.hid (And.intro hG0 (And.intro hG (And.intro hcop (And.intro hfo (And.intro hso (And.intro hset (And.intro hmp (And.intro hdis (And.intro hb3 hb03)))))))))
    have HN0 := Lib.hid (And.intro hN0 (And.intro hn hbG))
    clear hG0 hG hcop hfo hso hset hmp hdis hb3 hb03 h hm hW hN0 hn hbG
    go_wp2_with fail
    go_loopg [23] n (fun kx s23 wr => ∃ k : Nat, s23 = .int .i64 k ∧ k ≤ n ∧ n - k ≤ kx ∧ Aside (∃ ma mc sa sc Ms rs, NL w3 G (.slice pa m.procs.length pc) (.slice fa' m.first.length fc') wa m.first.length wcp mp m k k ma mc sa sc Ms rs wr))
    case atStart => exact ⟨0, by go_num, Nat.zero_le _, Nat.le_refl _, none, 0, none, 0, [], [], HN0.out.1⟩
    case round =>
      obtain ⟨k, rfl, hkn, hkx, A⟩ := hrel
      obtain ⟨ma, mc, sa, sc, Ms, rs, hNL⟩ := A.out
      have HNL := Lib.hid hNL
      clear A
      have hbw : Below w.heap.size w wr := H3.out.2.2.2.2.2.2.2.2.2.trans (hNL.bel.below H3.out.2.2.2.2.2.2.2.2.2.size fun j e => by have := H3.out.1; have := H2.out.size; omega)
      have hkb : ∀ {p : Addr} {v : Value}, p.block = b → w3.cell? p = some v → wr.cell? p = some v := fun {p v} hp hc => (World.cell?_of_block (hNL.bel.block p.block (World.block_lt_of_cell? w3 _ hc) (by rw [hp]; exact HN0.out.2.2))).trans hc
      have d0 := hkb rfl b0
      have d1 := hkb rfl b1
      by_cases hlt : k < n
      · have hMo := HH.out.1.below hbw
        obtain ⟨B, off, rfl, hB, x, hx, hc⟩ := hMo.procs.cell hlt
        obtain ⟨qa, qn, qc, va, vc, c0, c1, c2, c3, hP⟩ := hc
        obtain ⟨vn, hvn⟩ : ∃ vn, vn = x.vars.length := ⟨_, rfl⟩
        have hmx := HP.out.1 x (List.mem_of_getElem? hx)
        have hn1 : 1 ≤ n := by omega
        have HNW : Hid (∀ W, Below wr.heap.size wr W → Calls Tryd.prog 80 #[.agg #[.int .i64 x.prog.vars, .slice qa qn qc], .int .i64 ((k : Int) + 1), .int .i64 n, .int .i64 x.seed] W (MadeC W ⟨(k : Int) + 1, n, x.seed⟩ x.prog)) := Lib.hid fun W hb => New_cop W x.prog qa qn qc (wds_keep (wds_keep HH.out.2.2 hbw) hb) (hP.below hb).prog hP.sl (by
            have h1 := (may_prog hmx).1
            exact h1) ⟨(k : Int) + 1, n, x.seed⟩ ⟨by show (1 : Int) ≤ n; omega, by show (n : Int) ≤ 16; omega⟩ ⟨by show (1 : Int) ≤ k + 1; omega, by show (k : Int) + 1 ≤ n; omega⟩
        have HKB : Hid (∀ W, But (fun b => b = G) w3 W → W.cell? ⟨b, 0, none⟩ = some (.slice (some ⟨B, off, none⟩) n c) ∧ W.cell? ⟨b, 1, none⟩ = some (.slice fa fn fc) ∧ Below w.heap.size w W) := Lib.hid fun W hb => ⟨(World.cell?_of_block (hb.block b (World.block_lt_of_cell? w3 _ b0) HN0.out.2.2)).trans b0, (World.cell?_of_block (hb.block b (World.block_lt_of_cell? w3 _ b1) HN0.out.2.2)).trans b1, H3.out.2.2.2.2.2.2.2.2.2.trans (hb.below H3.out.2.2.2.2.2.2.2.2.2.size fun j e => by have := H3.out.1; have := H2.out.size; omega)⟩
        have HST2 : Hid (∀ W, Below w.heap.size w W → Calls Tryd.prog 81 #[.agg #[.slice (some ⟨B, off, none⟩) n c, .slice fa fn fc], .int .i64 ((k : Int) + 1)] W (StartTo x.vars W)) := Lib.hid fun W hb => start_any W m (some ⟨B, off, none⟩) n c fa fn fc (HH.out.1.below hb) k x hx
        have hv8 : x.vars.length ≤ 8 := by have := may_prog hmx; omega
        have HX := Lib.hid (And.intro hx (And.intro hv8 hvn))
        rw [← hvn] at c2
        have hk1000 : k < 1000 := by omega
        have hbl : b < wr.heap.size := World.block_lt_of_cell? wr _ d0
        clear hNL hbw hkb hMo hB hx hP hmx hvn hv8
        go_upto_region 9 with (first
          | (go_at_call 80; refine (HNW.out _ ((Below.refl _ _).alloc (Nat.le_refl _) _)).mono ?_; rintro e w5 ⟨M, a5, n5, c5, rfl, hm5, hcp5, hb5⟩; have hb5' := ((Below.refl wr.heap.size wr).alloc (Nat.le_refl _) _).trans (hb5.mono (by simp)); have hN5 := HNL.out.below hb5'; obtain ⟨e2, f2, -, -⟩ := box2 hN5.box; have HN5 := Lib.hid (And.intro hN5 (And.intro hm5 hcp5)); clear hm5 hcp5 hb5 hb5' hN5)
          | (at_builtin; refine rowPt.list rfl _ _ rfl w3.heap.size (.slice ma k mc) Ms rfl (HN5.out.1.below ((Below.refl _ _).alloc (Nat.le_refl _) _)).mach ⟨w5.heap.size, 0, none⟩ 1 1 [M] rfl rfl (Cod.news_one (C := CPt) (T := ptT) _ M _ (0, 0) (heap_alloc_new _ _)) (by have := HN5.out.1.mach.sl; omega) (by have := HN5.out.1.mach.sl; omega) (by have := HN5.out.1.bel.size; simp; omega) ?_; intro v6 w6 ho6 hg6 _; obtain ⟨e6, f6, -, -⟩ := box2 ((HN5.out.1.below ((Below.refl _ _).alloc (Nat.le_refl _) _)).gM hg6); obtain ⟨ma6, k6, mc6, rfl⟩ := ho6.shape; have H6 := Lib.hid (And.intro ho6 hg6); clear ho6 hg6))
        have hMC : MCop (w5.alloc (.cells #[.pointer (some ⟨M, 0, none⟩)] ptT)) M ⟨(k : Int) + 1, m.procs.length, x.seed⟩ x.prog a5 n5 c5 := by
          have h5 := HN5.out.2
          rw [HN0.out.2.1] at h5
          exact Nm.mcop (Nm.below ((Below.refl _ _).alloc (Nat.le_refl _) _)) ⟨h5.1, h5.2⟩
        obtain ⟨ma7, mc7, e7, hN7⟩ := (HN5.out.1.below ((Below.refl w5.heap.size w5).alloc (Nat.le_refl _) (.cells #[.pointer (some ⟨M, 0, none⟩)] ptT))).addM HX.out.1 hMC H6.out.1 H6.out.2
        obtain ⟨rfl, rfl, rfl⟩ := Value.slice.inj e7
        obtain ⟨w7, hw7⟩ : ∃ w7, w7 = w6.setCell ⟨G, 2, none⟩ (.slice ma6 (k + 1) mc6) := ⟨_, rfl⟩
        rw [← hw7] at hN7 ⊢
        obtain ⟨i0, i1, i2⟩ := HKB.out w7 hN7.bel
        obtain ⟨-, -, g3, z3⟩ := box2 hN7.box
        have HS7 : Hid (Calls Tryd.prog 81 #[.agg #[.slice (some ⟨B, off, none⟩) n c, .slice fa fn fc], .int .i64 ((k : Int) + 1)] w7.drew (StartTo x.vars w7.drew)) := Lib.hid (HST2.out w7.drew i2.drew)
        have HN7 := Lib.hid (And.intro hN7 i2)
        clear hw7 hMC e7 hN7 i2 e2 f2 e6 f6
        have hwk : IntKind.i64.wrap ((k : Int) + 1) = (k : Int) + 1 := by rw [IntKind.wrap_i64]; omega
        go_region_law (first
          | (refine rowRs.step rfl _ _ rfl w3.heap.size (.slice sa k sc) rs (by simp [Act.eval]) (HN8.out.1.below ((Below.refl _ _).alloc (Nat.le_refl _) _)).st ⟨w8.heap.size, 0, none⟩ 1 1 [⟨sva, x.vars.length, svc, 0, 0⟩] (by simp [Act.eval]) rfl (Cod.news_one (C := CRs) (T := stT) _ ⟨sva, x.vars.length, svc, 0, 0⟩ _ (0, 0) (heap_alloc_new _ _)) (by have := HN8.out.1.st.sl; omega) (by have := HN8.out.1.st.sl; omega) (by have := HN8.out.1.bel.size; simp; omega) ?_; intro v9 w9 ho9 hg9 _; obtain ⟨-, -, g9, z9⟩ := box2 ((HN8.out.1.below ((Below.refl _ _).alloc (Nat.le_refl _) _)).gS hg9); obtain ⟨sa9, k9, sc9, rfl⟩ := ho9.shape; have H9 := Lib.hid (And.intro ho9 hg9); clear ho9 hg9)
          | (go_simp; go_at_call 81; (with_reducible refine HS7.out.mono ?_); rintro e w8 ⟨sva, svc, rfl, hso, hb8⟩; have hb8' : Below w7.heap.size w7 w8 := ((Below.refl w7.heap.size w7).drew).trans (hb8.mono (Nat.le_refl _)); have hN8 := HN7.out.1.below hb8'; obtain ⟨-, -, g8, z8⟩ := box2 hN8.box; have g8b := keepc ((Below.refl w8.heap.size w8).alloc (Nat.le_refl _) (.cells #[.slice sva x.vars.length svc, .int .i64 0, .int .i64 0] stT)) g8; have HN8 := Lib.hid (And.intro hN8 (hso.mono (Nat.zero_le _))); clear hso hb8 hb8' hN8; dsimp only))
        all_goals
          have hb10 : Below w8.heap.size w8 (w8.alloc (.cells #[.slice sva x.vars.length svc, .int .i64 0, .int .i64 0] stT)) := (Below.refl _ _).alloc (Nat.le_refl _) _
          obtain ⟨sa10, sc10, e10, hN10⟩ := (HN8.out.1.below hb10).addS HX.out.1 (r := ⟨sva, x.vars.length, svc, 0, 0⟩) ⟨rfl, rfl, rfl, HN8.out.2.below hb10, HX.out.2.1⟩ H9.out.1 H9.out.2
          obtain ⟨rfl, rfl, rfl⟩ := Value.slice.inj e10
          have HN10 := Lib.hid hN10
          clear hN10 e10 hb10 g9 z9 g8 z8 g8b i0 i1 g3 z3
          go_wp2_with fail
          go_roundg (n - (k + 1))
          case measure => omega
          case rel => exact ⟨k + 1, by go_num, by omega, Nat.le_refl _, ma6, mc6, sa9, sc9, _, _, HN10.out⟩
      · obtain rfl : k = n := by omega
        have hfin : ∃ F Z, SqAt 64 wr G F Z (newQ m) ∧ (∀ b, F b → w2.heap.size ≤ b) ∧ ∀ b, Z b → w2.heap.size ≤ b := by
          have h1 := HNL.out
          rw [HN0.out.2.1] at h1
          have h3 := H3.out
          exact nl_fin HH.out.2.1 h1 h3.2.1 h3.2.2.1 h3.2.2.2.1 h3.2.2.2.2.1 h3.2.2.2.2.2.1 h3.2.2.2.2.2.2.1 h3.2.2.2.2.2.2.2.1 h3.1 h3.2.2.2.2.2.2.2.2.1.size
        have HF := Lib.hid (And.intro hfin hbw)
        clear hNL hbw hkb hfin d0 d1
        go_wp2_with fail
        go_ret2
        obtain ⟨⟨F, Z, f1, f2, f3⟩, f4⟩ := HF.out
        have hz := H2.out.size
        exact ⟨G, F, Z, rfl, f1, fun b e => Nat.le_trans hz (f2 b e), fun b e => Nat.le_trans hz (f3 b e), f4⟩
end
end Go.Proofs.YthhpoihfaggafaaDoor
