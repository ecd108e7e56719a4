/-
  What a run's answer leaves in a box; the walk of Run from a sequence's row.
-/
import Derived.Test.YthhpoihfaggafaaDoorZSqA
import Derived.Deep.CutRange
import Derived.Deep.RegionHeld3
namespace Go.Proofs.YthhpoihfaggafaaDoor
open Go Go.RowKit Go.Sort Go.Proofs CodM VmM

theorem below_set5 {B : Nat} {w w' : World} (h : Below B w w') {g : Nat} (hg : B ≤ g) (a b c d e : Value) : Below B w (((((w'.setCell ⟨g, 0, none⟩ a).setCell ⟨g, 1, none⟩ b).setCell ⟨g, 2, none⟩ c).setCell ⟨g, 3, none⟩ d).setCell ⟨g, 4, none⟩ e) :=
  ((((h.setCell (p := ⟨g, 0, none⟩) hg a).setCell (p := ⟨g, 1, none⟩) hg b).setCell (p := ⟨g, 2, none⟩) hg c).setCell (p := ⟨g, 3, none⟩) hg d).setCell (p := ⟨g, 4, none⟩) hg e
theorem row_fz {w : World} {g : Nat} {cs : Array Value} {t : TypeId} (h : w.heap[g]? = some (.cells cs t (0, 0))) (v0 v1 v2 v3 : Value) :
    (((w.setCell ⟨g, 0, none⟩ v0).setCell ⟨g, 1, none⟩ v1).setCell ⟨g, 2, none⟩ v2).frozen? ⟨g, 3, none⟩ = false ∧ ((((w.setCell ⟨g, 0, none⟩ v0).setCell ⟨g, 1, none⟩ v1).setCell ⟨g, 2, none⟩ v2).setCell ⟨g, 3, none⟩ v3).frozen? ⟨g, 4, none⟩ = false := by
  have h1 := heap_setCell_same w g 0 cs t v0 h
  have h2 := heap_setCell_same _ g 1 _ t v1 h1
  have h3 := heap_setCell_same _ g 2 _ t v2 h2
  have h4 := heap_setCell_same _ g 3 _ t v3 h3
  exact ⟨frozen_of_row _ _ _ _ _ h3, frozen_of_row _ _ _ _ _ h4⟩
structure BoxAt (wr : World) (g : Nat) (R : Stp) (a1 : Option Addr) (c1 : Nat) (a2 : Option Addr) (c2 : Nat) (a3 : Option Addr) (c3 : Nat) (W : World) : Prop where
  row : W.heap[g]? = some (.cells #[.slice a1 R.st.vars.length c1, .int .i64 R.st.sent, .int .i64 R.st.drawn, .slice a2 R.sends.length c2, .slice a3 R.tells.length c3] 92 (0, 0))
  st : StepAt wr.heap.size W R (.slice a1 R.st.vars.length c1) (.slice a2 R.sends.length c2) (.slice a3 R.tells.length c3)
  new : wr.heap.size ≤ g
  bel : Below wr.heap.size wr W
theorem StepAt.mono {B B' : Nat} {w : World} {R : Stp} {vv sv tv : Value} (h : StepAt B w R vv sv tv) (hB : B' ≤ B) : StepAt B' w R vv sv tv := ⟨h.vars.mono hB, h.sends.mono hB, h.tells.mono hB, h.hs, h.ht⟩
theorem StepAt.box {B g : Nat} {w w' : World} {R : Stp} {vv sv tv : Value} (h : StepAt B w R vv sv tv) {cs : Array Value} (hg : w.heap[g]? = some (.cells cs 92 (0, 0))) (hb : But (fun k => k = g) w w') : StepAt B w' R vv sv tv :=
  ⟨h.vars.but hb (fun b e => by obtain ⟨cur, hc⟩ := h.vars.typ e; exact ne_types hc hg (by decide)),
   h.sends.but hb (fun b e => by obtain ⟨cur, hc⟩ := h.sends.typ e; exact ne_types hc hg (by decide)),
   h.tells.but hb (fun b e => by obtain ⟨cur, hc⟩ := h.tells.typ e; exact ne_types hc hg (by decide)), h.hs, h.ht⟩
theorem put5 {w : World} {M : Nat} {T : TypeId} {x0 x1 x2 x3 x4 : Value} (h : w.heap[M]? = some (.cells #[x0, x1, x2, x3, x4] T (0, 0))) (v0 v1 v2 v3 v4 : Value) :
    (((((w.setCell ⟨M, 0, none⟩ v0).setCell ⟨M, 1, none⟩ v1).setCell ⟨M, 2, none⟩ v2).setCell ⟨M, 3, none⟩ v3).setCell ⟨M, 4, none⟩ v4).heap[M]? = some (.cells #[v0, v1, v2, v3, v4] T (0, 0)) := by
  have h1 := heap_setCell_same w M 0 _ T v0 h
  have h2 := heap_setCell_same _ M 1 _ T v1 h1
  have h3 := heap_setCell_same _ M 2 _ T v2 h2
  have h4 := heap_setCell_same _ M 3 _ T v3 h3
  have h5 := heap_setCell_same _ M 4 _ T v4 h4
  exact h5
theorem but5 (w : World) (M : Nat) (v0 v1 v2 v3 v4 : Value) : But (fun k => k = M) w (((((w.setCell ⟨M, 0, none⟩ v0).setCell ⟨M, 1, none⟩ v1).setCell ⟨M, 2, none⟩ v2).setCell ⟨M, 3, none⟩ v3).setCell ⟨M, 4, none⟩ v4) :=
  (((((But.refl (fun k => k = M) w).setCell (p := ⟨M, 0, none⟩) rfl v0).setCell (p := ⟨M, 1, none⟩) rfl v1).setCell (p := ⟨M, 2, none⟩) rfl v2).setCell (p := ⟨M, 3, none⟩) rfl v3).setCell (p := ⟨M, 4, none⟩) rfl v4
theorem BoxAt.below {wr : World} {g : Nat} {R : Stp} {a1 a2 a3 : Option Addr} {c1 c2 c3 : Nat} {W W' : World} (h : BoxAt wr g R a1 c1 a2 c2 a3 c3 W) (hb : Below W.heap.size W W') : BoxAt wr g R a1 c1 a2 c2 a3 c3 W' :=
  ⟨(hb.block _ (heap_lt h.row)).trans h.row, h.st.below hb, h.new, h.bel.trans (hb.mono h.bel.size)⟩
theorem box_behind {wr w9 : World} {R : Stp} {a1 a2 a3 : Option Addr} {c1 c2 c3 : Nat} {B : Nat} (hB : wr.heap.size ≤ B) (hs : StepAt B w9 R (.slice a1 R.st.vars.length c1) (.slice a2 R.sends.length c2) (.slice a3 R.tells.length c3)) (hb : Below wr.heap.size wr w9) :
    BoxAt wr w9.heap.size R a1 c1 a2 c2 a3 c3 (w9.alloc (.cells #[.slice a1 R.st.vars.length c1, .int .i64 R.st.sent, .int .i64 R.st.drawn, .slice a2 R.sends.length c2, .slice a3 R.tells.length c3] 92)) :=
  ⟨heap_alloc_new _ _, (hs.mono hB).below ((Below.refl _ _).alloc (Nat.le_refl _) _), hb.size, hb.alloc hb.size _⟩
theorem box_ahead {wr w9 : World} {R : Stp} {a1 a2 a3 : Option Addr} {c1 c2 c3 : Nat} {B g : Nat} (hB : wr.heap.size ≤ B) (hs : StepAt B w9 R (.slice a1 R.st.vars.length c1) (.slice a2 R.sends.length c2) (.slice a3 R.tells.length c3)) (hb : Below wr.heap.size wr w9)
    (hr : w9.heap[g]? = some (.cells stepZ 92 (0, 0))) (hg : wr.heap.size ≤ g) :
    BoxAt wr g R a1 c1 a2 c2 a3 c3 (((((w9.setCell ⟨g, 0, none⟩ (.slice a1 R.st.vars.length c1)).setCell ⟨g, 1, none⟩ (.int .i64 R.st.sent)).setCell ⟨g, 2, none⟩ (.int .i64 R.st.drawn)).setCell ⟨g, 3, none⟩ (.slice a2 R.sends.length c2)).setCell ⟨g, 4, none⟩ (.slice a3 R.tells.length c3)) :=
  ⟨put5 hr _ _ _ _ _, (hs.mono hB).box hr (but5 _ _ _ _ _ _ _), hg, below_set5 hb hg _ _ _ _ _⟩
def R10 (wr : World) (R : Stp) (cd : Int) (s17 s18 : Value) (W : World) : Prop := ∃ g a1 c1 a2 c2 a3 c3, s17 = .pointer (some ⟨g, 0, none⟩) ∧ s18 = .int .i64 cd ∧ BoxAt wr g R a1 c1 a2 c2 a3 c3 W
def RunM (W : World) (R : Stp) (cd : Int) (e : Ending) (w' : World) : Prop := ∃ a1 c1 a2 c2 a3 c3, e = .returned (.tuple #[.agg #[.slice a1 R.st.vars.length c1, .int .i64 R.st.sent, .int .i64 R.st.drawn, .slice a2 R.sends.length c2, .slice a3 R.tells.length c3], .int .i64 cd]) ∧ StepAt W.heap.size w' R (.slice a1 R.st.vars.length c1) (.slice a2 R.sends.length c2) (.slice a3 R.tells.length c3) ∧ Below W.heap.size W w'
theorem CEv.own_at {B : Nat} {w : World} {v : Value} {l : List Ev} (h : CEv.Own 45 B w v l) (hl : l.length ≤ 4) : ∃ a c, v = .slice a l.length c ∧ CEv.At w a l.length l := by
  obtain ⟨a, c, h1, _, h2, _⟩ := h.at_ (by omega)
  exact ⟨a, c, h1, h2⟩
theorem CRc.own_at {B : Nat} {w : World} {v : Value} {l : List Rc} (h : CRc.Own 224 B w v l) (hl : l.length ≤ 4) : ∃ a c, v = .slice a l.length c ∧ CRc.At w a l.length l := by
  obtain ⟨a, c, h1, _, h2, _⟩ := h.at_ (by omega)
  exact ⟨a, c, h1, h2⟩
theorem RunTo.run {W : World} {R : Stp} {e : Ending} {w' : World} (h : RunTo W true R e w') (hl : R.st.vars.length ≤ 1000) : RunM W R 0 e w' := by
  obtain ⟨hb, h⟩ := h
  rw [if_pos rfl] at h
  obtain ⟨vv, sv, tv, he, hs⟩ := h
  obtain ⟨a1, c1, rfl, _⟩ := CV.own_at hs.vars hl
  obtain ⟨a2, c2, rfl, _⟩ := CEv.own_at hs.sends hs.hs
  obtain ⟨a3, c3, rfl, _⟩ := CRc.own_at hs.tells hs.ht
  exact ⟨a1, c1, a2, c2, a3, c3, he, hs, hb⟩
end Go.Proofs.YthhpoihfaggafaaDoor
namespace VmM
open CodM
/-- what is sent may be -/
def MayS (m : Mch) (s : Run) : Prop := ∀ x ∈ s.sends, mayE m.procs x = true
theorem MayS.alike {m : Mch} {s t : Run} (h : MayS m s) (k : Alike s t) : MayS m t := by unfold MayS; rw [k.sends]; exact h
theorem mays_ite {m : Mch} {c : Prop} [Decidable c] {a b : Run} (ha : MayS m a) (hb : MayS m b) : MayS m (if c then a else b) := by
  by_cases h : c
  · rw [if_pos h]; exact ha
  · rw [if_neg h]; exact hb
theorem mays_send {m : Mch} {e : Ev} {s : Run} (h : MayS m s) (k : Int) : MayS m (send m e k s) := by
  have hd : Alike s (drop (drop (drop s))) := ((alike_drop s).trans (alike_drop _)).trans (alike_drop _)
  unfold send
  dsimp only
  split
  · exact h.alike hd
  · rename_i hc
    have hm : mayE m.procs (sentBy m e k s) = true := by
      cases hx : mayE m.procs (sentBy m e k s) with
      | true => rfl
      | false => exact absurd (.inr hx) hc
    intro x hx
    rcases List.mem_append.1 hx with hx | hx
    · exact h x hx
    · rw [List.mem_singleton.1 hx]
      exact hm
theorem mays_tell {m : Mch} {e : Ev} {s : Run} (h : MayS m s) : MayS m (tell m e s) := by
  unfold tell
  dsimp only
  split <;> exact h
theorem mays_op {m : Mch} {e : Ev} {s : Run} (h : MayS m s) (len : Nat) (x : Ins) : MayS m (op m e len x s) := by
  delta op
  refine mays_ite (h.alike (alike_push _ _)) ?_
  refine mays_ite (h.alike (alike_push _ _)) ?_
  refine mays_ite (h.alike ((alike_drop s).trans (alike_set _ _ _))) ?_
  refine mays_ite (h.alike (alike_push _ _)) ?_
  refine mays_ite (h.alike (alike_push _ _)) ?_
  refine mays_ite (h.alike (alike_push _ _)) ?_
  refine mays_ite (h.alike (alike_push _ _) : MayS m (push _ s)) ?_
  refine mays_ite (h.alike (alike_two _ _)) ?_
  refine mays_ite (h.alike (alike_two _ _)) ?_
  refine mays_ite (h.alike (alike_two _ _)) ?_
  refine mays_ite (h.alike (alike_two _ _)) ?_
  refine mays_ite (h.alike (alike_two _ _)) ?_
  refine mays_ite (h.alike (alike_next _ _)) ?_
  refine mays_ite (mays_ite (h.alike ((alike_drop s).trans (alike_next _ _))) (h.alike (alike_drop s))) ?_
  refine mays_ite (mays_send h _) ?_
  refine mays_ite (mays_tell h) ?_
  exact h.alike (alike_next _ _)
theorem mays_go {m : Mch} {e : Ev} (code : List Ins) : ∀ (f : Nat) (s : Run), MayS m s → MayS m (go m e code f s)
  | 0, s, h => h
  | f + 1, s, h => by
    unfold go
    split
    · exact mays_go code f _ (mays_op (h.alike (alike_next _ _)) _ _)
    · exact h
theorem run_may (m : Mch) (p : Prg) (s : Ps) (e : Ev) : ∀ x ∈ (run m p s e).sends, mayE m.procs x = true :=
  mays_go (m := m) (e := e) (codeOf p e.kind) 256 (start s) (fun x hx => by cases hx)
end VmM
namespace Go.Proofs.YthhpoihfaggafaaDoor
open Go Go.RowKit Go.Sort Go.Proofs CodM VmM

/-- whose turn it is: its place, its process, its state, the machine; what its run does -/
def plc (x : Ev) : Nat := (x.to - 1).toNat
def procOf (q : Sq) (x : Ev) : Pm := q.mo.procs.getD (plc x) ⟨⟨0, []⟩, [], 0⟩
def stOf (q : Sq) (x : Ev) : Ps := q.sts.getD (plc x) ⟨[], 0, 0⟩
def mchOf (q : Sq) (x : Ev) : Mch := ⟨x.to, q.mo.procs.length, (procOf q x).seed⟩
def runOf (q : Sq) (x : Ev) : Stp := run (mchOf q x) (procOf q x).prog (stOf q x) x
/-- the run is done, nothing of it is put in yet -/
def ranQ (q : Sq) (x : Ev) (r : List Ev) : Sq := { q with sts := q.sts.set (plc x) (runOf q x).st, waits := r }
def sentQ (q : Sq) (x : Ev) (r : List Ev) (k : Nat) : Sq := { ranQ q x r with waits := ((runOf q x).sends.take k).foldl putIn r }
/-- the step is done -/
def stepQ (q : Sq) (x : Ev) (r : List Ev) : Sq := { q with sts := q.sts.set (plc x) (runOf q x).st, waits := (runOf q x).sends.foldl putIn r, floor := x.time, done := q.done + 1 }
structure Turn (K : Nat) (q : Sq) (x : Ev) (r : List Ev) : Prop where
  whom : 1 ≤ x.to ∧ x.to ≤ q.mo.procs.length
  lt : plc x < q.mo.procs.length
  self : ((plc x : Nat) : Int) + 1 = x.to
  proc : q.mo.procs[plc x]? = some (procOf q x)
  st : q.sts[plc x]? = some (stOf q x)
  ok : okR (mchOf q x) (procOf q x).prog (stOf q x) x = true
  vars : (runOf q x).st.vars.length = (stOf q x).vars.length
  few : (runOf q x).sends.length ≤ 4
  may : ∀ y ∈ (runOf q x).sends, mayE q.mo.procs.length y = true
  good : GoodQ (K + 4) (ranQ q x r)
  small : (stOf q x).vars.length = (procOf q x).prog.vars
theorem turn_of {K : Nat} {q : Sq} {x : Ev} {r : List Ev} (h : GoodQ K q) (hK : K ≤ 100000) (hq : q.waits = x :: r) : Turn K q x r := by
  have hm := h.may x (by rw [hq]; exact List.mem_cons_self ..)
  have hm' := hm
  unfold mayE at hm'
  simp only [decide_eq_true_eq] at hm'
  have hlt : plc x < q.mo.procs.length := by unfold plc; omega
  have hself : ((plc x : Nat) : Int) + 1 = x.to := by unfold plc; omega
  have hp : q.mo.procs[plc x]? = some (procOf q x) := by unfold procOf; rw [List.getD, List.getElem?_eq_getElem hlt]; rfl
  have hlt2 : plc x < q.sts.length := by rw [h.sts]; exact hlt
  have hs : q.sts[plc x]? = some (stOf q x) := by unfold stOf; rw [List.getD, List.getElem?_eq_getElem hlt2]; rfl
  obtain ⟨hi, hsent, hdrawn⟩ := h.is _ _ _ hp hs
  have hi' := hi
  unfold isOf at hi'
  simp only [decide_eq_true_eq] at hi'
  obtain ⟨r1, _, r3, r4, _, _, r5, r6⟩ := run_inv (mchOf q x) (procOf q x).prog (stOf q x) x (by omega) (by omega)
  have hmay := run_may (mchOf q x) (procOf q x).prog (stOf q x) x
  have hlen := h.lim
  rw [hq] at hlen
  simp only [List.length_cons] at hlen
  refine ⟨by omega, hlt, hself, hp, hs, ?_, r1, r3, hmay, ⟨?_, ?_, ?_, ?_, ?_⟩, hi'.1⟩
  · unfold okR
    rw [hi]
    show (true && (mayE q.mo.procs.length x && decide (x.to = x.to))) = true
    rw [hm]
    simp
  · show (q.sts.set _ _).length = _
    rw [List.length_set]
    exact h.sts
  · have := h.asc
    rw [hq] at this
    exact this.tail
  · exact fun e he => h.may e (by rw [hq]; exact List.mem_cons_of_mem _ he)
  · intro i y s hy hs'
    have hs2 : (q.sts.set (plc x) (runOf q x).st)[i]? = some s := hs'
    by_cases e : plc x = i
    · subst e
      have hy2 : q.mo.procs[plc x]? = some y := hy
      rw [hp] at hy2
      cases hy2
      rw [List.getElem?_set_self hlt2] at hs2
      cases hs2
      have e1 : (runOf q x).st.vars.length = (stOf q x).vars.length := r1
      have e2 : (runOf q x).st.sent = (stOf q x).sent + (runOf q x).sends.length := r4
      have e3 : (runOf q x).sends.length ≤ 4 := r3
      have e4 : (stOf q x).drawn ≤ (runOf q x).st.drawn := r5
      have e5 : (runOf q x).st.drawn ≤ (stOf q x).drawn + 256 := r6
      refine ⟨?_, by omega, by omega⟩
      unfold isOf
      simp only [decide_eq_true_eq]
      omega
    · rw [List.getElem?_set_ne e] at hs2
      obtain ⟨a, b, c⟩ := h.is i y s hy hs2
      exact ⟨a, by omega, by omega⟩
  · exact ⟨by show r.length ≤ K + 4; omega, by show q.puts.length ≤ K + 4; omega, by show q.done ≤ K + 4; omega⟩
theorem sentQ_next {q : Sq} {x : Ev} {r : List Ev} {k : Nat} {y : Ev} (h : (runOf q x).sends[k]? = some y) : { sentQ q x r k with waits := putIn (sentQ q x r k).waits y } = sentQ q x r (k + 1) := by
  unfold sentQ
  simp only
  rw [List.take_add_one, h]
  simp
theorem sentQ_all {q : Sq} {x : Ev} {r : List Ev} : { sentQ q x r (runOf q x).sends.length with floor := x.time, done := q.done + 1 } = stepQ q x r := by
  unfold sentQ stepQ ranQ
  simp
end Go.Proofs.YthhpoihfaggafaaDoor
namespace Go.Proofs.YthhpoihfaggafaaDoor
open Go Go.RowKit Go.Sort Go.Proofs CodM VmM

theorem set3 (A R : List Value) (y0 y1 y2 v0 v1 v2 : Value) : (((A ++ y0 :: y1 :: y2 :: R).set A.length v0).set (A.length + 1) v1).set (A.length + 2) v2 = A ++ v0 :: v1 :: v2 :: R := by
  induction A with
  | nil => rfl
  | cons a t ih =>
    have e1 : (a :: t).length + 1 = (t.length + 1) + 1 := rfl
    have e2 : (a :: t).length + 2 = (t.length + 2) + 1 := rfl
    rw [e1, e2, List.length_cons, List.cons_append, List.set_cons_succ, List.set_cons_succ, List.set_cons_succ, ih]
    rfl
theorem mid_set3 {w : World} {T : TypeId} {B o c : Nat} {l : List Rs} (h : CRs.Mid T w (some ⟨B, o, none⟩) c l) {i : Nat} (hi : i < l.length) (r : Rs) :
    CRs.Mid T (((w.setCell ⟨B, o + i * 3, none⟩ (.slice r.a r.n r.c)).setCell ⟨B, o + i * 3 + 1, none⟩ (.int .i64 r.sent)).setCell ⟨B, o + i * 3 + 2, none⟩ (.int .i64 r.drawn)) (some ⟨B, o, none⟩) c (l.set i r) := by
  obtain ⟨h1, h2, ⟨e, _⟩ | ⟨B', pre, post, e, hh, hp⟩⟩ := h
  · cases e
  cases e
  have k1 := heap_setCell_same w B (pre.length + i * 3) _ _ (.slice r.a r.n r.c) hh
  have k2 := heap_setCell_same _ B (pre.length + i * 3 + 1) _ _ (.int .i64 r.sent) k1
  have k3 := heap_setCell_same _ B (pre.length + i * 3 + 2) _ _ (.int .i64 r.drawn) k2
  refine ⟨by rw [List.length_set]; exact h1, h2, .inr ⟨B, pre, post, rfl, ?_, by rw [List.length_set]; exact hp⟩⟩
  rw [k3]
  have hs : l = l.take i ++ l[i] :: l.drop (i + 1) := by
    conv => lhs; rw [← List.take_append_drop i l]
    rw [List.drop_eq_getElem_cons hi]
  have hs2 : l.set i r = l.take i ++ r :: l.drop (i + 1) := by rw [List.set_eq_take_append_cons_drop, if_pos hi]
  have htl : (CRs.cells (l.take i)).length = i * 3 := by rw [CRs.cells_len, List.length_take, Nat.min_eq_left (by omega)]; rfl
  have e0 : pre ++ CRs.cells l ++ post = (pre ++ CRs.cells (l.take i)) ++ .slice l[i].a l[i].n l[i].c :: .int .i64 l[i].sent :: .int .i64 l[i].drawn :: (CRs.cells (l.drop (i + 1)) ++ post) := by
    conv => lhs; rw [hs]
    rw [CRs.cells_app, show CRs.cells (l[i] :: l.drop (i + 1)) = CRs.enc l[i] ++ CRs.cells (l.drop (i + 1)) from rfl]
    simp only [List.append_assoc]
    rfl
  have e1 : pre ++ CRs.cells (l.set i r) ++ post = (pre ++ CRs.cells (l.take i)) ++ .slice r.a r.n r.c :: .int .i64 r.sent :: .int .i64 r.drawn :: (CRs.cells (l.drop (i + 1)) ++ post) := by
    rw [hs2, CRs.cells_app, show CRs.cells (r :: l.drop (i + 1)) = CRs.enc r ++ CRs.cells (l.drop (i + 1)) from rfl]
    simp only [List.append_assoc]
    rfl
  rw [e1, e0, List.setIfInBounds_toArray, List.setIfInBounds_toArray, List.setIfInBounds_toArray]
  have hA : pre.length + i * 3 = (pre ++ CRs.cells (l.take i)).length := by rw [List.length_append, htl]
  rw [hA, set3]
section
variable {w : World} {G : Nat} {F Z : Nat → Prop} {q : Sq} {K : Nat} {x : Ev} {r : List Ev}
theorem ran_at {pv fv : Value} {ma : Option Addr} {mc : Nat} {Ms : List Nat} {SB so sc WB wo wcp mp : Nat} {rs : List Rs} (hro : Ro w pv fv ma q.mo.procs.length mc Ms q.mo) (hwo : Wo w G pv fv ma q.mo.procs.length mc (some ⟨SB, so, none⟩) sc (some ⟨WB, wo, none⟩) wcp mp rs q)
    (hF : ∀ b, mutB G (some ⟨SB, so, none⟩) (some ⟨WB, wo, none⟩) mp b → F b) (hZ : ∀ b, fv.ownBlock = some b → Z b) (hZF : ∀ b, Z b → ¬ F b) (hZ2 : ∀ b, Z b → fv.ownBlock = some b) (ht : Turn K q x r) (hq : q.waits = x :: r)
    {B : Nat} {a1 : Option Addr} {c1 : Nat} (hst : CV.Own 2 B w (.slice a1 (runOf q x).st.vars.length c1) (runOf q x).st.vars) (hvl : (stOf q x).vars.length ≤ 8) {a' : Option Addr} {n : Nat} (hn : n = r.length) (ha : a' = some ⟨WB, wo + 6, none⟩ ∨ (wcp - 1 = 0 ∧ a' = some ⟨WB, wo, none⟩)) {w6 w7 : World}
    (h6 : w6 = w.setCell ⟨G, 4, none⟩ (.slice a' n (wcp - 1)))
    (h7 : w7 = ((w6.drew.setCell ⟨SB, so + plc x * 3, none⟩ (.slice a1 (runOf q x).st.vars.length c1)).setCell ⟨SB, so + plc x * 3 + 1, none⟩ (.int .i64 (runOf q x).st.sent)).setCell ⟨SB, so + plc x * 3 + 2, none⟩ (.int .i64 (runOf q x).st.drawn)) :
    ∃ F', SqAt (K + 4) w7 G F' Z (ranQ q x r) ∧ (∀ b, F' b → F b) ∧ But (fun b => b = G ∨ b = SB) w w7 := by
  subst hn
  have hb6 : But (fun b => b = G ∨ b = SB) w w6 := by rw [h6]; exact (But.refl (fun b => b = G ∨ b = SB) w).setCell (p := ⟨G, 4, none⟩) (.inl rfl) _
  have hbd : But (fun b => b = G ∨ b = SB) w w6.drew := hb6.drew
  have hb7 : But (fun b => b = G ∨ b = SB) w w7 := by
    rw [h7]
    exact ((hbd.setCell (p := ⟨SB, so + plc x * 3, none⟩) (.inr rfl) _).setCell (p := ⟨SB, so + plc x * 3 + 1, none⟩) (.inr rfl) _).setCell (p := ⟨SB, so + plc x * 3 + 2, none⟩) (.inr rfl) _
  have h67 : But (fun b => b = SB) w6.drew w7 := by
    rw [h7]
    exact (((But.refl (fun b => b = SB) w6.drew).setCell (p := ⟨SB, so + plc x * 3, none⟩) rfl _).setCell (p := ⟨SB, so + plc x * 3 + 1, none⟩) rfl _).setCell (p := ⟨SB, so + plc x * 3 + 2, none⟩) rfl _
  have hbS : ∀ b, (b = G ∨ b = SB) → mutB G (some ⟨SB, so, none⟩) (some ⟨WB, wo, none⟩) mp b := fun b e => e.elim .inl fun e => .inr (.inl ⟨_, rfl, e.symm⟩)
  have hS : ∀ b, b < w.heap.size → (b = G ∨ b = SB) → Mty w b := fun b _ e => hwo.mty b (hbS b e)
  have hy := Ny.of hb7 hS
  have hSG : ¬ blkOf (some ⟨SB, so, none⟩) G := blk_box hwo.st hwo.box (by decide)
  have hSB : SB ≠ G := fun e => hSG ⟨_, rfl, e⟩
  have hWG : ¬ blkOf (some ⟨WB, wo, none⟩) G := blk_box hwo.wt hwo.box (by decide)
  have hWS : WB ≠ SB := fun e => blk_ne hwo.st hwo.wt (by decide) ⟨_, rfl, rfl⟩ ⟨_, rfl, e⟩
  have hG6 := heap_setCell_same w G 4 _ _ (.slice a' r.length (wcp - 1)) hwo.box
  rw [← h6] at hG6
  have hst6 : CRs.Mid stT w6.drew (some ⟨SB, so, none⟩) sc rs := (hwo.st.but ((But.refl (fun b => b = G) w).setCell (p := ⟨G, 4, none⟩) rfl (.slice a' r.length (wcp - 1))) fun b e e2 => hSG (e2 ▸ e)).below (w' := w6.drew) (by rw [h6]; exact (Below.refl _ _).drew)
  have hwt7 : CEv.Mid 45 w7 a' (wcp - 1) r := by
    have hwt := hwo.wt
    rw [hq] at hwt
    have h1 := hwt.tail a' ha
    refine h1.but hb7 fun b e e2 => ?_
    have hb : b = WB := by
      obtain ⟨p, e3, rfl⟩ := e
      rcases ha with rfl | ⟨_, rfl⟩ <;> (cases e3; rfl)
    rcases e2 with e2 | e2
    · exact hWG ⟨_, rfl, by rw [← e2, hb]⟩
    · exact hWS (by rw [← hb, e2])
  have hmut : ∀ b, mutB G (some ⟨SB, so, none⟩) a' mp b → F b := by
    rintro b (e | e | ⟨p, e3, rfl⟩ | e)
    · exact hF b (.inl e)
    · exact hF b (.inr (.inl e))
    · refine hF _ (.inr (.inr (.inl ⟨_, rfl, ?_⟩)))
      rcases ha with rfl | ⟨_, rfl⟩ <;> (cases e3; rfl)
    · exact hF b (.inr (.inr (.inr e)))
  have hil : plc x < rs.length := by rw [hwo.rlen]; exact ht.lt
  refine ⟨mutB G (some ⟨SB, so, none⟩) a' mp, ⟨pv, fv, ma, mc, Ms, some ⟨SB, so, none⟩, sc, a', wcp - 1, mp, rs.set (plc x) ⟨a1, (runOf q x).st.vars.length, c1, (runOf q x).st.sent, (runOf q x).st.drawn⟩, ht.good, ?_, ⟨?_, ?_, hwt7, ?_, by rw [List.length_set]; exact hwo.rlen, fun i s hs => ?_⟩, fun b e => e, hZ, fun b hz e => hZF b hz (hmut b e), fun b e => e, hZ2⟩, hmut, hb7⟩
  · exact hro.next hb7 hS fun b e e2 => hZF b (hZ b e) (hF b (hbS b e2))
  · exact (h67.block G (by show G < w6.heap.size; exact heap_lt hG6) (fun e => hSB e.symm)).trans hG6
  · rw [h7]
    exact mid_set3 hst6 hil ⟨a1, (runOf q x).st.vars.length, c1, (runOf q x).st.sent, (runOf q x).st.drawn⟩
  · exact hwo.set.same (hb7.block mp hwo.set.lt fun e => e.elim (box_map hwo.box hwo.set) fun e => blk_map hwo.st hwo.set ⟨_, rfl, e.symm⟩)
  · have hs2 : (q.sts.set (plc x) (runOf q x).st)[i]? = some s := hs
    by_cases e : plc x = i
    · subst e
      have hlt : plc x < q.sts.length := (List.getElem?_eq_some_iff.1 ht.st).1
      rw [List.getElem?_set_self hlt] at hs2
      cases hs2
      refine ⟨_, List.getElem?_set_self hil, ⟨rfl, rfl, rfl, ?_, by rw [ht.vars]; exact hvl⟩⟩
      exact hy.own (by decide) (by decide) (by decide) (hst.mono (Nat.zero_le _))
    · rw [List.getElem?_set_ne e] at hs2
      obtain ⟨r', e1, e2⟩ := hwo.rs i s hs2
      exact ⟨r', by rw [List.getElem?_set_ne e]; exact e1, hy.rs e2⟩
/-- the floor, and how many were done -/
theorem fin_at (h : SqAt K w G F Z q) (t : Int) (hK : q.done + 1 ≤ K) : SqAt K ((w.setCell ⟨G, 6, none⟩ (.int .i64 t)).setCell ⟨G, 7, none⟩ (.int .i64 ((q.done : Int) + 1))) G F Z { q with floor := t, done := q.done + 1 } := by
  obtain ⟨pv, fv, ma, mc, Ms, sa, sc, wa, wc, mp, rs, hg, hro, hwo, hF, hZ, hZF, hF2, hZ2⟩ := h
  have hb : But (fun b => b = G) w ((w.setCell ⟨G, 6, none⟩ (.int .i64 t)).setCell ⟨G, 7, none⟩ (.int .i64 ((q.done : Int) + 1))) := ((But.refl (fun b => b = G) w).setCell (p := ⟨G, 6, none⟩) rfl _).setCell (p := ⟨G, 7, none⟩) rfl _
  have hS : ∀ b, b < w.heap.size → b = G → Mty w b := fun b _ e => hwo.mty b (.inl e)
  have hy := Ny.of hb hS
  have k1 := heap_setCell_same w G 6 _ _ (.int .i64 t) hwo.box
  have k2 := heap_setCell_same _ G 7 _ _ (.int .i64 ((q.done : Int) + 1)) k1
  refine ⟨pv, fv, ma, mc, Ms, sa, sc, wa, wc, mp, rs, ⟨hg.sts, hg.asc, hg.may, hg.is, hg.lim.1, hg.lim.2.1, hK⟩, hro.next hb hS fun b e e2 => hZF b (hZ b e) (hF b (.inl e2)), ⟨k2, hwo.st.but hb fun b e e2 => blk_box hwo.st hwo.box (by decide) (e2 ▸ e), hwo.wt.but hb fun b e e2 => blk_box hwo.wt hwo.box (by decide) (e2 ▸ e), hwo.set.same (hb.block mp hwo.set.lt (box_map hwo.box hwo.set)), hwo.rlen, fun i s hs => ?_⟩, hF, hZ, hZF, hF2, hZ2⟩
  obtain ⟨r', e1, e2⟩ := hwo.rs i s hs
  exact ⟨r', e1, hy.rs e2⟩
theorem SqAt.zlt (h : SqAt K w G F Z q) : ∀ b, Z b → b < w.heap.size := by
  obtain ⟨pv, fv, ma, mc, Ms, sa, sc, wa, wc, mp, rs, hg, hro, hwo, hF, hZ, hZF, hF2, hZ2⟩ := h
  exact fun b e => (hro.first.lt b (hZ2 b e)).2
theorem SqAt.box (h : SqAt K w G F Z q) : ∃ cs, w.heap[G]? = some (.cells cs qT (0, 0)) ∧ F G := by
  obtain ⟨pv, fv, ma, mc, Ms, sa, sc, wa, wc, mp, rs, hg, hro, hwo, hF, hZ, hZF, hF2, hZ2⟩ := h
  exact ⟨_, hwo.box, hF G (.inl rfl)⟩
end
end Go.Proofs.YthhpoihfaggafaaDoor
namespace Go.Proofs.YthhpoihfaggafaaDoor
open Go Go.RowKit Go.Sort Go.Proofs CodM VmM

theorem results_three {P : Program} {fn : Func} {p u v : Tmp} {ty : TypeId} (h : fn.results = #[.cell p ty, .tmp u, .tmp v]) (tmps : Array Value) (w : World) (g : Nat) (t : TypeId) (cs : Array Value) (fr : Nat × Nat) (d : TypeDesc)
    (hp : tmps.getD p undef = .pointer (some ⟨g, 0, none⟩)) (hg : w.heap[g]? = some (.cells cs t fr))
    (hu : P.underlying ty = some d) (hd : (match d with | .struct _ | .array _ _ => true | _ => false) = true) (hi : (P.info? ty).map (·.size) = some cs.size) :
    (results fn tmps).run P w = .ok (.tuple #[.agg cs, tmps.getD u undef, tmps.getD v undef]) w := by
  have hp' : tmps[p]?.getD undef = .pointer (some ⟨g, 0, none⟩) := by simpa using hp
  simp [results, h, hp', asAddr, run_loadVar_row w g t ty cs fr d hg hu hd hi]
theorem Cod.Own.sl {α : Type} {C : Cod α} {T : TypeId} {B : Nat} {w : World} {a : Option Addr} {n c : Nat} {l : List α} (h : C.Own T B w (.slice a n c) l) : n = l.length := by
  obtain ⟨_, ⟨e, h0⟩ | ⟨g, cap, cur, e, _⟩⟩ := h
  · rw [h0]; exact (Value.slice.inj e).2.1
  · exact (Value.slice.inj e).2.1
theorem Cod.Own.at_sl {α : Type} {C : Cod α} {T : TypeId} {B : Nat} {w : World} {a : Option Addr} {n c : Nat} {l : List α} (h : C.Own T B w (.slice a n c) l) (hl : n ≤ 1000000) : C.At w a n l ∧ (a = none → c = 0) := by
  have hn := h.sl
  subst hn
  obtain ⟨a', c', e, _, h2, _, h3⟩ := h.at_ hl
  obtain ⟨rfl, _, rfl⟩ := Value.slice.inj e
  exact ⟨h2, fun e => by rcases h3 with ⟨_, _, h⟩ | ⟨g, h⟩; exact h; rw [h] at e; cases e⟩
theorem put6 {w : World} {M : Nat} {T : TypeId} {x0 x1 x2 x3 x4 x5 : Value} (h : w.heap[M]? = some (.cells #[x0, x1, x2, x3, x4, x5] T (0, 0))) (v0 v1 v2 v3 v4 v5 : Value) :
    ((((((w.setCell ⟨M, 0, none⟩ v0).setCell ⟨M, 1, none⟩ v1).setCell ⟨M, 2, none⟩ v2).setCell ⟨M, 3, none⟩ v3).setCell ⟨M, 4, none⟩ v4).setCell ⟨M, 5, none⟩ v5).heap[M]? = some (.cells #[v0, v1, v2, v3, v4, v5] T (0, 0)) := by
  have h1 := heap_setCell_same w M 0 _ T v0 h
  have h2 := heap_setCell_same _ M 1 _ T v1 h1
  have h3 := heap_setCell_same _ M 2 _ T v2 h2
  have h4 := heap_setCell_same _ M 3 _ T v3 h3
  have h5 := heap_setCell_same _ M 4 _ T v4 h4
  have h6 := heap_setCell_same _ M 5 _ T v5 h5
  exact h6
theorem but6 (w : World) (M : Nat) (v0 v1 v2 v3 v4 v5 : Value) : But (fun k => k = M) w ((((((w.setCell ⟨M, 0, none⟩ v0).setCell ⟨M, 1, none⟩ v1).setCell ⟨M, 2, none⟩ v2).setCell ⟨M, 3, none⟩ v3).setCell ⟨M, 4, none⟩ v4).setCell ⟨M, 5, none⟩ v5) :=
  ((((((But.refl (fun k => k = M) w).setCell (p := ⟨M, 0, none⟩) rfl v0).setCell (p := ⟨M, 1, none⟩) rfl v1).setCell (p := ⟨M, 2, none⟩) rfl v2).setCell (p := ⟨M, 3, none⟩) rfl v3).setCell (p := ⟨M, 4, none⟩) rfl v4).setCell (p := ⟨M, 5, none⟩) rfl v5
/-- the cells that the run's arguments are read from -/
abbrev RS (wr : World) (G : Nat) (ma : Option Addr) (n mc : Nat) (sa : Option Addr) (sc : Nat) (MB mo M SB so : Nat) (i : Nat) (r : Rs) (EB : Nat) (x : Ev) (W : World) : Prop :=
  W.cell? ⟨G, 2, none⟩ = some (.slice ma n mc) ∧ W.cell? ⟨MB, mo + i, none⟩ = some (.pointer (some ⟨M, 0, none⟩)) ∧ W.cell? ⟨G, 3, none⟩ = some (.slice sa n sc) ∧
  W.cell? ⟨SB, so + i * 3, none⟩ = some (.slice r.a r.n r.c) ∧ W.cell? ⟨SB, so + i * 3 + 1, none⟩ = some (.int .i64 r.sent) ∧ W.cell? ⟨SB, so + i * 3 + 2, none⟩ = some (.int .i64 r.drawn) ∧
  W.cell? ⟨EB, 0, none⟩ = some (.int .i64 x.time) ∧ W.cell? ⟨EB, 1, none⟩ = some (.int .i64 x.org) ∧ W.cell? ⟨EB, 2, none⟩ = some (.int .i64 x.seq) ∧ W.cell? ⟨EB, 3, none⟩ = some (.int .i64 x.to) ∧ W.cell? ⟨EB, 4, none⟩ = some (.int .i64 x.kind) ∧ W.cell? ⟨EB, 5, none⟩ = some (.int .i64 x.data) ∧
  Hid (Below wr.heap.size wr W)
theorem rs_next {wr : World} {G : Nat} {ma : Option Addr} {n mc : Nat} {sa : Option Addr} {sc MB mo M SB so i : Nat} {r : Rs} {EB : Nat} {x : Ev} {W W' : World} (h : RS wr G ma n mc sa sc MB mo M SB so i r EB x W) (hb : Below W.heap.size W W') : RS wr G ma n mc sa sc MB mo M SB so i r EB x W' := by
  obtain ⟨h0, h1, h2, h3, h4, h5, h6, h7, h8, h9, h10, h11, h12⟩ := h
  exact ⟨keepc hb h0, keepc hb h1, keepc hb h2, keepc hb h3, keepc hb h4, keepc hb h5, keepc hb h6, keepc hb h7, keepc hb h8, keepc hb h9, keepc hb h10, keepc hb h11, Lib.hid (h12.out.trans (hb.mono h12.out.size))⟩
/-- ahead of the run: the two boxes stand, nothing of the sequence has turned -/
def Pre (w : World) (x : Ev) (EB : Nat) (W : World) : Prop := Below w.heap.size w W ∧ W.heap[w.heap.size]? = some (evO evZ) ∧ W.heap[EB]? = some (evO x) ∧ w.heap.size < EB
def Post (w : World) (K : Nat) (G : Nat) (F Z : Nat → Prop) (q : Sq) (x : Ev) (r : List Ev) (e : Ending) (w' : World) : Prop :=
  ∃ tv, e = .returned (.tuple #[evW x, tv, .int .i64 0]) ∧ CRc.Own 224 w.heap.size w' tv (runOf q x).tells ∧ (runOf q x).tells.length ≤ 4 ∧ ∃ F', SqAt (K + 8) w' G F' Z (stepQ q x r) ∧ (∀ b, F' b → F b ∨ w.heap.size ≤ b) ∧ (∀ b, tv.ownBlock = some b → ¬ F' b) ∧ But F w w'
section
variable {w : World} {G : Nat} {F Z : Nat → Prop} {q : Sq} {K : Nat} {x : Ev} {r : List Ev}
set_option maxHeartbeats 8000000 in
set_option maxRecDepth 100000 in
theorem step_any (h : SqAt K w G F Z q) (hK : K ≤ 80000) (hq : q.waits = x :: r) : Calls Tryd.prog 10 #[ptr G] w (Post w K G F Z q x r) := by
  have ht := turn_of h.good (by omega) hq
  have HT := Lib.hid ht
  have HKK := Lib.hid hK
  have HN : Hid (∀ W, Below w.heap.size w W → Calls Tryd.prog 32 #[ptr G] W (SameB false W)) := Lib.hid fun W hb => none_of (h.below hb)
  have HX : Hid (∀ W, Below w.heap.size w W → Calls Tryd.prog 12 #[ptr G] W (NextTo x true W)) := Lib.hid fun W hb => Next_some (h.below hb) (by omega) hq
  have HS := Lib.hid h
  obtain ⟨w0, hw0⟩ : ∃ w0, w0 = w.alloc (evO evZ) := ⟨_, rfl⟩
  have hb0 : Below w.heap.size w w0 := by rw [hw0]; exact (Below.refl _ _).alloc (Nat.le_refl _) _
  have hx0 : w0.heap[w.heap.size]? = some (evO evZ) := by rw [hw0]; exact heap_alloc_new _ _
  have H0 := Lib.hid (And.intro hb0 hx0)
  have HW0 := Lib.hid hw0
  clear ht hb0 hx0 hw0 h
  go_enter Tryd.func10, Tryd.ntmps10
  go_upto_region 1 with fail
  rw [← HW0.out]
  go_upto_region 6 with (first
    | (go_at_call 32; refine (HN.out _ H0.out.1).mono ?_; rintro e1 w1 ⟨rfl, rfl⟩)
    | (go_at_call 12; refine (HX.out _ H0.out.1).mono ?_; rintro e2 w2 ⟨rfl, hb2⟩; have H2 : Hid (Below w.heap.size w w2 ∧ w2.heap[w.heap.size]? = some (evO evZ)) := Lib.hid ⟨H0.out.1.trans (hb2.mono H0.out.1.size), (hb2.block _ (heap_lt H0.out.2)).trans H0.out.2⟩; clear hb2))
  obtain ⟨EB, hEB⟩ : ∃ EB, EB = w2.heap.size := ⟨_, rfl⟩
  obtain ⟨w3, hw3⟩ : ∃ w3, w3 = w2.alloc (evO x) := ⟨_, rfl⟩
  have hb23 : Below w2.heap.size w2 w3 := by rw [hw3]; exact (Below.refl _ _).alloc (Nat.le_refl _) _
  have hb3 : Below w.heap.size w w3 := H2.out.1.trans (hb23.mono H2.out.1.size)
  have hx3 : w3.heap[EB]? = some (evO x) := by rw [hw3, hEB]; exact heap_alloc_new _ _
  have hr3 : w3.heap[w.heap.size]? = some (evO evZ) := (hb23.block _ (heap_lt H2.out.2)).trans H2.out.2
  have hEB2 : w.heap.size < EB := by rw [hEB]; exact heap_lt H2.out.2
  have hEB3 : EB < w3.heap.size := heap_lt hx3
  rw [← hw3, ← hEB]
  have H3 : Hid (Pre w x EB w3) := Lib.hid ⟨hb3, hr3, hx3, hEB2⟩
  obtain ⟨pv, fv, ma, mc, Ms, sa, sc, wa, wcp, mp, rs, hg, hro, hwo, hF, hZ, hZF, hF2, hZ2⟩ := HS.out.below hb3
  obtain ⟨n, hn⟩ : ∃ n, n = q.mo.procs.length := ⟨_, rfl⟩
  obtain ⟨i, hi⟩ : ∃ i, i = plc x := ⟨_, rfl⟩
  have hin : i < n := by rw [hi, hn]; exact HT.out.lt
  obtain ⟨M, a8, n8, c8, hMi, hMC⟩ := hro.ms _ _ HT.out.proc
  have hmA := (hro.mach.at_sl (by have := hro.few; omega)).1
  rw [← hi] at hMi
  rw [← hn] at hmA hwo hro
  have hmc := hmA.cell hin
  obtain ⟨MB, mo, rfl, hMB, M', hM', hmcell⟩ := hmc
  rw [hMi] at hM'
  cases hM'
  have hm0 : w3.cell? ⟨MB, mo + i, none⟩ = some (.pointer (some ⟨M, 0, none⟩)) := by
    have := hmcell 0 (by decide)
    rw [show mo + i * CPt.k + 0 = mo + i from by rw [show CPt.k = 1 from rfl, Nat.mul_one]; rfl] at this
    exact this
  obtain ⟨rr, hrr, hris⟩ := hwo.rs _ _ HT.out.st
  rw [← hi] at hrr
  have hsA := hwo.st.at_ (by rw [hwo.rlen]; have := hro.few; omega)
  rw [hwo.rlen] at hsA
  obtain ⟨SB, so, rfl, hSB, rr', hrr', hscell⟩ := hsA.cell hin
  rw [hrr] at hrr'
  cases hrr'
  have s0 := hscell 0 (by decide)
  have s1 := hscell 1 (by decide)
  have s2 := hscell 2 (by decide)
  have hbx := boxS hwo.box
  obtain ⟨e0, e1, e2, e3, e4, e5⟩ := six_at (ev_box hx3)
  have hst0 : RS w3 G (some ⟨MB, mo, none⟩) n mc (some ⟨SB, so, none⟩) sc MB mo M SB so i rr EB x w3 := ⟨hbx.c2, hm0, hbx.c3, s0, s1, s2, e0, e1, e2, e3, e4, e5, Lib.hid (Below.refl _ _)⟩
  obtain ⟨R, hR⟩ : ∃ R, R = runOf q x := ⟨_, rfl⟩
  have HR : Hid (∀ W, Below w3.heap.size w3 W → Calls Tryd.prog 33 #[.pointer (some ⟨M, 0, none⟩), .agg #[.slice rr.a rr.n rr.c, .int .i64 rr.sent, .int .i64 rr.drawn], evW x] W (RunM W R 0)) := by
    rw [Lib.hid_eq]
    intro W hb
    have hvv := hris.vars
    obtain ⟨hvA, hvn⟩ := hvv.at_sl (by rw [hris.n]; have := hris.few; omega)
    rw [hris.n] at hvA ⊢
    rw [hris.sent, hris.drawn]
    have hmq : (⟨(plc x : Nat) + 1, (q.mo.procs.length : Nat), (procOf q x).seed⟩ : Mch) = mchOf q x := by unfold mchOf; rw [HT.out.self]
    rw [hmq] at hMC
    have hc := mRun_any W M (mchOf q x) (procOf q x).prog a8 n8 c8 (hMC.1.below hb) rr.a rr.c (stOf q x) (hvA.below hb) (by have := hris.few; omega) hvn x
    rw [HT.out.ok] at hc
    rw [hR]
    exact hc.mono fun e w' h => RunTo.run h (by rw [HT.out.vars]; have := hris.few; omega)
  have HQ := Lib.hid (And.intro hg (And.intro hro (And.intro hwo (And.intro hF (And.intro hZ (And.intro hZF (And.intro hF2 hZ2)))))))
  have HI := Lib.hid (And.intro hi (And.intro hn (And.intro hR (And.intro hEB3 hris))))
  have hto : x.to - 1 = (i : Int) := by rw [hi, ← HT.out.self]; omega
  have HTO := Lib.hid hto
  have hn16 : n ≤ 16 := hro.few.2
  have HST := Lib.hid hst0
  have HSTD := Lib.hid (rs_next hst0 ((Below.refl _ _).drew))
  obtain ⟨ra, rn, rc, rsent, rdrawn⟩ := rr
  clear hb23 hb3 hx3 hr3 hEB2 hEB3 hg hro hwo hF hZ hZF hF2 hZ2 hMi hMC hmA hMB hmcell hrr hris hsA hSB hscell hto hR hi hn hw3 hEB H2 HN HX hK hm0 s0 s1 s2 hbx e0 e1 e2 e4 e5
  have hxt : 1 ≤ x.to ∧ x.to ≤ 16 := by have h1 := HT.out.whom; have h2 := HI.out.2.1; omega
  obtain ⟨hxt1, hxt2⟩ := hxt
  go_upto_region 7 with fail
  clear hxt1 hxt2
  clear e3
  rw [HTO.out]
  obtain ⟨q0, q1, q2, q3, q4, q5, q6, q7, q8, q9, q10, q11, q12⟩ := hst0
  clear q12
  have hone : ∀ (a : Option Addr) (n c : Nat), (Value.slice a n c).oneCell' = true := fun _ _ _ => rfl
  go_cut [8, 9] from 26 to 44 (fun s17 s18 wz => R10 w3 R 0 s17 s18 wz)
  case first =>
    obtain ⟨g1, hg1⟩ : ∃ g, w3.heap.size = g := ⟨_, rfl⟩
    have HG1 := Lib.hid hg1
    have HGE : Hid (w3.heap.size ≤ g1) := Lib.hid (by rw [HG1.out]; exact Nat.le_refl _)
    go_region_held3 (fun V => RS w3 G (some ⟨MB, mo, none⟩) n mc (some ⟨SB, so, none⟩) sc MB mo M SB so i ⟨ra, rn, rc, rsent, rdrawn⟩ EB x V) (first | with_reducible exact rs_next HST.out (below_set5 HB9.out HGE.out _ _ _ _ _) | with_reducible exact rs_next HST.out (HB9.out.alloc HB9.out.size _) | with_reducible exact rs_next HST.out HB9.out | with_reducible exact rs_next HST.out ((Below.refl _ _).drew) | with_reducible exact rs_next HST.out (((Below.refl _ _).alloc (Nat.le_refl _) _).drew) | exact rs_next HST.out (((Below.refl _ _).drew).alloc (Nat.le_refl _) _))
      ((go_at_call 33; ((with_reducible refine (HR.out _ ?_).mono ?_)); (first | (with_reducible exact (Below.refl _ _).drew) | (with_reducible exact ((Below.refl _ _).alloc (Nat.le_refl _) _).drew)); rintro e w9 ⟨a1, c1, a2, c2, a3, c3, rfl, hsa, hb0⟩; (first | (have r9 := (hb0.block w3.heap.size (by show w3.heap.size < (w3.alloc _).heap.size; simp)).trans (heap_alloc_new w3 _); rw [HG1.out] at r9; have hb9 : Below w3.heap.size w3 w9 := (((Below.refl w3.heap.size w3).alloc (Nat.le_refl _) _).drew).trans (hb0.mono (by show w3.heap.size ≤ (w3.alloc _).heap.size; simp)); have k0 : w9.cell? ⟨g1, 0, none⟩ = some (.slice none 0 0) := (cell_of_row _ _ _ _ _ _ r9).trans rfl; have k1 : w9.cell? ⟨g1, 1, none⟩ = some (.int .i64 0) := (cell_of_row _ _ _ _ _ _ r9).trans rfl; have k2 : w9.cell? ⟨g1, 2, none⟩ = some (.int .i64 0) := (cell_of_row _ _ _ _ _ _ r9).trans rfl; have k3 : w9.cell? ⟨g1, 3, none⟩ = some (.slice none 0 0) := (cell_of_row _ _ _ _ _ _ r9).trans rfl; have k4 : w9.cell? ⟨g1, 4, none⟩ = some (.slice none 0 0) := (cell_of_row _ _ _ _ _ _ r9).trans rfl; have z0 : w9.frozen? ⟨g1, 0, none⟩ = false := frozen_of_row _ _ _ _ _ r9; have z1 : w9.frozen? ⟨g1, 1, none⟩ = false := frozen_of_row _ _ _ _ _ r9; have z2 : w9.frozen? ⟨g1, 2, none⟩ = false := frozen_of_row _ _ _ _ _ r9; have z3 : w9.frozen? ⟨g1, 3, none⟩ = false := frozen_of_row _ _ _ _ _ r9; have z4 : w9.frozen? ⟨g1, 4, none⟩ = false := frozen_of_row _ _ _ _ _ r9; have HSA := Lib.hid (hsa.mono (B' := w3.heap.size) (by show w3.heap.size ≤ (w3.alloc _).heap.size; simp)); have H9 := Lib.hid r9; clear r9) | (have hb9 : Below w3.heap.size w3 w9 := ((Below.refl w3.heap.size w3).drew).trans (hb0.mono (Nat.le_refl _)); have HSA := Lib.hid (hsa.mono (B' := w3.heap.size) (Nat.le_refl _)))); have HB9 := Lib.hid hb9; clear hsa hb0 hb9))
    all_goals
      clear hg1
      go_wp2_with fail
      go_meet
      case rel => first | exact ⟨_, a1, c1, a2, c2, a3, c3, rfl, rfl, box_behind (Nat.le_refl _) HSA.out HB9.out⟩ | exact ⟨g1, a1, c1, a2, c2, a3, c3, rfl, rfl, box_ahead (Nat.le_refl _) HSA.out HB9.out H9.out HGE.out⟩
  case rest =>
    obtain ⟨w5, hw5⟩ : ∃ w5, w5 = wc := ⟨_, rfl⟩
    rw [← hw5] at hcut ⊢
    clear hw5 wc
    obtain ⟨g, a1, c1, a2, c2, a3, c3, rfl, rfl, hbox⟩ := hcut
    have HBX := Lib.hid hbox
    obtain ⟨hg, hro, hwo, hF, hZ, hZF, hF2, hZ2⟩ := HQ.out
    have hwo5 := hwo.next (S := fun _ => False) (But.of hbox.bel) (fun _ _ e => e.elim) (fun _ _ e => e)
    have hbx := boxS hwo5.box
    obtain ⟨nr, hnr⟩ : ∃ nr, nr = r.length := ⟨_, rfl⟩
    have hwt := hwo5.wt
    rw [hq] at hwt
    have c4 := hbx.c4
    rw [hq, List.length_cons, ← hnr] at c4
    have hcr := hwt.1
    have hcm : wcp ≤ 9223372036854775807 := hwt.2.1
    rw [List.length_cons, ← hnr] at hcr
    obtain ⟨WB, wo, rfl⟩ : ∃ WB wo, wa = some ⟨WB, wo, none⟩ := by
      obtain ⟨h1, _, ⟨e, h0⟩ | ⟨B, pre, post, e, _⟩⟩ := hwt
      · simp at h1; omega
      · exact ⟨B, _, e⟩
    have z4 : w5.frozen? ⟨G, 4, none⟩ = false := frozen_of_row _ _ _ _ _ hwo5.box
    have HR5 := Lib.hid hnr
    have HW5 := Lib.hid (And.intro hwo5 (hro.next (S := fun _ => False) (But.of hbox.bel) (fun _ _ e => e.elim) (fun _ _ e => e)))
    clear hbox hg hro hwo hF hZ hZF hF2 hZ2 hwo5 hwt hbx hnr q0 q1 q2 q3 q4 q5 q6 q7 q8 q9 q10 q11
    go_upto_region 8 with fail
    go_cut [50] from 45 to 52 (fun s50 wz => ∃ a', s50 = .slice a' nr (wcp - 1) ∧ (a' = some ⟨WB, wo + 6, none⟩ ∨ (wcp - 1 = 0 ∧ a' = some ⟨WB, wo, none⟩)) ∧ wz = w5.setCell ⟨G, 4, none⟩ (.slice a' nr (wcp - 1)))
    case first =>
      by_cases hc1 : wcp = 1
      · subst hc1
        obtain rfl : nr = 0 := by omega
        go_wp2_with fail
        go_meet
        case rel => exact ⟨_, rfl, .inr ⟨by trivial, rfl⟩, rfl⟩
      · go_wp2_with fail
        go_meet
        case rel => exact ⟨_, rfl, .inl rfl, rfl⟩
    case rest =>
      obtain ⟨w6, hw6⟩ : ∃ w6, w6 = wc := ⟨_, rfl⟩
      rw [← hw6] at hcut ⊢
      clear hw6 wc
      obtain ⟨a', rfl, ha', hw6⟩ := hcut
      have hwo5 := HW5.out.1
      have hb6 : But (fun b => b = G) w5 w6 := by rw [hw6]; exact (But.refl (fun b => b = G) w5).setCell (p := ⟨G, 4, none⟩) rfl _
      have hG6 := heap_setCell_same w5 G 4 _ _ (.slice a' nr (wcp - 1)) hwo5.box
      rw [← hw6] at hG6
      have cg3 : w6.cell? ⟨G, 3, none⟩ = some (.slice (some ⟨SB, so, none⟩) n sc) := by rw [cell_of_row _ _ _ _ _ _ hG6]; rfl
      have hgG : g ≠ G := fun e => by
        have h1 := HBX.out.row
        rw [e, hwo5.box] at h1
        cases h1
      have hg6 := (hb6.block g (heap_lt HBX.out.row) hgG).trans HBX.out.row
      have g0 : w6.cell? ⟨g, 0, none⟩ = some (.slice a1 R.st.vars.length c1) := by rw [cell_of_row _ _ _ _ _ _ hg6]; rfl
      have g1 : w6.cell? ⟨g, 1, none⟩ = some (.int .i64 R.st.sent) := by rw [cell_of_row _ _ _ _ _ _ hg6]; rfl
      have g2 : w6.cell? ⟨g, 2, none⟩ = some (.int .i64 R.st.drawn) := by rw [cell_of_row _ _ _ _ _ _ hg6]; rfl
      have hst6 : CRs.Mid stT w6 (some ⟨SB, so, none⟩) sc rs := hwo5.st.but hb6 fun b e e2 => blk_box hwo5.st hwo5.box (by decide) (e2 ▸ e)
      obtain ⟨csS, hS6⟩ := mid_ty hst6 ⟨_, rfl, rfl⟩
      have z : ∀ k, w6.frozen? ⟨SB, k, none⟩ = false := fun k => frozen_of_row _ _ _ _ _ hS6
      have z0 := z (so + i * 3)
      have z1 := z (so + i * 3 + 1)
      have z2 := z (so + i * 3 + 2)
      have hsA := hst6.at_ (by rw [hwo5.rlen]; omega)
      rw [hwo5.rlen] at hsA
      obtain ⟨_, _, e, _, rr, _, hscell⟩ := hsA.cell hin
      cases e
      have s0 := hscell 0 (by decide)
      have s1 := hscell 1 (by decide)
      have s2 := hscell 2 (by decide)
      have s0' : w6.cell? ⟨SB, so + i * 3, none⟩ = some (.slice rr.a rr.n rr.c) := s0
      have s1' : w6.cell? ⟨SB, so + i * 3 + 1, none⟩ = some (.int .i64 rr.sent) := s1
      have s2' : w6.cell? ⟨SB, so + i * 3 + 2, none⟩ = some (.int .i64 rr.drawn) := s2
      have H6 := Lib.hid (And.intro hb6 (And.intro hG6 (And.intro hg6 (And.intro hst6 (And.intro ha' hw6)))))
      clear hb6 hG6 hgG hg6 hst6 hS6 z hsA hscell s0 s1 s2 ha' hw6 hwo5 c4 z4
      go_upto_region 9 with fail
      go_cut [60] from 53 to 60 (fun s60 wz => s60 = .pointer (some ⟨SB, so + i * 3, none⟩) ∧ wz = ((w6.drew.setCell ⟨SB, so + i * 3, none⟩ (.slice a1 R.st.vars.length c1)).setCell ⟨SB, so + i * 3 + 1, none⟩ (.int .i64 R.st.sent)).setCell ⟨SB, so + i * 3 + 2, none⟩ (.int .i64 R.st.drawn))
      case first =>
        go_region
        all_goals
          go_wp2_with fail
          go_meet
          case rel => exact ⟨rfl, rfl⟩
      case rest =>
        obtain ⟨w7, hw7⟩ : ∃ w7, w7 = wc := ⟨_, rfl⟩
        rw [← hw7] at hcut ⊢
        clear hw7 wc
        obtain ⟨rfl, hw7⟩ := hcut
        obtain ⟨hg, hro, hwo, hF, hZ, hZF, hF2, hZ2⟩ := HQ.out
        have hI := HI.out
        obtain ⟨hi, hn, hR, hEB3, hris⟩ := hI
        obtain ⟨F7, hS7, hF7, hb57⟩ := ran_at (w := w5) (by rw [← hn]; exact HW5.out.2) (by rw [← hn]; exact HW5.out.1) hF hZ hZF hZ2 HT.out hq (by rw [← hR]; exact HBX.out.st.vars) hris.few HR5.out H6.out.2.2.2.2.1 (w6 := w6) H6.out.2.2.2.2.2 (w7 := w7) (by rw [← hR, ← hi]; exact hw7)
        have hFw : ∀ b, F7 b → b < w.heap.size := fun b e => (HS.out.mty b (hF7 b e)).lt
        obtain ⟨L, hL⟩ : ∃ L, L = R.sends.length := ⟨_, rfl⟩
        have hL4 : L ≤ 4 := by rw [hL]; exact HBX.out.st.hs
        have hgw : ∀ b, w.heap.size ≤ b → b < w5.heap.size → w7.heap[b]? = w5.heap[b]? := fun b h1 h2 => hb57.block b h2 fun e => by
          have h3 : b < w.heap.size := (HS.out.mty b (by rcases e with e | e; exact hF b (.inl e); exact hF b (.inr (.inl ⟨_, rfl, e.symm⟩)))).lt
          omega
        have hpre := H3.out
        have hz5 := HBX.out.bel.size
        have hz3 := hpre.1.size
        have hgrow := (hgw g (by have := HBX.out.new; omega) (heap_lt HBX.out.row)).trans HBX.out.row
        have gs : w7.cell? ⟨g, 3, none⟩ = some (.slice a2 L c2) := by rw [cell_of_row _ _ _ _ _ _ hgrow, hL]; rfl
        have hsend : CEv.Own 45 w3.heap.size w7 (.slice a2 R.sends.length c2) R.sends := by
          refine ⟨HBX.out.st.sends.1, ?_⟩
          rcases HBX.out.st.sends.2 with h2 | ⟨g2, cap, cur, e, hg2, hh, rest⟩
          · exact .inl h2
          · exact .inr ⟨g2, cap, cur, e, hg2, (hgw g2 (by omega) (heap_lt hh)).trans hh, rest⟩
        have htell : CRc.Own 224 w3.heap.size w7 (.slice a3 R.tells.length c3) R.tells := by
          refine ⟨HBX.out.st.tells.1, ?_⟩
          rcases HBX.out.st.tells.2 with h2 | ⟨g2, cap, cur, e, hg2, hh, rest⟩
          · exact .inl h2
          · exact .inr ⟨g2, cap, cur, e, hg2, (hgw g2 (by omega) (heap_lt hh)).trans hh, rest⟩
        have hr7 := (hgw w.heap.size (Nat.le_refl _) (by have := heap_lt hpre.2.1; omega)).trans ((HBX.out.bel.block _ (heap_lt hpre.2.1)).trans hpre.2.1)
        have he7 := (hgw EB (by have := hpre.2.2.2; omega) (by omega)).trans ((HBX.out.bel.block _ hEB3).trans hpre.2.2.1)
        have H7 := Lib.hid (And.intro hS7 (And.intro hF7 (And.intro hFw (And.intro hsend (And.intro htell (And.intro hr7 (And.intro he7 (And.intro hgrow (And.intro hb57 (And.intro hw7 hL))))))))))
        have hz7 := hb57.size
        have HZ : Hid (w.heap.size ≤ w3.heap.size ∧ w3.heap.size ≤ w5.heap.size ∧ w5.heap.size ≤ w7.heap.size ∧ w.heap.size < EB ∧ EB < w3.heap.size ∧ w3.heap.size ≤ g ∧ g < w5.heap.size) := Lib.hid ⟨hz3, hz5, hz7, hpre.2.2.2, hEB3, HBX.out.new, heap_lt HBX.out.row⟩
        clear hg hro hwo hF hZ hZF hF2 hZ2 hi hn hR hEB3 hris hS7 hF7 hFw hgw hpre hz5 hz3 hgrow hsend htell hr7 he7 hb57 hw7 hz7 hL cg3 g0 g1 g2 z0 z1 z2 s0' s1' s2'
        go_wp2_with fail
        go_loopg [64] L (fun kx s64 wr => ∃ k : Nat, s64 = .int .i64 k ∧ k ≤ L ∧ L - k ≤ kx ∧ Aside (∃ Fk, SqAt (K + 4 + k) wr G Fk Z (sentQ q x r k) ∧ (∀ b, Fk b → F7 b ∨ w7.heap.size ≤ b) ∧ But F7 w7 wr))
        case atStart => exact ⟨0, by go_num, Nat.zero_le _, Nat.le_refl _, F7, H7.out.1, fun b e => .inl e, But.refl _ _⟩
        case round =>
          obtain ⟨k, rfl, hkL, hkx, A⟩ := hrel
          obtain ⟨Fk, hSk, hFk, hbk⟩ := A.out
          have HK := Lib.hid (And.intro hSk (And.intro hFk hbk))
          clear A hSk hFk hbk
          have hold : ∀ b, w.heap.size ≤ b → b < w7.heap.size → wr.heap[b]? = w7.heap[b]? := fun b h1 h2 => HK.out.2.2.block b h2 fun e => by have := H7.out.2.2.1 b e; omega
          by_cases hlt : k < L
          · have hsend : CEv.Own 45 w3.heap.size wr (.slice a2 R.sends.length c2) R.sends := by
              have hs := H7.out.2.2.2.1
              have hz := HZ.out
              refine ⟨hs.1, ?_⟩
              rcases hs.2 with h2 | ⟨g2, cap, cur, e, hg2, hh, rest⟩
              · exact .inl h2
              · exact .inr ⟨g2, cap, cur, e, hg2, (hold g2 (by omega) (heap_lt hh)).trans hh, rest⟩
            have hsA := (hsend.at_sl (by have := H7.out.2.2.2.2.2.2.2.2.2.2; omega)).1
            rw [← H7.out.2.2.2.2.2.2.2.2.2.2] at hsA
            obtain ⟨B2, o2, rfl, hB2, y, hy, hc⟩ := hsA.cell hlt
            have hc' : CEv.Cell wr B2 (o2 + k * 6) y := hc
            obtain ⟨d0, d1, d2, d3, d4, d5⟩ := six_at hc'
            have hmy : mayE q.mo.procs.length y = true := by
              have := HT.out.may y
              rw [← HI.out.2.2.1] at this
              exact this (List.mem_of_getElem? hy)
            have HY : Hid (R.sends[k]? = some y) := Lib.hid hy
            have HWT : Hid (∀ W, Below wr.heap.size wr W → Calls Tryd.prog 34 #[ptr G, evW y] W (WaitTo (K + 4 + k) G Fk Z (sentQ q x r k) y W)) := Lib.hid fun W hb => wait_any (HK.out.1.below hb) (by have := HKK.out; omega) y hmy
            have hL64 : L < 1000 := by omega
            clear hsend hsA hB2 hy hc hc' hmy hold
            go_wp2_with (go_at_call 34; refine (HWT.out _ ((Below.refl _ _).alloc (Nat.le_refl _) _)).mono ?_; rintro e9 w9 ⟨rfl, F9, hs9, hf9, hb9⟩; have H9 := Lib.hid (And.intro hs9 (And.intro hf9 hb9)); clear hs9 hf9 hb9)
            go_roundg (L - (k + 1))
            case measure => omega
            case rel =>
              refine ⟨k + 1, by go_num, by omega, Nat.le_refl _, F9, ?_, fun b e => ?_, ?_⟩
              · have h1 := H9.out.1
                rw [sentQ_next (by rw [← HI.out.2.2.1]; exact HY.out)] at h1
                exact h1
              · rcases H9.out.2.1 b e with e | e
                · exact HK.out.2.1 b e
                · have h1 := HK.out.2.2.size
                  have h2 : wr.heap.size ≤ (wr.alloc (evO y)).heap.size := by simp
                  exact .inr (Nat.le_trans h1 (Nat.le_trans h2 e))
              · exact (HK.out.2.2.alloc _).next H9.out.2.2 fun j hj e => by
                  rcases HK.out.2.1 j e with e | e
                  · exact e
                  · omega
          · obtain rfl : k = L := by omega
            have hz := HZ.out
            have hbE := six_at (ev_box ((hold EB (by omega) (by omega)).trans H7.out.2.2.2.2.2.2.1))
            obtain ⟨b0, b1, b2, b3, b4, b5⟩ := hbE
            have hgr := (hold g (by omega) (by omega)).trans H7.out.2.2.2.2.2.2.2.1
            have hrr := (hold w.heap.size (Nat.le_refl _) (by omega)).trans H7.out.2.2.2.2.2.1
            obtain ⟨k6, k7⟩ := HK.out.1.flr
            obtain ⟨csG, hGb, hFG⟩ := HK.out.1.box
            have f6 : wr.frozen? ⟨G, 6, none⟩ = false := frozen_of_row _ _ _ _ _ hGb
            have f7 : wr.frozen? ⟨G, 7, none⟩ = false := frozen_of_row _ _ _ _ _ hGb
            have hdone : (sentQ q x r k).done = q.done := rfl
            have hdK := HS.out.good.lim.2.2
            have hd1 : (q.done : Int) < 100000 := by have := HKK.out; omega
            rw [hdone] at k7
            have HB := Lib.hid (And.intro hgr (And.intro hrr (And.intro hGb (And.intro hFG (And.intro b0 (And.intro b1 (And.intro b2 (And.intro b3 (And.intro b4 b5)))))))))
            clear hold hgr hrr hGb hFG hz hdone hdK b1 b2 b3 b4 b5
            go_upto_region 17 with fail
            obtain ⟨wf, hwf⟩ : ∃ wf, wf = (wr.setCell ⟨G, 6, none⟩ (.int .i64 x.time)).setCell ⟨G, 7, none⟩ (.int .i64 ((q.done : Int) + 1)) := ⟨_, rfl⟩
            rw [← hwf]
            have hbf : But (fun b => b = G) wr wf := by rw [hwf]; exact ((But.refl (fun b => b = G) wr).setCell (p := ⟨G, 6, none⟩) rfl _).setCell (p := ⟨G, 7, none⟩) rfl _
            obtain ⟨hgr, hrr, hGb, hFG, c0, c1', c2', c3', c4, c5⟩ := HB.out
            have hGw : G < w.heap.size := by
              obtain ⟨cs, h1, _⟩ := HS.out.box
              exact heap_lt h1
            have hz := HZ.out
            have kf : ∀ {p : Addr} {v : Value}, w.heap.size ≤ p.block → wr.cell? p = some v → wf.cell? p = some v := fun {p v} hp hc => (World.cell?_of_block (hbf.block p.block (World.block_lt_of_cell? wr _ hc) (by omega))).trans hc
            have d0 := kf (by show w.heap.size ≤ EB; omega) c0
            have d1 := kf (by show w.heap.size ≤ EB; omega) c1'
            have d2 := kf (by show w.heap.size ≤ EB; omega) c2'
            have d3 := kf (by show w.heap.size ≤ EB; omega) c3'
            have d4 := kf (by show w.heap.size ≤ EB; omega) c4
            have d5 := kf (by show w.heap.size ≤ EB; omega) c5
            have g4 : wf.cell? ⟨g, 4, none⟩ = some (.slice a3 R.tells.length c3) := kf (by show w.heap.size ≤ g; omega) (by rw [cell_of_row _ _ _ _ _ _ hgr]; rfl)
            have hRB := (hbf.block w.heap.size (heap_lt hrr) (by omega)).trans hrr
            obtain ⟨RB, hRBe⟩ : ∃ RB, RB = w.heap.size := ⟨_, rfl⟩
            rw [← hRBe] at hRB ⊢
            have r0 : wf.cell? ⟨RB, 0, none⟩ = some (.int .i64 0) := by rw [cell_of_row _ _ _ _ _ _ hRB]; rfl
            have r1 : wf.cell? ⟨RB, 1, none⟩ = some (.int .i64 0) := by rw [cell_of_row _ _ _ _ _ _ hRB]; rfl
            have r2 : wf.cell? ⟨RB, 2, none⟩ = some (.int .i64 0) := by rw [cell_of_row _ _ _ _ _ _ hRB]; rfl
            have r3 : wf.cell? ⟨RB, 3, none⟩ = some (.int .i64 0) := by rw [cell_of_row _ _ _ _ _ _ hRB]; rfl
            have r4 : wf.cell? ⟨RB, 4, none⟩ = some (.int .i64 0) := by rw [cell_of_row _ _ _ _ _ _ hRB]; rfl
            have r5 : wf.cell? ⟨RB, 5, none⟩ = some (.int .i64 0) := by rw [cell_of_row _ _ _ _ _ _ hRB]; rfl
            have z0 : wf.frozen? ⟨RB, 0, none⟩ = false := frozen_of_row _ _ _ _ _ hRB
            have z1 : wf.frozen? ⟨RB, 1, none⟩ = false := frozen_of_row _ _ _ _ _ hRB
            have z2 : wf.frozen? ⟨RB, 2, none⟩ = false := frozen_of_row _ _ _ _ _ hRB
            have z3 : wf.frozen? ⟨RB, 3, none⟩ = false := frozen_of_row _ _ _ _ _ hRB
            have z4 : wf.frozen? ⟨RB, 4, none⟩ = false := frozen_of_row _ _ _ _ _ hRB
            have z5 : wf.frozen? ⟨RB, 5, none⟩ = false := frozen_of_row _ _ _ _ _ hRB
            have hne1 : g ≠ RB := by omega
            have hne2 : RB ≠ g := by omega
            have HF := Lib.hid (And.intro hwf (And.intro hbf (And.intro hRB hRBe)))
            clear hwf hbf hgr hrr hGb hFG c0 c1' c2' c3' c4 c5 hGw hz kf hRB hRBe b0 k6 k7 f6 f7 gs
            go_region
            go_wp2_with fail
            obtain ⟨hwf, hbf, hRB, hRBe⟩ := HF.out
            have hz := HZ.out
            have hR := HI.out.2.2.1
            have hkR : k = (runOf q x).sends.length := by rw [← hR]; exact H7.out.2.2.2.2.2.2.2.2.2.2
            have hbR : But (fun b => b = RB) wf (((((((wf.setCell ⟨RB, 0, none⟩ (.int .i64 x.time)).setCell ⟨RB, 1, none⟩ (.int .i64 x.org)).setCell ⟨RB, 2, none⟩ (.int .i64 x.seq)).setCell ⟨RB, 3, none⟩ (.int .i64 x.to)).setCell ⟨RB, 4, none⟩ (.int .i64 x.kind)).setCell ⟨RB, 5, none⟩ (.int .i64 x.data)).drew) := (but6 wf RB _ _ _ _ _ _).drew
            have hGw : G < w.heap.size := by
              obtain ⟨cs, h1, _⟩ := HS.out.box
              exact heap_lt h1
            have hFk : ∀ b, Fk b → b < w.heap.size ∨ w7.heap.size ≤ b := fun b e => (HK.out.2.1 b e).imp (H7.out.2.2.1 b) id
            have htl := H7.out.2.2.2.2.1
            have htb : ∀ b, (Value.slice a3 R.tells.length c3).ownBlock = some b → w3.heap.size ≤ b ∧ b < w7.heap.size := fun b e => htl.lt b e
            have hfin := fin_at HK.out.1 x.time (show q.done + 1 ≤ K + 4 + k by have := HS.out.good.lim.2.2; omega)
            have hfin2 : SqAt (K + 4 + k) wf G Fk Z (stepQ q x r) := by
              rw [hwf, ← sentQ_all, ← hkR]
              exact hfin
            have hfin3 := (hfin2.but hbR (fun b _ e => by rw [e]; exact .inl ⟨_, _, _, hRB, .inr (.inr rfl)⟩) (fun b e e2 => by rcases hFk b e with h | h <;> omega) (fun b e e2 => by have := HS.out.zlt b e; omega)).mono (show K + 4 + k ≤ K + 8 by omega)
            refine ⟨rfl, _, results_three rfl _ _ RB 45 _ (0, 0) _ rfl (put6 hRB _ _ _ _ _ _) Tryd.underlying45 rfl szE, _, rfl, ?_, by rw [← hR]; exact HBX.out.st.ht, Fk, hfin3, fun b e => ?_, fun b e e2 => ?_, ?_⟩
            · rw [← hR]
              exact (((htl.but HK.out.2.2 fun b e e2 => by have := htb b e; have := H7.out.2.2.1 b e2; omega).but hbf fun b e e2 => by have := htb b e; omega).but hbR fun b e e2 => by have := htb b e; omega).mono hz.1
            · rcases HK.out.2.1 b e with h | h
              · exact .inl (H7.out.2.1 b h)
              · exact .inr (by omega)
            · have := htb b e
              rcases hFk b e2 with h | h <;> omega
            · have h5 : But F w w5 := But.of (H3.out.1.trans (HBX.out.bel.mono H3.out.1.size))
              have h7 := h5.next H7.out.2.2.2.2.2.2.2.2.1 fun j _ e => by
                rcases e with e | e
                · exact HQ.out.2.2.2.1 j (.inl e)
                · exact HQ.out.2.2.2.1 j (.inr (.inl ⟨_, rfl, e.symm⟩))
              exact ((h7.next HK.out.2.2 fun j _ e => H7.out.2.1 j e).next hbf fun j _ e => HQ.out.2.2.2.1 j (.inl e)).next hbR fun j hj e => by omega
end
end Go.Proofs.YthhpoihfaggafaaDoor
