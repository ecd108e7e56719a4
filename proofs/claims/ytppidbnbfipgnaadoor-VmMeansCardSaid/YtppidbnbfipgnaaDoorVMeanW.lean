/-
  The walk of the law VmMeans: where the law looks.
-/
import Derived.Test.YtppidbnbfipgnaaDoorVMeanM
import Derived.Test.YtppidbnbfipgnaaDoorVKnown
import Derived.IntWalk
namespace Go.Proofs.YtppidbnbfipgnaaDoor
open Go Go.RowKit Go.Sort Go.Proofs CodM VmM

theorem small_of_may {n : Nat} {p : Prg} {m : Mch} (h : rmayV n p m = 0) : CodM.may n p = true ∧ (1 ≤ m.procs ∧ m.procs ≤ 16) ∧ 1 ≤ m.self ∧ m.self ≤ m.procs := by
  unfold rmayV at h
  cases hc : CodM.may n p with
  | false => rw [hc, if_pos rfl] at h; cases h
  | true =>
    rw [hc, if_neg (by simp)] at h
    by_cases h2 : m.procs < 1 ∨ 16 < m.procs ∨ m.self < 1 ∨ m.procs < m.self
    · rw [if_pos h2] at h; cases h
    · exact ⟨rfl, by omega, by omega, by omega⟩
/-- what holds from round to round -/
structure MeanAt (w wr : World) (b : Nat) (M : Nat) (m : Mch) (p : Prg) (a : Option Addr) (n c : Nat) (va : Option Addr) (vc : Nat) (s : Ps) (k : Nat) : Prop where
  bel : Below w.heap.size w wr
  mch : MCop wr M m p a n c
  st : SAt wr b va vc s
  vars : (s.vars.length : Int) = p.vars
  sent : 0 ≤ s.sent ∧ s.sent ≤ 1099511627776 + 4 * k
  drawn : 0 ≤ s.drawn ∧ s.drawn ≤ 1099511627776 + 256 * k
abbrev MS (wr : World) (b : Nat) (va : Option Addr) (vn vc : Nat) (sent drawn : Int) (B o : Nat) (x : Ev) (V : World) : Prop :=
  V.cell? ⟨b, 0, none⟩ = some (.slice va vn vc) ∧ V.cell? ⟨b, 1, none⟩ = some (.int .i64 sent) ∧ V.cell? ⟨b, 2, none⟩ = some (.int .i64 drawn) ∧ V.cell? ⟨B, o, none⟩ = some (.int .i64 x.time) ∧ V.cell? ⟨B, o + 1, none⟩ = some (.int .i64 x.org) ∧ V.cell? ⟨B, o + 2, none⟩ = some (.int .i64 x.seq) ∧ V.cell? ⟨B, o + 3, none⟩ = some (.int .i64 x.to) ∧ V.cell? ⟨B, o + 4, none⟩ = some (.int .i64 x.kind) ∧ V.cell? ⟨B, o + 5, none⟩ = some (.int .i64 x.data) ∧ Hid (Below wr.heap.size wr V)
theorem ms_next {wr : World} {b : Nat} {va : Option Addr} {vn vc : Nat} {sent drawn : Int} {B o : Nat} {x : Ev} {W W' : World} (h : MS wr b va vn vc sent drawn B o x W) (hb : Below W.heap.size W W') : MS wr b va vn vc sent drawn B o x W' := by
  obtain ⟨h0, h1, h2, h3, h4, h5, h6, h7, h8, h9⟩ := h
  exact ⟨keepc hb h0, keepc hb h1, keepc hb h2, keepc hb h3, keepc hb h4, keepc hb h5, keepc hb h6, keepc hb h7, keepc hb h8, Lib.hid (h9.out.trans (hb.mono h9.out.size))⟩
theorem below_set5 {B : Nat} {w w' : World} (h : Below B w w') {g : Nat} (hg : B ≤ g) (a b c d e : Value) : Below B w (((((w'.setCell ⟨g, 0, none⟩ a).setCell ⟨g, 1, none⟩ b).setCell ⟨g, 2, none⟩ c).setCell ⟨g, 3, none⟩ d).setCell ⟨g, 4, none⟩ e) :=
  ((((h.setCell (p := ⟨g, 0, none⟩) hg a).setCell (p := ⟨g, 1, none⟩) hg b).setCell (p := ⟨g, 2, none⟩) hg c).setCell (p := ⟨g, 3, none⟩) hg d).setCell (p := ⟨g, 4, none⟩) hg e
theorem row_fz {w : World} {g : Nat} {cs : Array Value} {t : TypeId} (h : w.heap[g]? = some (.cells cs t (0, 0))) (v0 v1 v2 v3 : Value) :
    (((w.setCell ⟨g, 0, none⟩ v0).setCell ⟨g, 1, none⟩ v1).setCell ⟨g, 2, none⟩ v2).frozen? ⟨g, 3, none⟩ = false ∧ ((((w.setCell ⟨g, 0, none⟩ v0).setCell ⟨g, 1, none⟩ v1).setCell ⟨g, 2, none⟩ v2).setCell ⟨g, 3, none⟩ v3).frozen? ⟨g, 4, none⟩ = false := by
  have h1 := heap_setCell_same w g 0 cs t v0 h
  have h2 := heap_setCell_same _ g 1 _ t v1 h1
  have h3 := heap_setCell_same _ g 2 _ t v2 h2
  have h4 := heap_setCell_same _ g 3 _ t v3 h3
  exact ⟨frozen_of_row _ _ _ _ _ h3, frozen_of_row _ _ _ _ _ h4⟩
/-- a step in its box -/
structure BoxAt (wr : World) (g : Nat) (R : Stp) (a1 : Option Addr) (c1 : Nat) (a2 : Option Addr) (c2 : Nat) (a3 : Option Addr) (c3 : Nat) (W : World) : Prop where
  row : W.heap[g]? = some (.cells #[.slice a1 R.st.vars.length c1, .int .i64 R.st.sent, .int .i64 R.st.drawn, .slice a2 R.sends.length c2, .slice a3 R.tells.length c3] 46 (0, 0))
  st : StepAt wr.heap.size W R (.slice a1 R.st.vars.length c1) (.slice a2 R.sends.length c2) (.slice a3 R.tells.length c3)
  new : wr.heap.size ≤ g
  bel : Below wr.heap.size wr W
def R10 (wr : World) (R : Stp) (cd : Int) (s17 s18 : Value) (W : World) : Prop := ∃ g a1 c1 a2 c2 a3 c3, s17 = .pointer (some ⟨g, 0, none⟩) ∧ s18 = .int .i64 cd ∧ BoxAt wr g R a1 c1 a2 c2 a3 c3 W
theorem StepAt.mono {B B' : Nat} {w : World} {R : Stp} {vv sv tv : Value} (h : StepAt B w R vv sv tv) (hB : B' ≤ B) : StepAt B' w R vv sv tv := ⟨h.vars.mono hB, h.sends.mono hB, h.tells.mono hB, h.hs, h.ht⟩
theorem StepAt.box {B g : Nat} {w w' : World} {R : Stp} {vv sv tv : Value} (h : StepAt B w R vv sv tv) {cs : Array Value} (hg : w.heap[g]? = some (.cells cs 46 (0, 0))) (hb : But (fun k => k = g) w w') : StepAt B w' R vv sv tv :=
  ⟨h.vars.but hb (fun b e => by obtain ⟨cur, hc⟩ := h.vars.typ e; exact ne_types hc hg (by decide)),
   h.sends.but hb (fun b e => by obtain ⟨cur, hc⟩ := h.sends.typ e; exact ne_types hc hg (by decide)),
   h.tells.but hb (fun b e => by obtain ⟨cur, hc⟩ := h.tells.typ e; exact ne_types hc hg (by decide)), h.hs, h.ht⟩
theorem put5 {w : World} {M : Nat} {T : TypeId} {x0 x1 x2 x3 x4 : Value} (h : w.heap[M]? = some (.cells #[x0, x1, x2, x3, x4] T (0, 0))) (v0 v1 v2 v3 v4 : Value) :
    (((((w.setCell ⟨M, 0, none⟩ v0).setCell ⟨M, 1, none⟩ v1).setCell ⟨M, 2, none⟩ v2).setCell ⟨M, 3, none⟩ v3).setCell ⟨M, 4, none⟩ v4).heap[M]? = some (.cells #[v0, v1, v2, v3, v4] T (0, 0)) := by
  have h1 := heap_setCell_same w M 0 _ T v0 h
  have h2 := heap_setCell_same _ M 1 _ T v1 h1
  have h3 := heap_setCell_same _ M 2 _ T v2 h2
  have h4 := heap_setCell_same _ M 3 _ T v3 h3
  have h5 := heap_setCell_same _ M 4 _ T v4 h4
  exact h5
theorem but5 (w : World) (M : Nat) (v0 v1 v2 v3 v4 : Value) : But (fun k => k = M) w (((((w.setCell ⟨M, 0, none⟩ v0).setCell ⟨M, 1, none⟩ v1).setCell ⟨M, 2, none⟩ v2).setCell ⟨M, 3, none⟩ v3).setCell ⟨M, 4, none⟩ v4) :=
  (((((But.refl (fun k => k = M) w).setCell (p := ⟨M, 0, none⟩) rfl v0).setCell (p := ⟨M, 1, none⟩) rfl v1).setCell (p := ⟨M, 2, none⟩) rfl v2).setCell (p := ⟨M, 3, none⟩) rfl v3).setCell (p := ⟨M, 4, none⟩) rfl v4
theorem BoxAt.below {wr : World} {g : Nat} {R : Stp} {a1 a2 a3 : Option Addr} {c1 c2 c3 : Nat} {W W' : World} (h : BoxAt wr g R a1 c1 a2 c2 a3 c3 W) (hb : Below W.heap.size W W') : BoxAt wr g R a1 c1 a2 c2 a3 c3 W' :=
  ⟨(hb.block _ (heap_lt h.row)).trans h.row, h.st.below hb, h.new, h.bel.trans (hb.mono h.bel.size)⟩
theorem MS.here {wr : World} {b : Nat} {va : Option Addr} {vn vc : Nat} {sent drawn : Int} {B o : Nat} {x : Ev} {W : World} (h : MS wr b va vn vc sent drawn B o x W) : MS W b va vn vc sent drawn B o x W := by
  obtain ⟨h0, h1, h2, h3, h4, h5, h6, h7, h8, _⟩ := h
  exact ⟨h0, h1, h2, h3, h4, h5, h6, h7, h8, Lib.hid (Below.refl _ _)⟩
theorem put3 {w : World} {M : Nat} {T : TypeId} {x0 x1 x2 : Value} (h : w.heap[M]? = some (.cells #[x0, x1, x2] T (0, 0))) (v0 v1 v2 : Value) :
    (((w.setCell ⟨M, 0, none⟩ v0).setCell ⟨M, 1, none⟩ v1).setCell ⟨M, 2, none⟩ v2).heap[M]? = some (.cells #[v0, v1, v2] T (0, 0)) := by
  have h1 := heap_setCell_same w M 0 _ T v0 h
  have h2 := heap_setCell_same _ M 1 _ T v1 h1
  have h3 := heap_setCell_same _ M 2 _ T v2 h2
  exact h3
theorem but3 (w : World) (M : Nat) (v0 v1 v2 : Value) : But (fun k => k = M) w (((w.setCell ⟨M, 0, none⟩ v0).setCell ⟨M, 1, none⟩ v1).setCell ⟨M, 2, none⟩ v2) :=
  (((But.refl (fun k => k = M) w).setCell (p := ⟨M, 0, none⟩) rfl v0).setCell (p := ⟨M, 1, none⟩) rfl v1).setCell (p := ⟨M, 2, none⟩) rfl v2
theorem MeanAt.next {w wr W : World} {b M : Nat} {m : Mch} {p : Prg} {a : Option Addr} {n c : Nat} {va : Option Addr} {vc : Nat} {s : Ps} {k : Nat} (h : MeanAt w wr b M m p a n c va vc s k) (hb : Below wr.heap.size wr W) : MeanAt w W b M m p a n c va vc s (k + 1) :=
  ⟨h.bel.trans (hb.mono h.bel.size), h.mch.below hb, h.st.below hb, h.vars, ⟨h.sent.1, by have := h.sent.2; omega⟩, ⟨h.drawn.1, by have := h.drawn.2; omega⟩⟩
/-- behind a round that went through -/
theorem MeanAt.put {w wr wm : World} {b M : Nat} {m : Mch} {p : Prg} {a : Option Addr} {n c : Nat} {va : Option Addr} {vc : Nat} {s : Ps} {k : Nat} (h : MeanAt w wr b M m p a n c va vc s k) (hb : Below wr.heap.size wr wm) (hw : w.heap.size ≤ b) {R : Stp} {g : Nat} {a1 a2 a3 : Option Addr} {c1 c2 c3 : Nat} (hx : BoxAt wr g R a1 c1 a2 c2 a3 c3 wm)
    (hv : R.st.vars.length = s.vars.length) (hl : R.st.vars.length ≤ 1000) (hs : s.sent ≤ R.st.sent ∧ R.st.sent ≤ s.sent + 4) (hd : s.drawn ≤ R.st.drawn ∧ R.st.drawn ≤ s.drawn + 256) :
    MeanAt w (((wm.setCell ⟨b, 0, none⟩ (.slice a1 R.st.vars.length c1)).setCell ⟨b, 1, none⟩ (.int .i64 R.st.sent)).setCell ⟨b, 2, none⟩ (.int .i64 R.st.drawn)) b M m p a n c a1 c1 R.st (k + 1) := by
  have h1 := h.next hb
  have hbt := but3 wm b (.slice a1 R.st.vars.length c1) (.int .i64 R.st.sent) (.int .i64 R.st.drawn)
  have h0 := h.sent
  have h2 := h.drawn
  exact ⟨h1.bel.trans (hbt.below h1.bel.size fun i hi => by omega), h1.mch.but h1.st.box hbt, h1.st.put hx.st hl hbt rfl (put3 h1.st.box _ _ _), by rw [hv]; exact h.vars, ⟨by omega, by omega⟩, ⟨by omega, by omega⟩⟩
/-- the box is laid behind the call, or ahead of it -/
theorem box_behind {wr w9 : World} {R : Stp} {a1 a2 a3 : Option Addr} {c1 c2 c3 : Nat} {B : Nat} (hB : wr.heap.size ≤ B) (hs : StepAt B w9 R (.slice a1 R.st.vars.length c1) (.slice a2 R.sends.length c2) (.slice a3 R.tells.length c3)) (hb : Below wr.heap.size wr w9) :
    BoxAt wr w9.heap.size R a1 c1 a2 c2 a3 c3 (w9.alloc (.cells #[.slice a1 R.st.vars.length c1, .int .i64 R.st.sent, .int .i64 R.st.drawn, .slice a2 R.sends.length c2, .slice a3 R.tells.length c3] 46)) :=
  ⟨heap_alloc_new _ _, (hs.mono hB).below ((Below.refl _ _).alloc (Nat.le_refl _) _), hb.size, hb.alloc hb.size _⟩
theorem box_ahead {wr w9 : World} {R : Stp} {a1 a2 a3 : Option Addr} {c1 c2 c3 : Nat} {B g : Nat} (hB : wr.heap.size ≤ B) (hs : StepAt B w9 R (.slice a1 R.st.vars.length c1) (.slice a2 R.sends.length c2) (.slice a3 R.tells.length c3)) (hb : Below wr.heap.size wr w9)
    (hr : w9.heap[g]? = some (.cells stepZ 46 (0, 0))) (hg : wr.heap.size ≤ g) :
    BoxAt wr g R a1 c1 a2 c2 a3 c3 (((((w9.setCell ⟨g, 0, none⟩ (.slice a1 R.st.vars.length c1)).setCell ⟨g, 1, none⟩ (.int .i64 R.st.sent)).setCell ⟨g, 2, none⟩ (.int .i64 R.st.drawn)).setCell ⟨g, 3, none⟩ (.slice a2 R.sends.length c2)).setCell ⟨g, 4, none⟩ (.slice a3 R.tells.length c3)) :=
  ⟨put5 hr _ _ _ _ _, (hs.mono hB).box hr (but5 _ _ _ _ _ _ _), hg, below_set5 hb hg _ _ _ _ _⟩
def MeanRel (w : World) (b : Nat) (M : Nat) (m : Mch) (p : Prg) (a : Option Addr) (n c L : Nat) (i : Value) (wr : World) : Prop := ∃ (k : Nat) (va : Option Addr) (vc : Nat) (s : Ps), k ≤ L ∧ i = .int .i64 k ∧ MeanAt w wr b M m p a n c va vc s k
/-- a run's answer -/
def RunM (W : World) (R : Stp) (cd : Int) (e : Ending) (w' : World) : Prop := ∃ a1 c1 a2 c2 a3 c3, e = .returned (.tuple #[.agg #[.slice a1 R.st.vars.length c1, .int .i64 R.st.sent, .int .i64 R.st.drawn, .slice a2 R.sends.length c2, .slice a3 R.tells.length c3], .int .i64 cd]) ∧ StepAt W.heap.size w' R (.slice a1 R.st.vars.length c1) (.slice a2 R.sends.length c2) (.slice a3 R.tells.length c3) ∧ Below W.heap.size W w'
theorem RunTo.m {W : World} {ok : Bool} {R : Stp} {e : Ending} {w' : World} (h : RunTo W ok R e w') (hl : R.st.vars.length ≤ 1000) : RunM W (okS ok R) (if ok = true then 0 else 2) e w' := by
  obtain ⟨hb, vv, sv, tv, he, hs⟩ := h.one
  have hl2 : (okS ok R).st.vars.length ≤ 1000 := by
    unfold okS
    cases ok with
    | true => exact hl
    | false => exact Nat.zero_le _
  obtain ⟨a1, c1, rfl, _⟩ := CV.own_at hs.vars hl2
  obtain ⟨a2, c2, rfl, _⟩ := CEv.own_at hs.sends hs.hs
  obtain ⟨a3, c3, rfl, _⟩ := CRc.own_at hs.tells hs.ht
  exact ⟨a1, c1, a2, c2, a3, c3, he, hs, hb⟩

set_option maxHeartbeats 40000000 in
set_option maxRecDepth 100000 in
theorem means_main (w : World) (hW : Wds w) (p : Prg) (a : Option Addr) (n c : Nat) (hp : ProgAt w a n p) (ha : SlOk a n c) (m : Mch) (va : Option Addr) (vc : Nat) (s : Ps) (hv : CV.At w va s.vars.length s.vars) (hnil : va = none → vc = 0) (ea : Option Addr) (ec : Nat) (l : List Ev) (he : CEv.At w ea l.length l)
    (k1 : muchR p = false) (k2 : s.vars.length ≤ 20) (k3 : l.length ≤ 30) (k4 : rmayV n p m = 0) (k5 : (s.vars.length : Int) = p.vars ∧ 0 ≤ s.sent ∧ 0 ≤ s.drawn) (k6 : s.sent ≤ 1099511627776) (k7 : s.drawn ≤ 1099511627776) :
    Calls Tryd.prog 4 #[.agg #[.int .i64 p.vars, .slice a n c], .int .i64 m.self, .int .i64 m.procs, .int .i64 m.seed, stV va s.vars.length vc s.sent s.drawn, .slice ea l.length ec] w (TellsBB true w) := by
  have hmy := small_of_may k4
  have HM : Hid (∀ W, Below w.heap.size w W → Calls Tryd.prog 6 #[.agg #[.int .i64 p.vars, .slice a n c]] W (TellsBB false W)) := Lib.hid fun W hb => k1 ▸ rmuch_any W a n c p ⟨hp.1, hp.2.below hb (Nat.le_refl _)⟩
  have HY : Hid (∀ W, Below w.heap.size w W → Calls Tryd.prog 9 #[.agg (mcC p.vars a n c m)] W (fun e w' => e = .returned (.int .i64 0) ∧ Below W.heap.size W w')) := Lib.hid fun W hb => k4 ▸ rMay8_any W a n c p m ⟨hp.1, hp.2.below hb (Nat.le_refl _)⟩
  have HI : Hid (∀ W, Below w.heap.size w W → Calls Tryd.prog 12 #[.agg (mcC p.vars a n c m), stV va s.vars.length vc s.sent s.drawn] W (fun e w' => e = .returned (.bool true) ∧ Below W.heap.size W w')) := Lib.hid fun W _ => (decide_eq_true k5) ▸ rIs_any W p.vars a n c m va s.vars.length vc s.sent s.drawn
  have HK : Hid (∀ W, Below w.heap.size w W → Calls Tryd.prog 7 #[] W (TellsBB true W)) := Lib.hid fun W hb => known_any W (hW.next hb (Nat.le_refl _))
  have HN : Hid (∀ W, Below w.heap.size w W → Calls Tryd.prog 8 #[.agg #[.int .i64 p.vars, .slice a n c], .int .i64 m.self, .int .i64 m.procs, .int .i64 m.seed] W (MadeC W m p)) := Lib.hid fun W hb => New_cop W p a n c (hW.next hb (Nat.le_refl _)) ⟨hp.1, hp.2.below hb (Nat.le_refl _)⟩ ha (by rw [show codeNk p = (n : Int) from by show ((p.kinds.length : Nat) : Int) = n; rw [hp.2.1]]; exact hmy.1) m hmy.2.1 hmy.2.2
  have HE : Hid (CEv.At w ea l.length l) := Lib.hid he
  have HS : Hid (∀ W b, Below w.heap.size w W → W.heap[b]? = some (.cells (stC va s.vars.length vc s.sent s.drawn) 27 (0, 0)) → SAt W b va vc s) := Lib.hid fun W b hb hx => ⟨hx, hv.below hb, hnil⟩
  have H5 := Lib.hid k5
  have HQ : Hid (s.vars.length ≤ 20) := Lib.hid k2
  clear hW hp ha hv hnil he k1 k4 hmy
  obtain ⟨L, hL⟩ : ∃ L, L = l.length := ⟨_, rfl⟩
  obtain ⟨vn, hvn⟩ : ∃ vn, vn = s.vars.length := ⟨_, rfl⟩
  obtain ⟨pv, hpv⟩ : ∃ pv, pv = p.vars := ⟨_, rfl⟩
  obtain ⟨sent, hsent⟩ : ∃ x, x = s.sent := ⟨_, rfl⟩
  obtain ⟨drawn, hdrawn⟩ : ∃ x, x = s.drawn := ⟨_, rfl⟩
  obtain ⟨self, hself⟩ : ∃ x, x = m.self := ⟨_, rfl⟩
  obtain ⟨procs, hprocs⟩ : ∃ x, x = m.procs := ⟨_, rfl⟩
  obtain ⟨seed, hseed⟩ : ∃ x, x = m.seed := ⟨_, rfl⟩
  have hmc : mcC p.vars a n c m = #[.int .i64 pv, .slice a n c, .int .i64 self, .int .i64 procs, .int .i64 seed] := by rw [hpv, hself, hprocs, hseed]
  rw [hmc] at HY HI
  rw [← hvn, ← hsent, ← hdrawn] at HI HS
  rw [← hpv] at HM
  rw [← hpv, ← hself, ← hprocs, ← hseed] at HN
  rw [← hL, ← hvn, ← hpv, ← hsent, ← hdrawn, ← hself, ← hprocs, ← hseed]
  rw [← hL] at HE k3
  rw [← hvn] at k2
  rw [← hsent] at k6
  rw [← hdrawn] at k7
  have HEQ := Lib.hid (And.intro hself hprocs)
  have HSE := Lib.hid (And.intro hsent hdrawn)
  have HVN := Lib.hid hvn
  clear hL hvn hpv hsent hdrawn hself hprocs hseed hmc k5
  go_enter Tryd.func4, Tryd.ntmps4
  go_upto_region 2 with fail
  obtain ⟨wb, hwb⟩ : ∃ wb, wb = ((w.alloc (.cells #[.int .i64 pv, .slice a n c] 24)).alloc (.cells #[.slice va vn vc, .int .i64 sent, .int .i64 drawn] 27)).alloc (.cells #[.int .i64 pv, .slice a n c, .int .i64 self, .int .i64 procs, .int .i64 seed] 39) := ⟨_, rfl⟩
  have hb0 : Below w.heap.size w wb := by rw [hwb]; exact (((Below.refl _ _).alloc (Nat.le_refl _) _).alloc (by simp) _).alloc (by simp; omega) _
  have z1 : ∀ o : Obj, (w.alloc o).heap.size = w.heap.size + 1 := fun o => by simp
  have z2 : ∀ o p : Obj, ((w.alloc o).alloc p).heap.size = w.heap.size + 1 + 1 := fun o p => by simp
  have x0 : wb.heap[w.heap.size]? = some (.cells #[.int .i64 pv, .slice a n c] 24 (0, 0)) := by
    rw [hwb, heap_alloc_old _ _ (by rw [z2]; omega), heap_alloc_old _ _ (by rw [z1]; omega), heap_alloc_new]
  have x1 : wb.heap[w.heap.size + 1]? = some (.cells #[.slice va vn vc, .int .i64 sent, .int .i64 drawn] 27 (0, 0)) := by
    rw [hwb, heap_alloc_old _ _ (by rw [z2]; omega), ← z1, heap_alloc_new]
  have x2 : wb.heap[w.heap.size + 1 + 1]? = some (.cells #[.int .i64 pv, .slice a n c, .int .i64 self, .int .i64 procs, .int .i64 seed] 39 (0, 0)) := by
    rw [hwb, ← z2, heap_alloc_new]
  have f0 : wb.cell? ⟨w.heap.size, 0, none⟩ = some (.int .i64 pv) := by rw [cell_of_row _ _ _ _ _ _ x0]; rfl
  have f1 : wb.cell? ⟨w.heap.size, 1, none⟩ = some (.slice a n c) := by rw [cell_of_row _ _ _ _ _ _ x0]; rfl
  have g0 : wb.cell? ⟨w.heap.size + 1, 0, none⟩ = some (.slice va vn vc) := by rw [cell_of_row _ _ _ _ _ _ x1]; rfl
  have g1 : wb.cell? ⟨w.heap.size + 1, 1, none⟩ = some (.int .i64 sent) := by rw [cell_of_row _ _ _ _ _ _ x1]; rfl
  have g2 : wb.cell? ⟨w.heap.size + 1, 2, none⟩ = some (.int .i64 drawn) := by rw [cell_of_row _ _ _ _ _ _ x1]; rfl
  have h0 : wb.cell? ⟨w.heap.size + 1 + 1, 0, none⟩ = some (.int .i64 pv) := by rw [cell_of_row _ _ _ _ _ _ x2]; rfl
  have h1 : wb.cell? ⟨w.heap.size + 1 + 1, 1, none⟩ = some (.slice a n c) := by rw [cell_of_row _ _ _ _ _ _ x2]; rfl
  have h2 : wb.cell? ⟨w.heap.size + 1 + 1, 2, none⟩ = some (.int .i64 self) := by rw [cell_of_row _ _ _ _ _ _ x2]; rfl
  have h3 : wb.cell? ⟨w.heap.size + 1 + 1, 3, none⟩ = some (.int .i64 procs) := by rw [cell_of_row _ _ _ _ _ _ x2]; rfl
  have h4 : wb.cell? ⟨w.heap.size + 1 + 1, 4, none⟩ = some (.int .i64 seed) := by rw [cell_of_row _ _ _ _ _ _ x2]; rfl
  have HB := Lib.hid hb0
  have HX1 := Lib.hid x1
  rw [← hwb]
  clear hwb hb0 z1 z2 x0 x1 x2
  go_wp2_with (first
    | (go_at_call 6; refine (HM.out _ HB.out).mono ?_; rintro e5 w5 ⟨rfl, hb5⟩; replace f0 := keepc hb5 f0; replace f1 := keepc hb5 f1; replace g0 := keepc hb5 g0; replace g1 := keepc hb5 g1; replace g2 := keepc hb5 g2; replace h0 := keepc hb5 h0; replace h1 := keepc hb5 h1; replace h2 := keepc hb5 h2; replace h3 := keepc hb5 h3; replace h4 := keepc hb5 h4; have HB5 := Lib.hid (HB.out.trans (hb5.mono HB.out.size)); have HC5 := Lib.hid hb5; clear hb5)
    | (go_at_call 9; refine (HY.out _ HB5.out).mono ?_; rintro e6 w6 ⟨rfl, hb6⟩; replace f0 := keepc hb6 f0; replace f1 := keepc hb6 f1; replace g0 := keepc hb6 g0; replace g1 := keepc hb6 g1; replace g2 := keepc hb6 g2; replace h0 := keepc hb6 h0; replace h1 := keepc hb6 h1; replace h2 := keepc hb6 h2; replace h3 := keepc hb6 h3; replace h4 := keepc hb6 h4; have HB6 := Lib.hid (HB5.out.trans (hb6.mono HB5.out.size)); have HC6 := Lib.hid (HC5.out.trans (hb6.mono HC5.out.size)); clear hb6)
    | (go_at_call 12; refine (HI.out _ HB6.out).mono ?_; rintro e7 w7 ⟨rfl, hb7⟩; replace f0 := keepc hb7 f0; replace f1 := keepc hb7 f1; replace g0 := keepc hb7 g0; replace g1 := keepc hb7 g1; replace g2 := keepc hb7 g2; replace h0 := keepc hb7 h0; replace h1 := keepc hb7 h1; replace h2 := keepc hb7 h2; replace h3 := keepc hb7 h3; replace h4 := keepc hb7 h4; have HB7 := Lib.hid (HB6.out.trans (hb7.mono HB6.out.size)); have HC7 := Lib.hid (HC6.out.trans (hb7.mono HC6.out.size)); clear hb7)
    | (go_at_call 8; refine (HN.out _ HB7.out).mono ?_; rintro e8 w8 ⟨M, a8, n8, c8, rfl, hm8, hc8, hb8⟩; have HB8 := Lib.hid (And.intro (HB7.out.trans (hb8.mono HB7.out.size)) (HC7.out.trans (hb8.mono HC7.out.size))); have HMC := Lib.hid (And.intro hm8 hc8); clear hb8 hm8 hc8))
  obtain ⟨b, hb⟩ : ∃ b, b = w.heap.size + 1 := ⟨_, rfl⟩
  rw [← hb] at HX1 ⊢
  have HMA : Hid (MeanAt w w8 b M m p a8 n8 c8 va vc s 0) := Lib.hid ⟨HB8.out.1, HMC.out, HS.out w8 b HB8.out.1 ((HB8.out.2.block _ (heap_lt HX1.out)).trans HX1.out), H5.out.1, ⟨H5.out.2.1, by have := HSE.out.1; omega⟩, ⟨H5.out.2.2, by have := HSE.out.2; omega⟩⟩
  have HBW : Hid (w.heap.size ≤ b) := Lib.hid (by omega)
  have HP20 : Hid (p.vars ≤ 20) := Lib.hid (by have := H5.out.1; have := HQ.out; omega)
  clear f0 f1 g0 g1 g2 h0 h1 h2 h3 h4 HX1 HMC HB8 HSE HVN HS HM HY HI HN HB HB5 HB6 HB7 HC5 HC6 HC7 H5 HQ hb k2 k6 k7
  go_loopw [16] (fun i wr => MeanRel w b M m p a8 n8 c8 L i wr) (fun i _ => L - (intOf i).toNat)
  case atStart => exact ⟨0, va, vc, s, Nat.zero_le _, rfl, HMA.out⟩
  case round =>
    clear HMA
    rename_i wr
    obtain ⟨k, va1, vc1, s1, hk, rfl, hma⟩ := hrel
    by_cases hlt : k < L
    · obtain ⟨EB, eo, rfl, hEB, x, hx, hc1⟩ := (HE.out.below hma.bel).cell hlt
      obtain ⟨p0, p1, p2, p3, p4, p5⟩ := six_cells hc1
      rw [show CEv.k = 6 from rfl] at p0 p1 p2 p3 p4 p5
      have s0 : wr.cell? ⟨b, 0, none⟩ = some (.slice va1 s1.vars.length vc1) := by rw [cell_of_row _ _ _ _ _ _ hma.st.box]; rfl
      have s2 : wr.cell? ⟨b, 1, none⟩ = some (.int .i64 s1.sent) := by rw [cell_of_row _ _ _ _ _ _ hma.st.box]; rfl
      have s3 : wr.cell? ⟨b, 2, none⟩ = some (.int .i64 s1.drawn) := by rw [cell_of_row _ _ _ _ _ _ hma.st.box]; rfl
      have HMA := Lib.hid hma
      have hvl1 : s1.vars.length ≤ 1000 := by have := hma.vars; have := HP20.out; omega
      have hst0 : MS wr b va1 s1.vars.length vc1 s1.sent s1.drawn EB (eo + k * 6) x wr := ⟨s0, s2, s3, p0, p1, p2, p3, p4, p5, Lib.hid (Below.refl _ _)⟩
      have hrv : (run m p s1 x).st.vars.length = s1.vars.length := (run_inv m p s1 x (by have := hma.sent; omega) (by have := hma.drawn; omega)).1
      obtain ⟨ok, hok⟩ : ∃ ok, ok = okR m p s1 x := ⟨_, rfl⟩
      obtain ⟨R, hR⟩ : ∃ R, R = okS ok (run m p s1 x) := ⟨_, rfl⟩
      obtain ⟨cd, hcd⟩ : ∃ cd : Int, cd = if ok = true then 0 else 2 := ⟨_, rfl⟩
      have HR : Hid (∀ W, Below wr.heap.size wr W → Calls Tryd.prog 13 #[.pointer (some ⟨M, 0, none⟩), stV va1 s1.vars.length vc1 s1.sent s1.drawn, evV x] W (RunM W R cd)) := by
        rw [Lib.hid_eq]
        intro W hb
        rw [hR, hcd, hok]
        exact (mRun_any W M m p a8 n8 c8 (hma.mch.below hb).1 va1 vc1 s1 (hma.st.vars.below hb) hvl1 hma.st.nil x).mono fun e w' h => h.m (by rw [hrv]; exact hvl1)
      have HRR := Lib.hid (And.intro hok (And.intro hR (And.intro hcd hrv)))
      have hstD := ms_next hst0 ((Below.refl _ _).drew)
      clear hma hEB hx hc1 p0 p1 p2 p3 p4 p5 s0 s2 s3 hvl1 hok hR hcd hrv
      obtain ⟨vn1, hvn1⟩ : ∃ x, x = s1.vars.length := ⟨_, rfl⟩
      obtain ⟨sent1, hsent1⟩ : ∃ x, x = s1.sent := ⟨_, rfl⟩
      obtain ⟨drawn1, hdrawn1⟩ : ∃ x, x = s1.drawn := ⟨_, rfl⟩
      rw [← hvn1, ← hsent1, ← hdrawn1] at hst0 hstD HR
      have HV1 := Lib.hid (And.intro hvn1 (And.intro hsent1 hdrawn1))
      clear hvn1 hsent1 hdrawn1
      have hst := hst0
      have HST := Lib.hid hst0
      have HSTD := Lib.hid hstD
      obtain ⟨q0, q1, q2, q3, q4, q5, q6, q7, q8, q9⟩ := hst0
      clear hst hstD q9
      have hone : ∀ (a : Option Addr) (n c : Nat), (Value.slice a n c).oneCell' = true := fun _ _ _ => rfl
      go_upto_region 10 with fail
      go_cut [17, 18] from 84 to 93 (fun s17 s18 wz => R10 wr R cd s17 s18 wz)
      case first =>
        obtain ⟨g1, hg1⟩ : ∃ g, wr.heap.size = g := ⟨_, rfl⟩
        have HG1 := Lib.hid hg1
        have HGE : Hid (wr.heap.size ≤ g1) := Lib.hid (by rw [HG1.out]; exact Nat.le_refl _)
        go_region_held3 (fun V => MS wr b va1 vn1 vc1 sent1 drawn1 EB (eo + k * 6) x V) (first | with_reducible exact ms_next HST.out (below_set5 HB9.out HGE.out _ _ _ _ _) | with_reducible exact ms_next HST.out (HB9.out.alloc HB9.out.size _) | with_reducible exact ms_next HST.out HB9.out | with_reducible exact ms_next HST.out ((Below.refl _ _).drew) | with_reducible exact ms_next HST.out (((Below.refl _ _).alloc (Nat.le_refl _) _).drew) | exact ms_next HST.out (((Below.refl _ _).drew).alloc (Nat.le_refl _) _))
          ((go_at_call 13; ((with_reducible refine (HR.out _ ?_).mono ?_)); (first | (with_reducible exact (Below.refl _ _).drew) | (with_reducible exact ((Below.refl _ _).alloc (Nat.le_refl _) _).drew)); rintro e w9 ⟨a1, c1, a2, c2, a3, c3, rfl, hsa, hb0⟩; (first | (have r9 := (hb0.block wr.heap.size (by show wr.heap.size < (wr.alloc _).heap.size; simp)).trans (heap_alloc_new wr _); rw [HG1.out] at r9; have hb9 : Below wr.heap.size wr w9 := (((Below.refl wr.heap.size wr).alloc (Nat.le_refl _) _).drew).trans (hb0.mono (by show wr.heap.size ≤ (wr.alloc _).heap.size; simp)); have k0 : w9.cell? ⟨g1, 0, none⟩ = some (.slice none 0 0) := (cell_of_row _ _ _ _ _ _ r9).trans rfl; have k1 : w9.cell? ⟨g1, 1, none⟩ = some (.int .i64 0) := (cell_of_row _ _ _ _ _ _ r9).trans rfl; have k2 : w9.cell? ⟨g1, 2, none⟩ = some (.int .i64 0) := (cell_of_row _ _ _ _ _ _ r9).trans rfl; have k3 : w9.cell? ⟨g1, 3, none⟩ = some (.slice none 0 0) := (cell_of_row _ _ _ _ _ _ r9).trans rfl; have k4 : w9.cell? ⟨g1, 4, none⟩ = some (.slice none 0 0) := (cell_of_row _ _ _ _ _ _ r9).trans rfl; have z0 : w9.frozen? ⟨g1, 0, none⟩ = false := frozen_of_row _ _ _ _ _ r9; have z1 : w9.frozen? ⟨g1, 1, none⟩ = false := frozen_of_row _ _ _ _ _ r9; have z2 : w9.frozen? ⟨g1, 2, none⟩ = false := frozen_of_row _ _ _ _ _ r9; have z3 : w9.frozen? ⟨g1, 3, none⟩ = false := frozen_of_row _ _ _ _ _ r9; have z4 : w9.frozen? ⟨g1, 4, none⟩ = false := frozen_of_row _ _ _ _ _ r9; have HSA := Lib.hid (hsa.mono (B' := wr.heap.size) (by show wr.heap.size ≤ (wr.alloc _).heap.size; simp)); have H9 := Lib.hid r9; clear r9) | (have hb9 : Below wr.heap.size wr w9 := ((Below.refl wr.heap.size wr).drew).trans (hb0.mono (Nat.le_refl _)); have HSA := Lib.hid (hsa.mono (B' := wr.heap.size) (Nat.le_refl _)))); have HB9 := Lib.hid hb9; clear hsa hb0 hb9))
        all_goals
          clear hg1
          go_wp2_with fail
          go_meet
          case rel => first | exact ⟨_, a1, c1, a2, c2, a3, c3, rfl, rfl, box_behind (Nat.le_refl _) HSA.out HB9.out⟩ | exact ⟨g1, a1, c1, a2, c2, a3, c3, rfl, rfl, box_ahead (Nat.le_refl _) HSA.out HB9.out H9.out HGE.out⟩
      case rest =>
        obtain ⟨wx, rfl⟩ : ∃ wx, wx = wc := ⟨_, rfl⟩
        obtain ⟨g, a1, c1, a2, c2, a3, c3, rfl, rfl, hbox⟩ := hcut
        have HBX := Lib.hid hbox
        have hst1 : MS wx b va1 vn1 vc1 sent1 drawn1 EB (eo + k * 6) x wx := (ms_next HST.out hbox.bel).here
        have HR2 : Hid (∀ W, Below wx.heap.size wx W → Calls Tryd.prog 13 #[.pointer (some ⟨M, 0, none⟩), stV va1 vn1 vc1 sent1 drawn1, evV x] W (RunM W R cd)) := Lib.hid fun W hb => HR.out W (HBX.out.bel.trans (hb.mono HBX.out.bel.size))
        clear hbox q0 q1 q2 q3 q4 q5 q6 q7 q8
        obtain ⟨q0, q1, q2, q3, q4, q5, q6, q7, q8, _⟩ := id hst1
        have HST1 := Lib.hid hst1
        clear hst1
        go_upto_region 11 with fail
        go_cut [19, 20] from 94 to 103 (fun s17 s18 wz => R10 wx R cd s17 s18 wz)
        case first =>
          obtain ⟨g1, hg1⟩ : ∃ g, wx.heap.size = g := ⟨_, rfl⟩
          have HG1 := Lib.hid hg1
          have HGE : Hid (wx.heap.size ≤ g1) := Lib.hid (by rw [HG1.out]; exact Nat.le_refl _)
          go_region_held3 (fun V => MS wx b va1 vn1 vc1 sent1 drawn1 EB (eo + k * 6) x V) (first | with_reducible exact ms_next HST1.out (below_set5 HB9.out HGE.out _ _ _ _ _) | with_reducible exact ms_next HST1.out (HB9.out.alloc HB9.out.size _) | with_reducible exact ms_next HST1.out HB9.out | with_reducible exact ms_next HST1.out ((Below.refl _ _).drew) | with_reducible exact ms_next HST1.out (((Below.refl _ _).alloc (Nat.le_refl _) _).drew) | exact ms_next HST1.out (((Below.refl _ _).drew).alloc (Nat.le_refl _) _))
            ((go_at_call 13; ((with_reducible refine (HR2.out _ ?_).mono ?_)); (first | (with_reducible exact (Below.refl _ _).drew) | (with_reducible exact ((Below.refl _ _).alloc (Nat.le_refl _) _).drew)); rintro e w9 ⟨a1, c1, a2, c2, a3, c3, rfl, hsa, hb0⟩; (first | (have r9 := (hb0.block wx.heap.size (by show wx.heap.size < (wx.alloc _).heap.size; simp)).trans (heap_alloc_new wx _); rw [HG1.out] at r9; have hb9 : Below wx.heap.size wx w9 := (((Below.refl wx.heap.size wx).alloc (Nat.le_refl _) _).drew).trans (hb0.mono (by show wx.heap.size ≤ (wx.alloc _).heap.size; simp)); have k0 : w9.cell? ⟨g1, 0, none⟩ = some (.slice none 0 0) := (cell_of_row _ _ _ _ _ _ r9).trans rfl; have k1 : w9.cell? ⟨g1, 1, none⟩ = some (.int .i64 0) := (cell_of_row _ _ _ _ _ _ r9).trans rfl; have k2 : w9.cell? ⟨g1, 2, none⟩ = some (.int .i64 0) := (cell_of_row _ _ _ _ _ _ r9).trans rfl; have k3 : w9.cell? ⟨g1, 3, none⟩ = some (.slice none 0 0) := (cell_of_row _ _ _ _ _ _ r9).trans rfl; have k4 : w9.cell? ⟨g1, 4, none⟩ = some (.slice none 0 0) := (cell_of_row _ _ _ _ _ _ r9).trans rfl; have z0 : w9.frozen? ⟨g1, 0, none⟩ = false := frozen_of_row _ _ _ _ _ r9; have z1 : w9.frozen? ⟨g1, 1, none⟩ = false := frozen_of_row _ _ _ _ _ r9; have z2 : w9.frozen? ⟨g1, 2, none⟩ = false := frozen_of_row _ _ _ _ _ r9; have z3 : w9.frozen? ⟨g1, 3, none⟩ = false := frozen_of_row _ _ _ _ _ r9; have z4 : w9.frozen? ⟨g1, 4, none⟩ = false := frozen_of_row _ _ _ _ _ r9; have HSA := Lib.hid (hsa.mono (B' := wx.heap.size) (by show wx.heap.size ≤ (wx.alloc _).heap.size; simp)); have H9 := Lib.hid r9; clear r9) | (have hb9 : Below wx.heap.size wx w9 := ((Below.refl wx.heap.size wx).drew).trans (hb0.mono (Nat.le_refl _)); have HSA := Lib.hid (hsa.mono (B' := wx.heap.size) (Nat.le_refl _)))); have HB9 := Lib.hid hb9; clear hsa hb0 hb9))
          all_goals
            clear hg1
            go_wp2_with fail
            go_meet
            case rel => first | exact ⟨_, a1, c1, a2, c2, a3, c3, rfl, rfl, box_behind (Nat.le_refl _) HSA.out HB9.out⟩ | exact ⟨g1, a1, c1, a2, c2, a3, c3, rfl, rfl, box_ahead (Nat.le_refl _) HSA.out HB9.out H9.out HGE.out⟩
        case rest =>
          obtain ⟨wy, rfl⟩ : ∃ wy, wy = wc := ⟨_, rfl⟩
          obtain ⟨g', a1', c1', a2', c2', a3', c3', rfl, rfl, hbox⟩ := hcut
          have HBY := Lib.hid (And.intro (HBX.out.below hbox.bel) hbox)
          clear hbox q0 q1 q2 q3 q4 q5 q6 q7 q8
          have HLR : Hid (R.st.vars.length ≤ 1000) := Lib.hid (by
            rw [HRR.out.2.1]
            unfold okS
            split
            · rw [HRR.out.2.2.2]; have := HMA.out.vars; have := HP20.out; omega
            · exact Nat.zero_le _)
          have HSm : Hid (∀ W, Below wy.heap.size wy W → Calls Tryd.prog 15 #[.agg #[.slice a1 R.st.vars.length c1, .int .i64 R.st.sent, .int .i64 R.st.drawn, .slice a2 R.sends.length c2, .slice a3 R.tells.length c3], .agg #[.slice a1' R.st.vars.length c1', .int .i64 R.st.sent, .int .i64 R.st.drawn, .slice a2' R.sends.length c2', .slice a3' R.tells.length c3']] W (SameTo W)) := Lib.hid fun W hb => stepSame_any W R HLR.out _ _ _ _ _ _ _ _ (HBY.out.1.st.below hb) (HBY.out.2.st.below hb)
          have x0 : wy.cell? ⟨g, 0, none⟩ = some (.slice a1 R.st.vars.length c1) := (cell_of_row _ _ _ _ _ _ HBY.out.1.row).trans rfl
          have x1 : wy.cell? ⟨g, 1, none⟩ = some (.int .i64 R.st.sent) := (cell_of_row _ _ _ _ _ _ HBY.out.1.row).trans rfl
          have x2 : wy.cell? ⟨g, 2, none⟩ = some (.int .i64 R.st.drawn) := (cell_of_row _ _ _ _ _ _ HBY.out.1.row).trans rfl
          have x3 : wy.cell? ⟨g, 3, none⟩ = some (.slice a2 R.sends.length c2) := (cell_of_row _ _ _ _ _ _ HBY.out.1.row).trans rfl
          have x4 : wy.cell? ⟨g, 4, none⟩ = some (.slice a3 R.tells.length c3) := (cell_of_row _ _ _ _ _ _ HBY.out.1.row).trans rfl
          have y0 : wy.cell? ⟨g', 0, none⟩ = some (.slice a1' R.st.vars.length c1') := (cell_of_row _ _ _ _ _ _ HBY.out.2.row).trans rfl
          have y1 : wy.cell? ⟨g', 1, none⟩ = some (.int .i64 R.st.sent) := (cell_of_row _ _ _ _ _ _ HBY.out.2.row).trans rfl
          have y2 : wy.cell? ⟨g', 2, none⟩ = some (.int .i64 R.st.drawn) := (cell_of_row _ _ _ _ _ _ HBY.out.2.row).trans rfl
          have y3 : wy.cell? ⟨g', 3, none⟩ = some (.slice a2' R.sends.length c2') := (cell_of_row _ _ _ _ _ _ HBY.out.2.row).trans rfl
          have y4 : wy.cell? ⟨g', 4, none⟩ = some (.slice a3' R.tells.length c3') := (cell_of_row _ _ _ _ _ _ HBY.out.2.row).trans rfl
          cases ok with
          | false =>
            obtain rfl : cd = 2 := HRR.out.2.2.1
            go_wp2_with (go_at_call 15; ((with_reducible refine (HSm.out _ (Below.refl _ _)).mono ?_)); rintro e wz ⟨rfl, hb⟩; have HZ := Lib.hid (HBY.out.1.bel.trans (hb.mono HBY.out.1.bel.size)); clear hb)
            go_roundw
            case rel => first | exact ⟨k + 1, va1, vc1, s1, by omega, by go_num, HMA.out.next HZ.out⟩ | ((repeat apply Exists.intro); exact ⟨⟨k + 1, va1, vc1, s1, by omega, by go_num, HMA.out.next HZ.out⟩, rfl⟩)
            case measure => simp [intOf]; omega
          | true =>
            obtain rfl : cd = 0 := HRR.out.2.2.1
            have hR : R = run m p s1 x := HRR.out.2.1
            have HINV : Hid (R.st.vars.length = s1.vars.length ∧ SentOk m x s1.sent R.sends ∧ R.sends.length ≤ 4 ∧ R.st.sent = s1.sent + R.sends.length ∧ ToldOk m x R.tells ∧ R.tells.length ≤ 4 ∧ s1.drawn ≤ R.st.drawn ∧ R.st.drawn ≤ s1.drawn + 256) := Lib.hid (by rw [hR]; exact run_inv m p s1 x (by have := HMA.out.sent; omega) (by have := HMA.out.drawn; omega))
            clear hR
            have bs0 : 0 ≤ sent1 := by have := HMA.out.sent; have := HV1.out; omega
            have bs1 : sent1 ≤ 1099511627896 := by have := HMA.out.sent; have := HV1.out; omega
            go_upto_region 15 with (go_at_call 15; ((with_reducible refine (HSm.out _ (Below.refl _ _)).mono ?_)); rintro e wz ⟨rfl, hb⟩; have HZ := Lib.hid (And.intro (HBY.out.1.below hb) (ms_next HST.out (HBY.out.1.bel.trans (hb.mono HBY.out.1.bel.size)))); clear hb)
            clear x0 x1 x2 x3 x4 y0 y1 y2 y3 y4 HSm HBY HBX HR HR2 HST1 HSTD
            have HF : Hid (∀ W, Below wz.heap.size wz W → BoxAt wr g R a1 c1 a2 c2 a3 c3 W ∧ MS wr b va1 vn1 vc1 sent1 drawn1 EB (eo + k * 6) x W) := Lib.hid fun W hb => ⟨HZ.out.1.below hb, ms_next HZ.out.2 hb⟩
            have HSE : Hid (CEv.At wz a2 R.sends.length R.sends) := Lib.hid (by
              obtain ⟨a, c, e, h⟩ := CEv.own_at HZ.out.1.st.sends HZ.out.1.st.hs
              cases e; exact h)
            have HTE : Hid (CRc.At wz a3 R.tells.length R.tells) := Lib.hid (by
              obtain ⟨a, c, e, h⟩ := CRc.own_at HZ.out.1.st.tells HZ.out.1.st.ht
              cases e; exact h)
            have n1 : R.sends.length ≤ 4 := HINV.out.2.2.1
            have n2 : R.tells.length ≤ 4 := HINV.out.2.2.2.2.2.1
            go_wp2_with fail
            go_loopw [21] (fun i wv => CountRel wz R.sends.length i wv) (fun i _ => R.sends.length - (intOf i).toNat)
            case atStart => exact ⟨0, Nat.zero_le _, rfl, Below.refl _ _⟩
            case round =>
              obtain ⟨j, hj, rfl, hbel⟩ := hrel
              have HV := Lib.hid hbel
              clear hbel
              have x3 : wr.cell? ⟨g, 3, none⟩ = some (.slice a2 R.sends.length c2) := (cell_of_row _ _ _ _ _ _ (HF.out _ HV.out).1.row).trans rfl
              by_cases hlj : j < R.sends.length
              · obtain ⟨B2, o2, rfl, hB2, y, hy, hc2⟩ := (HSE.out.below HV.out).cell hlj
                obtain ⟨s0, s1c, s2, s3, s4, s5⟩ := six_cells hc2
                rw [show CEv.k = 6 from rfl] at s0 s1c s2 s3 s4 s5
                have hso := HINV.out.2.1 j hlj
                have hyy : R.sends[j] = y := by
                  have := List.getElem?_eq_getElem hlj
                  rw [hy] at this
                  exact (Option.some.inj this).symm
                rw [hyy] at hso
                obtain ⟨o1, o3, o4, o5, o6, o7⟩ := hso
                rw [o4, ← HEQ.out.1] at s1c
                rw [o5, ← HV1.out.2.1] at s2
                rw [← HEQ.out.2] at o7
                have d1 : decide (y.time ≤ x.time) = false := decide_eq_false (by omega)
                have d2 : decide (1099511627776 < y.time) = false := decide_eq_false (by omega)
                have d5 : decide (y.to < 1) = false := decide_eq_false (by omega)
                have d6 : decide (procs < y.to) = false := decide_eq_false (by omega)
                have e5 : IntKind.i64.wrap (sent1 + (j : Int)) = sent1 + (j : Int) := IntWalk.i64_in _ (by omega)
                have HJ := Lib.hid hlj
                clear hy hyy hc2 hB2 o1 o3 o4 o5 o6 o7
                generalize y.time = yt at *
                generalize y.to = yo at *
                generalize y.kind = yk at *
                generalize y.data = yd at *
                go_upto_region 19 with fail
                obtain ⟨wa, hwa⟩ : ∃ wa, wa = wr.alloc (.cells #[.int .i64 yt, .int .i64 self, .int .i64 (sent1 + (j : Int)), .int .i64 yo, .int .i64 yk, .int .i64 yd] 31) := ⟨_, rfl⟩
                obtain ⟨g2, hg2⟩ : ∃ g, g = wr.heap.size := ⟨_, rfl⟩
                have hxa : wa.heap[g2]? = some (.cells #[.int .i64 yt, .int .i64 self, .int .i64 (sent1 + (j : Int)), .int .i64 yo, .int .i64 yk, .int .i64 yd] 31 (0, 0)) := by rw [hwa, hg2]; exact heap_alloc_new _ _
                have hba : Below wz.heap.size wz wa := by rw [hwa]; exact HV.out.alloc HV.out.size _
                obtain ⟨t0, t1, t2, t3, t4, t5, t6, t7, t8, _⟩ := (HF.out _ hba).2
                have e0 : ∀ q : InB wa, q.w.cell? ⟨g2, 0, none⟩ = some (.int .i64 yt) := fun q => cell_keep q ((cell_of_row _ _ _ _ _ _ hxa).trans rfl)
                have e1 : ∀ q : InB wa, q.w.cell? ⟨g2, 1, none⟩ = some (.int .i64 self) := fun q => cell_keep q ((cell_of_row _ _ _ _ _ _ hxa).trans rfl)
                have e2 : ∀ q : InB wa, q.w.cell? ⟨g2, 2, none⟩ = some (.int .i64 (sent1 + (j : Int))) := fun q => cell_keep q ((cell_of_row _ _ _ _ _ _ hxa).trans rfl)
                have e3 : ∀ q : InB wa, q.w.cell? ⟨g2, 3, none⟩ = some (.int .i64 yo) := fun q => cell_keep q ((cell_of_row _ _ _ _ _ _ hxa).trans rfl)
                have e6 : ∀ q : InB wa, q.w.cell? ⟨EB, eo + k * 6, none⟩ = some (.int .i64 x.time) := fun q => cell_keep q t3
                have e7 : ∀ q : InB wa, q.w.cell? ⟨b, 1, none⟩ = some (.int .i64 sent1) := fun q => cell_keep q t1
                have HWA := Lib.hid hba
                rw [← hwa, ← hg2]
                clear hwa hg2 hxa hba t0 t1 t2 t3 t4 t5 t6 t7 t8 s0 s1c s2 s3 s4 s5 x3
                refine wp_region_below (by kernel_rfl) (by kernel_rfl) ?_
                repeat (refine WQ.step (fun K hK => ?_); go_simp; (refine hK _ ?_; clear hK K))
                refine WQ.nil ?_
                intro w8 hw'
                obtain ⟨pq, hpq⟩ := hw'
                have HP := Lib.hid (HWA.out.trans (pq.h.mono HWA.out.size))
                rw [← hpq] at HP
                clear hpq pq e0 e1 e2 e3 e6 e7
                go_wp2
                go_roundw
                case rel => first | exact ⟨j + 1, HJ.out, by go_num, HP.out⟩ | ((repeat apply Exists.intro); exact ⟨⟨j + 1, HJ.out, by go_num, HP.out⟩, rfl⟩)
                case measure => simp [intOf]; have := HJ.out; omega
              · have hdj : decide (j < R.sends.length) = false := decide_eq_false hlj
                clear hj
                go_wp2_with fail
                have HV1b := HV
                go_loopw [23] (fun i wv => CountRel wz R.tells.length i wv) (fun i _ => R.tells.length - (intOf i).toNat)
                case atStart => exact ⟨0, Nat.zero_le _, rfl, HV1b.out⟩
                case round =>
                  clear HV HV1b x3 hlj hdj
                  obtain ⟨i, hi, rfl, hbel⟩ := hrel
                  have HV := Lib.hid hbel
                  clear hbel
                  have x4 : wr.cell? ⟨g, 4, none⟩ = some (.slice a3 R.tells.length c3) := (cell_of_row _ _ _ _ _ _ (HF.out _ HV.out).1.row).trans rfl
                  by_cases hli : i < R.tells.length
                  · obtain ⟨B2, o2, rfl, hB2, y, hy, hc2⟩ := (HTE.out.below HV.out).cell hli
                    obtain ⟨s0, s1c, s2, s3, s4, s5⟩ := six_cellsR hc2
                    rw [show CRc.k = 6 from rfl] at s0 s1c s2 s3 s4 s5
                    have hto := HINV.out.2.2.2.2.1 i hli
                    have hyy : R.tells[i] = y := by
                      have := List.getElem?_eq_getElem hli
                      rw [hy] at this
                      exact (Option.some.inj this).symm
                    rw [hyy] at hto
                    obtain ⟨o1, o3, o4, o5, o6⟩ := hto
                    rw [o1] at s0
                    rw [o3] at s1c
                    rw [o4] at s2
                    rw [o5, ← HEQ.out.1] at s3
                    rw [o6] at s4
                    obtain ⟨t0, t1, t2, t3, t4, t5, t6, t7, t8, _⟩ := (HF.out _ HV.out).2
                    have e0 : ∀ q : InB wr, q.w.cell? ⟨g, 4, none⟩ = some (.slice (some ⟨B2, o2, none⟩) R.tells.length c3) := fun q => cell_keep q x4
                    have e1 : ∀ q : InB wr, q.w.cell? ⟨B2, o2 + i * 6, none⟩ = some (.int .i64 x.time) := fun q => cell_keep q s0
                    have e2 : ∀ q : InB wr, q.w.cell? ⟨B2, o2 + i * 6 + 1, none⟩ = some (.int .i64 x.org) := fun q => cell_keep q s1c
                    have e3 : ∀ q : InB wr, q.w.cell? ⟨B2, o2 + i * 6 + 2, none⟩ = some (.int .i64 x.seq) := fun q => cell_keep q s2
                    have e4 : ∀ q : InB wr, q.w.cell? ⟨B2, o2 + i * 6 + 3, none⟩ = some (.int .i64 self) := fun q => cell_keep q s3
                    have e5 : ∀ q : InB wr, q.w.cell? ⟨B2, o2 + i * 6 + 4, none⟩ = some (.int .i64 (i : Int)) := fun q => cell_keep q s4
                    have e6 : ∀ q : InB wr, q.w.cell? ⟨EB, eo + k * 6, none⟩ = some (.int .i64 x.time) := fun q => cell_keep q t3
                    have e7 : ∀ q : InB wr, q.w.cell? ⟨EB, eo + k * 6 + 1, none⟩ = some (.int .i64 x.org) := fun q => cell_keep q t4
                    have e8 : ∀ q : InB wr, q.w.cell? ⟨EB, eo + k * 6 + 2, none⟩ = some (.int .i64 x.seq) := fun q => cell_keep q t5
                    have hne := keyNe x.time x.org x.seq
                    have HJ := Lib.hid hli
                    clear hy hyy hc2 hB2 o1 o3 o4 o5 o6
                    go_upto_region 24 with fail
                    clear t0 t1 t2 t3 t4 t5 t6 t7 t8 s0 s1c s2 s3 s4 s5 x4
                    refine wp_region_below (by kernel_rfl) (by kernel_rfl) ?_
                    repeat (refine WQ.step (fun K hK => ?_); go_simp; (refine hK _ ?_; clear hK K))
                    refine WQ.nil ?_
                    intro w9 hw'
                    obtain ⟨pq, hpq⟩ := hw'
                    have HP := Lib.hid (HV.out.trans (pq.h.mono HV.out.size))
                    rw [← hpq] at HP
                    clear hpq pq e0 e1 e2 e3 e4 e5 e6 e7 e8 hne
                    go_wp2
                    go_roundw
                    case rel => first | exact ⟨i + 1, HJ.out, by go_num, HP.out⟩ | ((repeat apply Exists.intro); exact ⟨⟨i + 1, HJ.out, by go_num, HP.out⟩, rfl⟩)
                    case measure => simp [intOf]; have := HJ.out; omega
                  · have hdi : decide (i < R.tells.length) = false := decide_eq_false hli
                    have hbx := (HF.out _ HV.out).1
                    have hms := (HF.out _ HV.out).2
                    have x0 : wr.cell? ⟨g, 0, none⟩ = some (.slice a1 R.st.vars.length c1) := (cell_of_row _ _ _ _ _ _ hbx.row).trans rfl
                    have x1 : wr.cell? ⟨g, 1, none⟩ = some (.int .i64 R.st.sent) := (cell_of_row _ _ _ _ _ _ hbx.row).trans rfl
                    have x2 : wr.cell? ⟨g, 2, none⟩ = some (.int .i64 R.st.drawn) := (cell_of_row _ _ _ _ _ _ hbx.row).trans rfl
                    have x3 : wr.cell? ⟨g, 3, none⟩ = some (.slice a2 R.sends.length c2) := (cell_of_row _ _ _ _ _ _ hbx.row).trans rfl
                    obtain ⟨t0, t1, t2, _⟩ := hms
                    have m1 : decide (4 < R.sends.length) = false := decide_eq_false (by omega)
                    have m2 : decide (4 < R.tells.length) = false := decide_eq_false (by omega)
                    have m1' : decide ((4 : Int) < (R.sends.length : Int)) = false := decide_eq_false (by omega)
                    have m2' : decide ((4 : Int) < (R.tells.length : Int)) = false := decide_eq_false (by omega)
                    have b0 : (R.sends.length : Int) ≤ 4 := by omega
                    have b00 : (0 : Int) ≤ (R.sends.length : Int) := by omega
                    have m3 : sent1 + (R.sends.length : Int) = R.st.sent := by rw [HINV.out.2.2.2.1, HV1.out.2.1]
                    have HMy : Hid (Calls Tryd.prog 11 #[.pointer (some ⟨M, 0, none⟩), stV a1 R.st.vars.length c1 R.st.sent R.st.drawn] wr (fun e w' => e = .returned (.bool true) ∧ Below wr.heap.size wr w')) := Lib.hid (mMay_any wr M m p a8 n8 c8 (HMA.out.mch.below (hbx.bel)).1 a1 R.st.vars.length c1 R.st.sent R.st.drawn true (by
                      have h1 := HINV.out.1
                      have h2 := HMA.out.vars
                      have h3 := HMA.out.sent
                      have h4 := HMA.out.drawn
                      have h5 := HINV.out.2.2.2.2.2.2.1
                      have h6 := HINV.out.2.2.2.1
                      exact (decide_eq_true ⟨by omega, by omega, by omega⟩).symm))
                    have HBB := Lib.hid hbx
                    have HSB : Hid (∀ W, Below wr.heap.size wr W → SAt W b va1 vc1 s1) := Lib.hid fun W hb => HMA.out.st.below (HBB.out.bel.trans (hb.mono HBB.out.bel.size))
                    clear hbx hi
                    have m4 : IntKind.i64.wrap (sent1 + (R.sends.length : Int)) = R.st.sent := by rw [IntWalk.i64_in _ (by omega)]; exact m3
                    go_upto_region 28 with (go_at_call 11; ((with_reducible refine (HMy.out).mono ?_)); rintro e wm ⟨rfl, hb⟩; have HM := Lib.hid hb; clear hb x0 x1 x2 x3 t0 t1 t2 x4)
                    have hbm := HBB.out.below HM.out
                    have hsm := HSB.out _ HM.out
                    have x0 : wm.cell? ⟨g, 0, none⟩ = some (.slice a1 R.st.vars.length c1) := (cell_of_row _ _ _ _ _ _ hbm.row).trans rfl
                    have x1 : wm.cell? ⟨g, 1, none⟩ = some (.int .i64 R.st.sent) := (cell_of_row _ _ _ _ _ _ hbm.row).trans rfl
                    have x2 : wm.cell? ⟨g, 2, none⟩ = some (.int .i64 R.st.drawn) := (cell_of_row _ _ _ _ _ _ hbm.row).trans rfl
                    have t0 : wm.cell? ⟨b, 0, none⟩ = some (.slice va1 s1.vars.length vc1) := (cell_of_row _ _ _ _ _ _ hsm.box).trans rfl
                    have t1 : wm.cell? ⟨b, 1, none⟩ = some (.int .i64 s1.sent) := (cell_of_row _ _ _ _ _ _ hsm.box).trans rfl
                    have t2 : wm.cell? ⟨b, 2, none⟩ = some (.int .i64 s1.drawn) := (cell_of_row _ _ _ _ _ _ hsm.box).trans rfl
                    have z0 : wm.frozen? ⟨b, 0, none⟩ = false := frozen_of_row _ _ _ _ _ hsm.box
                    have z1 : wm.frozen? ⟨b, 1, none⟩ = false := frozen_of_row _ _ _ _ _ hsm.box
                    have z2 : wm.frozen? ⟨b, 2, none⟩ = false := frozen_of_row _ _ _ _ _ hsm.box
                    have HBM := Lib.hid hbm
                    clear hbm hsm m3 m4
                    go_wp2_with fail
                    go_roundw
                    case rel =>
                      have hput := HMA.out.put HBM.out.bel HBW.out HBM.out HINV.out.1 HLR.out ⟨by have := HINV.out.2.2.2.1; omega, by have := HINV.out.2.2.2.1; omega⟩ ⟨HINV.out.2.2.2.2.2.2.1, HINV.out.2.2.2.2.2.2.2⟩
                      first | exact ⟨k + 1, a1, c1, R.st, by omega, by go_num, hput⟩ | ((repeat apply Exists.intro); exact ⟨⟨k + 1, a1, c1, R.st, by omega, by go_num, hput⟩, rfl⟩)
                    case measure => simp [intOf]; omega
    · have hdk : decide (k < L) = false := decide_eq_false hlt
      have HMA := Lib.hid hma
      clear hma
      go_wp2_with (go_at_call 7; ((with_reducible refine (HK.out _ HMA.out.bel).mono ?_)); rintro e v9 ⟨rfl, hb⟩; have H9 := Lib.hid (HMA.out.bel.trans (hb.mono HMA.out.bel.size)); clear hb)
      go_ret
      exact ⟨rfl, H9.out⟩
end Go.Proofs.YtppidbnbfipgnaaDoor
