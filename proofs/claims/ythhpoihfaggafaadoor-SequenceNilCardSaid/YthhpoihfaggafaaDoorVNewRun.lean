/-
  The walk of newRun.
-/
import Derived.Test.YthhpoihfaggafaaDoorVMach
namespace Go.Proofs.YthhpoihfaggafaaDoor
open Go Go.RowKit Go.Sort Go.Proofs CodM VmM

abbrev evV (e : Ev) : Value := .agg #[.int .i64 e.time, .int .i64 e.org, .int .i64 e.seq, .int .i64 e.to, .int .i64 e.kind, .int .i64 e.data]
def NewTo (w : World) (m : Mch) (p : Prg) (ev : Ev) (s : Ps) (e : Ending) (w' : World) : Prop :=
  ∃ X : Fx, X.w0 = w ∧ X.Ok ∧ X.m = m ∧ X.e = ev ∧ X.cd = codeOf p ev.kind ∧ e = .returned (.pointer (some ⟨X.R, 0, none⟩)) ∧ At X (VmM.start s) w'
abbrev NwS (w3 : World) (b0 b1 : Nat) (va : Option Addr) (vn vc : Nat) (sent drawn : Int) (ev : Ev) (W : World) : Prop :=
  W.cell? ⟨b0, 0, none⟩ = some (.slice va vn vc) ∧ W.cell? ⟨b0, 1, none⟩ = some (.int .i64 sent) ∧ W.cell? ⟨b0, 2, none⟩ = some (.int .i64 drawn) ∧ W.cell? ⟨b1, 0, none⟩ = some (.int .i64 ev.time) ∧ W.cell? ⟨b1, 1, none⟩ = some (.int .i64 ev.org) ∧ W.cell? ⟨b1, 2, none⟩ = some (.int .i64 ev.seq) ∧ W.cell? ⟨b1, 3, none⟩ = some (.int .i64 ev.to) ∧ W.cell? ⟨b1, 4, none⟩ = some (.int .i64 ev.kind) ∧ W.cell? ⟨b1, 5, none⟩ = some (.int .i64 ev.data) ∧ Hid (Below w3.heap.size w3 W)
theorem nw_next {w3 : World} {b0 b1 : Nat} {va : Option Addr} {vn vc : Nat} {sent drawn : Int} {ev : Ev} {W W' : World} (h : NwS w3 b0 b1 va vn vc sent drawn ev W) (hb : Below W.heap.size W W') : NwS w3 b0 b1 va vn vc sent drawn ev W' := by
  obtain ⟨h0, h1, h2, h3, h4, h5, h6, h7, h8, h9⟩ := h
  have k := fun {p : Addr} {v : Value} (h : W.cell? p = some v) => (hb.cell (World.block_lt_of_cell? W _ h)).trans h
  exact ⟨k h0, k h1, k h2, k h3, k h4, k h5, k h6, k h7, k h8, Lib.hid (h9.out.trans (hb.mono h9.out.size))⟩
abbrev zeros16 : List Value := List.replicate 16 (.int .i64 0)
set_option maxHeartbeats 4000000 in
set_option maxRecDepth 100000 in
theorem newRun_any (w : World) (M : Nat) (m : Mch) (p : Prg) (a : Option Addr) (n c : Nat) (h : MAt w M m p a n c) (va : Option Addr) (vc : Nat) (s : Ps) (hv : CV.At w va s.vars.length s.vars) (hl : s.vars.length ≤ 1000) (hnil : va = none → vc = 0) (ev : Ev) (he : mayE m.procs ev = true) :
    Calls Tryd.prog 66 #[.pointer (some ⟨M, 0, none⟩), stV va s.vars.length vc s.sent s.drawn, evV ev] w (NewTo w m p ev s) := by
  have hm : (0 ≤ ev.time ∧ ev.time ≤ 1099511627776) ∧ 0 ≤ ev.kind ∧ ev.kind ≤ 7 := by
    unfold mayE at he
    simp only [decide_eq_true_eq] at he
    omega
  obtain ⟨htime, hkind⟩ := hm
  obtain ⟨w3, hw3⟩ : ∃ w3, w3 = ((w.alloc (.cells #[.slice va s.vars.length vc, .int .i64 s.sent, .int .i64 s.drawn] 51)).alloc (.cells #[.int .i64 ev.time, .int .i64 ev.org, .int .i64 ev.seq, .int .i64 ev.to, .int .i64 ev.kind, .int .i64 ev.data] 45)).alloc (.cells zeros16.toArray 173) := ⟨_, rfl⟩
  have hb3 : Below w.heap.size w w3 := by rw [hw3]; exact (((Below.refl _ _).alloc (Nat.le_refl _) _).alloc (by simp) _).alloc (by simp; omega) _
  have z1 : (w.alloc (.cells #[.slice va s.vars.length vc, .int .i64 s.sent, .int .i64 s.drawn] 51)).heap.size = w.heap.size + 1 := by simp
  have x0 : w3.heap[w.heap.size]? = some (.cells #[.slice va s.vars.length vc, .int .i64 s.sent, .int .i64 s.drawn] 51 (0, 0)) := by
    rw [hw3, heap_alloc_old _ _ (by first | (simp; done) | (simp; omega)), heap_alloc_old _ _ (by first | (simp; done) | (simp; omega)), heap_alloc_new]
  have x1 : w3.heap[w.heap.size + 1]? = some (.cells #[.int .i64 ev.time, .int .i64 ev.org, .int .i64 ev.seq, .int .i64 ev.to, .int .i64 ev.kind, .int .i64 ev.data] 45 (0, 0)) := by
    rw [hw3, heap_alloc_old _ _ (by first | (simp; done) | (simp; omega))]
    rw [← z1, heap_alloc_new]
  have x2 : w3.heap[w.heap.size + 2]? = some (.cells zeros16.toArray 173 (0, 0)) := by
    rw [hw3]
    have z2 : ((w.alloc (.cells #[.slice va s.vars.length vc, .int .i64 s.sent, .int .i64 s.drawn] 51)).alloc (.cells #[.int .i64 ev.time, .int .i64 ev.org, .int .i64 ev.seq, .int .i64 ev.to, .int .i64 ev.kind, .int .i64 ev.data] 45)).heap.size = w.heap.size + 2 := by simp
    rw [← z2, heap_alloc_new]
  have hst : NwS w3 w.heap.size (w.heap.size + 1) va s.vars.length vc s.sent s.drawn ev w3 := by
    refine ⟨?_, ?_, ?_, ?_, ?_, ?_, ?_, ?_, ?_, Lib.hid (Below.refl _ _)⟩ <;> first | (rw [cell_of_row _ _ _ _ _ _ x0]; rfl) | (rw [cell_of_row _ _ _ _ _ _ x1]; rfl)
  have HC : Hid (∀ W, NwS w3 w.heap.size (w.heap.size + 1) va s.vars.length vc s.sent s.drawn ev W → Calls Tryd.prog 94 #[.pointer (some ⟨M, 0, none⟩), .int .i64 ev.kind] W (fun e w' => ∃ a2 c2, e = .returned (.slice a2 (codeOf p ev.kind).length c2) ∧ InsAt w a2 (codeOf p ev.kind).length (codeOf p ev.kind) ∧ W = w')) := by
    rw [Lib.hid_eq]
    intro W hW
    exact code_any w W (hb3.trans (hW.2.2.2.2.2.2.2.2.2.out.mono hb3.size)) M m p a n c h ev.kind hkind
  have HV : Hid (∀ W, NwS w3 w.heap.size (w.heap.size + 1) va s.vars.length vc s.sent s.drawn ev W → Calls Tryd.prog 71 #[.slice va s.vars.length vc] W (fun e w' => ∃ v, e = .returned v ∧ CV.Own 2 w.heap.size w' v s.vars ∧ NwS w3 w.heap.size (w.heap.size + 1) va s.vars.length vc s.sent s.drawn ev w')) := by
    rw [Lib.hid_eq]
    intro W hW
    have hb := hb3.trans (hW.2.2.2.2.2.2.2.2.2.out.mono hb3.size)
    exact (clone_any W va vc s.vars (hv.below hb) hl hnil).mono fun e w' ⟨v, h1, h2, h3⟩ => ⟨v, h1, h2.mono hb.size, nw_next hW h3⟩
  have H3 := Lib.hid (And.intro hb3 x2)
  have HM := Lib.hid h
  have HW3 := Lib.hid hw3
  have HT := Lib.hid (And.intro htime hkind)
  obtain ⟨L, hL⟩ : ∃ L, L = (codeOf p ev.kind).length := ⟨_, rfl⟩
  obtain ⟨N, hN⟩ : ∃ N, N = s.vars.length := ⟨_, rfl⟩
  obtain ⟨b0, hb0⟩ : ∃ b0, b0 = w.heap.size := ⟨_, rfl⟩
  have HST := Lib.hid hst
  have HSTD := Lib.hid (nw_next hst (Below.refl _ w3).drew)
  clear h hv hl hnil he htime hkind hw3 hb3 z1 x0 x1 x2 hst
  go_enter Tryd.func66, Tryd.ntmps66
  go_upto_region 2 with fail
  change Code.wp _ _ _ _ (World.alloc _ (Obj.cells zeros16.toArray _))
  rw [← HW3.out]
  go_region_held3 (fun V => NwS w3 w.heap.size (w.heap.size + 1) va s.vars.length vc s.sent s.drawn ev V) (first | assumption | exact HST.out | exact HSTD.out | exact nw_next (by assumption) ((Below.refl _ _).alloc (Nat.le_refl _) _))
    (first
      | (go_at_call 94; ((with_reducible refine (HC.out _ ?_).mono ?_)); (go_split_ands; assumption); rintro e4 w4 ⟨a2, c2, rfl, hi, rfl⟩; have HI := Lib.hid hi; clear hi)
      | (go_at_call 71; ((with_reducible refine (HV.out _ ?_).mono ?_)); (go_split_ands; assumption); rintro e5 w5 ⟨v5, rfl, ho5, hst5⟩; obtain ⟨xa, xn, xc, rfl⟩ := ho5.shape; have HO := Lib.hid ho5; clear ho5))
  all_goals
    have HB5 : Hid (Below w3.heap.size w3 w5) := hst5.2.2.2.2.2.2.2.2.2
    clear hst5
    go_wp2
    go_ret
    have hb := H3.out.1.trans (HB5.out.mono H3.out.1.size)
    have hX : (Fx.mk w w5.heap.size (w.heap.size + 1 + 1) M m p.vars (.slice a n c) ev (codeOf p ev.kind) a2 c2 []).Ok := ⟨HM.out.box, HI.out, hb.size, by show w.heap.size ≤ w.heap.size + 1 + 1; omega, HT.out.1, HM.out.procs, ⟨HM.out.self.1, by show m.self ≤ 16; have := HM.out.self.2; have := HM.out.procs.2; omega⟩, fun p hp => by cases hp⟩
    refine ⟨_, rfl, hX, rfl, rfl, rfl, rfl, .slice xa xn xc, .slice none 0 0, .slice none 0 0, ⟨hb.alloc hb.size _, heap_alloc_new _ _, ⟨zeros16, ?_, rfl⟩, HO.out.below ((Below.refl _ _).alloc (Nat.le_refl _) _), Cod.Own.nil _ _, Cod.Own.nil _ _, by show 0 ≤ 16; omega, by show 0 ≤ 4; omega, by show 0 ≤ 4; omega, fun p hp => by cases hp⟩⟩
    have h5 : w5.heap[w.heap.size + 2]? = some (.cells zeros16.toArray 173 (0, 0)) := (HB5.out.block _ (Array.getElem?_eq_some_iff.1 H3.out.2).1).trans H3.out.2
    exact (heap_alloc_old _ _ (Array.getElem?_eq_some_iff.1 h5).1).trans h5
end Go.Proofs.YthhpoihfaggafaaDoor
