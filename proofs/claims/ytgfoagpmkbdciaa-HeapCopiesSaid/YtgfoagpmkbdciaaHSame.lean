/-
  The walk of the heap's Same.
-/
import Derived.Test.YtgfoagpmkbdciaaHRound
namespace Go.Proofs.Ytgfoagpmkbdciaa
open Go Go.Shelf Go.RowKit Go.Lib Go.Sort Go.Proofs HpM

attribute [local go_sem] Oper.semAt_some

/-- rows that rise, one within the other -/
theorem asc_sub {L M : List It} (hL : Asc1 iLt L) (hM : Asc1 iLt M) (h : ∀ x ∈ L, x ∈ M) : L.Sublist M := by
  induction M generalizing L with
  | nil =>
    cases L with
    | nil => exact List.Sublist.slnil
    | cons x t => exact absurd (h x (List.mem_cons_self ..)) (List.not_mem_nil)
  | cons y s ih =>
    obtain ⟨hy, hs⟩ := List.pairwise_cons.1 hM
    cases L with
    | nil => exact List.nil_sublist _
    | cons x t =>
      obtain ⟨hx, ht⟩ := List.pairwise_cons.1 hL
      by_cases e : x = y
      · subst e
        refine List.Sublist.cons_cons x (ih ht hs fun z hz => ?_)
        rcases List.mem_cons.1 (h z (List.mem_cons_of_mem _ hz)) with rfl | hz'
        · have := hx z hz
          rw [iLt_swo.irrefl] at this
          cases this
        · exact hz'
      · refine List.Sublist.cons y (ih hL hs fun z hz => ?_)
        rcases List.mem_cons.1 (h z hz) with rfl | hz'
        · have hxs : x ∈ s := (List.mem_cons.1 (h x (List.mem_cons_self ..))).resolve_left e
          have h1 := hy x hxs
          have h2 : iLt x z = true := by
            rcases List.mem_cons.1 hz with e2 | hz2
            · exact absurd e2.symm e
            · exact hx z hz2
          have := iLt_swo.trans _ _ _ h1 h2
          rw [iLt_swo.irrefl] at this
          cases this
        · exact hz'
theorem asc_all {L M : List It} (hL : Asc1 iLt L) (hM : Asc1 iLt M) (h : ∀ x ∈ L, x ∈ M) (hl : L.length = M.length) : L = M := (asc_sub hL hM h).eq_of_length hl
theorem keeps_gw {A B : World} (g : Gw A B) : KeepsOthers A B := ⟨g.size, fun _ _ hk _ => (g.block (Array.getElem?_eq_some_iff.1 hk).1).trans hk⟩
theorem KpB.gw {a : Option Addr} {A B : World} (g : Gw A B) : KpB a A B := ⟨g.size, fun _ _ hp => g.block hp⟩
/-- a name looked up, whatever is laid behind -/
theorem look_all {w : World} {G : Nat} {F : Nat → Prop} {d : Array It} {f : Pl} (k : HeapSt w G F d f) (a b : Int) : ∃ m, ∀ W, Below w.heap.size w W → W.cell? ⟨G, 1, none⟩ = some (.map m) ∧
    (Instr.lookup 55 (.map m) (.agg #[.int .i64 a, .int .i64 b]) true).run Try.prog W = .ok (.tuple #[.int .i64 (getF f (a, b) : Nat), .bool (hasF f (a, b))]) W := by
  obtain ⟨_, _, ⟨rfl, rfl, e3⟩ | ⟨B, M, cap, _, _, hF⟩⟩ := k
  · exact ⟨none, fun W hb => ⟨by rw [cell_of_row _ _ _ _ _ _ ((hb.block _ (Array.getElem?_eq_some_iff.1 e3).1).trans e3)]; rfl, look_nil W a b⟩⟩
  · exact ⟨some M, fun W hb => ⟨(hF.below hb).c1, look_ok W M f (hF.below hb).map a b⟩⟩

set_option maxRecDepth 100000 in
set_option maxHeartbeats 4000000 in
theorem hsame_eq (w : World) (G G2 : Nat) (F F2 : Nat → Prop) (d d2 : Array It) (f f2 : Pl) (L M : List It) (h : HeapSt w G F d f) (hr : Rep f d L) (k : HeapSt w G2 F2 d2 f2) (kr : Rep f2 d2 M) (hd : d.size = d2.size) (hb : d.size ≤ 10000) : Calls Try.prog 13 #[.pointer (some ⟨G, 0, none⟩), .pointer (some ⟨G2, 0, none⟩)] w (TellsBB (decide (L = M)) w) := by
  have mixed : Try.prog.follows .mixedOrders = true := by kernel_rfl
  have hal : Below w.heap.size w ((w.alloc (.cells #[.pointer (some ⟨G2, 0, none⟩)] 24)).alloc (.cells #[.bool false] 4)) := ((Below.refl w.heap.size w).alloc (Nat.le_refl _) _).alloc (by simp) _
  have hob : Boxed ((w.alloc (.cells #[.pointer (some ⟨G2, 0, none⟩)] 24)).alloc (.cells #[.bool false] 4)) w.heap.size 24 (.pointer (some ⟨G2, 0, none⟩)) := (Boxed.new w _ _).alloc _
  have hrb : Boxed ((w.alloc (.cells #[.pointer (some ⟨G2, 0, none⟩)] 24)).alloc (.cells #[.bool false] 4)) (w.heap.size + 1) 4 (.bool false) := by
    have := Boxed.new (w.alloc (.cells #[.pointer (some ⟨G2, 0, none⟩)] 24)) 4 (.bool false)
    rwa [World.size_alloc] at this
  have HB := Lib.hid (And.intro hal (And.intro hob hrb))
  obtain ⟨a, c, g0⟩ := h.c0
  obtain ⟨a2, c2, k0⟩ := k.c0
  have HG : Hid (∀ W, Below w.heap.size w W → HeapSt W G F d f ∧ W.cell? ⟨G, 0, none⟩ = some (.slice a d.size c)) := fun W hb => ⟨h.below hb, (World.cell?_of_block (w := w) (a := ⟨G, 0, none⟩) (hb.block _ (World.block_lt_of_cell? w _ g0))).trans g0⟩
  have HK : Hid (∀ W, Below w.heap.size w W → HeapSt W G2 F2 d2 f2 ∧ W.cell? ⟨G2, 0, none⟩ = some (.slice a2 d2.size c2)) := fun W hb => ⟨k.below hb, (World.cell?_of_block (w := w) (a := ⟨G2, 0, none⟩) (hb.block _ (World.block_lt_of_cell? w _ k0))).trans k0⟩
  have HR := Lib.hid hr
  have KR := Lib.hid kr
  obtain ⟨n, hn⟩ : ∃ n, n = d.size := ⟨_, rfl⟩
  have HD := Lib.hid (And.intro hn hd)
  have g1 := (HG.out _ hal).2
  have k1 := (HK.out _ hal).2
  rw [← hd, ← hn] at k1
  rw [← hn] at g1
  clear h hr k kr hd hal hob hrb g0 k0 hn
  have hfn := fn_nil
  refine (callsIn_wide (n := 6)).1 ?_
  refine callsIn_of_wp_marks Try.func13 rfl trivial ?_ rfl
  simp only [Try.ntmps13, List.size_toArray, List.length_cons, List.length_nil, Nat.reduceAdd, Nat.reduceSub, Array.replicate_succ, Array.replicate_zero, List.push_toArray, List.append_toArray, List.nil_append, List.cons_append]
  gi_wp2_with fail
  refine wpIn_mono (Q := NoPanic _) ?_ NoPanic.imp
  obtain ⟨w0, hw0⟩ : ∃ w0, w0 = (w.alloc (.cells #[.pointer (some ⟨G2, 0, none⟩)] 24)).alloc (.cells #[.bool false] 4) := ⟨_, rfl⟩
  rw [← hw0] at HB g1 k1 ⊢
  have hobc := HB.out.2.1.cell
  clear hw0
  gi_region
  refine NoPanic.normal ?_
  have HB1 : Hid (Below w.heap.size w w0.drew ∧ Boxed w0.drew w.heap.size 24 (.pointer (some ⟨G2, 0, none⟩)) ∧ Boxed w0.drew (w.heap.size + 1) 4 (.bool false)) := ⟨HB.out.1.drew, HB.out.2⟩
  generalize w0.drew = w5 at HB1 ⊢
  clear HB hobc g1 k1
  gi_wp2_with (refine ⟨trivial, ?_⟩; gi_at_call 33; refine (callsIn_wide.2 (all_any _ G F d f L (HG.out _ HB1.out.1).1 HR.out hb)).mono ?_; rintro e w1 ⟨S0, a3, c3, rfl, hS, hat, hb1, hn0⟩; have H1 := Lib.hid (And.intro hS (And.intro hat (And.intro hb1 hn0))); clear hS hat hb1 hn0)
  obtain ⟨hS, hat, hb1, hn0⟩ := H1.out
  have hsz : w.heap.size + 2 ≤ w5.heap.size := by have := HB1.out.2.2.lt; omega
  have hsz1 := hb1.size
  have hbw : Below w.heap.size w w1 := HB1.out.1.trans (hb1.mono (by omega))
  have hob1 : Boxed w1 w.heap.size 24 (.pointer (some ⟨G2, 0, none⟩)) := (hb1.block _ (by omega)).trans HB1.out.2.1
  have hrb1 : Boxed w1 (w.heap.size + 1) 4 (.bool false) := (hb1.block _ (by omega)).trans HB1.out.2.2
  obtain ⟨b, hba, hbl⟩ : ∃ b : Option Addr, (L = [] ∨ b = a3) ∧ ∀ p, b = some p → p.block < w1.heap.size ∧ p.block ≠ w.heap.size + 1 := by
    by_cases hL : L = []
    · exact ⟨none, .inl hL, fun p e => by cases e⟩
    · refine ⟨a3, .inr rfl, fun p e => ?_⟩
      have hl0 : 0 < L.length := Nat.pos_of_ne_zero fun e => hL (List.length_eq_zero_iff.1 e)
      obtain ⟨B, off, rfl, hB, x, hx, hc⟩ := hat.cell hl0
      cases e
      refine ⟨hB, fun e2 => ?_⟩
      have h0 := hc.seven.1
      have e3 : B = w.heap.size + 1 := e2
      subst e3
      rw [cell_of_row _ _ _ _ _ _ hrb1] at h0
      have h1 : (#[Value.bool false] : Array Value)[off + 0 * 7]? = some (.int .i64 x.1.1.1) := h0
      cases ho : off with
      | zero => rw [ho] at h1; simp at h1
      | succ k => rw [ho] at h1; simp at h1
  have hln : L.length = n := by rw [← HR.out.size]; exact HD.out.1.symm
  have hmn : M.length = n := by rw [← KR.out.size, ← HD.out.2]; exact HD.out.1.symm
  have HLM : Hid ((∀ x ∈ L, x ∈ M) → L = M) := fun h => asc_all HR.out.asc KR.out.asc h (hln.trans hmn.symm)
  refine wpIn_rangeFunc_ownH rfl (by decide) (gf := 43) (lb := #[.pointer (some ⟨S0, 0, none⟩)]) rfl trivial (enters_of Try.func43 (by kernel_rfl) rfl)
    (iter_stops Fence.wide 5 trivial rfl (by decide) S0 a3 b c3 L hba w1 hS hat) KpB.trans (kpB_b fun p e => (hbl p e).1) (Below.refl _ _) (fun _ => rfl)
    (fun pre W => (Boxed W (w.heap.size + 1) 4 (.bool false) ∧ Boxed W w.heap.size 24 (.pointer (some ⟨G2, 0, none⟩))) ∧ Below w.heap.size w1 W ∧ (∀ y ∈ pre, y ∈ M))
    (fun cd pre W => cd = .ret ∧ (Boxed W (w.heap.size + 1) 4 (.bool false) ∧ (Below w.heap.size w1 W ∧ (∃ y ∈ pre, y ∉ M))))
    (OwnFrom.and (OwnFrom.and (Own.from (boxed_own _ _ _) _) (Own.from (boxed_own _ _ _) _)) (OwnFrom.and (ownFrom_below (by omega) (by omega)) (ownFrom_pure _ _)))
    (fun cd => OwnFrom.and (ownFrom_pure _ _) (OwnFrom.and (Own.from (boxed_own _ _ _) _) (OwnFrom.and (ownFrom_below (by omega) (by omega)) (ownFrom_pure _ _))))
    ⟨⟨hrb1, hob1⟩, Below.refl _ _, fun y hy => absurd hy (List.not_mem_nil)⟩
    (fun x a' W => ∃ Bx, w1.heap.size ≤ Bx ∧ W.heap[Bx]? = some (ItO x) ∧ a' = { tmps := #[.pointer (some ⟨G, 0, none⟩), .pointer (some ⟨G2, 0, none⟩), undef, .pointer (some ⟨w.heap.size, 0, none⟩), .pointer (some ⟨w.heap.size + 1, 0, none⟩), .pointer (some ⟨Bx, 0, none⟩), undef, undef, .pointer (some ⟨G, 0, none⟩), .bool false, .bool false, .pointer (some ⟨G2, 0, none⟩), .bool false, .bool false, undef, undef, undef, .pointer (some ⟨G, 0, none⟩), .pointer (some ⟨G, 0, none⟩), .pointer (some ⟨G, 0, none⟩), .slice a n c, .int .i64 n, .pointer (some ⟨G2, 0, none⟩), .pointer (some ⟨G2, 0, none⟩), .pointer (some ⟨G2, 0, none⟩), .slice a2 n c2, .int .i64 n, .bool false, .pointer (some ⟨G, 0, none⟩), .func (.func 43) #[] #[.pointer (some ⟨S0, 0, none⟩)], ItV x, undef, undef, undef, undef, undef, undef, undef, undef, undef, undef, undef, undef, undef, undef, undef, undef, undef, undef, undef, undef, undef, undef, undef], defers := [] })
    (fun x a' _ X Y row hs hg hr => by
      obtain ⟨Bx, h1, h2, h3⟩ := hs
      exact ⟨Bx, h1, (hg.block Bx (Array.getElem?_eq_some_iff.1 h2).1 (fun e => by obtain ⟨_, o, ho, hoc⟩ := hr Bx e.symm; rw [h2] at ho; cases ho; cases hoc)).trans h2, h3⟩)
    ?assign ?body ?done ?stop
  case assign =>
    rintro l pre x W K ⟨⟨hv, ho⟩, hB1, hM⟩ hK
    gi_wp2
    exact hK _ _ ((KeepsOthers.alloc _ _).from _) ((KpB.refl _ _).alloc _) ⟨⟨hv.alloc _, ho.alloc _⟩, hB1.alloc (by have := hB1.size; omega) _, hM⟩ ⟨W.heap.size, hB1.size, heap_alloc_new _ _, rfl⟩
  case body =>
    rintro l pre x a' W hl ⟨r, hr⟩ ⟨⟨hv, ho⟩, hB1, hM⟩ ⟨Bx, hBx, bX, rfl⟩ hlt
    have hbW : Below w.heap.size w W := hbw.trans hB1
    have hsW := hB1.size
    obtain ⟨m, hm⟩ := look_all (HK.out w (Below.refl _ _)).1 x.1.1.2.1 x.2
    have hGB : ∀ W2, Gw W W2 → Below w.heap.size w W2 := fun W2 g => hbW.trans (g.below.mono hbW.size)
    have hoc := ho.cell
    have c1 := (hm W hbW).1
    have k0 := (HK.out W hbW).2
    rw [← HD.out.2, ← HD.out.1] at k0
    have hnd : n = d2.size := HD.out.1.trans HD.out.2
    have HV := Lib.hid (And.intro hv (And.intro ho (And.intro hB1 hM)))
    have HX : Hid (∀ W2, Gw W W2 → KeepsOthers W W2 ∧ KpB b W W2 ∧ Boxed W2 (w.heap.size + 1) 4 (.bool false) ∧ Boxed W2 w.heap.size 24 (.pointer (some ⟨G2, 0, none⟩)) ∧ Below w.heap.size w1 W2) := fun W2 g => ⟨keeps_gw g, KpB.gw g, (g.block hv.lt).trans hv, (g.block ho.lt).trans ho, hB1.trans (g.below.mono (by omega))⟩
    have HBX : Hid (∀ W2, Gw W W2 → W2.heap[Bx]? = some (ItO x)) := fun W2 g => (g.block (Array.getElem?_eq_some_iff.1 bX).1).trans bX
    have HGB := Lib.hid hGB
    have HND := Lib.hid hnd
    clear hv ho hB1 hM hbW hsW hsz hsz1 hbw hob1 hrb1 hGB bX hS hat hb1 hn0 hnd
    rcases hf : f2 (nm x) with _ | i
    · have hx : x ∉ M := fun hx => by
        have := (KR.out.has (nm x)).2 ⟨x, hx, rfl⟩
        rw [hf] at this
        cases this
      have HLK : Hid (∀ W2, Gw W W2 → (Instr.lookup 55 (.map m) (.agg #[.int .i64 x.1.1.2.1, .int .i64 x.2]) true).run Try.prog W2 = .ok (.tuple #[.int .i64 0, .bool false]) W2) := fun W2 g => by
        have := (hm W2 (HGB.out W2 g)).2
        unfold getF hasF at this
        rw [show f2 (x.1.1.2.1, x.2) = none from hf] at this
        exact this
      have HXM := Lib.hid hx
      clear hm hf hx
      have oc := fun nq os => (gwOf W nq os).cell hoc
      have c1q := fun nq os => (gwOf W nq os).cell c1
      have k0q := fun nq os => (gwOf W nq os).cell k0
      have hlk := fun nq os => HLK.out _ (gwOf W nq os)
      have x0 := fun nq os => (box_here (HBX.out _ (gwOf W nq os))).1
      have x1 := fun nq os => (box_here (HBX.out _ (gwOf W nq os))).2.1
      have x2 := fun nq os => (box_here (HBX.out _ (gwOf W nq os))).2.2.1
      have x3 := fun nq os => (box_here (HBX.out _ (gwOf W nq os))).2.2.2.1
      have x4 := fun nq os => (box_here (HBX.out _ (gwOf W nq os))).2.2.2.2.1
      have x5 := fun nq os => (box_here (HBX.out _ (gwOf W nq os))).2.2.2.2.2.1
      have x6 := fun nq os => (box_here (HBX.out _ (gwOf W nq os))).2.2.2.2.2.2.1
      clear hoc c1  k0
      gi_wp2_with fail
      refine region_round (by kernel_rfl) (by kernel_rfl) (by kernel_rfl) ?_
      iterate 12 (refine WQ.step (fun K hK => ?_); go_simp; first | (refine hK _ ?_; clear hK K) | (apply Exists.intro; refine ⟨fun _ => ?_, hK _ ?_⟩; (go_at_call 34; exact named_g _ _ _ _ _ _ _ W _ _); clear hK K))
      refine WQ.nil ?_
      intro _ hw'
      obtain ⟨⟨nq, osq⟩, hw''⟩ := hw'
      subst hw''
      have HG2 : Hid (Gw W (grow (W.drewN nq) osq)) := gwOf W nq osq
      clear oc c1q k0q hlk x0 x1 x2 x3 x4 x5 x6
      generalize grow (W.drewN nq) osq = w2 at HG2 ⊢
      gi_wp2_with fail
      refine region_round (by kernel_rfl) (by kernel_rfl) (by kernel_rfl) ?_
      iterate 13 (refine WQ.step (fun K hK => ?_); go_simp; refine hK _ ?_; clear hK K)
      refine WQ.nil ?_
      intro _ hw'
      obtain ⟨⟨nq, osq⟩, hw''⟩ := hw'
      subst hw''
      have HG3 : Hid (Gw W (grow (w2.drewN nq) osq)) := HG2.out.trans (gwOf w2 nq osq)
      generalize grow (w2.drewN nq) osq = w3 at HG3 ⊢
      have hfz := (HX.out w3 HG3.out).2.2.1.frozen
      have hcl := (HX.out w3 HG3.out).2.2.1.cell
      gi_wp2
      obtain ⟨q1, q2, q3, q4, q5⟩ := HX.out w3 HG3.out
      exact ⟨(q1.trans (KeepsOthers.setCell _ _ _)).from _, rfl, Boxed.set (.bool false) q3, q5.setCell (p := ⟨w.heap.size + 1, 0, none⟩) (Nat.le_succ _) _, x, by simp, HXM.out⟩
    · obtain ⟨hi, hni⟩ := KR.out.plc.only _ _ hf
      obtain ⟨B2, M2, cap2, -, -, hF⟩ := (HK.out W (HGB.out W (Gw.refl _))).1.full (by omega)
      have e := hF.c0.symm.trans (k0.trans (by rw [HND.out]))
      injection e with e
      injection e with e1 e2 e3
      subst e1 e3
      have hcell := hF.row.cell hi
      have hBlt := hF.row.lt
      obtain ⟨y, hy⟩ : ∃ y, y = d2[i]! := ⟨_, rfl⟩
      rw [← hy] at hcell hni
      have HC : Hid (∀ W2, Gw W W2 → Cells7 W2 B2 (i * 7) y) := fun W2 g => (hcell.same (g.block hBlt)).seven
      have HK0 : Hid (∀ W2, Gw W W2 → W2.cell? ⟨G2, 0, none⟩ = some (.slice (some ⟨B2, 0, none⟩) n cap2)) := fun W2 g => g.cell k0
      have HLK : Hid (∀ W2, Gw W W2 → (Instr.lookup 55 (.map m) (.agg #[.int .i64 x.1.1.2.1, .int .i64 x.2]) true).run Try.prog W2 = .ok (.tuple #[.int .i64 (i : Nat), .bool true]) W2) := fun W2 g => by
        have := (hm W2 (HGB.out W2 g)).2
        unfold getF hasF at this
        rw [show f2 (x.1.1.2.1, x.2) = some i from hf] at this
        exact this
      have hiz : (i : Int) < (n : Int) := by have := HND.out; omega
      have hin : i < n := by have := HND.out; omega
      have hbig : i < 1000000 := by have := hF.big; omega
      have HYM : Hid (y = x → x ∈ M) := fun e => KR.out.mem.2 ⟨i, hi, hy.symm.trans e⟩
      have HYN : Hid (y ≠ x → x ∉ M) := fun e hx => by
        obtain ⟨j, hj, ej⟩ := KR.out.mem.1 hx
        have := KR.out.plc.at_ j hj
        rw [ej, hf] at this
        cases this
        exact e (hy.trans ej)
      have hgd := fun (op : BinOp) (x y : Operand) (xs ys : Array Value) (w : World) => run_eqGuard_agg (P := Try.prog) w op 36 x y xs ys itGuard
      clear hm hf hF hcell hBlt hy hni hi e2
      by_cases hyx : y = x
      · subst hyx
        have hne : ∀ w, (binOp .neq 36 (ItV y) (ItV y)).run Try.prog w = .ok (.bool false) w := fun w => by rw [itNe]; simp
        have oc := fun nq os => (gwOf W nq os).cell hoc
        have c1q := fun nq os => (gwOf W nq os).cell c1
        have k0q := fun nq os => (gwOf W nq os).cell k0
        have hlk := fun nq os => HLK.out _ (gwOf W nq os)
        have x0 := fun nq os => (box_here (HBX.out _ (gwOf W nq os))).1
        have x1 := fun nq os => (box_here (HBX.out _ (gwOf W nq os))).2.1
        have x2 := fun nq os => (box_here (HBX.out _ (gwOf W nq os))).2.2.1
        have x3 := fun nq os => (box_here (HBX.out _ (gwOf W nq os))).2.2.2.1
        have x4 := fun nq os => (box_here (HBX.out _ (gwOf W nq os))).2.2.2.2.1
        have x5 := fun nq os => (box_here (HBX.out _ (gwOf W nq os))).2.2.2.2.2.1
        have x6 := fun nq os => (box_here (HBX.out _ (gwOf W nq os))).2.2.2.2.2.2.1
        clear hoc c1  k0
        gi_wp2_with fail
        refine region_round (by kernel_rfl) (by kernel_rfl) (by kernel_rfl) ?_
        iterate 12 (refine WQ.step (fun K hK => ?_); go_simp; first | (refine hK _ ?_; clear hK K) | (apply Exists.intro; refine ⟨fun _ => ?_, hK _ ?_⟩; (go_at_call 34; exact named_g _ _ _ _ _ _ _ W _ _); clear hK K))
        refine WQ.nil ?_
        intro _ hw'
        obtain ⟨⟨nq, osq⟩, hw''⟩ := hw'
        subst hw''
        have HG2 : Hid (Gw W (grow (W.drewN nq) osq)) := gwOf W nq osq
        clear oc c1q k0q hlk x0 x1 x2 x3 x4 x5 x6
        generalize grow (W.drewN nq) osq = w2 at HG2 ⊢
        have oc := fun nq os => ((HX.out _ (HG2.out.trans (gwOf w2 nq os))).2.2.2.1).cell
        have k0q := fun nq os => HK0.out _ (HG2.out.trans (gwOf w2 nq os))
        have y0 := fun nq os => (HC.out _ (HG2.out.trans (gwOf w2 nq os))).1
        have y1 := fun nq os => (HC.out _ (HG2.out.trans (gwOf w2 nq os))).2.1
        have y2 := fun nq os => (HC.out _ (HG2.out.trans (gwOf w2 nq os))).2.2.1
        have y3 := fun nq os => (HC.out _ (HG2.out.trans (gwOf w2 nq os))).2.2.2.1
        have y4 := fun nq os => (HC.out _ (HG2.out.trans (gwOf w2 nq os))).2.2.2.2.1
        have y5 := fun nq os => (HC.out _ (HG2.out.trans (gwOf w2 nq os))).2.2.2.2.2.1
        have y6 := fun nq os => (HC.out _ (HG2.out.trans (gwOf w2 nq os))).2.2.2.2.2.2
        have x0 := fun nq os => (box_here (HBX.out _ (HG2.out.trans (gwOf w2 nq os)))).1
        have x1 := fun nq os => (box_here (HBX.out _ (HG2.out.trans (gwOf w2 nq os)))).2.1
        have x2 := fun nq os => (box_here (HBX.out _ (HG2.out.trans (gwOf w2 nq os)))).2.2.1
        have x3 := fun nq os => (box_here (HBX.out _ (HG2.out.trans (gwOf w2 nq os)))).2.2.2.1
        have x4 := fun nq os => (box_here (HBX.out _ (HG2.out.trans (gwOf w2 nq os)))).2.2.2.2.1
        have x5 := fun nq os => (box_here (HBX.out _ (HG2.out.trans (gwOf w2 nq os)))).2.2.2.2.2.1
        have x6 := fun nq os => (box_here (HBX.out _ (HG2.out.trans (gwOf w2 nq os)))).2.2.2.2.2.2.1
        gi_wp2_with fail
        refine region_round (by kernel_rfl) (by kernel_rfl) (by kernel_rfl) ?_
        iterate 13 (refine WQ.step (fun K hK => ?_); go_simp; refine hK _ ?_; clear hK K)
        refine WQ.nil ?_
        intro _ hw'
        obtain ⟨⟨nq, osq⟩, hw''⟩ := hw'
        subst hw''
        have HG3 : Hid (Gw W (grow (w2.drewN nq) osq)) := HG2.out.trans (gwOf w2 nq osq)
        clear oc k0q x0 x1 x2 x3 x4 x5 x6 y0 y1 y2 y3 y4 y5 y6
        generalize grow (w2.drewN nq) osq = w3 at HG3 ⊢
        gi_wp2
        obtain ⟨q1, q2, q3, q4, q5⟩ := HX.out w3 HG3.out
        refine ⟨q1.from _, q2, ⟨q3, q4⟩, q5, fun z hz => ?_⟩
        rcases List.mem_append.1 hz with hz | hz
        · exact HV.out.2.2.2 z hz
        · rw [List.mem_singleton.1 hz]
          first
            | exact HYM.out rfl
            | exact HYM.out trivial
      · have hne : ∀ w, (binOp .neq 36 (ItV y) (ItV x)).run Try.prog w = .ok (.bool true) w := fun w => by rw [itNe]; simp [hyx]
        have HNE := Lib.hid hyx
        clear hyx
        have oc := fun nq os => (gwOf W nq os).cell hoc
        have c1q := fun nq os => (gwOf W nq os).cell c1
        have k0q := fun nq os => (gwOf W nq os).cell k0
        have hlk := fun nq os => HLK.out _ (gwOf W nq os)
        have x0 := fun nq os => (box_here (HBX.out _ (gwOf W nq os))).1
        have x1 := fun nq os => (box_here (HBX.out _ (gwOf W nq os))).2.1
        have x2 := fun nq os => (box_here (HBX.out _ (gwOf W nq os))).2.2.1
        have x3 := fun nq os => (box_here (HBX.out _ (gwOf W nq os))).2.2.2.1
        have x4 := fun nq os => (box_here (HBX.out _ (gwOf W nq os))).2.2.2.2.1
        have x5 := fun nq os => (box_here (HBX.out _ (gwOf W nq os))).2.2.2.2.2.1
        have x6 := fun nq os => (box_here (HBX.out _ (gwOf W nq os))).2.2.2.2.2.2.1
        clear hoc c1  k0
        gi_wp2_with fail
        refine region_round (by kernel_rfl) (by kernel_rfl) (by kernel_rfl) ?_
        iterate 12 (refine WQ.step (fun K hK => ?_); go_simp; first | (refine hK _ ?_; clear hK K) | (apply Exists.intro; refine ⟨fun _ => ?_, hK _ ?_⟩; (go_at_call 34; exact named_g _ _ _ _ _ _ _ W _ _); clear hK K))
        refine WQ.nil ?_
        intro _ hw'
        obtain ⟨⟨nq, osq⟩, hw''⟩ := hw'
        subst hw''
        have HG2 : Hid (Gw W (grow (W.drewN nq) osq)) := gwOf W nq osq
        clear oc c1q k0q hlk x0 x1 x2 x3 x4 x5 x6
        generalize grow (W.drewN nq) osq = w2 at HG2 ⊢
        have oc := fun nq os => ((HX.out _ (HG2.out.trans (gwOf w2 nq os))).2.2.2.1).cell
        have k0q := fun nq os => HK0.out _ (HG2.out.trans (gwOf w2 nq os))
        have y0 := fun nq os => (HC.out _ (HG2.out.trans (gwOf w2 nq os))).1
        have y1 := fun nq os => (HC.out _ (HG2.out.trans (gwOf w2 nq os))).2.1
        have y2 := fun nq os => (HC.out _ (HG2.out.trans (gwOf w2 nq os))).2.2.1
        have y3 := fun nq os => (HC.out _ (HG2.out.trans (gwOf w2 nq os))).2.2.2.1
        have y4 := fun nq os => (HC.out _ (HG2.out.trans (gwOf w2 nq os))).2.2.2.2.1
        have y5 := fun nq os => (HC.out _ (HG2.out.trans (gwOf w2 nq os))).2.2.2.2.2.1
        have y6 := fun nq os => (HC.out _ (HG2.out.trans (gwOf w2 nq os))).2.2.2.2.2.2
        have x0 := fun nq os => (box_here (HBX.out _ (HG2.out.trans (gwOf w2 nq os)))).1
        have x1 := fun nq os => (box_here (HBX.out _ (HG2.out.trans (gwOf w2 nq os)))).2.1
        have x2 := fun nq os => (box_here (HBX.out _ (HG2.out.trans (gwOf w2 nq os)))).2.2.1
        have x3 := fun nq os => (box_here (HBX.out _ (HG2.out.trans (gwOf w2 nq os)))).2.2.2.1
        have x4 := fun nq os => (box_here (HBX.out _ (HG2.out.trans (gwOf w2 nq os)))).2.2.2.2.1
        have x5 := fun nq os => (box_here (HBX.out _ (HG2.out.trans (gwOf w2 nq os)))).2.2.2.2.2.1
        have x6 := fun nq os => (box_here (HBX.out _ (HG2.out.trans (gwOf w2 nq os)))).2.2.2.2.2.2.1
        gi_wp2_with fail
        refine region_round (by kernel_rfl) (by kernel_rfl) (by kernel_rfl) ?_
        iterate 13 (refine WQ.step (fun K hK => ?_); go_simp; refine hK _ ?_; clear hK K)
        refine WQ.nil ?_
        intro _ hw'
        obtain ⟨⟨nq, osq⟩, hw''⟩ := hw'
        subst hw''
        have HG3 : Hid (Gw W (grow (w2.drewN nq) osq)) := HG2.out.trans (gwOf w2 nq osq)
        clear oc k0q x0 x1 x2 x3 x4 x5 x6 y0 y1 y2 y3 y4 y5 y6
        generalize grow (w2.drewN nq) osq = w3 at HG3 ⊢
        have hfz := (HX.out w3 HG3.out).2.2.1.frozen
        have hcl := (HX.out w3 HG3.out).2.2.1.cell
        gi_wp2
        obtain ⟨q1, q2, q3, q4, q5⟩ := HX.out w3 HG3.out
        exact ⟨(q1.trans (KeepsOthers.setCell _ _ _)).from _, rfl, Boxed.set (.bool false) q3, q5.setCell (p := ⟨w.heap.size + 1, 0, none⟩) (Nat.le_succ _) _, x, by simp, HYN.out HNE.out⟩
  case done =>
    rintro D xs W hD rfl ⟨⟨hv, ho⟩, hB1, hM⟩ hK
    have hcv := hv.cell
    have hfv := hv.frozen
    gi_wp2
    have hK' := (KeepsOthers.setCell W ⟨w.heap.size + 1, 0, none⟩ (.bool true)).same D _ hK rfl
    refine ⟨by simp, .inl ⟨_, _, rfl, run_takeDeferred hK', ?_⟩⟩
    have hv2 := ((hv.set (.bool true)).kept (grownBy_putObj' _ D (.deferred none)) (fun e => by have := Option.some.inj e; omega)).cell
    refine ⟨.bool true, by simp [results, Try.results13, go_sem, hv2], ?_, ?_⟩
    · rw [HLM.out hM, decide_eq_true rfl]
    · exact ((hbw.trans hB1).setCell (p := ⟨w.heap.size + 1, 0, none⟩) (Nat.le_succ _) _).trans (belowK_b (w := w) (Nat.le_refl _) _ D _ _ (by omega) hK' rfl rfl)
  case stop =>
    rintro D cd pre W hD hpre ⟨rfl, hv, hB1, y, hy, hyM⟩ hK
    gi_wp2
    refine ⟨by simp, .inl ⟨_, _, rfl, run_takeDeferred hK, ?_⟩⟩
    have hv2 := (hv.kept (grownBy_putObj' _ D (.deferred none)) (fun e => by have := Option.some.inj e; omega)).cell
    refine ⟨.bool false, by simp [results, Try.results13, go_sem, hv2], ?_, ?_⟩
    · have hne : L ≠ M := fun e => hyM (e ▸ hpre.subset hy)
      rw [decide_eq_false hne]
    · exact (hbw.trans hB1).trans (belowK_b (w := w) (Nat.le_refl _) W D _ _ (by omega) hK rfl rfl)
end Go.Proofs.Ytgfoagpmkbdciaa
