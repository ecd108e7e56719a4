/-
  The walks of EncodeRequest, MayRequest, DecodeRequest.
-/
import Derived.Test.YtdpfmaikijilkaaEN2
namespace Go.Proofs.Ytdpfmaikijilkaa
open Go Go.RowKit Go.Sort Go.Proofs Go.MapKept

def MayTo (w : World) (r : Option (List UInt8)) (e : Ending) (w' : World) : Prop := e = .returned (.bool r.isSome) ∧ Below w.heap.size w w'
theorem RqC_cells {W : World} {B : Nat} {q : Rq} {mv : Value} {T : TypeId} {fr : Nat × Nat} (h : W.heap[B]? = some (.cells (RqC q mv) T fr)) : W.cell? ⟨B, 0, none⟩ = some (.int .i64 q.kind) ∧ W.cell? ⟨B, 1, none⟩ = some (.int .u32 q.id) ∧ W.cell? ⟨B, 2, none⟩ = some (.int .i64 q.ver) ∧ W.cell? ⟨B, 3, none⟩ = some mv ∧ W.cell? ⟨B, 4, none⟩ = some (.int .i64 q.time) ∧ W.cell? ⟨B, 5, none⟩ = some (.int .i64 q.org) ∧ W.cell? ⟨B, 6, none⟩ = some (.int .i64 q.seq) ∧ W.cell? ⟨B, 7, none⟩ = some (.int .i64 q.pt) ∧ W.cell? ⟨B, 8, none⟩ = some (.int .i64 q.ek) ∧ W.cell? ⟨B, 9, none⟩ = some (.int .i64 q.dat) ∧ W.cell? ⟨B, 10, none⟩ = some (.int .u32 q.num) ∧ W.cell? ⟨B, 11, none⟩ = some (.int .i64 q.bp) ∧ W.cell? ⟨B, 12, none⟩ = some (.int .i64 q.bk) ∧ W.cell? ⟨B, 13, none⟩ = some (.int .i64 q.bt) ∧ W.cell? ⟨B, 14, none⟩ = some (.int .i64 q.pr) ∧ W.cell? ⟨B, 15, none⟩ = some (.int .i64 q.nm) ∧ W.cell? ⟨B, 16, none⟩ = some (.int .i64 q.dn) := by
  obtain ⟨f1, f2⟩ := fr
  exact ⟨by rw [cell_of_row _ _ _ _ _ _ h]; rfl, by rw [cell_of_row _ _ _ _ _ _ h]; rfl, by rw [cell_of_row _ _ _ _ _ _ h]; rfl, by rw [cell_of_row _ _ _ _ _ _ h]; rfl, by rw [cell_of_row _ _ _ _ _ _ h]; rfl, by rw [cell_of_row _ _ _ _ _ _ h]; rfl, by rw [cell_of_row _ _ _ _ _ _ h]; rfl, by rw [cell_of_row _ _ _ _ _ _ h]; rfl, by rw [cell_of_row _ _ _ _ _ _ h]; rfl, by rw [cell_of_row _ _ _ _ _ _ h]; rfl, by rw [cell_of_row _ _ _ _ _ _ h]; rfl, by rw [cell_of_row _ _ _ _ _ _ h]; rfl, by rw [cell_of_row _ _ _ _ _ _ h]; rfl, by rw [cell_of_row _ _ _ _ _ _ h]; rfl, by rw [cell_of_row _ _ _ _ _ _ h]; rfl, by rw [cell_of_row _ _ _ _ _ _ h]; rfl, by rw [cell_of_row _ _ _ _ _ _ h]; rfl⟩
theorem step_load_row {P : Program} {ops : Array Oper} {o : Oper} {a : Act} {w : World} {K : Act → World → Prop} {Q : Exit → Act → World → Prop} {E : Prop} (hgd : o.guard = none) (ty : TypeId) (x : Operand) (ho : o.op = .load ty x)
    (g : Nat) (hx : a.eval x = .pointer (some ⟨g, 0, none⟩)) (t : TypeId) (cs : Array Value) (fr : Nat × Nat) (d : TypeDesc) (hg : w.heap[g]? = some (.cells cs t fr))
    (hu : P.underlying ty = some d) (hd : (match d with | .struct _ | .array _ _ => true | _ => false) = true) (hi : (P.info? ty).map (·.size) = some cs.size)
    (h : K (a.put o.dst (.agg cs)) w) : if Region.wanted o (yielded ops a.tmps) = true then Oper.wp P o a w K Q else E := by
  have hw : Region.wanted o (yielded ops a.tmps) = true := by simp [Region.wanted, hgd]
  rw [if_pos hw]
  exact wp_load_row ty x ho g hx t cs fr d hg hu hd hi h
theorem EncTo.tuple {P : Program} {f : FuncId} {args : Array Value} {w W : World} {r : Option (List UInt8)} (h : Calls P f args W (EncTo w r)) : Calls P f args W (fun e w' => ∃ v n, e = .returned (.tuple #[v, .int .i64 n]) ∧ EncTo w r (.returned (.tuple #[v, .int .i64 n])) w') :=
  h.mono fun e w' he => by
    have h2 := he.2
    cases r with
    | none => exact ⟨_, _, h2, by rw [← h2]; exact he⟩
    | some b =>
      obtain ⟨hl, v, e2, ho⟩ := h2
      exact ⟨_, _, e2, by rw [← e2]; exact he⟩
theorem EncTo.up {w W w' : World} {r : Option (List UInt8)} {e : Ending} (hb : Below w.heap.size w W) (h : EncTo W r e w') : EncTo w r e w' := by
  refine ⟨hb.trans (h.1.mono hb.size), ?_⟩
  have h2 := h.2
  cases r with
  | none => exact h2
  | some b =>
    obtain ⟨hl, v, e, ho⟩ := h2
    exact ⟨hl, v, e, ho.mono hb.size⟩
theorem cat_keep {W : World} {B : Nat} {q q0 : Rq} {a a0 : Option Addr} {n0 c0 : Nat} {T : TypeId} (h : CB.At W a q.model.length q.model) (hr : W.heap[B]? = some (.cells (RqC q0 (.slice a0 n0 c0)) T (0, 0))) (cs : Array Value) : CB.At (W.setRow B cs) a q.model.length q.model := by
  by_cases h0 : q.model = []
  · rw [h0] at h ⊢
    exact CB_nil _ _
  · refine h.same (by simp) fun p e _ => setRow_other _ _ _ _ ?_
    subst e
    exact cell_row_no hr h h0
set_option maxHeartbeats 4000000 in
set_option maxRecDepth 100000 in
theorem EncodeRequest_any (w : World) (q : Rq) (a : Option Addr) (cap : Nat) (ha : CB.At w a q.model.length q.model) (hc : q.model.length ≤ cap) (u1 : U32 q.id) (u2 : U32 q.num) :
    Calls Try.prog 9 #[.agg (RqC q (.slice a q.model.length cap))] w (EncTo w (encQ q)) := by
  obtain ⟨r, hr⟩ : ∃ r, r = encQ q := ⟨_, rfl⟩
  rw [← hr]
  have HE : Hid (∀ W base Mp, Below w.heap.size w W → GMap 96 base Mp tabReq W → Calls Try.prog 30 #[gQ Mp, .agg (RqC q (.slice a q.model.length cap))] W (EncTo W r)) := fun W base Mp h1 h2 => by
    rw [hr]
    exact encode_any W base Mp h2 q a cap (ha.below h1) hc u1 u2
  obtain ⟨mv, hmv⟩ : ∃ mv, mv = Value.slice a q.model.length cap := ⟨_, rfl⟩
  rw [← hmv] at HE ⊢
  clear hmv ha hc u1 u2 hr
  all_goals
    go_enter Try.func9, Try.ntmps9
    go_wp2_with fail
    generalize hw1 : World.alloc _ _ = w1
    have hb1 : Below w.heap.size w w1 := by rw [← hw1]; exact (Below.refl _ _).alloc (Nat.le_refl _) _
    have hx1 : w1.heap[w.heap.size]? = some (.cells (RqC q mv) 32 (0, 0)) := by rw [← hw1]; exact heap_alloc_new _ _
    have H1 := Lib.hid (And.intro hb1 hx1)
    clear hb1 hx1 hw1
    refine wp_region_any (by kernel_rfl) ?_
    change wpAny _ _ _ _ _ _ _ (World.drew _)
    refine wpAny_ready (rs := [0, 1]) (by kernel_rfl) (by simp) ?_
    refine AllReady.cons rfl (fun K hK => ?_) (AllReady.cons rfl (fun K hK => ?_) AllReady.nil)
    · go_simp
      go_at_call 29
      refine (requests_any _).mono ?_
      rintro e w3 ⟨Mp, rfl, hb3, hg3⟩
      have hb3' : Below w1.heap.size w1 w3 := (Below.refl _ w1).drew.trans hb3
      have H3 := Lib.hid (And.intro (H1.out.1.trans (hb3'.mono H1.out.1.size)) (And.intro hg3 ((hb3'.block _ (Array.getElem?_eq_some_iff.1 H1.out.2).1).trans H1.out.2)))
      clear hb3 hb3' hg3
      dsimp only
      refine hK _ _ ?_
      clear hK K
      refine wpAny_ready (rs := [1]) (by kernel_rfl) (by simp) (AllReady.cons rfl (fun K hK => ?_) AllReady.nil)
      refine step_load_row rfl 32 (.tmp 1) rfl w.heap.size rfl 32 (RqC q mv) (0, 0) _ H3.out.2.2 Try.underlying32 rfl (infoQ _ _) ?_
      refine hK _ _ ?_
      clear hK K
      refine wpAny_ready (rs := [2]) (by kernel_rfl) (by simp) (AllReady.cons rfl (fun K hK => ?_) AllReady.nil)
      go_simp
      go_at_call 30
      refine (EncTo.tuple (HE.out _ _ _ H3.out.1 H3.out.2.1)).mono ?_
      rintro e w4 ⟨v4, r4, rfl, ho4⟩
      have H4 := Lib.hid (EncTo.up H3.out.1 ho4)
      clear ho4
      dsimp only
      refine hK _ _ ?_
      clear hK K
      refine wpAny_take (i := 3) (v := v4) rfl (by kernel_rfl) (by kernel_rfl) (by kernel_rfl) (fun _ _ _ h => h) (Or.inl ⟨by rfl, fun w => by go_simp⟩) ?_
      refine wpAny_take (i := 4) (v := .int .i64 r4) rfl (by kernel_rfl) (by kernel_rfl) (by kernel_rfl) (fun _ _ _ h => h) (Or.inl ⟨by rfl, fun w => by go_simp⟩) ?_
      refine wpAny_take (i := 5) (v := v4) rfl (by kernel_rfl) (by kernel_rfl) (by kernel_rfl) (fun _ _ _ h => h) (Or.inl ⟨by rfl, fun w => by go_simp⟩) ?_
      refine wpAny_take (i := 6) (v := .int .i64 r4) rfl (by kernel_rfl) (by kernel_rfl) (by kernel_rfl) (fun _ _ _ h => h) (Or.inl ⟨by rfl, fun w => by go_simp⟩) ?_
      refine wpAny_done (by kernel_rfl) ?_ _
      go_wp2
      go_ret2
      exact H4.out
    · refine step_load_row rfl 32 (.tmp 1) rfl w.heap.size rfl 32 (RqC q mv) (0, 0) _ H1.out.2 Try.underlying32 rfl (infoQ _ _) ?_
      refine hK _ _ ?_
      clear hK K
      refine wpAny_ready (rs := [0]) (by kernel_rfl) (by simp) (AllReady.cons rfl (fun K hK => ?_) AllReady.nil)
      go_simp
      go_at_call 29
      refine (requests_any _).mono ?_
      rintro e w3 ⟨Mp, rfl, hb3, hg3⟩
      have hb3' : Below w1.heap.size w1 w3 := (Below.refl _ w1).drew.trans hb3
      have H3 := Lib.hid (And.intro (H1.out.1.trans (hb3'.mono H1.out.1.size)) (And.intro hg3 ((hb3'.block _ (Array.getElem?_eq_some_iff.1 H1.out.2).1).trans H1.out.2)))
      clear hb3 hb3' hg3
      dsimp only
      refine hK _ _ ?_
      clear hK K
      refine wpAny_ready (rs := [2]) (by kernel_rfl) (by simp) (AllReady.cons rfl (fun K hK => ?_) AllReady.nil)
      go_simp
      go_at_call 30
      refine (EncTo.tuple (HE.out _ _ _ H3.out.1 H3.out.2.1)).mono ?_
      rintro e w4 ⟨v4, r4, rfl, ho4⟩
      have H4 := Lib.hid (EncTo.up H3.out.1 ho4)
      clear ho4
      dsimp only
      refine hK _ _ ?_
      clear hK K
      refine wpAny_take (i := 3) (v := v4) rfl (by kernel_rfl) (by kernel_rfl) (by kernel_rfl) (fun _ _ _ h => h) (Or.inl ⟨by rfl, fun w => by go_simp⟩) ?_
      refine wpAny_take (i := 4) (v := .int .i64 r4) rfl (by kernel_rfl) (by kernel_rfl) (by kernel_rfl) (fun _ _ _ h => h) (Or.inl ⟨by rfl, fun w => by go_simp⟩) ?_
      refine wpAny_take (i := 5) (v := v4) rfl (by kernel_rfl) (by kernel_rfl) (by kernel_rfl) (fun _ _ _ h => h) (Or.inl ⟨by rfl, fun w => by go_simp⟩) ?_
      refine wpAny_take (i := 6) (v := .int .i64 r4) rfl (by kernel_rfl) (by kernel_rfl) (by kernel_rfl) (fun _ _ _ h => h) (Or.inl ⟨by rfl, fun w => by go_simp⟩) ?_
      refine wpAny_done (by kernel_rfl) ?_ _
      go_wp2
      go_ret2
      exact H4.out
set_option maxHeartbeats 4000000 in
set_option maxRecDepth 100000 in
theorem may_any (w : World) (base Mp : Nat) (hG : GMap 96 base Mp tabReq w) (q : Rq) (a : Option Addr) (cap : Nat) (ha : CB.At w a q.model.length q.model) (hc : q.model.length ≤ cap) (u1 : U32 q.id) (u2 : U32 q.num) :
    Calls Try.prog 32 #[gQ Mp, .agg (RqC q (.slice a q.model.length cap))] w (MayTo w (encQ q)) := by
  obtain ⟨r, hr⟩ : ∃ r, r = encQ q := ⟨_, rfl⟩
  rw [← hr]
  have HE : Hid (∀ W, Below w.heap.size w W → Calls Try.prog 30 #[gQ Mp, .agg (RqC q (.slice a q.model.length cap))] W (EncTo W r)) := fun W h1 => by
    rw [hr]
    exact encode_any W base Mp (hG.below h1) q a cap (ha.below h1) hc u1 u2
  obtain ⟨cs, hcs⟩ : ∃ cs, cs = RqC q (.slice a q.model.length cap) := ⟨_, rfl⟩
  have HI : Hid ((Try.prog.info? 32).map (·.size) = some cs.size) := by rw [Lib.hid_eq, hcs]; exact infoQ _ _
  have hE0 : Hid (∀ W, (w.alloc (.cells #[.func (.func 51) #[] #[], .map (some Mp), .func (.func 27) #[] #[]] 72)).alloc (.cells cs 32) = W → En0 w W Mp q (.slice a q.model.length cap)) := fun W h => (En0.of (by rw [hcs] at h; exact h)).1
  have HB1 : Hid (∀ W, En0 w W Mp q (.slice a q.model.length cap) → W.heap[w.heap.size + 1]? = some (.cells cs 32 (0, 0))) := fun W h => by rw [hcs]; exact h.b1
  rw [← hcs] at HE ⊢
  clear hcs hG ha hc u1 u2 hr
  rcases r with _ | b
  all_goals
    go_enter Try.func32, Try.ntmps32
    go_wp2_with (first
      | (show wpList _ _ _ (Oper.mk _ (.load _ (.tmp 2)) _ _ _ _ :: _) _ _; refine wpList_load_row rfl 72 (.tmp 2) rfl (w.heap.size) rfl 72 #[.func (.func 51) #[] #[], .map (some Mp), .func (.func 27) #[] #[]] (0, 0) _ (hE0.out _ rfl).b0 Try.underlying72 rfl (infoG _ _ _) ?_)
      | (show wpList _ _ _ (Oper.mk _ (.load _ (.tmp 3)) _ _ _ _ :: _) _ _; refine wpList_load_row rfl 32 (.tmp 3) rfl (w.heap.size + 1) rfl 32 cs (0, 0) _ (HB1.out _ (hE0.out _ rfl)) Try.underlying32 rfl HI.out ?_)
      | (go_at_call 30; refine (HE.out _ (hE0.out _ rfl).below).mono ?_; rintro e w4 ⟨hb4, rfl⟩; have H4 := Lib.hid ((hE0.out _ rfl).below.trans (hb4.mono (hE0.out _ rfl).below.size)); clear hb4)
      | (go_at_call 30; refine (HE.out _ (hE0.out _ rfl).below).mono ?_; rintro e w4 ⟨hb4, hl4, v4, rfl, ho4⟩; have H4 := Lib.hid ((hE0.out _ rfl).below.trans (hb4.mono (hE0.out _ rfl).below.size)); clear hb4 hl4 ho4))
    go_ret
    exact ⟨rfl, H4.out⟩
set_option maxHeartbeats 4000000 in
set_option maxRecDepth 100000 in
theorem MayRequest_any (w : World) (q : Rq) (a : Option Addr) (cap : Nat) (ha : CB.At w a q.model.length q.model) (hc : q.model.length ≤ cap) (u1 : U32 q.id) (u2 : U32 q.num) :
    Calls Try.prog 11 #[.agg (RqC q (.slice a q.model.length cap))] w (MayTo w (encQ q)) := by
  obtain ⟨r, hr⟩ : ∃ r, r = encQ q := ⟨_, rfl⟩
  rw [← hr]
  have HE : Hid (∀ W base Mp, Below w.heap.size w W → GMap 96 base Mp tabReq W → Calls Try.prog 32 #[gQ Mp, .agg (RqC q (.slice a q.model.length cap))] W (MayTo W r)) := fun W base Mp h1 h2 => by
    rw [hr]
    exact may_any W base Mp h2 q a cap (ha.below h1) hc u1 u2
  obtain ⟨mv, hmv⟩ : ∃ mv, mv = Value.slice a q.model.length cap := ⟨_, rfl⟩
  rw [← hmv] at HE ⊢
  clear hmv ha hc u1 u2 hr
  all_goals
    go_enter Try.func11, Try.ntmps11
    go_wp2_with fail
    generalize hw1 : World.alloc _ _ = w1
    have hb1 : Below w.heap.size w w1 := by rw [← hw1]; exact (Below.refl _ _).alloc (Nat.le_refl _) _
    have hx1 : w1.heap[w.heap.size]? = some (.cells (RqC q mv) 32 (0, 0)) := by rw [← hw1]; exact heap_alloc_new _ _
    have H1 := Lib.hid (And.intro hb1 hx1)
    clear hb1 hx1 hw1
    refine wp_region_any (by kernel_rfl) ?_
    change wpAny _ _ _ _ _ _ _ (World.drew _)
    refine wpAny_ready (rs := [0, 1]) (by kernel_rfl) (by simp) ?_
    refine AllReady.cons rfl (fun K hK => ?_) (AllReady.cons rfl (fun K hK => ?_) AllReady.nil)
    · go_simp
      go_at_call 29
      refine (requests_any _).mono ?_
      rintro e w3 ⟨Mp, rfl, hb3, hg3⟩
      have hb3' : Below w1.heap.size w1 w3 := (Below.refl _ w1).drew.trans hb3
      have H3 := Lib.hid (And.intro (H1.out.1.trans (hb3'.mono H1.out.1.size)) (And.intro hg3 ((hb3'.block _ (Array.getElem?_eq_some_iff.1 H1.out.2).1).trans H1.out.2)))
      clear hb3 hb3' hg3
      dsimp only
      refine hK _ _ ?_
      clear hK K
      refine wpAny_ready (rs := [1]) (by kernel_rfl) (by simp) (AllReady.cons rfl (fun K hK => ?_) AllReady.nil)
      refine step_load_row rfl 32 (.tmp 1) rfl w.heap.size rfl 32 (RqC q mv) (0, 0) _ H3.out.2.2 Try.underlying32 rfl (infoQ _ _) ?_
      refine hK _ _ ?_
      clear hK K
      refine wpAny_ready (rs := [2]) (by kernel_rfl) (by simp) (AllReady.cons rfl (fun K hK => ?_) AllReady.nil)
      go_simp
      go_at_call 32
      refine (HE.out _ _ _ H3.out.1 H3.out.2.1).mono ?_
      rintro e w4 ⟨rfl, hb4⟩
      have H4 := Lib.hid (H3.out.1.trans (hb4.mono H3.out.1.size))
      clear hb4
      dsimp only
      refine hK _ _ ?_
      clear hK K
      refine wpAny_take (i := 3) (v := .bool r.isSome) rfl (by kernel_rfl) (by kernel_rfl) (by kernel_rfl) (fun _ _ _ h => h) (Or.inl ⟨by rfl, fun w => by go_simp⟩) ?_
      refine wpAny_done (by kernel_rfl) ?_ _
      go_wp2
      go_ret
      exact ⟨rfl, H4.out⟩
    · refine step_load_row rfl 32 (.tmp 1) rfl w.heap.size rfl 32 (RqC q mv) (0, 0) _ H1.out.2 Try.underlying32 rfl (infoQ _ _) ?_
      refine hK _ _ ?_
      clear hK K
      refine wpAny_ready (rs := [0]) (by kernel_rfl) (by simp) (AllReady.cons rfl (fun K hK => ?_) AllReady.nil)
      go_simp
      go_at_call 29
      refine (requests_any _).mono ?_
      rintro e w3 ⟨Mp, rfl, hb3, hg3⟩
      have hb3' : Below w1.heap.size w1 w3 := (Below.refl _ w1).drew.trans hb3
      have H3 := Lib.hid (And.intro (H1.out.1.trans (hb3'.mono H1.out.1.size)) (And.intro hg3 ((hb3'.block _ (Array.getElem?_eq_some_iff.1 H1.out.2).1).trans H1.out.2)))
      clear hb3 hb3' hg3
      dsimp only
      refine hK _ _ ?_
      clear hK K
      refine wpAny_ready (rs := [2]) (by kernel_rfl) (by simp) (AllReady.cons rfl (fun K hK => ?_) AllReady.nil)
      go_simp
      go_at_call 32
      refine (HE.out _ _ _ H3.out.1 H3.out.2.1).mono ?_
      rintro e w4 ⟨rfl, hb4⟩
      have H4 := Lib.hid (H3.out.1.trans (hb4.mono H3.out.1.size))
      clear hb4
      dsimp only
      refine hK _ _ ?_
      clear hK K
      refine wpAny_take (i := 3) (v := .bool r.isSome) rfl (by kernel_rfl) (by kernel_rfl) (by kernel_rfl) (fun _ _ _ h => h) (Or.inl ⟨by rfl, fun w => by go_simp⟩) ?_
      refine wpAny_done (by kernel_rfl) ?_ _
      go_wp2
      go_ret
      exact ⟨rfl, H4.out⟩
set_option maxHeartbeats 4000000 in
set_option maxRecDepth 100000 in
theorem DecodeRequest_any (w : World) (a : Option Addr) (c : Nat) (b : List UInt8) (hb : CB.At w a b.length b) (hc : b.length ≤ c) (hcm : c ≤ 9223372036854775807) (hn : b.length ≤ 900000) :
    Calls Try.prog 13 #[.slice a b.length c] w (DecTo w (decQ b)) := by
  obtain ⟨q, er, hd⟩ : ∃ q er, decQ b = (q, er) := ⟨_, _, rfl⟩
  rw [hd]
  have HE : Hid (∀ W base Mp, Below w.heap.size w W → GMap 96 base Mp tabReq W → Calls Try.prog 33 #[gQ Mp, .slice a b.length c] W (DecTo W (q, er))) := fun W base Mp h1 h2 => by
    rw [← hd]
    exact decode_any W base Mp h2 a c b (hb.below h1) hc hcm hn
  obtain ⟨n, hn2⟩ : ∃ n, n = b.length := ⟨_, rfl⟩
  rw [← hn2] at HE ⊢
  clear hb hc hcm hn hd hn2
  obtain ⟨z, hz⟩ : ∃ z, z = RqC (zeroQ 0) (.slice none 0 0) := ⟨_, rfl⟩
  go_enter Try.func13, Try.ntmps13
  go_wp2_with (first
    | (go_at_call 29; generalize hw1 : World.alloc _ _ = w1; have hb1 : Below w.heap.size w w1 := (by rw [← hw1]; exact (Below.refl _ _).alloc (Nat.le_refl _) _); have hx1 : w1.heap[w.heap.size]? = some (.cells (RqC (zeroQ 0) (.slice none 0 0)) 32 (0, 0)) := (by rw [← hw1]; exact heap_alloc_new _ _); clear hw1; refine (requests_any _).mono ?_; rintro e w3 ⟨Mp, rfl, hb3, hg3⟩; have H3 := Lib.hid (And.intro (hb1.trans (hb3.mono hb1.size)) (And.intro hg3 ((hb3.block _ (Array.getElem?_eq_some_iff.1 hx1).1).trans hx1))); clear hb1 hx1 hb3 hg3)
    | (go_at_call 33; refine (HE.out _ _ _ H3.out.1 H3.out.2.1).mono ?_; rintro e w4 ⟨a4, c4, rfl, hle, hat, hfr, hu1, hu2, hb4⟩; have H4 := Lib.hid (And.intro (H3.out.1.trans (hb4.mono H3.out.1.size)) (And.intro ((hb4.block _ (Array.getElem?_eq_some_iff.1 H3.out.2.2).1).trans H3.out.2.2) (And.intro hle (And.intro hat (And.intro hfr (And.intro hu1 (And.intro hu2 H3.out.1))))))); clear hle hat hfr hu1 hu2 hb4)
    | (show wpList _ _ _ (Oper.mk _ (.store _ (.tmp 2) (.tmp 7)) _ _ _ _ :: _) _ _; refine wpList_store_row rfl 32 (.tmp 2) (.tmp 7) rfl w.heap.size (RqC q (.slice a4 q.model.length c4)) rfl rfl 32 (RqC (zeroQ 0) (.slice none 0 0)) H4.out.2.1 (infoQ _ _) rfl (RqC_one _ _ _ _) ?_))
  exact ⟨rfl, _, results_two rfl _ _ w.heap.size 32 (RqC q (.slice a4 q.model.length c4)) (0, 0) _ rfl (setRow_heap _ _ _ _ _ _ H4.out.2.1) Try.underlying32 rfl (infoQ _ _), a4, c4, rfl, H4.out.2.2.1, cat_keep H4.out.2.2.2.1 H4.out.2.1 _, fun p e e2 => Nat.le_trans H4.out.2.2.2.2.2.2.2.size (H4.out.2.2.2.2.1 p e e2), H4.out.2.2.2.2.2.1, H4.out.2.2.2.2.2.2.1, below_setRow H4.out.1 (Nat.le_refl _) _⟩
end Go.Proofs.Ytdpfmaikijilkaa
