/-
  The walks of requests and of responses: the tables of fields.
-/
import Derived.Test.YtdpfmaikijilkaaG1
import Derived.Laws.EntriesVeiled
namespace Go.Proofs.Ytdpfmaikijilkaa
open Go Go.RowKit Go.Sort Go.Proofs Go.MapKept

theorem wpList_insF {P : Program} {ops : Array Oper} {rest : List Oper} {o : Oper} {a : Act} {Q : Exit → Act → World → Prop} {w : World} (hg : o.guard = none) (m x v : Operand) (mt : TypeId) (hop : o.op = Op.insert mt m x v)
    {kt st ET : TypeId} {base Mp : Nat} {T : List (Int × List FuncId)} (hm : P.underlying mt = some (.map kt st)) (hk : P.underlying kt = some (.int .i64)) (h : GMap ET base Mp T w) (k : Int) (fns : List FuncId) (g : Nat)
    (hmv : a.eval m = .map (some Mp)) (hxv : a.eval x = .int .i64 k) (hvv : a.eval v = .slice (some ⟨g, 0, none⟩) fns.length fns.length) (hl : lookF T k = none) (hrow : w.heap[g]? = some (.cells (CF.cells fns).toArray ET (0, 0))) (hb : base ≤ g) (hne : g ≠ Mp)
    (hK : ∀ w', GMap ET base Mp (T ++ [(k, fns)]) w' → But (fun b => b = Mp) w w' → w'.heap.size = w.heap.size → wpList P ops Q rest (a.put o.dst undef) w') : wpList P ops Q (o :: rest) a w := by
  refine wpList_plain hg fun K' hK' => ?_
  obtain ⟨w', hrun, r1, r2, r3⟩ := h.insert hm hk hl hrow hb hne
  unfold Oper.wp
  simp [execOp, hop, hmv, hxv, hvv, hrun, Result.andThen]
  exact hK' _ _ (hK w' r1 r2 r3)
theorem tab_end {ET : TypeId} {w w' : World} {Tt : TypeId} {T : List (Int × List FuncId)} {a b c x y z : Value} (h : GMap ET (w.heap.size + 1) (w.heap.size + 1) T w' ∧ Below (w.heap.size + 1) (w.alloc (.cells #[a, b, c] Tt)) w') :
    (((w'.setCell ⟨w.heap.size, 0, none⟩ x).setCell ⟨w.heap.size, 1, none⟩ y).setCell ⟨w.heap.size, 2, none⟩ z).heap[w.heap.size]? = some (.cells #[x, y, z] Tt (0, 0)) ∧
    Below w.heap.size w (((w'.setCell ⟨w.heap.size, 0, none⟩ x).setCell ⟨w.heap.size, 1, none⟩ y).setCell ⟨w.heap.size, 2, none⟩ z) ∧ GMap ET w.heap.size (w.heap.size + 1) T (((w'.setCell ⟨w.heap.size, 0, none⟩ x).setCell ⟨w.heap.size, 1, none⟩ y).setCell ⟨w.heap.size, 2, none⟩ z) := by
  obtain ⟨h1, h2⟩ := h
  have e : w'.heap[w.heap.size]? = some (.cells #[a, b, c] Tt (0, 0)) := (h2.block _ (by omega)).trans (heap_alloc_new _ _)
  have e1 := heap_setCell_same _ _ 0 _ _ x e
  have e2 := heap_setCell_same _ _ 1 _ _ y e1
  have e3 := heap_setCell_same _ _ 2 _ _ z e2
  have hb : But (fun k => k = w.heap.size) w' (((w'.setCell ⟨w.heap.size, 0, none⟩ x).setCell ⟨w.heap.size, 1, none⟩ y).setCell ⟨w.heap.size, 2, none⟩ z) := (((But.refl (fun k => k = w.heap.size) w').setCell (p := ⟨w.heap.size, 0, none⟩) rfl _).setCell (p := ⟨w.heap.size, 1, none⟩) rfl _).setCell (p := ⟨w.heap.size, 2, none⟩) rfl _
  have h3 := h1.but hb (fun b e => by omega)
  refine ⟨e3, ((((((Below.refl _ w).alloc (Nat.le_refl _) _).trans (h2.mono (Nat.le_succ _))).setCell (p := ⟨w.heap.size, 0, none⟩) (Nat.le_refl _) _).setCell (p := ⟨w.heap.size, 1, none⟩) (Nat.le_refl _) _).setCell (p := ⟨w.heap.size, 2, none⟩) (Nat.le_refl _) _), by omega, ?_⟩
  obtain ⟨es, clock, g1, g2, g3⟩ := h3.2
  exact ⟨es, clock, g1, g2, fun x hx => ⟨by have := (g3 x hx).1; omega, (g3 x hx).2⟩⟩
theorem res_cells {w w' : World} {T : TypeId} {a b c : Value} (h : Below (w.heap.size + 1) (w.alloc (.cells #[a, b, c] T)) w') :
    w'.cell? ⟨w.heap.size, 0, none⟩ = some a ∧ w'.cell? ⟨w.heap.size, 1, none⟩ = some b ∧ w'.cell? ⟨w.heap.size, 2, none⟩ = some c ∧ w'.frozen? ⟨w.heap.size, 0, none⟩ = false ∧ w'.frozen? ⟨w.heap.size, 1, none⟩ = false ∧ w'.frozen? ⟨w.heap.size, 2, none⟩ = false := by
  have e : w'.heap[w.heap.size]? = some (.cells #[a, b, c] T (0, 0)) := (h.block _ (by omega)).trans (heap_alloc_new _ _)
  exact ⟨by rw [cell_of_row _ _ _ _ _ _ e]; rfl, by rw [cell_of_row _ _ _ _ _ _ e]; rfl, by rw [cell_of_row _ _ _ _ _ _ e]; rfl, frozen_of_row _ _ _ _ _ e, frozen_of_row _ _ _ _ _ e, frozen_of_row _ _ _ _ _ e⟩
theorem wpList_insA {P : Program} {ops : Array Oper} {rest : List Oper} {o : Oper} {a : Act} {Q : Exit → Act → World → Prop} {w0 wk : World} {cs : Array Value} (hg : o.guard = none) (m x v : Operand) (mt : TypeId) (hop : o.op = Op.insert mt m x v)
    {kt st ET : TypeId} {base Mp B : Nat} {T : List (Int × List FuncId)} (hm : P.underlying mt = some (.map kt st)) (hk : P.underlying kt = some (.int .i64)) (h : GMap ET base Mp T wk) (hw : Below B w0 wk) (k : Int) (fns : List FuncId) (g : Nat)
    (hmv : a.eval m = .map (some Mp)) (hxv : a.eval x = .int .i64 k) (hvv : a.eval v = .slice (some ⟨g, 0, none⟩) fns.length fns.length) (hl : lookF T k = none) (hcs : cs = (CF.cells fns).toArray) (he : g = wk.heap.size) (hb : base ≤ wk.heap.size) (hb2 : B ≤ base)
    (hK : ∀ w', GMap ET base Mp (T ++ [(k, fns)]) w' → Below B w0 w' → w'.heap.size = wk.heap.size + 1 → wpList P ops Q rest (a.put o.dst undef) w') : wpList P ops Q (o :: rest) a (wk.alloc (.cells cs ET)) := by
  subst hcs
  subst he
  have hlt := h.lt
  refine wpList_insF hg m x v mt hop hm hk (h.below ((Below.refl _ _).alloc (Nat.le_refl _) _)) k fns _ hmv hxv hvv hl (heap_alloc_new _ _) hb (by omega) fun w' h1 h2 h3 => hK w' h1 ((hw.alloc (by omega) _).trans (h2.below (by simp; omega) fun k e => by have := h.1; omega)) (by rw [h3, World.size_alloc])
def tabReq : List (Int × List FuncId) := [((1 : Int), [52, 53]), ((2 : Int), [52, 54]), ((3 : Int), [52, 55]), ((4 : Int), [52, 56, 57]), ((5 : Int), [52, 56]), ((6 : Int), [52, 58]), ((7 : Int), [52]), ((8 : Int), [52]), ((9 : Int), [52]), ((10 : Int), [52, 59]), ((11 : Int), [52]), ((12 : Int), [52])]
/-- a grammar, its map in memory -/
abbrev gQ (Mp : Nat) : Value := .agg #[.func (.func 51) #[] #[], .map (some Mp), .func (.func 27) #[] #[]]
set_option maxHeartbeats 4000000 in
set_option maxRecDepth 100000 in
theorem requests_any (w : World) : Calls Try.prog 29 #[] w (fun e w' => ∃ Mp, e = .returned (gQ Mp) ∧ Below w.heap.size w w' ∧ GMap 96 w.heap.size Mp tabReq w') := by
  have hmm := @run_makeMap Try.prog
  have hG0 : Hid (GMap 96 (w.heap.size + 1) (w.heap.size + 1) [] ((w.alloc (.cells #[.nilFunc, .map none, .nilFunc] 72)).alloc (.map #[] 0)) ∧ Below (w.heap.size + 1) (w.alloc (.cells #[.nilFunc, .map none, .nilFunc] 72)) ((w.alloc (.cells #[.nilFunc, .map none, .nilFunc] 72)).alloc (.map #[] 0))) := by
    refine ⟨?_, (Below.refl _ _).alloc (by simp) _⟩
    have := GMap.made (ET := 96) (w.alloc (.cells #[.nilFunc, .map none, .nilFunc] 72)) (w.heap.size + 1) (by simp)
    rw [World.size_alloc] at this
    exact this
  go_enter Try.func29, Try.ntmps29
  go_wp2_with (first
    | (show wpList _ _ _ (Oper.mk _ (.insert _ _ (.const (.int .i64 1)) _) _ _ _ _ :: _) _ _; refine wpList_insA rfl (.tmp 1) (.const (.int .i64 1)) (.tmp 2) 70 rfl Try.underlying70 Try.underlying22 hG0.out.1 hG0.out.2 1 [52, 53] _ rfl rfl rfl rfl rfl (by simp) (by simp) (Nat.le_refl _) ?_; intro w1 hg1 hb1 hz1; have HG1 := Lib.hid (And.intro hg1 hb1); simp only [World.size_alloc] at hz1; clear hg1 hb1)
    | (show wpList _ _ _ (Oper.mk _ (.insert _ _ (.const (.int .i64 2)) _) _ _ _ _ :: _) _ _; refine wpList_insA rfl (.tmp 1) (.const (.int .i64 2)) (.tmp 3) 70 rfl Try.underlying70 Try.underlying22 HG1.out.1 HG1.out.2 2 [52, 54] _ rfl rfl rfl rfl rfl (by omega) (by omega) (Nat.le_refl _) ?_; intro w2 hg2 hb2 hz2; have HG2 := Lib.hid (And.intro hg2 hb2); clear hg2 hb2)
    | (show wpList _ _ _ (Oper.mk _ (.insert _ _ (.const (.int .i64 3)) _) _ _ _ _ :: _) _ _; refine wpList_insA rfl (.tmp 1) (.const (.int .i64 3)) (.tmp 4) 70 rfl Try.underlying70 Try.underlying22 HG2.out.1 HG2.out.2 3 [52, 55] _ rfl rfl rfl rfl rfl (by omega) (by omega) (Nat.le_refl _) ?_; intro w3 hg3 hb3 hz3; have HG3 := Lib.hid (And.intro hg3 hb3); clear hg3 hb3)
    | (show wpList _ _ _ (Oper.mk _ (.insert _ _ (.const (.int .i64 4)) _) _ _ _ _ :: _) _ _; refine wpList_insA rfl (.tmp 1) (.const (.int .i64 4)) (.tmp 5) 70 rfl Try.underlying70 Try.underlying22 HG3.out.1 HG3.out.2 4 [52, 56, 57] _ rfl rfl rfl rfl rfl (by omega) (by omega) (Nat.le_refl _) ?_; intro w4 hg4 hb4 hz4; have HG4 := Lib.hid (And.intro hg4 hb4); clear hg4 hb4)
    | (show wpList _ _ _ (Oper.mk _ (.insert _ _ (.const (.int .i64 5)) _) _ _ _ _ :: _) _ _; refine wpList_insA rfl (.tmp 1) (.const (.int .i64 5)) (.tmp 6) 70 rfl Try.underlying70 Try.underlying22 HG4.out.1 HG4.out.2 5 [52, 56] _ rfl rfl rfl rfl rfl (by omega) (by omega) (Nat.le_refl _) ?_; intro w5 hg5 hb5 hz5; have HG5 := Lib.hid (And.intro hg5 hb5); clear hg5 hb5)
    | (show wpList _ _ _ (Oper.mk _ (.insert _ _ (.const (.int .i64 6)) _) _ _ _ _ :: _) _ _; refine wpList_insA rfl (.tmp 1) (.const (.int .i64 6)) (.tmp 7) 70 rfl Try.underlying70 Try.underlying22 HG5.out.1 HG5.out.2 6 [52, 58] _ rfl rfl rfl rfl rfl (by omega) (by omega) (Nat.le_refl _) ?_; intro w6 hg6 hb6 hz6; have HG6 := Lib.hid (And.intro hg6 hb6); clear hg6 hb6)
    | (show wpList _ _ _ (Oper.mk _ (.insert _ _ (.const (.int .i64 7)) _) _ _ _ _ :: _) _ _; refine wpList_insA rfl (.tmp 1) (.const (.int .i64 7)) (.tmp 8) 70 rfl Try.underlying70 Try.underlying22 HG6.out.1 HG6.out.2 7 [52] _ rfl rfl rfl rfl rfl (by omega) (by omega) (Nat.le_refl _) ?_; intro w7 hg7 hb7 hz7; have HG7 := Lib.hid (And.intro hg7 hb7); clear hg7 hb7)
    | (show wpList _ _ _ (Oper.mk _ (.insert _ _ (.const (.int .i64 8)) _) _ _ _ _ :: _) _ _; refine wpList_insA rfl (.tmp 1) (.const (.int .i64 8)) (.tmp 9) 70 rfl Try.underlying70 Try.underlying22 HG7.out.1 HG7.out.2 8 [52] _ rfl rfl rfl rfl rfl (by omega) (by omega) (Nat.le_refl _) ?_; intro w8 hg8 hb8 hz8; have HG8 := Lib.hid (And.intro hg8 hb8); clear hg8 hb8)
    | (show wpList _ _ _ (Oper.mk _ (.insert _ _ (.const (.int .i64 9)) _) _ _ _ _ :: _) _ _; refine wpList_insA rfl (.tmp 1) (.const (.int .i64 9)) (.tmp 10) 70 rfl Try.underlying70 Try.underlying22 HG8.out.1 HG8.out.2 9 [52] _ rfl rfl rfl rfl rfl (by omega) (by omega) (Nat.le_refl _) ?_; intro w9 hg9 hb9 hz9; have HG9 := Lib.hid (And.intro hg9 hb9); clear hg9 hb9)
    | (show wpList _ _ _ (Oper.mk _ (.insert _ _ (.const (.int .i64 10)) _) _ _ _ _ :: _) _ _; refine wpList_insA rfl (.tmp 1) (.const (.int .i64 10)) (.tmp 11) 70 rfl Try.underlying70 Try.underlying22 HG9.out.1 HG9.out.2 10 [52, 59] _ rfl rfl rfl rfl rfl (by omega) (by omega) (Nat.le_refl _) ?_; intro w10 hg10 hb10 hz10; have HG10 := Lib.hid (And.intro hg10 hb10); clear hg10 hb10)
    | (show wpList _ _ _ (Oper.mk _ (.insert _ _ (.const (.int .i64 11)) _) _ _ _ _ :: _) _ _; refine wpList_insA rfl (.tmp 1) (.const (.int .i64 11)) (.tmp 12) 70 rfl Try.underlying70 Try.underlying22 HG10.out.1 HG10.out.2 11 [52] _ rfl rfl rfl rfl rfl (by omega) (by omega) (Nat.le_refl _) ?_; intro w11 hg11 hb11 hz11; have HG11 := Lib.hid (And.intro hg11 hb11); clear hg11 hb11)
    | (show wpList _ _ _ (Oper.mk _ (.insert _ _ (.const (.int .i64 12)) _) _ _ _ _ :: _) _ _; refine wpList_insA rfl (.tmp 1) (.const (.int .i64 12)) (.tmp 13) 70 rfl Try.underlying70 Try.underlying22 HG11.out.1 HG11.out.2 12 [52] _ rfl rfl rfl rfl rfl (by omega) (by omega) (Nat.le_refl _) ?_; intro w12 hg12 hb12 hz12; have HG12 := Lib.hid (And.intro hg12 hb12); obtain ⟨q0, q1, q2, qf0, qf1, qf2⟩ := res_cells hb12; clear hg12 hb12))
  obtain ⟨e1, e2, e3⟩ := tab_end (x := .func (.func 51) #[] #[]) (y := .map (some (w.heap.size + 1))) (z := .func (.func 27) #[] #[]) HG12.out
  exact ⟨rfl, _, results_cell_row rfl _ _ w.heap.size 72 #[.func (.func 51) #[] #[], .map (some (w.heap.size + 1)), .func (.func 27) #[] #[]] (0, 0) _ rfl e1 Try.underlying72 rfl (by kernel_rfl), w.heap.size + 1, rfl, e2, e3⟩
def tabRes : List (Int × List FuncId) := [((1 : Int), [64, 65, 66]), ((2 : Int), [64, 66, 67]), ((3 : Int), [68]), ((4 : Int), [69, 70]), ((5 : Int), [65])]
/-- a grammar, its map in memory -/
abbrev gS (Mp : Nat) : Value := .agg #[.func (.func 63) #[] #[], .map (some Mp), .func (.func 28) #[] #[]]
set_option maxHeartbeats 4000000 in
set_option maxRecDepth 100000 in
theorem responses_any (w : World) : Calls Try.prog 35 #[] w (fun e w' => ∃ Mp, e = .returned (gS Mp) ∧ Below w.heap.size w w' ∧ GMap 108 w.heap.size Mp tabRes w') := by
  have hmm := @run_makeMap Try.prog
  have hG0 : Hid (GMap 108 (w.heap.size + 1) (w.heap.size + 1) [] ((w.alloc (.cells #[.nilFunc, .map none, .nilFunc] 78)).alloc (.map #[] 0)) ∧ Below (w.heap.size + 1) (w.alloc (.cells #[.nilFunc, .map none, .nilFunc] 78)) ((w.alloc (.cells #[.nilFunc, .map none, .nilFunc] 78)).alloc (.map #[] 0))) := by
    refine ⟨?_, (Below.refl _ _).alloc (by simp) _⟩
    have := GMap.made (ET := 108) (w.alloc (.cells #[.nilFunc, .map none, .nilFunc] 78)) (w.heap.size + 1) (by simp)
    rw [World.size_alloc] at this
    exact this
  go_enter Try.func35, Try.ntmps35
  go_wp2_with (first
    | (show wpList _ _ _ (Oper.mk _ (.insert _ _ (.const (.int .i64 1)) _) _ _ _ _ :: _) _ _; refine wpList_insA rfl (.tmp 1) (.const (.int .i64 1)) (.tmp 2) 76 rfl Try.underlying76 Try.underlying42 hG0.out.1 hG0.out.2 1 [64, 65, 66] _ rfl rfl rfl rfl rfl (by simp) (by simp) (Nat.le_refl _) ?_; intro w1 hg1 hb1 hz1; have HG1 := Lib.hid (And.intro hg1 hb1); simp only [World.size_alloc] at hz1; clear hg1 hb1)
    | (show wpList _ _ _ (Oper.mk _ (.insert _ _ (.const (.int .i64 2)) _) _ _ _ _ :: _) _ _; refine wpList_insA rfl (.tmp 1) (.const (.int .i64 2)) (.tmp 3) 76 rfl Try.underlying76 Try.underlying42 HG1.out.1 HG1.out.2 2 [64, 66, 67] _ rfl rfl rfl rfl rfl (by omega) (by omega) (Nat.le_refl _) ?_; intro w2 hg2 hb2 hz2; have HG2 := Lib.hid (And.intro hg2 hb2); clear hg2 hb2)
    | (show wpList _ _ _ (Oper.mk _ (.insert _ _ (.const (.int .i64 3)) _) _ _ _ _ :: _) _ _; refine wpList_insA rfl (.tmp 1) (.const (.int .i64 3)) (.tmp 4) 76 rfl Try.underlying76 Try.underlying42 HG2.out.1 HG2.out.2 3 [68] _ rfl rfl rfl rfl rfl (by omega) (by omega) (Nat.le_refl _) ?_; intro w3 hg3 hb3 hz3; have HG3 := Lib.hid (And.intro hg3 hb3); clear hg3 hb3)
    | (show wpList _ _ _ (Oper.mk _ (.insert _ _ (.const (.int .i64 4)) _) _ _ _ _ :: _) _ _; refine wpList_insA rfl (.tmp 1) (.const (.int .i64 4)) (.tmp 5) 76 rfl Try.underlying76 Try.underlying42 HG3.out.1 HG3.out.2 4 [69, 70] _ rfl rfl rfl rfl rfl (by omega) (by omega) (Nat.le_refl _) ?_; intro w4 hg4 hb4 hz4; have HG4 := Lib.hid (And.intro hg4 hb4); clear hg4 hb4)
    | (show wpList _ _ _ (Oper.mk _ (.insert _ _ (.const (.int .i64 5)) _) _ _ _ _ :: _) _ _; refine wpList_insA rfl (.tmp 1) (.const (.int .i64 5)) (.tmp 6) 76 rfl Try.underlying76 Try.underlying42 HG4.out.1 HG4.out.2 5 [65] _ rfl rfl rfl rfl rfl (by omega) (by omega) (Nat.le_refl _) ?_; intro w5 hg5 hb5 hz5; have HG5 := Lib.hid (And.intro hg5 hb5); obtain ⟨q0, q1, q2, qf0, qf1, qf2⟩ := res_cells hb5; clear hg5 hb5))
  obtain ⟨e1, e2, e3⟩ := tab_end (x := .func (.func 63) #[] #[]) (y := .map (some (w.heap.size + 1))) (z := .func (.func 28) #[] #[]) HG5.out
  exact ⟨rfl, _, results_cell_row rfl _ _ w.heap.size 78 #[.func (.func 63) #[] #[], .map (some (w.heap.size + 1)), .func (.func 28) #[] #[]] (0, 0) _ rfl e1 Try.underlying78 rfl (by kernel_rfl), w.heap.size + 1, rfl, e2, e3⟩
end Go.Proofs.Ytdpfmaikijilkaa
