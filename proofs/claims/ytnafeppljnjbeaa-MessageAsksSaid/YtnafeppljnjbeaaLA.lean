/-
  The law MessageAsks, walked.
-/
import Derived.Test.YtnafeppljnjbeaaHV
import Derived.Test.YtnafeppljnjbeaaDE
import Derived.Test.YtnafeppljnjbeaaMN
namespace Go.Proofs.Ytnafeppljnjbeaa
open Go Go.RowKit Go.Sort Go.Proofs

theorem wpList_run_append {P : Program} {ops : Array Oper} {rest : List Oper} {o : Oper} {a : Act} {w : World} {X : Exit → Act → World → Prop} (hgd : o.guard = none) (s x : Operand) (S : TypeId)
    (ho : o.op = .call { callee := .builtin .append, args := #[s, x], argTypes := #[S, S] }) (v1 v2 v3 : Value) (w3 : World) (hs : a.eval s = v1) (hx : a.eval x = v2) (hr : (Builtin.append_ #[S, S] o.type #[v1, v2]).run P w = .ok v3 w3) (h : wpList P ops X rest (a.put o.dst v3) w3) : wpList P ops X (o :: rest) a w :=
  wpList_plain hgd fun _ hK => by
    unfold Oper.wp execOp
    simp only [ho, resolve, invoke, builtin, Sem.run_bind, Sem.run_pure, Result.andThen_ok, List.map_toArray, List.map_cons, List.map_nil, hs, hx, hr]
    exact hK _ _ h
theorem own_copy (w : World) (a : Option Addr) (m cap : Nat) (l : List UInt8) (ty : TypeId) (hm : m = l.length) (hat : CB.At w a m l) (hnil : a = none → cap = 0) (hl : l.length ≤ 1000000) : ∃ a3 c3 w3, (Builtin.append_ #[24, 24] ty #[.slice none 0 0, .slice a m cap]).run Try.prog w = .ok (.slice a3 m c3) w3 ∧ CB.At w3 a3 m l ∧ m ≤ c3 ∧ (∀ p, a3 = some p → w.heap.size ≤ p.block) ∧ (a3 = none → c3 = 0) ∧ Below w.heap.size w w3 := by
  cases a with
  | none =>
    obtain rfl := hnil rfl
    have h0 : l = [] := by
      rcases hat.2.2 with h | ⟨_, _, h, _⟩
      · exact List.length_eq_zero_iff.1 (by omega)
      · cases h
    subst h0
    obtain rfl : m = 0 := hm
    exact ⟨none, 0, w, rowB.run_none w ty w.heap.size _ [] (Cod.Own.nil _ _), hat, Nat.le_refl _, fun p e => (by cases e), fun _ => rfl, Below.refl _ _⟩
  | some ad =>
    obtain ⟨v', w', hr, ho, hg, hn⟩ := rowB.run w ty w.heap.size _ [] (Cod.Own.nil _ _) ad m cap l hm hat.news (by simp; omega) (by simp; omega) (Nat.le_refl _)
    obtain ⟨a3, c3, rfl, hle, hat3, hb3, hsh⟩ := ho.at_ hl
    refine ⟨a3, c3, w', by rw [hr, List.nil_append, ← hm], by rw [hm]; exact hat3, by rw [hm]; exact hle, fun p e => ?_, fun e => ?_, (But.grown hg).below (Nat.le_refl _) fun i e => by cases e⟩
    · subst e
      exact (hb3 p.block rfl).2
    · rcases hsh with ⟨_, _, h⟩ | ⟨g, h⟩
      · exact h
      · rw [h] at e; cases e
/-- both requests in memory -/
structure As (w W : World) (q : Rq) (mv : Value) (B : Nat) (a3 : Option Addr) (c3 : Nat) : Prop where
  below : Below w.heap.size w W
  b1 : W.heap[w.heap.size]? = some (.cells (RqC q mv) 32 (0, 0))
  b2 : W.heap[B]? = some (.cells (RqC q (.slice a3 q.model.length c3)) 32 (0, 0))
  at3 : CB.At W a3 q.model.length q.model
section
variable {w W : World} {q : Rq} {mv : Value} {B : Nat} {a3 : Option Addr} {c3 : Nat}
theorem As.next {W' : World} (h : As w W q mv B a3 c3) (hb : Below W.heap.size W W') : As w W' q mv B a3 c3 :=
  ⟨h.below.trans (hb.mono h.below.size), (hb.block _ (Array.getElem?_eq_some_iff.1 h.b1).1).trans h.b1, (hb.block _ (Array.getElem?_eq_some_iff.1 h.b2).1).trans h.b2, h.at3.below hb⟩
theorem As.of {W3 : World} (hb : Below w.heap.size w W) (b1 : W.heap[w.heap.size]? = some (.cells (RqC q mv) 32 (0, 0))) (b2 : W.heap[B]? = some (.cells (RqC q mv) 32 (0, 0))) (hne : w.heap.size < B) (hat : CB.At W a3 q.model.length q.model) (hfr : ∀ p, a3 = some p → B < p.block)
    (e : W.setCell ⟨B, 3, none⟩ (.slice a3 q.model.length c3) = W3) : As w W3 q mv B a3 c3 := by
  subst e
  have hbs : But (fun k => k = B) W (W.setCell ⟨B, 3, none⟩ (.slice a3 q.model.length c3)) := (But.refl (fun k => k = B) _).setCell (p := ⟨B, 3, none⟩) rfl _
  refine ⟨hb.setCell (p := ⟨B, 3, none⟩) (Nat.le_of_lt hne) _, (hbs.block _ (Array.getElem?_eq_some_iff.1 b1).1 (by omega)).trans b1, ?_, hat.but hbs fun p e e2 => by have := hfr p e; omega⟩
  rw [heap_setCell_same _ _ _ _ _ _ b2]
  rfl
end
set_option maxHeartbeats 40000000 in
set_option maxRecDepth 100000 in
theorem asks_big (w : World) (q : Rq) (a : Option Addr) (cap : Nat) (hlen : ¬ q.model.length ≤ 5000) : Calls Try.prog 3 #[.agg (RqC q (.slice a q.model.length cap))] w (TellsB true w) := by
  obtain ⟨mv, hmv⟩ : ∃ mv, mv = Value.slice a q.model.length cap := ⟨_, rfl⟩
  obtain ⟨m, hm⟩ : ∃ m, m = q.model.length := ⟨_, rfl⟩
  rw [← hmv]
  rw [← hm] at hmv hlen
  have HMV := Lib.hid hmv
  clear hmv hm
  go_enter Try.func3, Try.ntmps3
  go_upto_region 1 with fail
  generalize hw1 : World.alloc _ _ = w1
  have hb1 : Below w.heap.size w w1 := by rw [← hw1]; exact (Below.refl _ _).alloc (Nat.le_refl _) _
  have hx1 : w1.heap[w.heap.size]? = some (.cells (RqC q mv) 32 (0, 0)) := by rw [← hw1]; exact heap_alloc_new _ _
  have d3 : w1.cell? ⟨w.heap.size, 3, none⟩ = some mv := (RqC_cells hx1).2.2.2.1
  rw [HMV.out] at d3
  have H1 := Lib.hid (And.intro hb1 hx1)
  clear hb1 hx1 hw1
  go_wp2_with (first
    | (go_at_call 8; refine (known_any _).mono ?_; rintro e w2 ⟨rfl, hb2⟩; have H2 := Lib.hid (H1.out.1.trans (hb2.mono H1.out.1.size)); clear hb2))
  go_ret
  exact ⟨rfl, H2.out⟩
set_option maxHeartbeats 40000000 in
set_option maxRecDepth 100000 in
theorem asks_no (w : World) (q : Rq) (a : Option Addr) (cap : Nat) (h : Wf q) (hc : q.model.length ≤ cap) (ha : CB.At w a q.model.length q.model) (hnil : a = none → cap = 0) (hlen : q.model.length ≤ 5000) (hmay : mayQ q = false) : Calls Try.prog 3 #[.agg (RqC q (.slice a q.model.length cap))] w (TellsB true w) := by
  have HEQ : Hid (encQ q = none) := by rw [Lib.hid_eq, encQ_eq q h, hmay]; rfl
  have HMQ : Hid (mayQ q = false) := hmay
  clear hmay
  have HE : Hid (∀ W a3 c3, CB.At W a3 q.model.length q.model → q.model.length ≤ c3 → Calls Try.prog 9 #[.agg (RqC q (.slice a3 q.model.length c3))] W (EncTo W none)) := fun W a3 c3 h1 h2 => by rw [← HEQ.out]; exact EncodeRequest_any W q a3 c3 h1 h2 h.id h.num
  have HMY : Hid (∀ W, Below w.heap.size w W → Calls Try.prog 11 #[.agg (RqC q (.slice a q.model.length cap))] W (TellsB false W)) := fun W hW => (MayRequest_any W q a cap (ha.below hW) hc h.id h.num).mono fun e w' ⟨h1, h2⟩ => ⟨by rw [h1, HEQ.out]; rfl, h2⟩
  have HRM : Hid (∀ W, Below w.heap.size w W → Calls Try.prog 10 #[.agg (RqC q (.slice a q.model.length cap))] W (TellsB false W)) := fun W hW => by rw [← HMQ.out]; exact rMayRequest_any W q a cap (ha.below hW)
  have HSM : Hid (∀ W a3 c3, Below w.heap.size w W → CB.At W a3 q.model.length q.model → Calls Try.prog 12 #[.agg (RqC q (.slice a3 q.model.length c3)), .agg (RqC q (.slice a q.model.length cap))] W (TellsB true W)) := fun W a3 c3 hW h3 => by rw [← sameQ_self q]; exact rsameRequest_any W q q a3 a c3 cap h3 (ha.below hW)
  have HRE : Hid (∀ W, Below w.heap.size w W → Calls Try.prog 14 #[.agg (RqC q (.slice a q.model.length cap))] W (CloneTo (bytesQ q) W)) := fun W hW => rEncode_any W q a cap h (ha.below hW) hnil hlen
  have HCP : Hid (∀ W ty, Below w.heap.size w W → ∃ a3 c3 w3, (Builtin.append_ #[24, 24] ty #[.slice none 0 0, .slice a q.model.length cap]).run Try.prog W = .ok (.slice a3 q.model.length c3) w3 ∧ CB.At w3 a3 q.model.length q.model ∧ q.model.length ≤ c3 ∧ (∀ p, a3 = some p → W.heap.size ≤ p.block) ∧ (a3 = none → c3 = 0) ∧ Below W.heap.size W w3) := fun W ty hW => own_copy W a _ cap q.model ty rfl (ha.below hW) hnil (by omega)
  obtain ⟨mv, hmv⟩ : ∃ mv, mv = Value.slice a q.model.length cap := ⟨_, rfl⟩
  rw [← hmv] at HMY HRM HSM HRE ⊢
  have HMV := Lib.hid hmv
  clear hmv h ha hnil hc
  go_enter Try.func3, Try.ntmps3
  go_upto_region 1 with fail
  generalize hw1 : World.alloc _ _ = w1
  have hb1 : Below w.heap.size w w1 := by rw [← hw1]; exact (Below.refl _ _).alloc (Nat.le_refl _) _
  have hx1 : w1.heap[w.heap.size]? = some (.cells (RqC q mv) 32 (0, 0)) := by rw [← hw1]; exact heap_alloc_new _ _
  have d3 : w1.cell? ⟨w.heap.size, 3, none⟩ = some mv := (RqC_cells hx1).2.2.2.1
  rw [HMV.out] at d3
  have H1 := Lib.hid (And.intro hb1 hx1)
  clear hb1 hx1 hw1
  go_wp2_with (first
    | (show wpList _ _ _ (Oper.mk _ (.load _ (.tmp 1)) _ _ _ _ :: _) _ _; refine wpList_load_row rfl 32 (.tmp 1) rfl (w.heap.size) rfl 32 (RqC q mv) (0, 0) _ (by first | exact H1.out.2 | exact A7.out.b1 | exact A6.out.b1 | exact A5.out.b1) Try.underlying32 rfl (infoQ _ _) ?_)
    | (show wpList _ _ _ (Oper.mk _ (.store _ (.tmp 3) (.tmp 14)) _ _ _ _ :: _) _ _; refine wpList_store_row rfl 32 (.tmp 3) (.tmp 14) rfl w1.heap.size (RqC q mv) rfl rfl 32 (RqC (zeroQ 0) (.slice none 0 0)) (heap_alloc_new _ _) (infoQ _ _) rfl (by rw [HMV.out]; exact RqC_one _ _ _ _) ?_; generalize hw2 : World.setRow _ _ _ = w2; have g1 : Below w1.heap.size w1 w2 := (by rw [← hw2]; exact (grow_row w1 _ _ _).1); have g2 : w2.heap[w1.heap.size]? = some (.cells (RqC q mv) 32 (0, 0)) := (by rw [← hw2]; exact (grow_row w1 _ _ _).2); have H2 := Lib.hid (And.intro (H1.out.1.trans (g1.mono H1.out.1.size)) (And.intro ((g1.block _ (Array.getElem?_eq_some_iff.1 H1.out.2).1).trans H1.out.2) g2)); replace d3 := cell_below d3 g1; clear hw2 g1 g2)
    | (at_builtin; obtain ⟨a3, c3, w3, hr3, hat3, hle3, hfr3, hn3, hb3⟩ := HCP.out w2 _ H2.out.1; refine wpList_run_append rfl _ _ 24 rfl _ _ _ _ rfl rfl hr3 ?_; have g2 := (hb3.block _ (Array.getElem?_eq_some_iff.1 H2.out.2.2).1).trans H2.out.2.2; have e3 : w3.cell? ⟨w1.heap.size, 3, none⟩ = some mv := (RqC_cells g2).2.2.2.1; have f3 : w3.frozen? ⟨w1.heap.size, 3, none⟩ = false := frozen_of_row _ _ _ _ _ g2; have hBz : w1.heap.size < w2.heap.size := (Array.getElem?_eq_some_iff.1 H2.out.2.2).1; have hnz : w.heap.size < w1.heap.size := (Array.getElem?_eq_some_iff.1 H1.out.2).1; have H3 : Hid (∀ W3, w3.setCell ⟨w1.heap.size, 3, none⟩ (.slice a3 q.model.length c3) = W3 → As w W3 q mv w1.heap.size a3 c3) := (fun W3 e => As.of (H2.out.1.trans (hb3.mono H2.out.1.size)) ((hb3.block _ (Array.getElem?_eq_some_iff.1 H2.out.2.1).1).trans H2.out.2.1) g2 hnz hat3 (fun p e => Nat.lt_of_lt_of_le hBz (hfr3 p e)) e); have HL3 := Lib.hid hle3; clear hr3 hat3 hle3 hfr3 hn3 hb3 g2 hBz hnz d3)
    | (show wpList _ _ _ (Oper.mk _ (.load _ (.tmp 3)) _ _ _ _ :: _) _ _; generalize hw4 : World.setCell _ _ _ = w4; have A4 := Lib.hid (H3.out _ hw4); clear hw4 e3 f3; refine wpList_load_row rfl 32 (.tmp 3) rfl w1.heap.size rfl 32 (RqC q (.slice a3 q.model.length c3)) (0, 0) _ A4.out.b2 Try.underlying32 rfl (infoQ _ _) ?_)
    | (go_at_call 9; refine (HE.out w4 a3 c3 A4.out.at3 HL3.out).mono ?_; rintro e w5 ⟨hb5, rfl⟩; have A5 := Lib.hid (A4.out.next hb5); clear hb5)
    | (go_at_call 10; refine (HRM.out _ A5.out.below).mono ?_; rintro e w6 ⟨rfl, hb6⟩; have A6 := Lib.hid (A5.out.next hb6); clear hb6)
    | (go_at_call 11; refine (HMY.out _ A6.out.below).mono ?_; rintro e w7 ⟨rfl, hb7⟩; have A7 := Lib.hid (A6.out.next hb7); clear hb7)
    | (show wpList _ _ _ (Oper.mk _ (.load _ (.tmp 3)) _ _ _ _ :: _) _ _; refine wpList_load_row_on rfl 32 (.tmp 3) rfl (w1.heap.size) rfl 32 (RqC q (.slice a3 q.model.length c3)) (0, 0) _ A7.out.b2 Try.underlying32 rfl (infoQ _ _) ?_)
    | (show wpList _ _ _ (Oper.mk _ (.load _ (.tmp 1)) _ _ _ _ :: _) _ _; refine wpList_load_row_on rfl 32 (.tmp 1) rfl (w.heap.size) rfl 32 (RqC q mv) (0, 0) _ A7.out.b1 Try.underlying32 rfl (infoQ _ _) ?_)
    | (go_at_call 12; refine (HSM.out _ a3 c3 A7.out.below A7.out.at3).mono ?_; rintro e w8 ⟨rfl, hb8⟩; have A8 := Lib.hid (A7.out.next hb8); clear hb8)
    | (go_at_call 8; refine (known_any _).mono ?_; rintro e w9 ⟨rfl, hb9⟩; have A9 := Lib.hid (A8.out.next hb9); clear hb9))
  go_ret
  exact ⟨rfl, A9.out.below⟩
set_option maxHeartbeats 40000000 in
set_option maxRecDepth 100000 in
theorem asks_yes (w : World) (q : Rq) (a : Option Addr) (cap : Nat) (h : Wf q) (hc : q.model.length ≤ cap) (ha : CB.At w a q.model.length q.model) (hnil : a = none → cap = 0) (hlen : q.model.length ≤ 5000) (hmay : mayQ q = true) : Calls Try.prog 3 #[.agg (RqC q (.slice a q.model.length cap))] w (TellsB true w) := by
  have HEQ : Hid (encQ q = some (bytesQ q)) := by rw [Lib.hid_eq, encQ_eq q h, hmay]; rfl
  have HMQ : Hid (mayQ q = true) := hmay
  have hl4 : (bytesQ q).length ≤ 4096 := mayQ_len hmay
  have HDC : Hid (∀ W a5 c5, CB.At W a5 (bytesQ q).length (bytesQ q) → (bytesQ q).length ≤ c5 → c5 ≤ 9223372036854775807 → Calls Try.prog 13 #[.slice a5 (bytesQ q).length c5] W (DecTo W (q, 0))) := fun W a5 c5 h1 h2 h3 => by rw [← mayQ_dec h hmay]; exact DecodeRequest_any W a5 c5 (bytesQ q) h1 h2 h3 (Nat.le_trans hl4 (by decide))
  clear hmay
  have HE : Hid (∀ W a3 c3, CB.At W a3 q.model.length q.model → q.model.length ≤ c3 → Calls Try.prog 9 #[.agg (RqC q (.slice a3 q.model.length c3))] W (EncTo W (some (bytesQ q)))) := fun W a3 c3 h1 h2 => by rw [← HEQ.out]; exact EncodeRequest_any W q a3 c3 h1 h2 h.id h.num
  have HMY : Hid (∀ W, Below w.heap.size w W → Calls Try.prog 11 #[.agg (RqC q (.slice a q.model.length cap))] W (TellsB true W)) := fun W hW => (MayRequest_any W q a cap (ha.below hW) hc h.id h.num).mono fun e w' ⟨h1, h2⟩ => ⟨by rw [h1, HEQ.out]; rfl, h2⟩
  have HRM : Hid (∀ W, Below w.heap.size w W → Calls Try.prog 10 #[.agg (RqC q (.slice a q.model.length cap))] W (TellsB true W)) := fun W hW => by rw [← HMQ.out]; exact rMayRequest_any W q a cap (ha.below hW)
  have HSM : Hid (∀ W a3 c3, Below w.heap.size w W → CB.At W a3 q.model.length q.model → Calls Try.prog 12 #[.agg (RqC q (.slice a3 q.model.length c3)), .agg (RqC q (.slice a q.model.length cap))] W (TellsB true W)) := fun W a3 c3 hW h3 => by rw [← sameQ_self q]; exact rsameRequest_any W q q a3 a c3 cap h3 (ha.below hW)
  have HRE : Hid (∀ W, Below w.heap.size w W → Calls Try.prog 14 #[.agg (RqC q (.slice a q.model.length cap))] W (CloneTo (bytesQ q) W)) := fun W hW => rEncode_any W q a cap h (ha.below hW) hnil hlen
  have HCP : Hid (∀ W ty, Below w.heap.size w W → ∃ a3 c3 w3, (Builtin.append_ #[24, 24] ty #[.slice none 0 0, .slice a q.model.length cap]).run Try.prog W = .ok (.slice a3 q.model.length c3) w3 ∧ CB.At w3 a3 q.model.length q.model ∧ q.model.length ≤ c3 ∧ (∀ p, a3 = some p → W.heap.size ≤ p.block) ∧ (a3 = none → c3 = 0) ∧ Below W.heap.size W w3) := fun W ty hW => own_copy W a _ cap q.model ty rfl (ha.below hW) hnil (by omega)
  obtain ⟨mv, hmv⟩ : ∃ mv, mv = Value.slice a q.model.length cap := ⟨_, rfl⟩
  rw [← hmv] at HMY HRM HSM HRE ⊢
  have HMV := Lib.hid hmv
  clear hmv h ha hnil hc
  go_enter Try.func3, Try.ntmps3
  go_upto_region 1 with fail
  generalize hw1 : World.alloc _ _ = w1
  have hb1 : Below w.heap.size w w1 := by rw [← hw1]; exact (Below.refl _ _).alloc (Nat.le_refl _) _
  have hx1 : w1.heap[w.heap.size]? = some (.cells (RqC q mv) 32 (0, 0)) := by rw [← hw1]; exact heap_alloc_new _ _
  have d3 : w1.cell? ⟨w.heap.size, 3, none⟩ = some mv := (RqC_cells hx1).2.2.2.1
  rw [HMV.out] at d3
  have H1 := Lib.hid (And.intro hb1 hx1)
  clear hb1 hx1 hw1
  obtain ⟨b, hb⟩ : ∃ b, b = bytesQ q := ⟨_, rfl⟩
  rw [← hb] at hl4 HDC HE HRE
  clear hb
  obtain ⟨N, hN⟩ : ∃ N, N = b.length := ⟨_, rfl⟩
  rw [← hN] at hl4 HDC
  have HN := Lib.hid hN
  clear hN
  obtain ⟨t, ht⟩ : ∃ t, t = strB b := ⟨_, rfl⟩
  have HT := Lib.hid ht
  clear ht
  go_wp2_with (first
    | (show wpList _ _ _ (Oper.mk _ (.load _ (.tmp 1)) _ _ _ _ :: _) _ _; refine wpList_load_row rfl 32 (.tmp 1) rfl (w.heap.size) rfl 32 (RqC q mv) (0, 0) _ (by first | exact H1.out.2 | exact A7.out.b1 | exact A6.out.b1 | exact A5.out.b1) Try.underlying32 rfl (infoQ _ _) ?_)
    | (show wpList _ _ _ (Oper.mk _ (.store _ (.tmp 3) (.tmp 14)) _ _ _ _ :: _) _ _; refine wpList_store_row rfl 32 (.tmp 3) (.tmp 14) rfl w1.heap.size (RqC q mv) rfl rfl 32 (RqC (zeroQ 0) (.slice none 0 0)) (heap_alloc_new _ _) (infoQ _ _) rfl (by rw [HMV.out]; exact RqC_one _ _ _ _) ?_; generalize hw2 : World.setRow _ _ _ = w2; have g1 : Below w1.heap.size w1 w2 := (by rw [← hw2]; exact (grow_row w1 _ _ _).1); have g2 : w2.heap[w1.heap.size]? = some (.cells (RqC q mv) 32 (0, 0)) := (by rw [← hw2]; exact (grow_row w1 _ _ _).2); have H2 := Lib.hid (And.intro (H1.out.1.trans (g1.mono H1.out.1.size)) (And.intro ((g1.block _ (Array.getElem?_eq_some_iff.1 H1.out.2).1).trans H1.out.2) g2)); replace d3 := cell_below d3 g1; clear hw2 g1 g2)
    | (at_builtin; obtain ⟨a3, c3, w3, hr3, hat3, hle3, hfr3, hn3, hb3⟩ := HCP.out w2 _ H2.out.1; refine wpList_run_append rfl _ _ 24 rfl _ _ _ _ rfl rfl hr3 ?_; have g2 := (hb3.block _ (Array.getElem?_eq_some_iff.1 H2.out.2.2).1).trans H2.out.2.2; have e3 : w3.cell? ⟨w1.heap.size, 3, none⟩ = some mv := (RqC_cells g2).2.2.2.1; have f3 : w3.frozen? ⟨w1.heap.size, 3, none⟩ = false := frozen_of_row _ _ _ _ _ g2; have hBz : w1.heap.size < w2.heap.size := (Array.getElem?_eq_some_iff.1 H2.out.2.2).1; have hnz : w.heap.size < w1.heap.size := (Array.getElem?_eq_some_iff.1 H1.out.2).1; have H3 : Hid (∀ W3, w3.setCell ⟨w1.heap.size, 3, none⟩ (.slice a3 q.model.length c3) = W3 → As w W3 q mv w1.heap.size a3 c3) := (fun W3 e => As.of (H2.out.1.trans (hb3.mono H2.out.1.size)) ((hb3.block _ (Array.getElem?_eq_some_iff.1 H2.out.2.1).1).trans H2.out.2.1) g2 hnz hat3 (fun p e => Nat.lt_of_lt_of_le hBz (hfr3 p e)) e); have HL3 := Lib.hid hle3; clear hr3 hat3 hle3 hfr3 hn3 hb3 g2 hBz hnz d3)
    | (show wpList _ _ _ (Oper.mk _ (.load _ (.tmp 3)) _ _ _ _ :: _) _ _; generalize hw4 : World.setCell _ _ _ = w4; have A4 := Lib.hid (H3.out _ hw4); clear hw4 e3 f3; refine wpList_load_row rfl 32 (.tmp 3) rfl w1.heap.size rfl 32 (RqC q (.slice a3 q.model.length c3)) (0, 0) _ A4.out.b2 Try.underlying32 rfl (infoQ _ _) ?_)
    | (go_at_call 9; refine (HE.out w4 a3 c3 A4.out.at3 HL3.out).mono ?_; rintro e w5 ⟨hb5, hl5, v5, rfl, ho5⟩; obtain ⟨a5, c5, rfl, hle5, hat5, -⟩ := ho5.at_ (Nat.le_trans hl5 (by decide)); rw [← HN.out] at hle5 hat5 ⊢; have hmx5 : c5 ≤ 9223372036854775807 := (by rcases ho5.2 with ⟨e, _⟩ | ⟨g, cp, cur, e, _, _, _, hm, _⟩; (injection e with e1 e2 e3; omega); (injection e with e1 e2 e3; unfold maxLen at hm; omega)); have A5 := Lib.hid (A4.out.next hb5); have HL5 := Lib.hid (And.intro hle5 hmx5); have B5 := Lib.hid hat5; clear hb5 hl5 ho5 hle5 hat5 hmx5)
    | (go_at_call 10; refine (HRM.out _ A5.out.below).mono ?_; rintro e w6 ⟨rfl, hb6⟩; have A6 := Lib.hid (A5.out.next hb6); have B6 := Lib.hid (B5.out.below hb6); clear hb6)
    | (go_at_call 11; refine (HMY.out _ A6.out.below).mono ?_; rintro e w7 ⟨rfl, hb7⟩; have A7 := Lib.hid (A6.out.next hb7); have B7 := Lib.hid (B6.out.below hb7); clear hb7)
    | (show wpList _ _ _ (Oper.mk _ (.load _ (.tmp 3)) _ _ _ _ :: _) _ _; refine wpList_load_row_on rfl 32 (.tmp 3) rfl (w1.heap.size) rfl 32 (RqC q (.slice a3 q.model.length c3)) (0, 0) _ A7.out.b2 Try.underlying32 rfl (infoQ _ _) ?_)
    | (show wpList _ _ _ (Oper.mk _ (.load _ (.tmp 1)) _ _ _ _ :: _) _ _; refine wpList_load_row_on rfl 32 (.tmp 1) rfl (w.heap.size) rfl 32 (RqC q mv) (0, 0) _ A7.out.b1 Try.underlying32 rfl (infoQ _ _) ?_)
    | (go_at_call 12; refine (HSM.out _ a3 c3 A7.out.below A7.out.at3).mono ?_; rintro e w8 ⟨rfl, hb8⟩; have A8 := Lib.hid (A7.out.next hb8); have B8 := Lib.hid (B7.out.below hb8); clear hb8)
    | (go_at_call 13; refine (HDC.out w8 a5 c5 B8.out HL5.out.1 HL5.out.2).mono ?_; rintro e w9 ⟨a9, c9, rfl, hle9, hat9, -, -, -, hb9⟩; have A9 := Lib.hid (A8.out.next hb9); have B9 := Lib.hid (And.intro (B8.out.below hb9) hat9); clear hle9 hat9 hb9)
    | (show wpList _ _ _ (Oper.mk _ (.store _ (.tmp 7) (.tmp 51)) _ _ _ _ :: _) _ _; refine wpList_store_row rfl 32 (.tmp 7) (.tmp 51) rfl w9.heap.size (RqC q (.slice a9 q.model.length c9)) rfl rfl 32 (RqC (zeroQ 0) (.slice none 0 0)) (heap_alloc_new _ _) (infoQ _ _) rfl (RqC_one _ _ _ _) ?_; generalize hw10 : World.setRow _ _ _ = w10; have g1 : Below w9.heap.size w9 w10 := (by rw [← hw10]; exact (grow_row w9 _ _ _).1); have g2 : w10.heap[w9.heap.size]? = some (.cells (RqC q (.slice a9 q.model.length c9)) 32 (0, 0)) := (by rw [← hw10]; exact (grow_row w9 _ _ _).2); have A10 := Lib.hid (A9.out.next g1); have B10 := Lib.hid (And.intro (B9.out.1.below g1) (And.intro (B9.out.2.below g1) g2)); clear hw10 g1 g2))
  have S1 : Stand w10 w.heap.size (RqC q mv) 32 := ⟨A10.out.b1⟩
  have S7 : Stand w10 w9.heap.size (RqC q (.slice a9 q.model.length c9)) 32 := ⟨B10.out.2.2⟩
  have hcv : ∀ W, Hid (Below w10.heap.size w10 W) → (convert 24 9 (.slice a5 N c5)).run Try.prog W = .ok (.string t) W := fun W hW => by rw [HT.out]; exact (B10.out.1.below hW.out).str c5
  have HCV := Lib.hid hcv
  have HST := Lib.hid (And.intro S1 S7)
  clear hcv S1 S7
  refine wp_region_held (S := fun W => Hid (Below w10.heap.size w10 W)) (by kernel_rfl) ?_
  change wpAnyH _ _ _ _ _ _ _ _ (World.drew _)
  have hS0 : Hid (Below w10.heap.size w10 w10.drew) := Lib.hid (Below.refl _ _).drew
  refine wpAnyH_take (i := 0) (v := .int .i64 0) rfl (by kernel_rfl) (by kernel_rfl) (by kernel_rfl) (fun _ _ _ h => h) (y_on (by kernel_rfl) (fun W hW => by kernel_rfl)) hS0 ?_
  refine wpAnyH_take (i := 1) (v := .bool true) rfl (by kernel_rfl) (by kernel_rfl) (by kernel_rfl) (fun _ _ _ h => h) (y_on (by kernel_rfl) (fun W hW => by kernel_rfl)) hS0 ?_
  refine wpAnyH_take (i := 2) (v := .bool true) rfl (by kernel_rfl) (by kernel_rfl) (by kernel_rfl) (fun _ _ _ h => h) (y_on (by kernel_rfl) (fun W hW => by kernel_rfl)) hS0 ?_
  refine wpAnyH_take (i := 3) (v := .slice a5 N c5) rfl (by kernel_rfl) (by kernel_rfl) (by kernel_rfl) (fun _ _ _ h => h) (y_on (by kernel_rfl) (fun W hW => by kernel_rfl)) hS0 ?_
  refine wpAnyH_take (i := 4) (v := .string t) rfl (by kernel_rfl) (by kernel_rfl) (by kernel_rfl) (fun _ _ _ h => h) (y_conv (by kernel_rfl) 24 9 (.tmp 56) rfl (by kernel_rfl) HCV.out) hS0 ?_
  refine wpAnyH_take (i := 5) (v := .agg (RqC q mv)) rfl (by kernel_rfl) (by kernel_rfl) (by kernel_rfl) (fun _ _ _ h => h) (y_load (by kernel_rfl) 32 (.tmp 1) rfl (w.heap.size) (by kernel_rfl) 32 (RqC q mv) _ (fun W hW => HST.out.1.at_ hW) Try.underlying32 rfl (infoQ _ _)) hS0 ?_
  refine held_go (i := 6) (o := { dst := some 59, op := Op.call { callee := Callee.value (Operand.func 14), args := #[Operand.tmp 58], argTypes := #[32] }, type := 24, pos := "law.go:34", after := #[{ on := 5, ground := Ground.data }, { on := 2, ground := Ground.chain }, { on := 2, ground := Ground.guard }], guard := some (2, true) }) #[true, true, true, true, true, true, false, false, false, false, false, false, false, false, false, false, false, false, false, false, false, false, false, false, false, false, false, false] (by kernel_rfl) (by kernel_rfl) (by kernel_rfl) (by kernel_rfl) (by kernel_rfl) (X := fun v W => CB.Own 5 w10.heap.size W v b ∧ Below w10.heap.size w10 W) ((HRE.out _ (A10.out.below.trans (hS0.out.mono A10.out.below.size))).mono fun e w' ⟨v, e1, e2, e3⟩ => ⟨v, e1, e2.mono (Nat.le_refl _), hS0.out.trans (e3.mono (Nat.le_refl _))⟩) ?_
  rintro v w11 hx
  obtain ⟨a6, c6, rfl, -, hat6, -⟩ := hx.1.at_ (by rw [← HN.out]; omega)
  rw [← HN.out] at hat6 ⊢
  have hS1 : Hid (Below w10.heap.size w10 w11) := Lib.hid hx.2
  have hc6 : (convert 24 9 (.slice a6 N c6)).run Try.prog w11 = .ok (.string t) w11 := by rw [HT.out]; exact hat6.str c6
  clear hx hat6
  refine ⟨hS1, ?_⟩
  refine held_val (i := 7) (o := { dst := some 60, op := Op.convert 24 9 (Operand.tmp 59), type := 9, pos := "law.go:34", after := #[{ on := 6, ground := Ground.data }, { on := 2, ground := Ground.guard }], guard := some (2, true) }) (v := .string t) #[true, true, true, true, true, true, true, false, false, false, false, false, false, false, false, false, false, false, false, false, false, false, false, false, false, false, false, false] (by kernel_rfl) (by kernel_rfl) (by kernel_rfl) (by kernel_rfl) (exec_conv 24 9 (.tmp 59) rfl (by kernel_rfl) hc6) hS1 ?_
  clear hc6
  have htt : (t.toList == t.toList) = true := by simp
  refine wpAnyH_take (i := 8) (v := .bool true) rfl (by kernel_rfl) (by kernel_rfl) (by kernel_rfl) (fun _ _ _ h => h) (y_on (by kernel_rfl) (fun W hW => by go_simp)) hS1 ?_
  refine wpAnyH_take (i := 9) (v := .bool true) rfl (by kernel_rfl) (by kernel_rfl) (by kernel_rfl) (fun _ _ _ h => h) (y_on (by kernel_rfl) (fun W hW => by kernel_rfl)) hS1 ?_
  refine wpAnyH_take (i := 10) (v := .bool true) rfl (by kernel_rfl) (by kernel_rfl) (by kernel_rfl) (fun _ _ _ h => h) (y_on (by kernel_rfl) (fun W hW => by kernel_rfl)) hS1 ?_
  refine wpAnyH_take (i := 11) (v := .slice a5 N c5) rfl (by kernel_rfl) (by kernel_rfl) (by kernel_rfl) (fun _ _ _ h => h) (y_on (by kernel_rfl) (fun W hW => by kernel_rfl)) hS1 ?_
  refine wpAnyH_take (i := 12) (v := .int .i64 N) rfl (by kernel_rfl) (by kernel_rfl) (by kernel_rfl) (fun _ _ _ h => h) (y_on (by kernel_rfl) (fun W hW => by kernel_rfl)) hS1 ?_
  refine wpAnyH_take (i := 13) (v := .bool true) rfl (by kernel_rfl) (by kernel_rfl) (by kernel_rfl) (fun _ _ _ h => h) (y_on (by kernel_rfl) (fun W hW => by have h6 : decide ((N : Int) ≤ 4096) = true := decide_eq_true (by omega); go_simp)) hS1 ?_
  refine wpAnyH_take (i := 14) (v := .bool true) rfl (by kernel_rfl) (by kernel_rfl) (by kernel_rfl) (fun _ _ _ h => h) (y_on (by kernel_rfl) (fun W hW => by kernel_rfl)) hS1 ?_
  refine wpAnyH_take (i := 15) (v := .bool true) rfl (by kernel_rfl) (by kernel_rfl) (by kernel_rfl) (fun _ _ _ h => h) (y_on (by kernel_rfl) (fun W hW => by kernel_rfl)) hS1 ?_
  refine wpAnyH_take (i := 16) (v := .int .i64 0) rfl (by kernel_rfl) (by kernel_rfl) (by kernel_rfl) (fun _ _ _ h => h) (y_on (by kernel_rfl) (fun W hW => by kernel_rfl)) hS1 ?_
  refine wpAnyH_take (i := 17) (v := .bool true) rfl (by kernel_rfl) (by kernel_rfl) (by kernel_rfl) (fun _ _ _ h => h) (y_on (by kernel_rfl) (fun W hW => by kernel_rfl)) hS1 ?_
  refine wpAnyH_take (i := 18) (v := .bool true) rfl (by kernel_rfl) (by kernel_rfl) (by kernel_rfl) (fun _ _ _ h => h) (y_on (by kernel_rfl) (fun W hW => by kernel_rfl)) hS1 ?_
  refine wpAnyH_take (i := 19) (v := .bool true) rfl (by kernel_rfl) (by kernel_rfl) (by kernel_rfl) (fun _ _ _ h => h) (y_on (by kernel_rfl) (fun W hW => by kernel_rfl)) hS1 ?_
  refine wpAnyH_take (i := 20) (v := .agg (RqC q (.slice a9 q.model.length c9))) rfl (by kernel_rfl) (by kernel_rfl) (by kernel_rfl) (fun _ _ _ h => h) (y_load (by kernel_rfl) 32 (.tmp 7) rfl (w9.heap.size) (by kernel_rfl) 32 (RqC q (.slice a9 q.model.length c9)) _ (fun W hW => HST.out.2.at_ hW) Try.underlying32 rfl (infoQ _ _)) hS1 ?_
  refine wpAnyH_take (i := 21) (v := .agg (RqC q mv)) rfl (by kernel_rfl) (by kernel_rfl) (by kernel_rfl) (fun _ _ _ h => h) (y_load (by kernel_rfl) 32 (.tmp 1) rfl (w.heap.size) (by kernel_rfl) 32 (RqC q mv) _ (fun W hW => HST.out.1.at_ hW) Try.underlying32 rfl (infoQ _ _)) hS1 ?_
  refine held_go (i := 22) (o := { dst := some 75, op := Op.call { callee := Callee.value (Operand.func 12), args := #[Operand.tmp 73, Operand.tmp 74], argTypes := #[32, 32] }, type := 4, pos := "law.go:34", after := #[{ on := 20, ground := Ground.data }, { on := 21, ground := Ground.data }, { on := 19, ground := Ground.chain }, { on := 19, ground := Ground.guard }], guard := some (19, true) }) #[true, true, true, true, true, true, true, true, true, true, true, true, true, true, true, true, true, true, true, true, true, true, false, false, false, false, false, false] (by kernel_rfl) (by kernel_rfl) (by kernel_rfl) (by kernel_rfl) (by kernel_rfl) (X := fun v W => v = .bool true ∧ Below w11.heap.size w11 W) ((HSM.out w11 a9 c9 (A10.out.below.trans (hS1.out.mono A10.out.below.size)) (B10.out.2.1.below hS1.out)).mono fun e w' ⟨e1, e2⟩ => ⟨_, e1, rfl, e2⟩) ?_
  rintro v w12 ⟨rfl, hx2⟩
  have hS2 : Hid (Below w10.heap.size w10 w12) := Lib.hid (hS1.out.trans (hx2.mono hS1.out.size))
  clear hx2
  refine ⟨hS2, ?_⟩
  refine wpAnyH_take (i := 23) (v := .bool true) rfl (by kernel_rfl) (by kernel_rfl) (by kernel_rfl) (fun _ _ _ h => h) (y_on (by kernel_rfl) (fun W hW => by kernel_rfl)) hS2 ?_
  refine wpAnyH_take (i := 24) (v := .bool true) rfl (by kernel_rfl) (by kernel_rfl) (by kernel_rfl) (fun _ _ _ h => h) (y_on (by kernel_rfl) (fun W hW => by kernel_rfl)) hS2 ?_
  refine held_go (i := 25) (o := { dst := some 78, op := Op.call { callee := Callee.value (Operand.func 8), args := #[], argTypes := #[] }, type := 4, pos := "law.go:34", after := #[{ on := 24, ground := Ground.chain }, { on := 24, ground := Ground.guard }], guard := some (24, true) }) #[true, true, true, true, true, true, true, true, true, true, true, true, true, true, true, true, true, true, true, true, true, true, true, true, true, false, false, false] (by kernel_rfl) (by kernel_rfl) (by kernel_rfl) (by kernel_rfl) (by kernel_rfl) (X := fun v W => v = .bool true ∧ Below w12.heap.size w12 W) ((known_any w12).mono fun e w' ⟨e1, e2⟩ => ⟨_, e1, rfl, e2⟩) ?_
  rintro v w13 ⟨rfl, hx2⟩
  have hS3 : Hid (Below w10.heap.size w10 w13) := Lib.hid (hS2.out.trans (hx2.mono hS2.out.size))
  clear hx2
  refine ⟨hS3, ?_⟩
  refine wpAnyH_take (i := 26) (v := .bool true) rfl (by kernel_rfl) (by kernel_rfl) (by kernel_rfl) (fun _ _ _ h => h) (y_on (by kernel_rfl) (fun W hW => by kernel_rfl)) hS3 ?_
  refine wpAnyH_take (i := 27) (v := .bool true) rfl (by kernel_rfl) (by kernel_rfl) (by kernel_rfl) (fun _ _ _ h => h) (y_on (by kernel_rfl) (fun W hW => by kernel_rfl)) hS3 ?_
  refine wpAnyH_done (by kernel_rfl) ?_ _
  go_wp2
  go_ret
  exact ⟨by kernel_rfl, A10.out.below.trans (hS3.out.mono A10.out.below.size)⟩
theorem asks_law (w : World) (q : Rq) (a : Option Addr) (cap : Nat) (h : Wf q) (hc : q.model.length ≤ cap) (ha : q.model.length ≤ 1000000 → CB.At w a q.model.length q.model) (hnil : a = none → cap = 0) : Calls Try.prog 3 #[.agg (RqC q (.slice a q.model.length cap))] w (TellsB true w) := by
  by_cases hl : q.model.length ≤ 5000
  · cases hm : mayQ q with
    | false => exact asks_no w q a cap h hc (ha (by omega)) hnil hl hm
    | true => exact asks_yes w q a cap h hc (ha (by omega)) hnil hl hm
  · exact asks_big w q a cap hl
end Go.Proofs.Ytnafeppljnjbeaa
