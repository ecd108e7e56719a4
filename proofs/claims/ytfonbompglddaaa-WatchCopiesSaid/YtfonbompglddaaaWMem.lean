/-
  A watch in memory; New, Len, Get, has, Set, Clear.
-/
import Derived.Test.YtfonbompglddaaaWMap
import Derived.Test.YtfonbompglddaaaGDuo
import Derived.Deep.RegionHeld3
import Derived.Deep.Upon
import Derived.BigRegion
import Derived.Maps.OwnSet
import Derived.Shelf.SlMaps.Clone
import Derived.Carry
namespace Go.Proofs.Ytfonbompglddaaa
open Go Go.RowKit Go.Sort Go.Proofs

abbrev WO (m : Option Nat) : Obj := .cells #[.map m] 57
/-- a watch at block G, within F, that tells L -/
structure Wt (w : World) (G : Nat) (F : Nat → Prop) (L : List On) : Prop where
  wl : Wl L
  fG : F G
  lt : ∀ b, F b → b < w.heap.size
  is : ∃ m, w.heap[G]? = some (WO m) ∧ ((m = none ∧ L = []) ∨ ∃ M, m = some M ∧ F M ∧ MapL w M L)
theorem Wt.but {w w' : World} {G : Nat} {F S : Nat → Prop} {L : List On} (h : Wt w G F L) (hb : But S w w') (hs : ∀ b, F b → ¬ S b) : Wt w' G F L := by
  obtain ⟨m, h1, h2⟩ := h.is
  refine ⟨h.wl, h.fG, fun b e => Nat.lt_of_lt_of_le (h.lt b e) hb.size, m, (hb.block _ (h.lt _ h.fG) (hs _ h.fG)).trans h1, ?_⟩
  rcases h2 with h2 | ⟨M, e, fM, hM⟩
  · exact .inl h2
  · exact .inr ⟨M, e, fM, hM.same (hb.block _ hM.lt (hs _ fM))⟩
def wT : Thing (List On) := ⟨Wt, fun h => h.lt, fun h hb hs => h.but hb hs⟩
theorem Wt.below {w w' : World} {G : Nat} {F : Nat → Prop} {L : List On} (h : Wt w G F L) (hb : Below w.heap.size w w') : Wt w' G F L := h.but (But.of hb (S := fun _ => False)) fun _ _ e => e
theorem Wt.cell {w : World} {G : Nat} {F : Nat → Prop} {L : List On} (h : Wt w G F L) : ∃ m, w.cell? ⟨G, 0, none⟩ = some (.map m) ∧ w.frozen? ⟨G, 0, none⟩ = false ∧ w.heap[G]? = some (WO m) ∧ ((m = none ∧ L = []) ∨ ∃ M, m = some M ∧ F M ∧ MapL w M L) := by
  obtain ⟨m, h1, h2⟩ := h.is
  exact ⟨m, by rw [cell_of_row _ _ _ _ _ _ h1]; rfl, frozen_of_row _ _ _ _ _ h1, h1, h2⟩
theorem Wt.ne {w : World} {G M : Nat} {L : List On} {m : Option Nat} (hg : w.heap[G]? = some (WO m)) (h : MapL w M L) : G ≠ M := fun e => by
  obtain ⟨D, ⟨es, c, hb, _⟩, _⟩ := h
  rw [e, hb] at hg
  cases hg

theorem new_any (w : World) : Calls Try.prog 8 #[] w (wT.New [] w) := by
  go_enter Try.func8, Try.ntmps8
  go_wp2
  go_ret
  refine ⟨w.heap.size, fun b => b = w.heap.size, rfl, ⟨Wl.nil, rfl, fun b e => ?_, none, heap_alloc_new _ _, .inl ⟨rfl, rfl⟩⟩, fun b e => Nat.le_of_eq e.symm, (Below.refl _ _).alloc (Nat.le_refl _) _⟩
  rw [e]
  simp
theorem wlen_any {w : World} {G : Nat} {F : Nat → Prop} {L : List On} (h : Wt w G F L) : Calls Try.prog 21 #[.pointer (some ⟨G, 0, none⟩)] w fun e w' => e = .returned (.int .i64 (L.length : Nat)) ∧ w' = w := by
  obtain ⟨m, c0, -, -, h2⟩ := h.cell
  have hl : ∀ ty, (Builtin.len_ #[mT] ty #[.map m]).run Try.prog w = .ok (.int .i64 (L.length : Nat)) w := fun ty => by
    rcases h2 with ⟨rfl, rfl⟩ | ⟨M, rfl, -, hM⟩
    · exact Maps.len_nil hMT ty
    · exact hM.len ty
  clear h h2
  go_enter Try.func21, Try.ntmps21
  go_wp2
  go_ret
  exact ⟨rfl, rfl⟩
theorem get_any {w : World} {G : Nat} {F : Nat → Prop} {L : List On} (h : Wt w G F L) {i : Nat} (hi : i < 4294967296) : Calls Try.prog 26 #[.pointer (some ⟨G, 0, none⟩), .int .u32 (i : Nat)] w (Tells (.tuple #[BkV ((lget L i).getD bZ), .bool (lget L i).isSome]) w) := by
  obtain ⟨b, hb⟩ : ∃ b, b = (lget L i).getD bZ := ⟨_, rfl⟩
  obtain ⟨t, ht⟩ : ∃ t, t = (lget L i).isSome := ⟨_, rfl⟩
  obtain ⟨w1, h1⟩ : ∃ w1, w1 = w.alloc (.cells #[.int .i64 0, .int .i64 0, .int .i64 0] 33) := ⟨_, rfl⟩
  have hw : Wt w1 G F L := h.below (by rw [h1]; exact (Below.refl _ _).alloc (Nat.le_refl _) _)
  obtain ⟨m, c0, -, -, h2⟩ := hw.cell
  have hl : (Instr.lookup mT (.map m) (.int .u32 (i : Nat)) true).run Try.prog w1 = .ok (.tuple #[BkV b, .bool t]) w1 := by
    rw [hb, ht]
    rcases h2 with ⟨rfl, rfl⟩ | ⟨M, rfl, -, hM⟩
    · exact look_nil w1 hi
    · exact hM.look hi
  rw [← hb, ← ht]
  clear h hw h2 hb ht
  subst h1
  go_enter Try.func26, Try.ntmps26
  go_wp2
  refine bodyPost_ret (v := .tuple #[BkV b, .bool t]) (by simp [results, Try.results26, go_sem]) rfl ⟨rfl, ?_⟩
  exact ((Below.refl _ _).alloc (Nat.le_refl _) _).alloc (by simp) _
theorem has_any {w : World} {G : Nat} {F : Nat → Prop} {L : List On} (h : Wt w G F L) {i : Nat} (hi : i < 4294967296) : Calls Try.prog 31 #[.pointer (some ⟨G, 0, none⟩), .int .u32 (i : Nat)] w (Tells (.bool (lget L i).isSome) w) := by
  have H := Lib.hid h
  clear h
  go_enter Try.func31, Try.ntmps31
  go_wp2_with (go_at_call 26; refine (get_any H.out hi).mono ?_; rintro e w1 ⟨rfl, hb⟩; have HB := Lib.hid hb; clear hb)
  go_ret
  exact ⟨rfl, HB.out.alloc HB.out.size _⟩
theorem has_is {w : World} {G : Nat} {F : Nat → Prop} {L : List On} (h : Wt w G F L) {i : Nat} (hi : i < 4294967296) {o : Option Bk} (ho : lget L i = o) : Calls Try.prog 31 #[.pointer (some ⟨G, 0, none⟩), .int .u32 (i : Nat)] w (Tells (.bool o.isSome) w) := ho ▸ has_any h hi
theorem may_is {b : Bk} {w : World} {t : Bool} (h : bmay b = t) : Calls Try.prog 15 #[BkV b] w (Tells (.bool t) w) := h ▸ (may_any b w).mono fun _ _ h => h.tells

set_option maxHeartbeats 1000000 in
theorem set_arg {w : World} {G : Nat} {F : Nat → Prop} {L : List On} (_h : Wt w G F L) (x : On) (hm : bmay x.2 = false) : Calls Try.prog 19 #[.pointer (some ⟨G, 0, none⟩), .int .u32 (x.1 : Nat), BkV x.2] w (Tells (.int .i64 2) w) := by
  go_enter Try.func19, Try.ntmps19
  go_wp2_with (go_at_call 15; refine (may_is (b := x.2) hm).mono ?_; rintro e w1 ⟨rfl, hb⟩; have HB := Lib.hid hb; clear hb)
  go_ret
  exact ⟨rfl, ((Below.refl _ _).alloc (Nat.le_refl _) _).trans (HB.out.mono (by simp))⟩
set_option maxHeartbeats 1000000 in
theorem set_twice {w : World} {G : Nat} {F : Nat → Prop} {L : List On} (h : Wt w G F L) (x : On) (hi : x.1 < 4294967296) (hm : bmay x.2 = true) {c : Bk} (hg : lget L x.1 = some c) : Calls Try.prog 19 #[.pointer (some ⟨G, 0, none⟩), .int .u32 (x.1 : Nat), BkV x.2] w (Tells (.int .i64 7) w) := by
  have H := Lib.hid h
  have HG := Lib.hid hg
  clear h hg
  go_enter Try.func19, Try.ntmps19
  go_wp2_with (first
    | (go_at_call 31; refine (has_is (H.out.below H1.out) hi HG.out).mono ?_; rintro e w2 ⟨rfl, hb⟩; have H2 := Lib.hid hb; clear hb)
    | (go_at_call 15; refine (may_is (b := x.2) hm).mono ?_; rintro e w1 ⟨rfl, hb⟩; have H1 : Hid (Below w.heap.size w w1) := ((Below.refl _ _).alloc (Nat.le_refl _) _).trans (hb.mono (by simp)); clear hb))
  go_ret
  exact ⟨rfl, H1.out.trans (H2.out.mono H1.out.size)⟩
theorem len_run {w : World} {m : Option Nat} {F : Nat → Prop} {L : List On} (h2 : (m = none ∧ L = []) ∨ ∃ M, m = some M ∧ F M ∧ MapL w M L) : ∀ ty, (Builtin.len_ #[mT] ty #[.map m]).run Try.prog w = .ok (.int .i64 (L.length : Nat)) w := fun ty => by
  rcases h2 with ⟨rfl, rfl⟩ | ⟨M, rfl, -, hM⟩
  · exact Maps.len_nil hMT ty
  · exact hM.len ty
set_option maxHeartbeats 1000000 in
theorem set_full {w : World} {G : Nat} {F : Nat → Prop} {L : List On} (h : Wt w G F L) (x : On) (hi : x.1 < 4294967296) (hm : bmay x.2 = true) (hg : lget L x.1 = none) (hl : 16 ≤ L.length) : Calls Try.prog 19 #[.pointer (some ⟨G, 0, none⟩), .int .u32 (x.1 : Nat), BkV x.2] w (Tells (.int .i64 5) w) := by
  have H := Lib.hid h
  have HG := Lib.hid hg
  have hd : decide ((L.length : Int) ≥ 16) = true := by simp; omega
  clear h hg hl
  go_enter Try.func19, Try.ntmps19
  go_wp2_with (first
    | (go_at_call 31; refine (has_is (H.out.below H1.out) hi HG.out).mono ?_; rintro e w2 ⟨rfl, hb⟩; have H2 : Hid (Below w.heap.size w w2) := H1.out.trans (hb.mono H1.out.size); clear hb; obtain ⟨m, c0, -, -, h2⟩ := (H.out.below H2.out).cell; have hlen := len_run h2; clear h2)
    | (go_at_call 15; refine (may_is (b := x.2) hm).mono ?_; rintro e w1 ⟨rfl, hb⟩; have H1 : Hid (Below w.heap.size w w1) := ((Below.refl _ _).alloc (Nat.le_refl _) _).trans (hb.mono (by simp)); clear hb))
  go_ret
  exact ⟨rfl, H2.out⟩
/-- a watch that has a map, and what is to be put -/
theorem set_store {w wr : World} {G : Nat} {F : Nat → Prop} {L : List On} (x : On) (hi : x.1 < 4294967296) (hg : lget L x.1 = none) (hl : L.length < 16) {M : Nat} (hw : Wl L) (hbw : But F w wr) (fG : F G) (hF : ∀ b, F b → b < w.heap.size)
    (fM : F M ∨ w.heap.size ≤ M) (hM : MapL wr M L) (h0 : wr.heap[G]? = some (WO (some M))) :
    ∃ w', Sem.run Try.prog (Instr.mapUpdate mT (.map (some M)) (.int .u32 (x.1 : Nat)) (BkV x.2)) wr = .ok () w' ∧ wT.To (.int .i64 0) G F (ins x L) w (.returned (.int .i64 0)) w' := by
  obtain ⟨w', h1, h2, h3⟩ := hM.put x hi hg hl
  have hne := Wt.ne h0 hM
  have hs : w.heap.size ≤ w'.heap.size := Nat.le_trans hbw.size h3.size
  refine ⟨w', h1, rfl, ⟨hw.ins hg hi hl, .inl fG, fun b hb => ?_, some M, ?_, .inr ⟨M, rfl, ?_, h2⟩⟩, ?_⟩
  · rcases hb with hb | hb
    · exact Nat.lt_of_lt_of_le (hF b hb) hs
    · exact hb.2
  · exact (h3.block _ (Array.getElem?_eq_some_iff.1 h0).1 (fun e => hne (Option.some.inj e))).trans h0
  · exact fM.imp id fun e => ⟨e, h2.lt⟩
  · refine hbw.next (But.grown h3) fun j hj e => ?_
    have e := Option.some.inj e
    rcases fM with fM | fM
    · exact e ▸ fM
    · omega
set_option maxHeartbeats 2000000 in
set_option maxRecDepth 100000 in
theorem set_old {w : World} {G M : Nat} {F : Nat → Prop} {L : List On} (h : Wt w G F L) (x : On) (hi : x.1 < 4294967296) (hm : bmay x.2 = true) (hg : lget L x.1 = none) (hl : L.length < 16) (h0 : w.heap[G]? = some (WO (some M))) : Calls Try.prog 19 #[.pointer (some ⟨G, 0, none⟩), .int .u32 (x.1 : Nat), BkV x.2] w (wT.To (.int .i64 0) G F (ins x L) w) := by
  have mixed : Try.prog.follows .mixedOrders = true := by kernel_rfl
  have hq := fun w p => run_eql_map_nil_sl (P := Try.prog) w mT _ _ p hMT
  have H := Lib.hid h
  have HG := Lib.hid hg
  have HL := Lib.hid hl
  have H0 := Lib.hid h0
  have hd : decide ((L.length : Int) ≥ 16) = false := by simp; omega
  clear h hg hl h0
  go_enter Try.func19, Try.ntmps19
  go_wp2_with (first
    | (go_at_call 31; refine (has_is (H.out.below H1.out.1) hi HG.out).mono ?_; rintro e w2 ⟨rfl, hb⟩; have H2 : Hid (Below w.heap.size w w2) := H1.out.1.trans (hb.mono H1.out.1.size); have hbx : w2.heap[w.heap.size]? = some (BkO x.2) := (hb.block _ (Array.getElem?_eq_some_iff.1 H1.out.2).1).trans H1.out.2; have HBX := Lib.hid hbx; clear hb hbx; obtain ⟨m, c0, -, hg0, h2⟩ := (H.out.below H2.out).cell; (have e0 := (H2.out.block _ (Array.getElem?_eq_some_iff.1 H0.out).1).trans H0.out); (rw [e0] at hg0); cases hg0; have hlen := len_run h2; have HM := Lib.hid h2; clear h2 e0)
    | (go_at_call 15; refine (may_is (b := x.2) hm).mono ?_; rintro e w1 ⟨rfl, hb⟩; have H1 : Hid (Below w.heap.size w w1 ∧ w1.heap[w.heap.size]? = some (BkO x.2)) := ⟨((Below.refl _ _).alloc (Nat.le_refl _) _).trans (hb.mono (by simp)), (hb.block _ (by simp)).trans (heap_alloc_new _ _)⟩; clear hb))
  obtain ⟨b0, b1, b2⟩ := bk_box HBX.out
  obtain ⟨M', e, fM, hM⟩ := HM.out.resolve_left fun e => by cases e.1
  cases e
  have hbd : Below w.heap.size w w2.drew := H2.out.drew
  obtain ⟨w3, hrun, hto⟩ := set_store x hi HG.out HL.out (wr := w2.drew) H.out.wl (But.of hbd) H.out.fG H.out.lt (.inl fM) (hM.same rfl) ((hbd.block _ (Array.getElem?_eq_some_iff.1 H0.out).1).trans H0.out)
  have HTO := Lib.hid hto
  clear hto hM hbd hlen HM fM
  go_region
  all_goals
    go_wp2
    go_ret
    exact HTO.out
set_option maxHeartbeats 2000000 in
set_option maxRecDepth 100000 in
theorem set_new {w : World} {G : Nat} {F : Nat → Prop} {L : List On} (h : Wt w G F L) (x : On) (hi : x.1 < 4294967296) (hm : bmay x.2 = true) (hg : lget L x.1 = none) (hl : L.length < 16) (h0 : w.heap[G]? = some (WO none)) (hL : L = []) : Calls Try.prog 19 #[.pointer (some ⟨G, 0, none⟩), .int .u32 (x.1 : Nat), BkV x.2] w (wT.To (.int .i64 0) G F (ins x L) w) := by
  have mixed : Try.prog.follows .mixedOrders = true := by kernel_rfl
  have hq := fun w p => run_eql_map_nil_sl (P := Try.prog) w mT _ _ p hMT
  have H := Lib.hid h
  have HG := Lib.hid hg
  have HL := Lib.hid hl
  have H0 := Lib.hid h0
  have HE := Lib.hid hL
  have hmm := @run_makeMap Try.prog
  have hd : decide ((L.length : Int) ≥ 16) = false := by simp; omega
  clear h hg hl h0 hL
  go_enter Try.func19, Try.ntmps19
  go_wp2_with (first
    | (go_at_call 31; refine (has_is (H.out.below H1.out.1) hi HG.out).mono ?_; rintro e w2 ⟨rfl, hb⟩; have H2 : Hid (Below w.heap.size w w2) := H1.out.1.trans (hb.mono H1.out.1.size); have hbx : w2.heap[w.heap.size]? = some (BkO x.2) := (hb.block _ (Array.getElem?_eq_some_iff.1 H1.out.2).1).trans H1.out.2; have HBX := Lib.hid hbx; clear hb hbx; obtain ⟨m, c0, cf, hg0, h2⟩ := (H.out.below H2.out).cell; (have e0 := (H2.out.block _ (Array.getElem?_eq_some_iff.1 H0.out).1).trans H0.out); (rw [e0] at hg0); cases hg0; have hlen := len_run h2; have HM := Lib.hid e0; clear h2 e0; have c2 : (w2.alloc (.map #[] 0)).cell? ⟨G, 0, none⟩ = some (.map none) := (cell_of_row _ _ _ _ _ _ ((heap_alloc_old _ _ (Array.getElem?_eq_some_iff.1 HM.out).1).trans HM.out)).trans rfl; have cf2 : (w2.alloc (.map #[] 0)).frozen? ⟨G, 0, none⟩ = false := frozen_of_row _ _ _ _ _ ((heap_alloc_old _ _ (Array.getElem?_eq_some_iff.1 HM.out).1).trans HM.out))
    | (go_at_call 15; refine (may_is (b := x.2) hm).mono ?_; rintro e w1 ⟨rfl, hb⟩; have H1 : Hid (Below w.heap.size w w1 ∧ w1.heap[w.heap.size]? = some (BkO x.2)) := ⟨((Below.refl _ _).alloc (Nat.le_refl _) _).trans (hb.mono (by simp)), (hb.block _ (by simp)).trans (heap_alloc_new _ _)⟩; clear hb))
  obtain ⟨w4, h4⟩ : ∃ w4, w4 = (w2.alloc (.map #[] 0)).setCell ⟨G, 0, none⟩ (.map (some w2.heap.size)) := ⟨_, rfl⟩
  rw [← h4]
  have hG2 := (Array.getElem?_eq_some_iff.1 HM.out).1
  have hb4 : But (fun b => b = G) (w2.alloc (.map #[] 0)) w4 := by rw [h4]; exact (But.refl (fun b => b = G) _).setCell (p := ⟨G, 0, none⟩) rfl _
  have g4 : w4.heap[G]? = some (WO (some w2.heap.size)) := by
    rw [h4, heap_setCell_same _ G 0 _ _ _ ((heap_alloc_old _ _ hG2).trans HM.out)]
    rfl
  have m4 : MapL w4 w2.heap.size L := by
    rw [HE.out]
    exact (MapL.made w2).same (hb4.block _ (by simp) (by omega))
  have hB2 := (Array.getElem?_eq_some_iff.1 HBX.out).1
  have hGw := H.out.lt _ H.out.fG
  have x4 : w4.heap[w.heap.size]? = some (BkO x.2) := (hb4.block _ (by simp; omega) (by omega)).trans ((heap_alloc_old _ _ hB2).trans HBX.out)
  have b4 : But F w w4 := ((But.of H2.out).alloc _).trans (hb4.mono fun j _ e => e ▸ H.out.fG)
  obtain ⟨b0, b1, b2⟩ := bk_box x4
  have c4 : w4.cell? ⟨G, 0, none⟩ = some (.map (some w2.heap.size)) := by rw [cell_of_row _ _ _ _ _ _ g4]; rfl
  obtain ⟨w3, hrun, hto⟩ := set_store x hi HG.out HL.out (wr := w4.drew) H.out.wl b4.drew H.out.fG H.out.lt (.inr H2.out.size) (m4.same rfl) g4
  have HTO := Lib.hid hto
  clear hto hlen HM h4 hb4 g4 m4 x4 b4 cf cf2 c2 c0 hG2 hB2 hGw
  go_region
  all_goals
    go_wp2
    go_ret
    exact HTO.out
theorem set_put {w : World} {G : Nat} {F : Nat → Prop} {L : List On} (h : Wt w G F L) (x : On) (hi : x.1 < 4294967296) (hm : bmay x.2 = true) (hg : lget L x.1 = none) (hl : L.length < 16) : Calls Try.prog 19 #[.pointer (some ⟨G, 0, none⟩), .int .u32 (x.1 : Nat), BkV x.2] w (wT.To (.int .i64 0) G F (ins x L) w) := by
  obtain ⟨m, h1, h2⟩ := h.is
  rcases h2 with ⟨rfl, h2⟩ | ⟨M, rfl, -⟩
  · exact set_new h x hi hm hg hl h1 h2
  · exact set_old h x hi hm hg hl h1

set_option maxHeartbeats 1000000 in
theorem clear_none {w : World} {G : Nat} {F : Nat → Prop} {L : List On} (h : Wt w G F L) {i : Nat} (hi : i < 4294967296) (hg : lget L i = none) : Calls Try.prog 23 #[.pointer (some ⟨G, 0, none⟩), .int .u32 (i : Nat)] w (Tells (.int .i64 6) w) := by
  have H := Lib.hid h
  have HG := Lib.hid hg
  clear h hg
  go_enter Try.func23, Try.ntmps23
  go_wp2_with (go_at_call 31; refine (has_is H.out hi HG.out).mono ?_; rintro e w2 ⟨rfl, hb⟩; have H2 := Lib.hid hb; clear hb)
  go_ret
  exact ⟨rfl, H2.out⟩
set_option maxHeartbeats 1000000 in
theorem clear_one {w : World} {G : Nat} {F : Nat → Prop} {L : List On} (h : Wt w G F L) {i : Nat} (hi : i < 4294967296) {b : Bk} (hg : lget L i = some b) : Calls Try.prog 23 #[.pointer (some ⟨G, 0, none⟩), .int .u32 (i : Nat)] w (wT.To (.int .i64 0) G F (del i L) w) := by
  have H := Lib.hid h
  have HG := Lib.hid hg
  have hto : ∀ w2, Below w.heap.size w w2 → ∃ M, w2.cell? ⟨G, 0, none⟩ = some (.map (some M)) ∧ ∃ w', (∀ ty, (Builtin.delete_ #[mT, uT] ty #[.map (some M), .int .u32 (i : Nat)]).run Try.prog w2 = .ok (.tuple #[]) w') ∧ wT.To (.int .i64 0) G F (del i L) w (.returned (.int .i64 0)) w' := fun w2 hb => by
    obtain ⟨m, c0, -, h0, h2⟩ := (H.out.below hb).cell
    rcases h2 with ⟨rfl, rfl⟩ | ⟨M, rfl, fM, hM⟩
    · cases HG.out
    · obtain ⟨w', k1, k2, k3⟩ := hM.drop H.out.wl hi HG.out 0
      have hne := Wt.ne h0 hM
      have hs : w.heap.size ≤ w'.heap.size := Nat.le_trans hb.size k3.size
      refine ⟨M, c0, w', fun ty => ?_, rfl, ⟨H.out.wl.del i, .inl H.out.fG, fun b hb => ?_, some M, ?_, .inr ⟨M, rfl, .inl fM, k2⟩⟩, ?_⟩
      · rw [← k1]
        rfl
      · rcases hb with hb | hb
        · exact Nat.lt_of_lt_of_le (H.out.lt b hb) hs
        · exact hb.2
      · exact (k3.block _ (Array.getElem?_eq_some_iff.1 h0).1 (fun e => hne (Option.some.inj e))).trans h0
      · exact (But.of hb).next (But.grown k3) fun j hj e => (Option.some.inj e) ▸ fM
  have HTO : Hid _ := hto
  clear h hg hto
  go_enter Try.func23, Try.ntmps23
  go_wp2_with (go_at_call 31; refine (has_is H.out hi HG.out).mono ?_; rintro e w2 ⟨rfl, hb⟩; obtain ⟨M, c0, w3, hrun, hto⟩ := HTO.out w2 hb; have HT := Lib.hid hto; clear hb hto)
  go_ret
  exact HT.out
end Go.Proofs.Ytfonbompglddaaa
