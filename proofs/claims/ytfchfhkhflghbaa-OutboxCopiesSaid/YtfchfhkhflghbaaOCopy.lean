/-
  The walks of slices.Clone at texts, Copy.
-/
import Derived.Test.YtfchfhkhflghbaaOPut
namespace Go.Proofs.Ytfchfhkhflghbaa
open Go Go.RowKit Go.Lib Go.Sort Go.Proofs

def ClonedS (l : List Sl) (w : World) (e : Ending) (w' : World) : Prop := ∃ v, e = .returned v ∧ CS.Own 30 w.heap.size w' v l ∧ Below w.heap.size w w'
set_option maxRecDepth 100000 in
theorem cloneS_any (w : World) (va : Option Addr) (n vc : Nat) (l : List Sl) (hn : n = l.length) (h : CS.At w va l.length l) (hl : l.length ≤ 100000) (hnil : va = none → vc = 0) : Calls Try.prog 25 #[.slice va n vc] w (ClonedS l w) := by
  subst hn
  cases va with
  | none =>
    obtain rfl := hnil rfl
    have h0 : l = [] := by
      obtain ⟨_, _, h3 | ⟨_, _, e, _⟩⟩ := h
      · exact List.length_eq_zero_iff.1 h3
      · cases e
    subst h0
    clear h hl hnil
    have eq0 : ∀ W : World, (binOp .eql 40 (.slice none 0 0) (.slice none 0 0)).run Try.prog W = .ok (.bool true) W := fun W => Lib.run_eql_slice_nil W 40 30 none 0 0 0 0 Try.underlying40
    show Calls Try.prog 25 #[.slice none 0 0] w (ClonedS [] w)
    go_enter Try.func25, Try.ntmps25
    go_wp2
    go_ret
    exact ⟨_, rfl, Cod.Own.nil _ _, Below.refl _ _⟩
  | some ad =>
    have H := Lib.hid h
    obtain ⟨N, hN⟩ : ∃ N, N = l.length := ⟨_, rfl⟩
    rw [← hN] at H hl ⊢
    have HN := Lib.hid hN
    clear h hnil hN
    go_enter Try.func25, Try.ntmps25
    have ho : CS.Own 30 w.heap.size (w.alloc (.cells #[] 30)) (.slice (some ⟨w.heap.size, 0, none⟩) 0 0) [] := ⟨rfl, .inr ⟨w.heap.size, 0, #[], rfl, Nat.le_refl _, heap_alloc_new _ _, Nat.le_refl _, by unfold maxLen; omega, rfl, rfl⟩⟩
    have HO := Lib.hid ho
    clear ho
    have eq0 : ∀ W : World, (binOp .eql 40 (.slice (some ad) N vc) (.slice none 0 0)).run Try.prog W = .ok (.bool false) W := fun W => Lib.run_eql_slice_nil W 40 30 (some ad) N vc 0 0 Try.underlying40
    go_wp2_with (at_builtin; refine rowS.list rfl _ _ rfl w.heap.size _ [] rfl HO.out ad N vc l rfl HN.out (H.out.below ((Below.refl _ w).alloc (Nat.le_refl _) _)).news (by simp; omega) (by simp; omega) (by simp) ?_; intro v' w' ho' hg' hn'; have H2 := Lib.hid (And.intro ho' hg'); clear ho' hg' hn')
    go_ret
    exact ⟨_, rfl, H2.out.1, ((Below.refl _ w).alloc (Nat.le_refl _) _).trans ((But.grown H2.out.2).below (by simp) fun k e => by cases e; exact Nat.le_refl _)⟩
/-- a row of texts, as slices -/
theorem Rw.sl {w : World} {FT FB : Nat → Prop} {a : Option Addr} {c : Nat} {L : List By} (h : Rw w FT FB a c L) (hl : L.length ≤ 1000000) : ∃ sl : List Sl, sl.length = L.length ∧ CS.At w a L.length sl ∧ (a = none → c = 0) ∧ ∀ (i : Nat) (s : Sl) (t : By), sl[i]? = some s → L[i]? = some t → Tx w FT (SlV s) t := by
  rcases h with ⟨rfl, rfl, rfl⟩ | ⟨B, off, cur, rfl, h1, h2, h3, h4, h5, h6, h7⟩
  · exact ⟨[], rfl, Cod.At.nil w, fun _ => rfl, fun i s t hs => by simp at hs⟩
  · have hall : ∀ i : Fin L.length, ∃ s : Sl, cur[off + i.1]? = some (SlV s) ∧ Tx w FT (SlV s) L[i.1] := fun i => by
      obtain ⟨v, k1, k2⟩ := h7 i.1 i.2
      obtain ⟨X, o, ct, rfl, _⟩ := id k2
      exact ⟨(some ⟨X, o, none⟩, L[i.1].length, ct), k1, k2⟩
    obtain ⟨f, hf⟩ := Classical.axiomOfChoice hall
    refine ⟨List.ofFn f, by simp, ⟨by simp, hl, .inr ⟨B, off, rfl, heap_lt h3, fun i hi c hc => ?_⟩⟩, (fun e => by cases e), fun i s t hs ht => ?_⟩
    · have hi' : i < L.length := by simpa using hi
      obtain rfl : c = 0 := by have : CS.k = 1 := rfl; omega
      rw [show CS.k = 1 from rfl, Nat.mul_one, Nat.add_zero, cell_of_row _ _ _ _ _ _ h3, (hf ⟨i, hi'⟩).1, List.getElem_ofFn]
      rfl
    · obtain ⟨hi, rfl⟩ := List.getElem?_eq_some_iff.1 ht
      have hs' : (List.ofFn f)[i]? = some (f ⟨i, hi⟩) := by rw [List.getElem?_eq_getElem (by simpa using hi), List.getElem_ofFn]
      rw [hs'] at hs
      cases hs
      exact (hf ⟨i, hi⟩).2
theorem own_sl {B n c : Nat} {w : World} {a : Option Addr} {l : List Sl} (h : CS.Own 30 B w (.slice a n c) l) (hl : l.length ≤ 1000000) : n = l.length ∧ CS.At w a l.length l ∧ (∀ p, a = some p → B ≤ p.block ∧ p.block < w.heap.size) ∧ (a = none → c = 0 ∧ l = []) ∧ l.length ≤ c ∧ c ≤ maxLen := by
  obtain ⟨a', c', e, hc, hA, hb, h3⟩ := h.at_ hl
  cases e
  refine ⟨rfl, hA, fun p e => ?_, fun e => ?_, hc, ?_⟩
  · rcases h3 with ⟨h3, _⟩ | ⟨g, h3⟩
    · rw [h3] at e; cases e
    · subst h3
      cases e
      exact h.lt g rfl
  · rcases h3 with ⟨_, h4, h5⟩ | ⟨g, h3⟩
    · exact ⟨h5, h4⟩
    · rw [h3] at e; cases e
  · obtain ⟨_, ⟨e, _⟩ | ⟨g', cap, cur, e, _, _, _, hm, _⟩⟩ := h
    · rw [(Value.slice.inj e).2.2]; exact Nat.zero_le _
    · rw [(Value.slice.inj e).2.2]; exact hm
theorem own_row {B n c : Nat} {w : World} {a : Option Addr} {l : List Sl} (h : CS.Own 30 B w (.slice a n c) l) : (a = none ∧ c = 0) ∨ ∃ g cur, a = some ⟨g, 0, none⟩ ∧ B ≤ g ∧ w.heap[g]? = some (.cells cur 30 (0, 0)) ∧ c ≤ cur.size := by
  obtain ⟨_, ⟨e, _⟩ | ⟨g', cap, cur, e, hg, hh, _, _, hs, _⟩⟩ := h
  · exact .inl ⟨(Value.slice.inj e).1, (Value.slice.inj e).2.2⟩
  · refine .inr ?_
    obtain ⟨e1, e2, e3⟩ := Value.slice.inj e
    refine ⟨g', cur, e1, hg, hh, ?_⟩
    rw [hs, e3]
    exact Nat.le_of_eq (Nat.mul_one _).symm
/-- so many texts have been copied -/
structure CRel (w : World) (CB0 : Nat) (O : Obj) (a2 : Option Addr) (n c2 : Nat) (L : List By) (wr : World) (i : Nat) : Prop where
  box : wr.heap[CB0]? = some O
  below : Below w.heap.size w wr
  row : (a2 = none ∧ c2 = 0) ∨ ∃ RB cur, a2 = some ⟨RB, 0, none⟩ ∧ w.heap.size ≤ RB ∧ RB ≠ CB0 ∧ wr.heap[RB]? = some (.cells cur 30 (0, 0)) ∧ c2 ≤ cur.size ∧ ∀ j, j < i → ∀ t : By, L[j]? = some t → ∃ v, cur[j]? = some v ∧ Tx wr (fun b => w.heap.size ≤ b ∧ b < wr.heap.size ∧ b ≠ CB0 ∧ b ≠ RB) v t
theorem CRel.step {w wr w2 : World} {CB0 : Nat} {O : Obj} {a2 : Option Addr} {n c2 : Nat} {L : List By} {i : Nat} (h : CRel w CB0 O a2 n c2 L wr i) (hb : Below wr.heap.size wr w2) (hn : n ≤ c2) (hin : i < n) {RB : Nat} (ha : a2 = some ⟨RB, 0, none⟩) {t : By} (ht : L[i]? = some t) {g k : Nat} (hg : wr.heap.size ≤ g) (hg2 : g < w2.heap.size) (hk : t.length ≤ k) (hk2 : k ≤ maxLen) (hA : CB.At w2 (some ⟨g, 0, none⟩) t.length t) :
    CRel w CB0 O a2 n c2 L (w2.setCell ⟨RB, i, none⟩ (.slice (some ⟨g, 0, none⟩) t.length k)) (i + 1) := by
  obtain ⟨h1, h2, h3⟩ := h
  subst ha
  obtain ⟨RB', cur, e, q1, q2, q3, q4, q5⟩ := h3.resolve_left (fun e => by cases e.1)
  cases e
  have g2 := (hb.block _ (heap_lt q3)).trans q3
  have hs := heap_setCell_same w2 RB i _ _ (.slice (some ⟨g, 0, none⟩) t.length k) g2
  have hbR : But (fun b => b = RB) w2 (w2.setCell ⟨RB, i, none⟩ (.slice (some ⟨g, 0, none⟩) t.length k)) := (But.refl (fun b => b = RB) _).setCell (p := ⟨RB, i, none⟩) rfl _
  have hgR : g ≠ RB := by have := heap_lt q3; omega
  have hgC : g ≠ CB0 := by have := heap_lt h1; omega
  have s1 := hb.size
  have s2 := hbR.size
  have s0 := h2.size
  have hbw := (But.of (S := fun b => b = RB) hb).trans hbR
  refine ⟨(hbw.block _ (heap_lt h1) (fun e => q2 e.symm)).trans h1, h2.trans (hbw.below s0 fun k e => by omega), .inr ⟨RB, _, rfl, q1, q2, hs, by simpa using q4, fun j hj u hu => ?_⟩⟩
  by_cases hji : j = i
  · subst hji
    rw [ht] at hu
    cases hu
    refine ⟨_, Array.getElem?_setIfInBounds_self_of_lt (by omega), g, 0, k, rfl, hk, hk2, ⟨by omega, by omega, hgC, hgR⟩, hA.but hbR fun p e => by cases e; exact hgR⟩
  · obtain ⟨v, k1, k2⟩ := q5 j (by omega) u hu
    refine ⟨v, by rw [Array.getElem?_setIfInBounds_ne (fun e => hji e.symm)]; exact k1, k2.keep hbw.size (fun b e hl => hbw.block b hl fun e2 => e.2.2.2 e2) fun b e => ⟨e.1, by omega, e.2.2⟩⟩
theorem CRel.open_ {w wr : World} {CB0 : Nat} {O : Obj} {a2 : Option Addr} {n c2 : Nat} {L : List By} {i : Nat} (h : CRel w CB0 O a2 n c2 L wr i) (hi : i < n) (hn : n ≤ c2) : ∃ RB, a2 = some ⟨RB, 0, none⟩ ∧ RB < wr.heap.size ∧ ∀ W, Below wr.heap.size wr W → (∃ v, W.cell? ⟨RB, i, none⟩ = some v) ∧ W.frozen? ⟨RB, i, none⟩ = false := by
  obtain ⟨RB, cur, e, q1, q2, q3, q4, q5⟩ := h.row.resolve_left (fun e => by omega)
  refine ⟨RB, e, heap_lt q3, fun W hW => ?_⟩
  have q := (hW.block _ (heap_lt q3)).trans q3
  refine ⟨⟨cur[i]'(by omega), ?_⟩, frozen_of_row _ _ _ _ _ q⟩
  rw [cell_of_row _ _ _ _ _ _ q, Array.getElem?_eq_getElem]
set_option maxHeartbeats 4000000 in
set_option maxRecDepth 100000 in
theorem copy_any {w : World} {G : Nat} {F : Nat → Prop} {x : St} (h : Ob w G F x) (hne : ∀ t ∈ x.2.1, t ≠ []) : Calls Try.prog 12 #[.pointer (some ⟨G, 0, none⟩)] w (obT.New x w) := by
  have mixed : Try.prog.follows .mixedOrders = true := by kernel_rfl
  obtain ⟨FT, a, c, hG, hFG, hTG, hT, hF, hR, i0, i1, i2, i3, i4, i5⟩ := h
  obtain ⟨most, L, sent⟩ := x
  simp only at hG hR i0 i1 i2 i3 i4 i5 hne
  obtain ⟨sl, hsl, hsA, hnil, htx⟩ := hR.sl (by omega)
  obtain ⟨N, hN⟩ : ∃ N, N = L.length := ⟨_, rfl⟩
  obtain ⟨M, hM⟩ : ∃ M, M = L.flatten.length := ⟨_, rfl⟩
  rw [← hN, ← hM] at hG
  rw [← hN] at hsl
  obtain ⟨c0, c1, c2, c3⟩ := oo_cells hG
  have HG := Lib.hid hG
  have HSA : Hid (∀ W, Below w.heap.size w W → CS.At W a sl.length sl) := fun W hW => by rw [hsl, hN]; exact hsA.below hW
  have HN := Lib.hid (And.intro hN (And.intro hM hsl))
  have HX := Lib.hid (And.intro hne (And.intro htx hnil))
  have HI := Lib.hid (And.intro i0 (And.intro i1 (And.intro i2 (And.intro i3 (And.intro i4 i5)))))
  have hb1 : Below w.heap.size w (w.alloc (OO most (.slice a N c) M sent)) := (Below.refl _ _).alloc (Nat.le_refl _) _
  have HB1 := Lib.hid hb1
  have HS : Hid (∀ W, Below w.heap.size w W → W.heap[G]? = some (OO most (.slice a N c) M sent)) := fun W hW => (hW.block _ (heap_lt hG)).trans hG
  have b1 := (oo_cells (HS.out _ hb1)).2.1
  have HGl : Hid (G < w.heap.size) := heap_lt hG
  have HNB : Hid (sl.length ≤ 100000) := by show _ ≤ _; omega
  clear hG hFG hTG hT hF hR i0 i1 i2 i3 i4 i5 hsl hsA hnil htx hne hN hM hb1
  go_enter Try.func12, Try.ntmps12
  go_wp2_with (go_at_call 25; refine (cloneS_any _ a N c sl HN.out.2.2.symm (HSA.out _ HB1.out) HNB.out HX.out.2.2).mono ?_; rintro e w2 ⟨v2, rfl, ho2, hb2⟩; refine Hid.out ?_)
  obtain ⟨a2, n2, k2, rfl⟩ := ho2.shape
  obtain ⟨hn2, hA2, hp2, hna2, hc2, hm2⟩ := own_sl ho2 (Nat.le_trans HNB.out (by decide))
  obtain rfl : n2 = N := by rw [hn2, HN.out.2.2]
  have q1 : (w.alloc (OO most (.slice a n2 c) M sent)).heap[w.heap.size]? = some (OO most (.slice a n2 c) M sent) := heap_alloc_new _ _
  have q2 := (hb2.block _ (heap_lt q1)).trans q1
  have x2 := (oo_cells q2).2.1
  have y2 := oo_frozen q2 1
  obtain ⟨w3, hw3⟩ : ∃ w3, w3 = w2.setCell ⟨w.heap.size, 1, none⟩ (.slice a2 n2 k2) := ⟨_, rfl⟩
  have q3 : w3.heap[w.heap.size]? = some (OO most (.slice a2 n2 k2) M sent) := by
    rw [hw3, heap_setCell_same w2 w.heap.size 1 _ _ _ q2]
    rfl
  have hbC : But (fun b => b = w.heap.size) w2 w3 := by rw [hw3]; exact (But.refl (fun b => b = w.heap.size) _).setCell (p := ⟨w.heap.size, 1, none⟩) rfl _
  have hs1 : (w.alloc (OO most (.slice a n2 c) M sent)).heap.size = w.heap.size + 1 := by simp
  have hb12 := HB1.out.trans (hb2.mono HB1.out.size)
  have hb13 : Below w.heap.size w w3 := hb12.trans (hbC.below hb12.size fun k e => Nat.le_of_eq e.symm)
  have hcr : CRel w w.heap.size (OO most (.slice a2 n2 k2) M sent) a2 n2 k2 L w3 0 := by
    refine ⟨q3, hb13, ?_⟩
    rcases own_row ho2 with h0 | ⟨RB, cur, e, hge, hh, hcs⟩
    · exact .inl h0
    · refine .inr ⟨RB, cur, e, by omega, by omega, (hbC.block _ (heap_lt hh) (by omega)).trans hh, hcs, fun j hj => absurd hj (Nat.not_lt_zero _)⟩
  have HCR := Lib.hid hcr
  have HW3 := Lib.hid hw3
  have HNK : Hid (n2 ≤ k2 ∧ k2 ≤ maxLen ∧ (a2 = none → k2 = 0)) := ⟨by rw [← HN.out.2.2]; exact hc2, hm2, fun e => (hna2 e).1⟩
  have z1 : w3.cell? ⟨G, 1, none⟩ = some (.slice a n2 c) := (oo_cells (HS.out _ hb13)).2.1
  clear hn2 hA2 hp2 hna2 hc2 hm2 q1 q2 q3 hbC hs1 hb12 hb13 hcr ho2 hb2 b1 c0 c1 c2 c3
  refine Lib.hid ?_
  rw [hw3] at z1
  clear hw3
  go_wp2_with fail
  rw [← HW3.out]
  obtain ⟨w4, hw4⟩ : ∃ w4, w4 = w3 := ⟨_, rfl⟩
  rw [← hw4] at HCR ⊢
  clear hw4 HW3 z1 x2 y2
  go_loopg [22] n2 (fun kx s22 wr => ∃ i : Nat, s22 = .int .i64 i ∧ i ≤ n2 ∧ n2 - i ≤ kx ∧ Aside (CRel w w.heap.size (OO most (.slice a2 n2 k2) M sent) a2 n2 k2 L wr i))
  case atStart => exact ⟨0, by go_num, Nat.zero_le _, Nat.le_refl _, HCR.out⟩
  case round =>
    obtain ⟨i, rfl, hin, hkx, A⟩ := hrel
    clear HCR
    by_cases hlt : i < n2
    · have hlz : decide (i < n2) = true := by simpa using hlt
      have hlz2 : decide ((i : Int) < (n2 : Int)) = true := by simp; omega
      obtain ⟨RB, rfl, hRB, hop⟩ := A.out.open_ hlt HNK.out.1
      have HOP := Lib.hid hop
      obtain ⟨B1, o1, rfl, hB1, s, hs, hc1⟩ := (HSA.out _ A.out.below).cell (i := i) (by rw [HN.out.2.2]; exact hlt)
      have p0 : wr.cell? ⟨B1, o1 + i, none⟩ = some (SlV s) := by have := hc1 0 (by decide); rw [show CS.k = 1 from rfl, Nat.mul_one] at this; exact this
      have hLt : ∃ t, L[i]? = some t := ⟨_, List.getElem?_eq_getElem (by rw [← HN.out.1]; exact hlt)⟩
      obtain ⟨t, ht⟩ := hLt
      obtain ⟨X, o, ct, hsv, hct, hcm, -, hAt⟩ := HX.out.2.1 i s t hs ht
      have ht0 : t ≠ [] := HX.out.1 t (List.mem_of_getElem? ht)
      rw [hsv] at p0
      obtain ⟨tl, htl⟩ : ∃ tl, tl = t.length := ⟨_, rfl⟩
      rw [← htl] at p0
      have HT := Lib.hid (And.intro ht (And.intro (hAt.below A.out.below) (And.intro ht0 htl)))
      have hb : i < 100000 := by have := HI.out; have := HN.out.1; omega
      have HBD : Hid (Below wr.heap.size wr wr.drew) := (Below.refl _ _).drew
      have hcb : ∀ W, Below wr.heap.size wr W → W.heap[w.heap.size]? = some (OO most (.slice (some ⟨RB, 0, none⟩) n2 k2) M sent) := fun W hW => (hW.block _ (heap_lt A.out.box)).trans A.out.box
      have HCB := Lib.hid hcb
      have v1 := (oo_cells (hcb _ HBD.out)).2.1
      clear hs hc1 hB1 hop ht hAt ht0 htl hsv hct hcm hcb
      go_wp2_with fail
      go_region_law (go_simp; go_at_call 26; refine (clone_n ⟨X, o, none⟩ ct tl t HT.out.2.2.2 (HT.out.2.1.below HBD.out) (List.length_pos_iff.2 HT.out.2.2.1)).mono ?_; rintro e w5 ⟨v5, rfl, ho5, hb5⟩; obtain ⟨g5, k5, rfl, hg5, hgl5, hk5, hkm5, hA5⟩ := own_text ho5 HT.out.2.2.1 HT.out.2.1.2.1; have hbw := HBD.out.trans (hb5.mono HBD.out.size); have v2 := (oo_cells (HCB.out _ hbw)).2.1; obtain ⟨⟨vx, v3⟩, v4⟩ := HOP.out _ hbw; have H5 := Lib.hid (A.out.step (L := L) hbw HNK.out.1 hlt rfl HT.out.1 (Nat.le_trans HBD.out.size hg5) hgl5 hk5 hkm5 hA5); clear ho5 hb5 hg5 hgl5 hk5 hkm5 hA5 hbw; dsimp only)
      all_goals
        clear v1 v2 v3 v4 p0 HCB HOP
        go_wp2
        go_roundg (n2 - (i + 1))
        case measure => omega
        case rel => exact ⟨i + 1, by go_num, by omega, Nat.le_refl _, H5.out⟩
    · have hlz : decide (i < n2) = false := by simpa using hlt
      have hlz2 : decide ((i : Int) < (n2 : Int)) = false := by simp; omega
      obtain rfl : i = n2 := by omega
      go_wp2
      go_ret
      have hA := A.out
      refine ⟨w.heap.size, fun b => w.heap.size ≤ b ∧ b < wr.heap.size, rfl, ?_, fun b e => e.1, hA.below⟩
      have hsz := heap_lt hA.box
      have hbox := hA.box
      rw [HN.out.1, HN.out.2.1] at hbox
      rcases hA.row with ⟨rfl, rfl⟩ | ⟨RB, cur, rfl, q1, q2, q3, q4, q5⟩
      · have hL : L = [] := List.length_eq_zero_iff.1 (by have := HN.out.1; have := HNK.out.1; omega)
        exact ⟨fun _ => False, none, 0, hbox, ⟨Nat.le_refl _, hsz⟩, fun e => e, fun _ e => e.elim, fun b e => e.2, .inl ⟨rfl, rfl, hL⟩, HI.out.1, HI.out.2.1, HI.out.2.2.1, HI.out.2.2.2.1, HI.out.2.2.2.2.1, HI.out.2.2.2.2.2⟩
      · have hrl := heap_lt q3
        refine ⟨fun b => w.heap.size ≤ b ∧ b < wr.heap.size ∧ b ≠ w.heap.size ∧ b ≠ RB, some ⟨RB, 0, none⟩, k2, hbox, ⟨Nat.le_refl _, hsz⟩, fun e => e.2.2.1 rfl, fun b e => ⟨e.1, e.2.1⟩, fun b e => e.2, .inr ⟨RB, 0, cur, rfl, ⟨⟨q1, hrl⟩, q2⟩, fun e => e.2.2.2 rfl, q3, by omega, by have := HNK.out.1; have := HN.out.1; show L.length ≤ _; omega, HNK.out.2.1, fun j hj => ?_⟩, HI.out.1, HI.out.2.1, HI.out.2.2.1, HI.out.2.2.2.1, HI.out.2.2.2.2.1, HI.out.2.2.2.2.2⟩
        obtain ⟨v, k1, k2⟩ := q5 j (by have := HN.out.1; have : j < L.length := hj; omega) L[j] (List.getElem?_eq_getElem hj)
        exact ⟨v, by rw [Nat.zero_add]; exact k1, k2⟩
end Go.Proofs.Ytfchfhkhflghbaa
