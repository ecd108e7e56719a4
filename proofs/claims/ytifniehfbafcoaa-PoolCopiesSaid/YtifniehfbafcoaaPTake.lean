/-
  The walks of remove and Take.
-/
import Derived.Test.YtifniehfbafcoaaPJoin
import Derived.Deep.RegionHeld3
namespace Go.Proofs.Ytifniehfbafcoaa
open Go Go.RowKit Go.Lib Go.Sort Go.Proofs

theorem join_any {w : World} {G : Nat} {F : Nat → Prop} {v : Value} {vs : List Sl} {bs : List (List Ms)} {m n : Nat} (h : PlX w G F v vs bs m n) (i : Int) (h1 : i ≤ 1000000) (hbl : bs.length ≤ 1000000) : Calls Try.prog 39 #[.pointer (some ⟨G, 0, none⟩), .int .i64 i] w (JoinTo G F bs m n w) := by
  by_cases hn : i < 0
  · exact join_neg h i hn
  · obtain ⟨q, rfl⟩ : ∃ q : Nat, i = q := ⟨i.toNat, by omega⟩
    rcases Nat.lt_or_ge (q + 1) bs.length with h2 | h2
    · have e1 := List.getElem?_eq_getElem (l := bs) (i := q) (by omega)
      have e2 := List.getElem?_eq_getElem h2
      by_cases h3 : (bs[q]'(by omega)).length + bs[q + 1].length ≤ 128
      · exact join_two h q _ _ e1 e2 h3 hbl
      · exact join_full h q _ _ e1 e2 (by omega) hbl
    · exact join_last h q h2 (by omega)
theorem ext_ext {F : Nat → Prop} {w w1 w2 : World} (h1 : w.heap.size ≤ w1.heap.size) (h2 : w1.heap.size ≤ w2.heap.size) : ∀ b, Ext (Ext F w w1) w1 w2 b → Ext F w w2 b := by
  rintro b ((e | e) | e)
  · exact .inl e
  · exact .inr ⟨e.1, Nat.lt_of_lt_of_le e.2 h2⟩
  · exact .inr ⟨Nat.le_trans h1 e.1, e.2⟩
theorem But.ext {F : Nat → Prop} {w w1 w2 : World} (h : But F w w1) (k : But (Ext F w w1) w1 w2) : But F w w2 := h.next k fun _ hb e => e.elim id fun e => absurd hb (Nat.not_lt.2 e.1)
theorem ext_lt {F : Nat → Prop} {w w2 : World} (h : ∀ b, F b → b < w.heap.size) (h2 : w.heap.size ≤ w2.heap.size) : ∀ b, Ext F w w2 b → b < w2.heap.size := fun b e => e.elim (fun e => Nat.lt_of_lt_of_le (h b e) h2) fun e => e.2
/-- the same messages, in other blocks: after something else -/
theorem Reb.on {w w1 w2 : World} {G : Nat} {F : Nat → Prop} {bs : List (List Ms)} {m n : Nat} (hF : ∀ b, F b → b < w.heap.size) (hb : But F w w1) (r : Reb G (Ext F w w1) bs m n w1 w2) : Reb G F bs m n w w2 := by
  obtain ⟨v', vs', bs', h1, h2, h3, h4⟩ := r
  exact ⟨v', vs', bs', h1.wide (ext_ext hb.size h4.size) (ext_lt hF (Nat.le_trans hb.size h4.size)), h2, h3, hb.ext h4⟩

/-- the i-th one is not there any more -/
def RemTo (G : Nat) (F : Nat → Prop) (bs : List (List Ms)) (m n i : Nat) (w : World) (e : Ending) (w' : World) : Prop :=
  e = .returned (.tuple #[]) ∧ ∃ v' vs' bs', PlX w' G (Ext F w w') v' vs' bs' m n ∧ bs'.flatten = bs.flatten.eraseIdx i ∧ bs'.length ≤ bs.length ∧ But F w w'
set_option maxHeartbeats 4000000 in
theorem remove_any {w : World} {G : Nat} {F : Nat → Prop} {v : Value} {vs : List Sl} {bs : List (List Ms)} {m n : Nat} (h : PlX w G F v vs bs m n) (i : Nat) (hi : i < bs.flatten.length) (mm : Nat) (hm : m = mm + 1) (hmb : m ≤ 1000000) (hb : bs.flatten.length ≤ 1000000) (hbl : bs.length ≤ 1000000) : Calls Try.prog 31 #[.pointer (some ⟨G, 0, none⟩), .int .i64 i] w (RemTo G F bs mm n i w) := by
  have mixed : Try.prog.follows .mixedOrders = true := by kernel_rfl
  have hpos : 0 < bs.length := Nat.pos_of_ne_zero fun e => by
    rw [List.eq_nil_of_length_eq_zero e] at hi
    simp at hi
  obtain ⟨g, c, rfl, -⟩ := h.row.some_ (by rw [h.len]; exact hpos)
  obtain ⟨k, hk⟩ : ∃ k, k = vs.length := ⟨_, rfl⟩
  have hl := h.len
  rw [← hk] at h
  have hwm : IntKind.i64.wrap ((m : Int) - 1) = (mm : Int) := by rw [IntKind.wrap_i64]; omega
  have H0 := Lib.hid h
  have HI := Lib.hid hi
  have HB := Lib.hid hb
  have HBL := Lib.hid hbl
  have HK : Hid (k = bs.length) := hk.trans hl
  clear h hi hb hbl hk hl hpos hmb hm
  go_enter Try.func31, Try.ntmps31
  go_wp2_with (go_at_call 32; refine (place_any H0.out i HI.out HB.out HBL.out).mono ?_; rintro e w1 ⟨b, r, rfl, hp, rfl⟩; refine Hid.out ?_)
  obtain ⟨l, y, hl, hr, hy⟩ := hp.get
  have hbb := (List.getElem?_eq_some_iff.1 hl).1
  have hrr := (List.getElem?_eq_some_iff.1 hr).1
  have h128 := H0.out.le l (List.mem_of_getElem? hl)
  obtain ⟨s, hs⟩ := H0.out.ex2 hbb
  have ho := H0.out.own b s l hs hl
  obtain ⟨B, sc, hsv, -, -⟩ := ho.some_ (by omega)
  have HSB : Hid ((slV s).ownBlock = some B) := by show _ = _; rw [hsv]; rfl
  have hcell := sl_cell H0.out.row hs
  obtain ⟨q, hq⟩ : ∃ q, q = l.length := ⟨_, rfl⟩
  rw [← hq] at hsv
  rw [hsv] at ho hcell
  obtain ⟨q2, hq2⟩ : ∃ q2, q2 = (l.eraseIdx r).length := ⟨_, rfl⟩
  obtain ⟨t, ht⟩ : ∃ t, t = r + 1 := ⟨_, rfl⟩
  rw [← hq] at hrr
  have HSV := Lib.hid hsv
  have c0 : w.drew.cell? ⟨G, 0, none⟩ = some (.slice (some ⟨g, 0, none⟩) k c) := H0.out.cells.1
  have c1 : w.drew.cell? ⟨g, b, none⟩ = some (.slice (some ⟨B, 0, none⟩) q sc) := hcell
  have HO : Hid (MsC.Own 36 0 w.drew (.slice (some ⟨B, 0, none⟩) q sc) l) := ho.but ((But.refl (fun _ => False) w).drew) (fun _ _ e => e)
  have HS := Lib.hid hs
  have HQ2 := Lib.hid hq2
  have HL := Lib.hid hl
  have HP := Lib.hid hp
  have HR : Hid (r < q ∧ t = r + 1 ∧ (l.eraseIdx r).length ≤ 128) := ⟨hrr, ht, by rw [List.length_eraseIdx]; split <;> omega⟩
  have hbk : b < k := by have := HK.out; omega
  have hbkz : (b : Int) < (k : Int) := by omega
  have hbb6 : b < 1000000 := by have := HBL.out; omega
  have hw1 : IntKind.i64.wrap ((r : Int) + 1) = (t : Int) := by rw [IntKind.wrap_i64]; omega
  have hw1b : IntKind.i64.wrap (t : Int) = (t : Int) := by rw [IntKind.wrap_i64]; omega
  have hv1 : (r : Int) + 1 = (t : Int) := by omega
  obtain ⟨z, hz⟩ : ∃ z : Int, z = (b : Int) - 1 := ⟨_, rfl⟩
  have hwz : IntKind.i64.wrap ((b : Int) - 1) = z := by rw [IntKind.wrap_i64]; omega
  have HZ : Hid (z ≤ 1000000) := by show _ ≤ _; omega
  clear hp hl hr hy hbb hrr h128 hs ho hsv hq hq2 ht hcell hz
  refine Lib.hid ?_
  go_wp2_with fail
  go_region_law (first
    | (go_simp; go_at_call 38; refine (del_any w.drew B q sc r t l HO.out HR.out.1 HR.out.2.1).mono ?_; rintro e0 w2 ⟨rfl, ho2, hb2⟩; rw [← HQ2.out] at ho2 ⊢; obtain ⟨s5, hs5, q0, q1, q2', hp6, hb6⟩ := H0.out.turned ((Below.refl w.heap.size w).drew) HS.out HR.out.2.2 (hb2.mono fun _ _ e => by rw [e]; exact HSB.out.symm) ho2 (fun _ e => .inl (HSB.out.trans e)); rw [HSV.out] at q1; have H6 := Lib.hid (And.intro hp6 hb6); clear ho2 hb2 hs5 hp6 hb6; dsimp only))
  all_goals
    obtain ⟨w3, hw3⟩ : ∃ w3, w3 = w2.setCell ⟨g, b, none⟩ (.slice (some ⟨B, 0, none⟩) q2 sc) := ⟨_, rfl⟩
    rw [← hw3] at H6 ⊢
    clear hw3 q0 q1 q2' c1 c0
    have HBL2 : Hid ((bs.set b (l.eraseIdx r)).length ≤ 1000000 ∧ (b : Int) ≤ 1000000) := ⟨by rw [List.length_set]; exact HBL.out, by omega⟩
    go_wp2_with (first
      | (go_at_call 39; refine (join_any H6.out.1 b HBL2.out.2 HBL2.out.1).mono ?_; rintro e w4 ⟨rfl, hr4⟩; obtain ⟨v4, vs4, bs4, hp4, hf4, hl4, hb4⟩ := hr4.on H0.out.lt H6.out.2; have H4 := Lib.hid (And.intro hp4 (And.intro hf4 (And.intro hl4 hb4))); clear hr4 hp4 hf4 hl4 hb4; refine Hid.out ?_))
    refine Lib.hid ?_
    go_wp2_with (first
      | (go_at_call 39; refine (join_any H4.out.1 z HZ.out (Nat.le_trans H4.out.2.2.1 HBL2.out.1)).mono ?_; rintro e w5 ⟨rfl, hr5⟩; obtain ⟨v5, vs5, bs5, hp5, hf5, hl5, hb5⟩ := hr5.on H0.out.lt H4.out.2.2.2; obtain ⟨-, d1, -, df⟩ := hp5.cells; have df1 := df 1; have H5 := Lib.hid (And.intro hp5 (And.intro hf5 (And.intro hl5 hb5))); clear hr5 hp5 hf5 hl5 hb5 df))
    go_end0
    have e6 := H5.out.1.set1 (m' := mm) (.int .i64 (mm : Nat)) rfl
    refine ⟨rfl, v5, vs5, bs5, e6.wide (fun b e => ?_) (fun b e => ?_), ?_, ?_, ?_⟩
    · refine e.imp id fun e => ⟨e.1, by simpa [World.setCell] using e.2⟩
    · refine e6.lt b (e.imp id fun e => ⟨e.1, by simpa [World.setCell] using e.2⟩)
    · rw [H5.out.2.1, H4.out.2.1, HP.out.erase HL.out]
    · have h1 := H5.out.2.2.1
      have h2 := H4.out.2.2.1
      rw [List.length_set] at h2
      exact Nat.le_trans h1 h2
    · exact H5.out.2.2.2.setCell (p := ⟨G, 1, none⟩) H0.out.fG _
end Go.Proofs.Ytifniehfbafcoaa
