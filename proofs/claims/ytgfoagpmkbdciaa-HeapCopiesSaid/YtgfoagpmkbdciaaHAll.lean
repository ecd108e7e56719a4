/-
  The walks of slices.Clone, slices.SortFunc and All.
-/
import Derived.Test.YtgfoagpmkbdciaaHMost2
import Derived.Test.YtgfoagpmkbdciaaShelf
import Derived.Lib.SliceRun
namespace Go.Proofs.Ytgfoagpmkbdciaa
open Go Go.Shelf Go.RowKit Go.Lib Go.Sort Go.Proofs HpM

theorem ItOwn.at {B : Nat} {w : World} {v : Value} {l : List It} (h : ItOwn B w v l) (hl : l.length ≤ 1000000) : ∃ a c, v = .slice a l.length c ∧ l.length ≤ c ∧ ItAt w a l.length l ∧ (∀ b, v.ownBlock = some b → a = some ⟨b, 0, none⟩ ∧ B ≤ b) ∧ (a = none → v = .slice none 0 0) := by
  have h' := h
  obtain ⟨h1, ⟨rfl, hn⟩ | ⟨g, cap, cur, rfl, hg, hh, hc, _, hs, ht⟩⟩ := h
  · exact ⟨none, 0, by rw [hn], by omega, ⟨rfl, hl, .inl hn⟩, (fun b e => by cases e), fun _ => rfl⟩
  · obtain ⟨hr, -, -⟩ := rowC_of_own h'
    refine ⟨_, cap, rfl, hc, ⟨rfl, hl, .inr ⟨g, 0, rfl, (Array.getElem?_eq_some_iff.1 hh).1, fun i hi => ?_⟩⟩, (fun b e => by cases e; exact ⟨rfl, hg⟩), fun e => by cases e⟩
    have := hr.cell (i := i) (by simpa using hi)
    rw [getElem!_pos _ i (by simpa using hi)] at this
    rw [Nat.zero_add]
    simpa using this

/-- a slice is told that reads as l, in memory of its own -/
def CloneTo (a : Option Addr) (l : List It) (w : World) (e : Ending) (w' : World) : Prop := ∃ v, e = .returned v ∧ ItOwn w.heap.size w' v l ∧ Below w.heap.size w w' ∧ (a = none → v = .slice none 0 0 ∧ w = w') ∧ (a ≠ none → ∃ B c, v = .slice (some ⟨B, 0, none⟩) l.length c)
set_option maxHeartbeats 2000000 in
set_option maxRecDepth 100000 in
theorem clone_any (w : World) (a : Option Addr) (n c : Nat) (l : List It) (hl : ItAt w a n l) (hn3 : n ≤ 10000) : Calls Try.prog 31 #[.slice a n c] w (CloneTo a l w) := by
  have q22 : ∀ (w : World) (a : Option Addr) (n c n' c' : Nat), (binOp .eql 27 (.slice a n c) (.slice none n' c')).run Try.prog w = .ok (.bool a.isNone) w := fun w a n c n' c' => Lib.run_eql_slice_nil w _ _ a n c n' c' Try.underlying27
  have hn := hl.1
  have HL := Lib.hid hl
  have HN := Lib.hid hn
  clear hl hn
  cases a with
  | none =>
    have h0 : n = 0 := by
      obtain ⟨_, _, h | ⟨_, _, h, _⟩⟩ := HL.out
      · exact h
      · cases h
    have H0 := Lib.hid h0
    clear h0
    go_enter Try.func31, Try.ntmps31
    go_wp2
    go_ret
    refine ⟨_, rfl, ?_, Below.refl _ _, fun _ => ⟨rfl, rfl⟩, fun h => absurd rfl h⟩
    have : l = [] := List.eq_nil_of_length_eq_zero (by rw [HN.out, H0.out])
    rw [this]
    exact World.ownsRow_nil _ _ _ _
  | some ad =>
    go_enter Try.func31, Try.ntmps31
    go_wp2_with (at_builtin; refine wpList_append_it rfl _ _ rfl w.heap.size (.slice (some ⟨w.heap.size, 0, none⟩) 0 0) [] rfl (World.ownsRow_made w #[] 0 (Nat.le_refl _) (Nat.zero_le _) (by simp)) ad n c l rfl HN.out.symm ?qc1 (by simp; omega) (by simp) ?_)
    case qc1 => exact (HL.out.below ((Below.refl _ w).alloc (Nat.le_refl _) _)).news
    intro v' w1 hown hgrow hnew
    have HOWN := Lib.hid hown
    have HG := Lib.hid hgrow
    have HNEW := Lib.hid hnew
    clear hown hgrow hnew
    go_wp2
    go_ret
    refine ⟨v', rfl, HOWN.out, ?_, (fun h => by cases h), fun _ => ?_⟩
    · exact ((Below.refl _ w).alloc (Nat.le_refl _) _).grown HG.out (by simp) (by intro k hk; simp [Value.ownBlock] at hk; omega)
    · obtain ⟨_, ⟨e, _⟩ | ⟨B, cp, _, e, _⟩⟩ := HOWN.out
      · have := HNEW.out.2 e
        cases this
      · exact ⟨B, cp, e⟩

theorem cmpLays (blk off size : Nat) (w : World) : CmpLays Try.prog 40 #[] encI 7 iCmp blk off size w := fun _ _ _ _ x y => (icmp_any x y _).mono fun _ _ h => h
/-- a row of the call's own is sorted -/
def SortTo (B : Nat) (v : Value) (l : List It) (w : World) (e : Ending) (w' : World) : Prop := e = .returned (.tuple #[]) ∧ ∃ s, ItOwn B w' v s ∧ s.Perm l ∧ (s.Pairwise fun x y => iLt y x = false) ∧ Below B w w'
theorem sort_any (B : Nat) (w : World) (v : Value) (l : List It) (h : ItOwn B w v l) (hl : l.length ≤ 10000) : Calls Try.prog 42 #[v, .func (.func 40) #[] #[]] w (SortTo B v l w) := by
  have h' := h
  obtain ⟨h1, ⟨rfl, hn⟩ | ⟨g, cap, cur, rfl, hg, hh, hc, hm, hs, ht⟩⟩ := h
  · have := AnyF.slices_SortFunc_none Try.sortIt none 0 (.func (.func 40) #[] #[]) w
    change Calls Try.prog 42 _ _ _ at this
    refine this.mono ?_
    rintro e w' ⟨rfl, rfl⟩
    have hl0 : l = [] := List.eq_nil_of_length_eq_zero hn
    subst hl0
    exact ⟨rfl, [], h', List.Perm.refl _, List.Pairwise.nil, Below.refl _ _⟩
  · obtain ⟨hr, -, -⟩ := rowC_of_own h'
    have hO : SWO (ltOf iCmp) := by rw [ltOf_iCmp]; exact iLt_swo
    have := AnyQ.slices_SortFunc Try.sortIt 7 Try.isAgg36 Try.sizeOf36 encI encI_len encI_one iCmp hO 40 #[] g 0 cap l.toArray w (enters_of Try.func40 (by kernel_rfl) rfl) (cmpLays _ _ _ _) hr.holds hr.lt (by simp; omega)
    change Calls Try.prog 42 _ _ _ at this
    rw [show l.toArray.size = l.length by simp] at this
    refine this.mono ?_
    rintro e w' ⟨rfl, d', n, os, hp, hso, hw⟩
    have hS : SWK encI 7 w g 0 d' w' := ⟨n, os, hw⟩
    have hsz : d'.size = l.toArray.size := hp.1.trans (by simp)
    have hr' := hr.swk hsz hS
    have hown := hr'.own hg
    have hlen : d'.size = l.length := by rw [hsz]; simp
    refine ⟨rfl, d'.toList, ?_, ?_, ?_, ?_⟩
    · rw [hlen] at hown
      have e : d'.toList.length = l.length := by rw [Array.length_toList]; exact hlen
      unfold ItOwn
      rw [e]
      exact hown
    · have h3 := hp.2.2
      rwa [show d'.extract 0 l.length = d' from Array.extract_eq_self_of_le (by omega), show l.toArray.extract 0 l.length = l.toArray from Array.extract_eq_self_of_le (by simp), List.toList_toArray] at h3
    · rw [List.pairwise_iff_getElem]
      intro i j hi hj hij
      have := hso i j (Nat.zero_le _) hij (by simpa [hlen] using hj)
      rw [ltOf_iCmp] at this
      rw [get_list (by simpa using hj), get_list (by simpa using hi)]
      exact this
    · exact (swk_but hS).below (Nat.le_of_lt (Nat.lt_of_le_of_lt hg hr.lt)) fun k e => by omega

theorem ItOwn.but {S : Nat → Prop} {B : Nat} {w w' : World} {v : Value} {l : List It} (h : ItOwn B w v l) (hb : But S w w') (hs : ∀ b, v.ownBlock = some b → ¬ S b) : ItOwn B w' v l := by
  refine ⟨h.1, ?_⟩
  rcases h.2 with h2 | ⟨g, cap, cur, e, hg, hh, rest⟩
  · exact .inl h2
  · exact .inr ⟨g, cap, cur, e, hg, (hb.block g (Array.getElem?_eq_some_iff.1 hh).1 (hs g (by rw [e]; rfl))).trans hh, rest⟩
/-- what All tells: a closure over a slice that reads as the items in their order -/
def AllTo (L : List It) (w : World) (e : Ending) (w' : World) : Prop :=
  ∃ S0 a c, e = .returned (.func (.func 43) #[] #[.pointer (some ⟨S0, 0, none⟩)]) ∧ w'.heap[S0]? = some (.cells #[.slice a L.length c] 27 (0, 0)) ∧ ItAt w' a L.length L ∧ Below w.heap.size w w' ∧ w.heap.size ≤ S0
theorem HeapSt.items {w : World} {G : Nat} {F : Nat → Prop} {d : Array It} {f : Pl} (h : HeapSt w G F d f) (hb : d.size ≤ 10000) : ∃ a c, w.cell? ⟨G, 0, none⟩ = some (.slice a d.size c) ∧ ItAt w a d.size d.toList := by
  obtain ⟨_, _, ⟨rfl, rfl, e3⟩ | ⟨B, M, cap, _, _, hF⟩⟩ := h
  · exact ⟨none, 0, by rw [cell_of_row _ _ _ _ _ _ e3]; rfl, rfl, by simp, .inl rfl⟩
  · refine ⟨_, _, hF.c0, by simp, by omega, .inr ⟨B, 0, rfl, hF.row.lt, fun i hi => ?_⟩⟩
    have := hF.row.cell (i := i) (by simpa using hi)
    rw [Nat.zero_add, get_list (by simpa using hi)]
    exact this
set_option maxHeartbeats 1000000 in
theorem all_any (w : World) (G : Nat) (F : Nat → Prop) (d : Array It) (f : Pl) (L : List It) (h : HeapSt w G F d f) (hr : Rep f d L) (hb : d.size ≤ 10000) : Calls Try.prog 33 #[.pointer (some ⟨G, 0, none⟩)] w (AllTo L w) := by
  have hw : HeapSt (w.alloc (.cells #[.slice none 0 0] 27)) G F d f := h.below ((Below.refl _ _).alloc (Nat.le_refl _) _)
  obtain ⟨a, c, c0, hit⟩ := hw.items hb
  have hbz : (w.alloc (.cells #[.slice none 0 0] 27)).heap[w.heap.size]? = some (.cells #[.slice none 0 0] 27) := heap_alloc_new _ _
  have HBZ := Lib.hid hbz
  have hsz : (w.alloc (.cells #[.slice none 0 0] 27)).heap.size = w.heap.size + 1 := by simp
  have HSZ := Lib.hid hsz
  have HIT := Lib.hid hit
  have HR := Lib.hid hr
  clear h hw hbz hsz hit hr
  go_enter Try.func33, Try.ntmps33
  go_wp2_with (first
    | (go_at_call 31; refine (clone_any _ _ _ _ d.toList HIT.out hb).mono ?_; rintro e w1 ⟨v, rfl, ho, hb1, -, -⟩; have H1 := Lib.hid (And.intro ho hb1); have e1 : w1.heap[w.heap.size]? = some (.cells #[.slice none 0 0] 27) := (hb1.block _ (by have := HSZ.out; omega)).trans HBZ.out; obtain ⟨a1, c1, rfl, -, -, hbl, -⟩ := ho.at (by simp; omega); have HBL := Lib.hid hbl; have p0 : w1.cell? ⟨w.heap.size, 0, none⟩ = some (.slice none 0 0) := (by rw [cell_of_row _ _ _ _ _ _ e1]; rfl); have pf : w1.frozen? ⟨w.heap.size, 0, none⟩ = false := frozen_of_row _ _ _ _ _ e1; have HE1 := Lib.hid e1; clear ho hb1 hbl e1)
    | (go_at_call 42; refine Hid.out ?_))
  obtain ⟨w2, hw2⟩ : ∃ w2, w2 = w1.setCell ⟨w.heap.size, 0, none⟩ (.slice a1 d.size c1) := ⟨_, rfl⟩
  rw [← hw2]
  have hd : d.toList.length = d.size := by simp
  have hb2 : But (fun k => k = w.heap.size) w1 w2 := by rw [hw2]; exact (But.refl (fun k => k = w.heap.size) w1).setCell (p := ⟨w.heap.size, 0, none⟩) rfl _
  have e2 : w2.heap[w.heap.size]? = some (.cells #[.slice a1 d.size c1] 27 (0, 0)) := by
    rw [hw2, heap_setCell_same w1 w.heap.size 0 _ _ _ HE1.out]
    rfl
  have ho : ItOwn (w.heap.size + 1) w1 (.slice a1 d.size c1) d.toList := by
    have := H1.out.1
    rw [HSZ.out, hd] at this
    exact this
  have ho2 : ItOwn (w.heap.size + 1) w2 (.slice a1 d.size c1) d.toList := ho.but hb2 fun b e => by have := ho.lt b e; omega
  have HB2 := Lib.hid (And.intro hb2 (And.intro e2 ho2))
  have hso := sort_any (w.heap.size + 1) w2 _ d.toList ho2 (by omega)
  clear hw2 hb2 e2 ho ho2 p0 pf c0
  refine Lib.hid ?_
  refine hso.mono ?_
  rintro e w3 ⟨rfl, s, hs1, hs2, hs3, hs4⟩
  have HS := Lib.hid (And.intro hs1 (And.intro hs2 (And.intro hs3 hs4)))
  clear hso hs1 hs2 hs3 hs4
  go_wp2
  go_ret
  obtain ⟨hs1, hs2, hs3, hs4⟩ := HS.out
  have hL : s = L := HR.out.sorted hs2 hs3
  subst hL
  have hlen : s.length = d.size := HR.out.size.symm
  have e3 : w3.heap[w.heap.size]? = some (.cells #[.slice a1 s.length c1] 27 (0, 0)) := by
    rw [hlen]
    exact (hs4.block _ (Nat.lt_succ_self _)).trans HB2.out.2.1
  obtain ⟨a', c', hv, -, hat, -, -⟩ := hs1.at (by omega)
  injection hv with q1 q2 q3
  subst q1
  refine ⟨_, _, _, rfl, e3, hat, ?_, Nat.le_refl _⟩
  have b1 : Below w.heap.size w w1 := ((Below.refl w.heap.size w).alloc (Nat.le_refl _) _).trans (H1.out.2.mono (by have := HSZ.out; omega))
  have b2 : Below w.heap.size w1 w2 := HB2.out.1.below b1.size fun k e => by omega
  exact (b1.trans b2).trans (hs4.mono (by omega))
end Go.Proofs.Ytgfoagpmkbdciaa
