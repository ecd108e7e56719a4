/-
  The walks of do's sixth kind, of the seventh, of same.
-/
import Derived.Test.YtgfoagpmkbdciaaHDo
namespace Go.Proofs.Ytgfoagpmkbdciaa
open Go Go.Shelf Go.RowKit Go.Lib Go.Sort Go.Proofs HpM

theorem of_ge {L : List It} {n : Nm} {r : Int} (h : OfIs L n r) : decide (r ≥ 0) = decide (∃ y ∈ L, nm y = n) := by
  rcases h with ⟨i, x, hx, e, _, rfl⟩ | ⟨h1, rfl⟩
  · rw [decide_eq_true (show ((i : Nat) : Int) ≥ 0 by omega), decide_eq_true ⟨x, List.mem_of_getElem? hx, e⟩]
  · rw [decide_eq_false (by omega), decide_eq_false]
    rintro ⟨y, hy, e⟩
    obtain ⟨j, hj, ej⟩ := List.getElem_of_mem hy
    exact h1 j y (by rw [List.getElem?_eq_getElem hj, ej]) e
theorem of_one {L : List It} {n : Nm} {r r' : Int} (h : OfIs L n r) (h' : OfIs L n r') : r = r' := by
  rcases h with ⟨i, x, hx, e, hf, rfl⟩ | ⟨h1, rfl⟩ <;> rcases h' with ⟨i', x', hx', e', hf', rfl⟩ | ⟨h1', rfl⟩
  · rcases Nat.lt_trichotomy i i' with hlt | rfl | hlt
    · exact absurd e (hf' i x hlt hx)
    · rfl
    · exact absurd e' (hf i' x' hlt hx')
  · exact absurd e (h1' i x hx)
  · exact absurd e' (h1 i' x' hx')
  · rfl
theorem of_ex (L : List It) (n : Nm) : ∃ r, OfIs L n r := by
  by_cases hex : ∃ y ∈ L, nm y = n
  · obtain ⟨k, z, hz, hzn, hzf⟩ := first_of L n hex
    exact ⟨k, .inl ⟨k, z, hz, hzn, hzf, rfl⟩⟩
  · exact ⟨-1, .inr ⟨fun j y hy e => hex ⟨y, List.mem_of_getElem? hy, e⟩, rfl⟩⟩
theorem has_g {w : World} {G : Nat} {F : Nat → Prop} {L : List It} (h : Hp w G F L) {a b : Int} {t : Bool} (ht : t = decide (∃ x ∈ L, nm x = (a, b))) (n : Nat) (os : Array Obj) :
    Calls Try.prog 28 #[.pointer (some ⟨G, 0, none⟩), .int .i64 a, .int .i64 b] (grow (w.drewN n) os) fun e w'' => e = .returned (.bool t) ∧ ∃ p : GrownBy, w'' = grow (w.drewN p.n) p.os := by
  subst ht
  exact Calls.grown_of ((hp_has (h.below (Gw.below ⟨n, os, rfl⟩)) a b).mono fun _ _ ⟨he, hw⟩ => ⟨he, 0, #[], by rw [grow_empty, ← hw]; rfl⟩)
theorem of_g {w : World} {R : Nat} {S : Nat → Prop} {L : List It} (h : RfS w R S L) (hl : L.length ≤ 1000000) {a b r : Int} (hr : OfIs L (a, b) r) (n : Nat) (os : Array Obj) :
    Calls Try.prog 29 #[.pointer (some ⟨R, 0, none⟩), .int .i64 a, .int .i64 b] (grow (w.drewN n) os) fun e w'' => e = .returned (.int .i64 r) ∧ ∃ p : GrownBy, w'' = grow (w.drewN p.n) p.os :=
  Calls.grown_of ((of_any _ R S L a b (h.below (Gw.below ⟨n, os, rfl⟩)) hl).mono fun _ _ ⟨r', he, hr', hw⟩ => ⟨by rw [he, of_one hr' hr], 0, #[], by rw [grow_empty, ← hw]; rfl⟩)
set_option maxHeartbeats 1000000 in
set_option maxRecDepth 100000 in
theorem do5 (T : Nat → Prop) (w W : World) (G R : Nat) (L : List It) (h : TwoT T w W G R L L []) (hl : L.length ≤ 1000) (x : It) (n : Int) : Calls Try.prog 9 #[.pointer (some ⟨G, 0, none⟩), .pointer (some ⟨R, 0, none⟩), ActV 5 x n] W (OneTo (.bool true) T w G R L) := by
  have mixed : Try.prog.follows .mixedOrders = true := by kernel_rfl
  have h1 := h.box (ActO 5 x n)
  have hbx : Hid ((W.alloc (ActO 5 x n)).heap[W.heap.size]? = some (ActO 5 x n)) := heap_alloc_new _ _
  obtain ⟨t, ht⟩ : ∃ t, t = decide (∃ y ∈ L, nm y = (x.1.1.2.1, x.2)) := ⟨_, rfl⟩
  obtain ⟨r, hr⟩ := of_ex L (x.1.1.2.1, x.2)
  have hge : decide (r ≥ 0) = t := (of_ge hr).trans ht.symm
  have HT := Lib.hid ht
  have HO := Lib.hid hr
  obtain ⟨F, hF⟩ := h1.hp
  obtain ⟨S, hS⟩ := h1.rs
  have HF := Lib.hid hF
  have HS := Lib.hid hS
  have H1 := Lib.hid h1
  have HL : Hid (L.length ≤ 1000000) := by show _ ≤ _; omega
  clear h hl h1 ht hr hF hS
  go_enter Try.func9, Try.ntmps9
  go_wp2_with fail
  have hbox := fun nq os => act_here (((gwOf (W.alloc (ActO 5 x n)) nq os).block (Array.getElem?_eq_some_iff.1 hbx.out).1).trans hbx.out)
  have a2 := fun nq os => (hbox nq os).2.2.1
  have a7 := fun nq os => (hbox nq os).2.2.2.2.2.2.2.1
  clear hbox
  refine wp_region_gw (by kernel_rfl) (by kernel_rfl) ?_
  iterate 23 (refine WQ.step (fun K hK => ?_); go_simp; first | (refine hK _ ?_; clear hK K) | (apply Exists.intro; refine ⟨fun _ => ?_, hK _ ?_⟩; (first | (go_at_call 28; exact has_g HF.out HT.out _ _) | (go_at_call 29; exact of_g HS.out HL.out HO.out _ _)); clear hK K))
  refine WQ.nil ?_
  intro _ hw'
  obtain ⟨⟨nq, osq⟩, hw''⟩ := hw'
  subst hw''
  have H5 := Lib.hid (H1.out.below (gwOf (W.alloc (ActO 5 x n)) nq osq).below)
  clear a2 a7
  generalize grow ((W.alloc (ActO 5 x n)).drewN nq) osq = w5 at H5 ⊢
  go_wp2
  go_ret
  exact ⟨L, Nat.le_succ _, rfl, H5.out.less⟩
theorem hp_list {w : World} {G : Nat} {F : Nat → Prop} {L : List It} (h : Hp w G F L) (hl : L.length ≤ 10000) (m : Int) : Calls Try.prog 30 #[.pointer (some ⟨G, 0, none⟩), .int .i64 m] w (ListTo L m w) := by
  obtain ⟨d, f, h, r⟩ := h
  exact list_any w G F d f L m h r (by rw [r.size]; exact hl)
theorem upTo_cut {L : List It} {q : Nat} (h1 : 0 < q) (h2 : q < L.length) : upTo L (q : Int) = L.take q := by
  unfold upTo
  rw [if_pos ⟨by omega, by omega⟩]
  simp
theorem upTo_all {L : List It} {n : Int} (h : n ≤ 0 ∨ (L.length : Int) ≤ n) : upTo L n = L := by
  unfold upTo
  split
  · next h2 =>
    rw [List.take_of_length_le (by omega)]
  · rfl
theorem ItAt.front {w : World} {a : Option Addr} {n : Nat} {l : List It} (h : ItAt w a n l) (q : Nat) (hq : q ≤ n) : ItAt w a q (l.take q) := by
  obtain ⟨g1, g2, g3⟩ := h
  refine ⟨by simp; omega, by omega, ?_⟩
  rcases g3 with g3 | ⟨B', off', e', hB, hc⟩
  · left; omega
  · refine .inr ⟨B', off', e', hB, fun i hi => ?_⟩
    have hl : i < l.length := by simp at hi; omega
    have := hc i hl
    rwa [List.getElem_take]
theorem RfS.rfg {W : World} {R : Nat} {S : Nat → Prop} {L : List It} (h : RfS W R S L) (hl : L.length ≤ 1000000) (h0 : 0 < L.length) : ∃ g n c, W.cell? ⟨R, 0, none⟩ = some (.slice (some ⟨g, 0, none⟩) n c) ∧ n = L.length ∧ n ≤ c ∧ ItAt W (some ⟨g, 0, none⟩) n L := by
  obtain ⟨a, n, c, hR, hn, hc, hA, ⟨_, e, _⟩ | ⟨g, rfl, _⟩⟩ := h.open hl
  · rw [e] at h0
    exact absurd h0 (Nat.lt_irrefl _)
  · exact ⟨g, n, c, by rw [cell_of_row _ _ _ _ _ _ hR]; rfl, hn, hc, hA⟩
set_option maxHeartbeats 2000000 in
set_option maxRecDepth 100000 in
theorem do6 (T : Nat → Prop) (w W : World) (G R : Nat) (L : List It) (h : TwoT T w W G R L L []) (hl : L.length ≤ 1000) (x : It) (n : Int) : Calls Try.prog 9 #[.pointer (some ⟨G, 0, none⟩), .pointer (some ⟨R, 0, none⟩), ActV 6 x n] W (OneTo (.bool true) T w G R L) := by
  have h1 := h.box (ActO 6 x n)
  obtain ⟨a0, a1, a2, a3, a4, a5, a6, a7, a8⟩ := act_here (h1.get (List.Mem.head _))
  have H1 := Lib.hid h1
  obtain ⟨F, hF⟩ := h1.hp
  have HF := Lib.hid hF
  have HL := Lib.hid hl
  have HL2 : Hid (L.length ≤ 10000) := by show _ ≤ _; omega
  clear h hl h1 hF
  by_cases hcut : 0 < n ∧ n < (L.length : Int)
  · obtain ⟨q, rfl⟩ : ∃ q : Nat, n = q := ⟨n.toNat, by omega⟩
    have hq0 : 0 < q := by omega
    have hq0d : decide (0 < q) = true := by simpa using hq0
    have hqz : (0 : Int) ≤ (q : Int) := by omega
    have hu := upTo_cut (L := L) (q := q) (by omega) (by omega)
    have HU := Lib.hid (And.intro hu hcut)
    clear hu hcut
    go_enter Try.func9, Try.ntmps9
    go_wp2_with (first
      | (go_at_call 14; refine (rsame_any w3 a1 (some ⟨g, 0, none⟩) q q c1 c (L.take q) (L.take q) (HA.out.1) (HA.out.2)).mono ?_; rintro e w4 ⟨rfl, h4⟩; rw [decide_eq_true rfl]; have H4 := Lib.hid h4; clear h4)
      | (go_at_call 30; refine (hp_list HF.out HL2.out _).mono ?_; rintro e w3 ⟨v, rfl, hv, hb⟩; have h3 := H1.out.below hb; rw [HU.out.1] at hv; obtain ⟨a1, c1, hv1, -, hA1, -, -⟩ := hv.at' (by rw [List.length_take]; have := HL.out; omega); have hlq : (L.take q).length = q := (by rw [List.length_take]; have := HU.out.2; omega); rw [hlq] at hv1 hA1; subst hv1; obtain ⟨S, hS⟩ := h3.rs; obtain ⟨g, m, c, r0, hm, hmc, hA2⟩ := hS.rfg (by have := HL.out; omega) (by have := HU.out.2; omega); have hqm : q ≤ m := (by rw [hm]; have := HU.out.2; omega); have hqm1 : q < m := (by rw [hm]; have := HU.out.2; omega); have hqm2 : decide (q < m) = true := (by simpa using hqm1); have hqc : (q : Int) ≤ (c : Int) := (by omega); have hqc2 : q ≤ c := (by omega); have HA := Lib.hid (And.intro hA1 (hA2.front q hqm)); have H3 := Lib.hid h3; obtain ⟨b0, b1, b2, b3, b4, b5, b6, b7, b8⟩ := act_here (k := 6) (x := x) (n := (q : Int)) (h3.get (b := W.heap.size) (List.Mem.head _)); clear h3 hS hv hb hA1 hA2 hm hlq))
    go_ret
    exact ⟨L, Nat.le_succ _, rfl, (H3.out.below H4.out.below).less⟩
  · have hu := upTo_all (L := L) (n := n) (by omega)
    have HU := Lib.hid hu
    have HC := Lib.hid hcut
    clear hu hcut
    by_cases hn0 : n > 0
    · have hq0 : decide (n > 0) = true := by simpa using hn0
      have HN := Lib.hid hn0
      clear hn0
      go_enter Try.func9, Try.ntmps9
      go_wp2_with (first
        | (go_at_call 14; refine (rsame_any w3 a1 a m m c1 c L L (HA.out.1) (HA.out.2)).mono ?_; rintro e w4 ⟨rfl, h4⟩; rw [decide_eq_true rfl]; have H4 := Lib.hid h4; clear h4)
        | (go_at_call 30; refine (hp_list HF.out HL2.out _).mono ?_; rintro e w3 ⟨v, rfl, hv, hb⟩; have h3 := H1.out.below hb; rw [HU.out] at hv; obtain ⟨a1, c1, hv1, -, hA1, -, -⟩ := hv.at' (by have := HL.out; omega); subst hv1; obtain ⟨S, hS⟩ := h3.rs; obtain ⟨a, m, c, r0, hm, hmc, hA2⟩ := hS.rf (by have := HL.out; omega); rw [← hm] at hA1 ⊢; have hqm2 : decide (n < (m : Int)) = false := (by simp; rw [hm]; have := HC.out; have := HN.out; omega); have HA := Lib.hid (And.intro hA1 hA2); have H3 := Lib.hid h3; obtain ⟨b0, b1, b2, b3, b4, b5, b6, b7, b8⟩ := act_here (k := 6) (x := x) (n := n) (h3.get (b := W.heap.size) (List.Mem.head _)); clear h3 hS hv hb hA1 hA2 hm))
      go_ret
      exact ⟨L, Nat.le_succ _, rfl, (H3.out.below H4.out.below).less⟩
    · have hq0 : decide (n > 0) = false := by simpa using hn0
      clear hn0
      go_enter Try.func9, Try.ntmps9
      go_wp2_with (first
        | (go_at_call 14; refine (rsame_any w3 a1 a m m c1 c L L (HA.out.1) (HA.out.2)).mono ?_; rintro e w4 ⟨rfl, h4⟩; rw [decide_eq_true rfl]; have H4 := Lib.hid h4; clear h4)
        | (go_at_call 30; refine (hp_list HF.out HL2.out _).mono ?_; rintro e w3 ⟨v, rfl, hv, hb⟩; have h3 := H1.out.below hb; rw [HU.out] at hv; obtain ⟨a1, c1, hv1, -, hA1, -, -⟩ := hv.at' (by have := HL.out; omega); subst hv1; obtain ⟨S, hS⟩ := h3.rs; obtain ⟨a, m, c, r0, hm, hmc, hA2⟩ := hS.rf (by have := HL.out; omega); rw [← hm] at hA1 ⊢; have HA := Lib.hid (And.intro hA1 hA2); have H3 := Lib.hid h3; obtain ⟨b0, b1, b2, b3, b4, b5, b6, b7, b8⟩ := act_here (k := 6) (x := x) (n := n) (h3.get (b := W.heap.size) (List.Mem.head _)); clear h3 hS hv hb hA1 hA2 hm))
      go_ret
      exact ⟨L, Nat.le_succ _, rfl, (H3.out.below H4.out.below).less⟩
set_option maxRecDepth 100000 in
theorem do0 (T : Nat → Prop) (w W : World) (G R : Nat) (L : List It) (h : TwoT T w W G R L L []) (k : Int) (x : It) (n : Int) (h1 : k ≠ 1) (h2 : k ≠ 2) (h3 : k ≠ 3) (h4 : k ≠ 4) (h5 : k ≠ 5) (h6 : k ≠ 6) : Calls Try.prog 9 #[.pointer (some ⟨G, 0, none⟩), .pointer (some ⟨R, 0, none⟩), ActV k x n] W (OneTo (.bool true) T w G R L) := by
  have H1 : Hid (TwoT T w _ G R L L _) := h.box (ActO k x n)
  have d1 : (k == 1) = false := beq_eq_false_iff_ne.2 h1
  have d2 : (k == 2) = false := beq_eq_false_iff_ne.2 h2
  have d3 : (k == 3) = false := beq_eq_false_iff_ne.2 h3
  have d4 : (k == 4) = false := beq_eq_false_iff_ne.2 h4
  have d5 : (k == 5) = false := beq_eq_false_iff_ne.2 h5
  have d6 : (k == 6) = false := beq_eq_false_iff_ne.2 h6
  clear h h1 h2 h3 h4 h5 h6
  go_enter Try.func9, Try.ntmps9
  go_wp2
  go_ret
  exact ⟨L, Nat.le_succ _, rfl, H1.out.less⟩
/-- an act by both: they answer alike, and have alike -/
theorem do_any (hput : RPutNew) (T : Nat → Prop) (w W : World) (G R : Nat) (L : List It) (h : TwoT T w W G R L L []) (hl : L.length ≤ 1000) (k : Int) (x : It) (n : Int) : Calls Try.prog 9 #[.pointer (some ⟨G, 0, none⟩), .pointer (some ⟨R, 0, none⟩), ActV k x n] W (OneTo (.bool true) T w G R L) := by
  by_cases h1 : k = 1
  · exact h1 ▸ do1 hput T w W G R L h hl x n
  by_cases h2 : k = 2
  · exact h2 ▸ do2 T w W G R L h hl x n
  by_cases h3 : k = 3
  · exact h3 ▸ do3 T w W G R L h hl x n
  by_cases h4 : k = 4
  · exact h4 ▸ do4 T w W G R L h hl x n
  by_cases h5 : k = 5
  · exact h5 ▸ do5 T w W G R L h hl x n
  by_cases h6 : k = 6
  · exact h6 ▸ do6 T w W G R L h hl x n
  exact do0 T w W G R L h k x n h1 h2 h3 h4 h5 h6
/-- a bool is told, blocks are laid behind -/
def TellsBB (t : Bool) (w : World) (e : Ending) (w' : World) : Prop := e = .returned (.bool t) ∧ Below w.heap.size w w'
theorem len_g {G : Nat} {F : Nat → Prop} {L : List It} {w : World} (h : Hp w G F L) (m : Nat) (hm : m = L.length) (n : Nat) (os : Array Obj) :
    Calls Try.prog 24 #[.pointer (some ⟨G, 0, none⟩)] (grow (w.drewN n) os) fun e w'' => e = .returned (.int .i64 (m : Nat)) ∧ ∃ p : GrownBy, w'' = grow (w.drewN p.n) p.os := by
  subst hm
  exact Calls.grown_of ((hp_len (h.below (Gw.below ⟨n, os, rfl⟩))).mono fun _ _ ⟨he, hw⟩ => ⟨he, 0, #[], by rw [grow_empty, ← hw]; rfl⟩)
theorem rsame_g {w : World} {a b : Option Addr} {n m c e : Nat} {l r : List It} (hl : ItAt w a n l) (hr : ItAt w b m r) (t : Bool) (ht : t = decide (l = r)) (q : Nat) (os : Array Obj) :
    Calls Try.prog 14 #[.slice a n c, .slice b m e] (grow (w.drewN q) os) fun e w'' => e = .returned (.bool t) ∧ ∃ p : GrownBy, w'' = grow (w.drewN p.n) p.os := by
  subst ht
  exact Calls.grown_of ((rsame_any _ a b n m c e l r (hl.below (Gw.below ⟨q, os, rfl⟩)) (hr.below (Gw.below ⟨q, os, rfl⟩))).mono fun _ _ ⟨he, q2, os2, hw⟩ => ⟨he, q2, os2, hw⟩)
set_option maxHeartbeats 2000000 in
set_option maxRecDepth 100000 in
theorem same_any (w : World) (G R : Nat) (F S : Nat → Prop) (L : List It) (hF : Hp w G F L) (hS : RfS w R S L) (hl : L.length ≤ 1000) : Calls Try.prog 10 #[.pointer (some ⟨G, 0, none⟩), .pointer (some ⟨R, 0, none⟩)] w (TellsBB true w) := by
  have mixed : Try.prog.follows .mixedOrders = true := by kernel_rfl
  have HF := Lib.hid hF
  have HS := Lib.hid hS
  have HL := Lib.hid hl
  have HL2 : Hid (L.length ≤ 10000) := by show _ ≤ _; omega
  have HU : Hid (upTo L 0 = L) := upTo_all (.inl (Int.le_refl _))
  clear hF hS hl
  go_enter Try.func10, Try.ntmps10
  go_wp2_with (go_at_call 30; refine (hp_list HF.out HL2.out _).mono ?_; rintro e w3 ⟨v, rfl, hv, hb⟩; rw [HU.out] at hv; obtain ⟨a1, c1, hv1, -, hA1, -, -⟩ := hv.at' (by have := HL.out; omega); subst hv1; obtain ⟨a, m, c, r0, hm, hmc, hA2⟩ := (HS.out.below hb).rf (by have := HL.out; omega); rw [← hm] at hA1 ⊢; have HA := Lib.hid (And.intro hA1 (And.intro hA2 (And.intro hm (And.intro hb (HF.out.below hb))))); clear hv hb hA1 hA2 hm)
  have hrc := fun nq os => (show Gw w3 (grow (w3.drewN nq) os) from ⟨nq, os, rfl⟩).cell r0
  clear r0
  refine wp_region_gw (by kernel_rfl) (by kernel_rfl) ?_
  iterate 20 (refine WQ.step (fun K hK => ?_); go_simp; first | (refine hK _ ?_; clear hK K) | (apply Exists.intro; refine ⟨fun _ => ?_, hK _ ?_⟩; (first | (go_at_call 24; exact len_g HA.out.2.2.2.2 m HA.out.2.2.1 _ _) | (go_at_call 14; exact rsame_g HA.out.1 HA.out.2.1 true (decide_eq_true rfl).symm _ _)); clear hK K))
  refine WQ.nil ?_
  intro _ hw'
  obtain ⟨⟨nq, osq⟩, hw''⟩ := hw'
  subst hw''
  have H5 : Hid (Below w.heap.size w (grow (w3.drewN nq) osq)) := HA.out.2.2.2.1.trans ((Gw.below ⟨nq, osq, rfl⟩).mono HA.out.2.2.2.1.size)
  clear hrc
  generalize grow (w3.drewN nq) osq = w5 at H5 ⊢
  go_wp2
  go_ret
  exact ⟨rfl, H5.out⟩
end Go.Proofs.Ytgfoagpmkbdciaa
