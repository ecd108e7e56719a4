/-
  The walk of the law FrameTells.
-/
import Derived.Test.YthlmjadknklafaaDoorTells1
import Derived.Deep.Cut
import Derived.Deep.CutRange
namespace Go.Proofs.YthlmjadknklafaaDoor
open Go.RowKit CrcM FrM

set_option maxHeartbeats 400000 in
theorem tells_out (w : World) (a0 : Addr) (a c : Option Addr) (len cap n capc : Nat) (hG : Glo w a0) (h : 9000 < len ∨ 60 < n) :
    Calls Tryd.prog 3 #[.slice a len cap, .slice c n capc] w (TellsYes w) := by
  have HG := Lib.hid hG
  by_cases h1 : 9000 < len
  · have h1' : (9000 : Int) < (len : Int) := by omega
    clear hG h h1
    go_enter Tryd.func3, Tryd.ntmps3
    go_wp2_with (go_at_call 5; refine (known_any _ a0 HG.out).mono ?_; rintro e w1 ⟨rfl, hbel⟩; have HW := Lib.hid hbel; clear hbel)
    go_ret
    exact ⟨rfl, HW.out⟩
  · have h1' : ¬ (9000 : Int) < (len : Int) := by omega
    have h2' : (60 : Int) < (n : Int) := by omega
    clear hG h h1
    go_enter Tryd.func3, Tryd.ntmps3
    go_wp2_with (go_at_call 5; refine (known_any _ a0 HG.out).mono ?_; rintro e w1 ⟨rfl, hbel⟩; have HW := Lib.hid hbel; clear hbel)
    go_ret
    exact ⟨rfl, HW.out⟩

/-- what stands at the head of a round: of the first f bytes all is told -/
structure Rel (w wr : World) (gd lb f e k : Nat) (l : List Nat) (all : Value) (vs : List Value) (ps : List (List Nat)) : Prop where
  std : Std wr gd lb (l.take f) ps e k
  own : wr.ownsRow gd 22 1 all ps.length vs
  txt : Txts wr (fun b => gd < b ∧ b < wr.heap.size ∧ b ≠ lb ∧ some b ≠ all.ownBlock) vs ps
  lb0 : gd ≤ lb
  lb1 : lb < wr.heap.size
  lb2 : some lb ≠ all.ownBlock
  gd2 : some gd ≠ all.ownBlock
  bel : Below gd w wr

/-- the cuts -/
def Cuts (w : World) (c : Option Addr) (n : Nat) : Prop :=
  n = 0 ∨ ∃ C off, c = some ⟨C, off, none⟩ ∧ C < w.heap.size ∧ ∀ i, i < n → ∃ z : Int, w.cell? ⟨C, off + i, none⟩ = some (.int .i64 z) ∧ -9223372036854775808 ≤ z ∧ z ≤ 9223372036854775807

theorem take_cut (l : List Nat) (f tn : Nat) (h : f ≤ tn) : l.take f ++ (l.take tn).drop f = l.take tn := by
  have e : (l.take tn).take f = l.take f := by rw [List.take_take, Nat.min_eq_left h]
  rw [← e, List.take_append_drop]

/-- the chunk's bytes, whatever they are -/
def Any8 (w : World) (b off n : Nat) : Prop :=
  ∃ cur, w.heap[b]? = some (.cells cur 5 (0, 0)) ∧ off + n ≤ cur.size ∧ ∀ i, i < n → ∃ z : Int, 0 ≤ z ∧ z < 256 ∧ cur[off + i]? = some (.int .u8 z)
theorem Any8.get {w : World} {b off n : Nat} (h : Any8 w b off n) (i : Nat) (hi : i < n) : ∃ z : Int, 0 ≤ z ∧ z < 256 ∧ w.cell? ⟨b, off + i, none⟩ = some (.int .u8 z) ∧ w.frozen? ⟨b, off + i, none⟩ = false := by
  obtain ⟨cur, h1, _, h3⟩ := h
  obtain ⟨z, z0, z1, hz⟩ := h3 i hi
  exact ⟨z, z0, z1, by rw [cell_of_row _ _ _ _ _ _ h1]; exact hz, frozen_of_row _ _ _ _ _ h1⟩
theorem Any8.set {w : World} {b off n : Nat} (h : Any8 w b off n) (i : Nat) (z : Int) (z0 : 0 ≤ z) (z1 : z < 256) : Any8 (w.setCell ⟨b, off + i, none⟩ (.int .u8 z)) b off n := by
  obtain ⟨cur, h1, h2, h3⟩ := h
  refine ⟨_, heap_set h1 _, by simpa using h2, fun j hj => ?_⟩
  by_cases e : off + i = off + j
  · refine ⟨z, z0, z1, ?_⟩
    rw [e]
    have : off + j < cur.size := by omega
    simp [this]
  · obtain ⟨y, y0, y1, hy⟩ := h3 j hj
    exact ⟨y, y0, y1, by rw [Array.getElem?_setIfInBounds_ne e]; exact hy⟩
theorem Row8.any {w : World} {b : Nat} {a : Option Addr} {n cap : Nat} {l : List Nat} (h : Row8 w b (.slice a n cap) l) (hb : ∀ x ∈ l, x < 256) : n = 0 ∨ ∃ off, a = some ⟨b, off, none⟩ ∧ Any8 w b off n := by
  rcases h with ⟨e, _⟩ | ⟨off, c, cur, e, hh, h1, h2, h3, h4⟩
  · cases e; exact .inl rfl
  · cases e
    refine .inr ⟨off, rfl, cur, hh, by omega, fun i hi => ?_⟩
    exact ⟨_, Int.natCast_nonneg _, by have := hb _ (getD_mem l i hi); omega, h4 i hi⟩
theorem Any8.but {S : Nat → Prop} {w w' : World} {b off n : Nat} (h : Any8 w b off n) (hb : But S w w') (hs : ¬ S b) : Any8 w' b off n := by
  obtain ⟨cur, h1, h2⟩ := h
  exact ⟨cur, hb.heap h1 hs, h2⟩

theorem own_but {S : Nat → Prop} {w w' : World} {base : Nat} {e : TypeId} {size : Nat} {v : Value} {n : Nat} {xs : List Value} (h : w.ownsRow base e size v n xs) (hb : But S w w') (hs : ∀ b, v.ownBlock = some b → ¬ S b) : w'.ownsRow base e size v n xs := by
  refine ⟨h.1, ?_⟩
  rcases h.2 with hn | ⟨g, cap, cur, rfl, hb0, hgg, rest⟩
  · exact .inl hn
  · exact .inr ⟨g, cap, cur, rfl, hb0, hb.heap hgg (hs g rfl), rest⟩
/-- from round to round -/
theorem rel_next {w wc w2 w3 w4 w5 w6 w7 w9 : World} {gd lb lb' f tn e k e2 m : Nat} {l x : List Nat} {u6 v5 v7 : Value} {vs us : List Value} {ps qs : List (List Nat)}
    (HR : Rel w wc gd lb f e k l u6 vs ps) (h2 : Below wc.heap.size wc w2) (h3 : But (fun j => j = gd ∨ j = lb) w2 w3) (hlb : lb' = lb ∨ (w2.heap.size ≤ lb' ∧ lb' < w3.heap.size))
    (h4 : But (fun j => x ≠ [] ∧ j = wc.heap.size) w3 w4) (h5 : Below w4.heap.size w4 w5) (hstd : Std w6 gd lb' (l.take tn) (ps ++ qs) e2 m) (ht5 : Txts w6 (Own w5.heap.size w6.heap.size v5) us qs) (h6 : But (fun j => j = gd) w5 w6)
    (ho7 : w7.ownsRow gd 22 1 v7 (ps.length + qs.length) (vs ++ us)) (h7 : w6.grownBy w7 u6.ownBlock) (hv7 : v7.ownBlock = u6.ownBlock ∨ v7.ownBlock = some w6.heap.size) (h9 : Below w7.heap.size w7 w9) :
    Rel w w9 gd lb' tn e2 m l v7 (vs ++ us) (ps ++ qs) := by
  have s2 := h2.size
  have s3 := h3.size
  have s4 := h4.size
  have s5 := h5.size
  have s6 := h6.size
  have s7 := h7.size
  have s9 := h9.size
  have hgd : gd < wc.heap.size := HR.std.lt
  have hlb1 := HR.lb1
  have hlb0 := HR.lb0
  have hown := HR.own.lt
  have b7 := But.grown h7
  have nog : some gd ≠ u6.ownBlock := HR.gd2
  have nolb : some lb' ≠ u6.ownBlock := by
    rcases hlb with rfl | ⟨h, _⟩
    · exact HR.lb2
    · intro e; have := (hown lb' e.symm).2; omega
  have hlb' : gd ≤ lb' ∧ lb' < w5.heap.size := by
    rcases hlb with rfl | ⟨ha, hb⟩ <;> constructor <;> omega
  have new : ∀ b, b < w6.heap.size → some b ≠ u6.ownBlock → some b ≠ v7.ownBlock := by
    intro b hb hne e
    rcases hv7 with h | h
    · exact hne (e.trans h)
    · rw [h] at e; cases e; omega
  refine ⟨(hstd.but b7 nog nolb).below h9, ?_, ?_, hlb'.1, by omega, new lb' (by omega) nolb, new gd (by omega) nog, ?_⟩
  · rw [List.length_append]; exact own_below ho7 h9
  · refine Txts.append ?_ ?_
    · have t2 := HR.txt.but (But.of (S := fun _ => False) h2) (fun _ _ h => h)
      have t3 := t2.but h3 (fun b hb e => e.elim (fun e => by have := hb.1; omega) hb.2.2.1)
      have t4 := t3.but h4 (fun b hb e => by have := hb.2.1; have := e.2; omega)
      have t5 := t4.but (But.of (S := fun _ => False) h5) (fun _ _ h => h)
      have t6 := t5.but h6 (fun b hb e => by have := hb.1; omega)
      have t7 := t6.but b7 (fun b hb e => hb.2.2.2 e)
      have t9 := t7.but (But.of (S := fun _ => False) h9) (fun _ _ h => h)
      refine t9.mono (fun b hb => ⟨hb.1, by have := hb.2.1; omega, fun e => ?_, new b (by have := hb.2.1; omega) hb.2.2.2⟩)
      rcases hlb with rfl | ⟨h, _⟩
      · exact hb.2.2.1 e
      · have := hb.2.1; omega
    · have hne : ∀ b, Own w5.heap.size w6.heap.size v5 b → some b ≠ u6.ownBlock := fun b hb e => by have := (hown b e.symm).2; have := hb.1; omega
      have t7 := ht5.but b7 (fun b hb e => hne b hb e)
      have t9 := t7.but (But.of (S := fun _ => False) h9) (fun _ _ h => h)
      exact t9.mono (fun b hb => ⟨by have := hb.1; omega, by have := hb.2.1; omega, fun e => by have := hb.1; omega, new b hb.2.1 (hne b hb)⟩)
  · have c2 := HR.bel.trans (h2.mono (by omega))
    have c3 := c2.trans (h3.below gd (by omega) (fun j hj => by rcases hj with rfl | rfl <;> omega))
    have c4 := c3.trans (h4.below gd (by omega) (fun j hj => by have := hj.2; omega))
    have c5 := c4.trans (h5.mono (by omega))
    have c6 := c5.trans (h6.below gd (by omega) (fun j hj => by omega))
    have c7 := c6.grown h7 (by omega) (fun j hj => (hown j hj).1)
    exact c7.trans (h9.mono (by omega))

set_option maxRecDepth 100000 in
set_option maxHeartbeats 4000000 in
theorem tells_in (w : World) (a0 : Addr) (a c : Option Addr) (len cap n capc : Nat) (l : List Nat) (hG : Glo w a0) (h : Bts w a len l) (hcap : len ≤ cap) (hl : len ≤ 9000) (hc : Cuts w c n) (hn : n ≤ 60) :
    Calls Tryd.prog 3 #[.slice a len cap, .slice c n capc] w (TellsYes w) := by
  have HG := Lib.hid hG
  have HG2 := Lib.hid hG.lt
  have H := Lib.hid h
  have HL := Lib.hid h.1
  have HC := Lib.hid hc
  clear hG h hc
  go_enter Tryd.func3, Tryd.ntmps3
  go_wp2_with (go_at_call 6; refine (new_any _).mono ?_; rintro e w1 ⟨rfl, hd, hbel⟩; have HD1 := Lib.hid hd; have HW1 := Lib.hid hbel; clear hd hbel)
  go_loopw [6, 7, 8, 9, 10, 11, 12, 13, 14, 15, 16, 17] (fun all frm i tt chunk kk ww ee aa ll ff rr wr => ∃ (j f lb e k : Nat) (vs : List Value) (ps : List (List Nat)), i = .int .i64 (j : Int) ∧ frm = .int .i64 (f : Int) ∧ j ≤ n + 1 ∧ f ≤ len ∧ Rel w wr w.heap.size lb f e k l all vs ps) (fun _ _ i _ _ _ _ _ _ _ _ _ _ => n + 1 - (intOf i).toNat)
  case atStart => exact ⟨0, 0, w.heap.size, 0, 0, [], [], rfl, rfl, by omega, by omega, ⟨⟨⟨.none, .inl ⟨rfl, FrM.look_short (by simp)⟩⟩, .inl ⟨rfl, HD1.out⟩⟩, World.ownsRow_nil _ _ _ _, Txts.nil _ _, Nat.le_refl _, HD1.out.lt, by simp [Value.ownBlock], by simp [Value.ownBlock], HW1.out⟩⟩
  case round =>
    obtain ⟨j, f, lb, e, k, vs, ps, rfl, rfl, hj, hf, hrel⟩ := hrel
    have HR := Lib.hid hrel
    clear hrel
    by_cases hjn : j ≤ n
    · go_upto_if 39 with fail
      go_cut [9] from 28 to 112 (fun tt wx => ∃ tn : Nat, tt = .int .i64 (tn : Int) ∧ f ≤ tn ∧ tn ≤ len ∧ wx = wr)
      case first =>
        by_cases hlt : j < n
        · obtain ⟨C, coff, hcc, hC, hcells⟩ := HC.out.resolve_left (by omega)
          subst hcc
          obtain ⟨z, hz, hz0, hz1⟩ := hcells j hlt
          have hz' : wr.cell? ⟨C, coff + j, none⟩ = some (.int .i64 z) := (HR.out.bel.cell (p := ⟨C, coff + j, none⟩) hC).trans hz
          clear hcells hz
          go_wp2
          all_goals go_meet
          all_goals first
            | exact ⟨len, rfl, hf, Nat.le_refl _, rfl⟩
            | exact ⟨f, rfl, Nat.le_refl _, hf, rfl⟩
            | exact ⟨z.toNat, by rw [Int.toNat_of_nonneg (by omega)], by omega, by omega, rfl⟩
        · have hge : ¬ (j : Int) < (n : Int) := by omega
          go_wp2
          go_meet
          case rel => exact ⟨len, rfl, hf, Nat.le_refl _, rfl⟩
      case rest =>
        obtain ⟨tn, rfl, htn, htl, rfl⟩ := hcut
        have HX := Lib.hid (bts_lh (H.out.below HR.out.bel) f tn htn htl hcap)
        have HSL := Lib.hid (fun W : World => slice_lh W a len cap f tn htn (by omega))
        have HTC := Lib.hid (take_cut l f tn htn)
        generalize (if cap = f then a else Option.map (fun x => x.add f) a) = ax at HX HSL
        have HXB := Lib.hid HX.out.2.1
        generalize (l.take tn).drop f = x at HX HTC HXB
        have hgd : w.heap.size < wc.heap.size := HR.out.std.lt
        go_wp2_with (first
          | (refine wpList_slice_of rfl _ _ _ rfl (.slice a len cap) _ (some (.int .i64 (f : Int))) (some (.int .i64 (tn : Int))) rfl rfl rfl (HSL.out _) ?_)
          | (at_builtin; refine wpList_append_row8 rfl _ _ rfl wc.heap.size (.slice none 0 0) [] ax (tn - f) (cap - f) x rfl (.inl ⟨rfl, rfl⟩) rfl HX.out (by simp; omega) ?_; intro v2 w2 b2 hr2 hg2 hc2; rw [List.nil_append] at hr2; have hb2 : b2 = wc.heap.size := (by rcases hc2 with ⟨h, _⟩ | ⟨h, _⟩ <;> exact h); subst hb2; obtain ⟨a2, n2, cap2, hv2⟩ := hr2.slice; subst hv2; have HR2 := Lib.hid hr2; have HB2 : Hid (Below wc.heap.size wc w2) := (⟨hg2.os, hg2.tape, hg2.output, hg2.size, fun j hj => hg2.block j hj (by simp [Value.ownBlock])⟩); have HT2 := Lib.hid (hr2.bts2 HXB.out); clear hr2 hg2 hc2)
          | (go_at_call 7; refine (push_any _ w.heap.size lb e k (l.take f) x ps a2 n2 cap2 (HR.out.std.below HB2.out) HT2.out.2.1 (by rw [HT2.out.1, HX.out.1, List.length_take, HL.out]; omega)).mono ?_; rintro ev w3 ⟨rfl, lb2, hmid, hbut, hlb⟩; rw [HTC.out] at hmid; have HM3 := Lib.hid hmid; have HB3 := Lib.hid hbut; have HLB := Lib.hid hlb; clear hmid hbut hlb))
        have hlbc : lb < wc.heap.size := HR.out.lb1
        have HAN : Hid (n2 = 0 ∨ ∃ off, a2 = some ⟨wc.heap.size, off, none⟩ ∧ Any8 w3 wc.heap.size off n2) := by
          rcases HR2.out.any HXB.out with h | ⟨off, h, ha⟩
          · exact .inl h
          · exact .inr ⟨off, h, ha.but HB3.out (fun e => by rcases e with e | e <;> omega)⟩
        have hn2 : n2 ≤ 9000 := by rw [HT2.out.1, HX.out.1]; omega
        go_loopw [11] (fun q wi => ∃ i : Nat, q = .int .i64 (i : Int) ∧ i ≤ n2 ∧ (n2 = 0 ∨ ∃ off, a2 = some ⟨wc.heap.size, off, none⟩ ∧ Any8 wi wc.heap.size off n2) ∧ But (fun j => x ≠ [] ∧ j = wc.heap.size) w3 wi) (fun q _ => n2 - (intOf q).toNat)
        case atStart => exact ⟨0, rfl, by omega, HAN.out, But.refl _ _⟩
        case round =>
          obtain ⟨i, rfl, hi, han, hb4⟩ := hrel
          have HB4 := Lib.hid hb4
          clear hb4
          by_cases hil : i < n2
          · obtain ⟨off, ha2, hany⟩ := han.resolve_left (by omega)
            subst ha2
            obtain ⟨z, hz0, hz1, hzc, hzf⟩ := hany.get i hil
            have HAY := Lib.hid hany
            have HXN : Hid (x ≠ []) := by intro e; have := HT2.out.1; rw [e] at this; simp at this; omega
            clear hany han
            go_wp2
            go_roundw
            case rel =>
              refine ⟨i + 1, by go_num, by omega, .inr ⟨off, rfl, HAY.out.set i _ ?_ ?_⟩, HB4.out.setCell (S := fun j => x ≠ [] ∧ j = wc.heap.size) (p := ⟨wc.heap.size, off + i, none⟩) ⟨HXN.out, rfl⟩ _⟩
              · omega
              · omega
            case measure => simp [intOf]; omega
          · clear han
            have hil2 : ¬ (i : Int) < (n2 : Int) := by omega
            have s2 := HB2.out.size
            have s3 := HB3.out.size
            have s4 := HB4.out.size
            have HXL : Hid (x ≠ [] → wc.heap.size < w2.heap.size) := fun hx => HR2.out.lt1 hx
            have HM4 := Lib.hid (HM3.out.but HB4.out (fun e => by have := e.2; omega) (fun e => by have := HXL.out e.1; have := e.2; rcases HLB.out with h | h <;> omega))
            have HL4 : Hid (lb2 < wr.heap.size ∧ w.heap.size ≤ lb2) := by
              have := HR.out.lb0
              rcases HLB.out with h | h <;> constructor <;> omega
            have HW4 : Hid (Below w.heap.size w wr) := by
              have := HR.out.lb0
              exact ((HR.out.bel.trans (HB2.out.mono (by omega))).trans (HB3.out.below w.heap.size (by omega) (fun j hj => by omega))).trans (HB4.out.below w.heap.size (by omega) (fun j hj => by omega))
            have HB4T := Lib.hid ((H.out.below HW4.out).take tn htl)
            have HBS : Hid (∀ y, a = some y → 2 ≤ tn → y.block < w.heap.size) := by
              intro y e h2
              obtain ⟨_, _, _, h4 | ⟨B, off, e2, hB, _⟩⟩ := H.out
              · omega
              · rw [e] at e2; cases e2; exact hB
            have HU4 : Hid (wr.ownsRow w.heap.size 22 1 u6 ps.length vs) := by
              have u2 := own_below HR.out.own HB2.out
              have u3 := own_but u2 HB3.out (fun b hb e => e.elim (fun e => by rw [e] at hb; exact HR.out.gd2 hb.symm) (fun e => by rw [e] at hb; exact HR.out.lb2 hb.symm))
              exact own_but u3 HB4.out (fun b hb e => by have := (HR.out.own.lt b hb).2; have := e.2; omega)
            have HQL := Lib.hid (show (l.take tn).length = tn from by rw [List.length_take, HL.out]; omega)
            go_upto_if 90 with (first
              | (go_at_call 8; refine (told_any (fun b => b < w.heap.size) _ (fun b hb => by omega) a tn cap (l.take tn) HB4T.out HBS.out (by omega) (by omega)).mono ?_; rintro ev w5 ⟨v5, vs5, qs5, e5, m5, rfl, ht5, ho5, hx5, hb5⟩; have hm5 : m5 ≤ tn := (by have := ht5.1.le.1; rw [HQL.out] at this; exact this); have HT5 := Lib.hid ht5; have HO5 := Lib.hid ho5; have HX5 := Lib.hid hx5; have HB5 := Lib.hid hb5; clear ht5 ho5 hx5 hb5)
              | (go_at_call 9; refine (tell_any _ a0 w.heap.size lb2 e k (l.take tn) ps (HG.out.below (HW4.out.trans (HB5.out.mono HW4.out.size)) HG2.out) HG2.out (HM4.out.below HB5.out) (by rw [HQL.out]; omega) (by have := HL4.out.1; have := HB5.out.size; omega)).mono ?_; rintro ev w6 ⟨v6, us, qs, e6, m6, rfl, hs6, ho6, hx6, hb6⟩; obtain ⟨hq, he, hm⟩ := HT5.out.eq hs6.1; subst hq; subst he; subst hm; have HS6 := Lib.hid hs6; have HO6 := Lib.hid ho6; have HX6 := Lib.hid hx6; have HB6 := Lib.hid hb6; have HU6 := Lib.hid (own_but (own_below HU4.out HB5.out) hb6 (fun b hb e => by rw [e] at hb; exact HR.out.gd2 hb.symm)); clear hs6 ho6 hx6 hb6)
              | (at_builtin; have HX := HO6; refine wpList_append_rows rfl _ _ rfl w.heap.size w5.heap.size u6 v6 ps.length qs.length vs us rfl HU6.out rfl HO6.out HX6.out.oneCell (by have := HS6.out.1.1.le; rw [HQL.out, List.length_append] at this; omega) (by have := HB5.out.size; have := HB6.out.size; omega) ?_; intro v7 w7 ho7 hg7 hv7; have HO7 := Lib.hid ho7; have HG7 := Lib.hid hg7; have HV7 := Lib.hid hv7; clear ho7 hg7 hv7))
            have HREL := Lib.hid (rel_next HR.out HB2.out HB3.out HLB.out HB4.out HB5.out HS6.out HX6.out HB6.out HO7.out HG7.out HV7.out (Below.refl _ w7))
            have HX7 := Lib.hid ((HX5.out.but HB6.out (fun b hb e => by omega)).but (But.grown HG7.out) (fun b hb e => by have := (HR.out.own.lt b e.symm).1; omega))
            have HV5 := Lib.hid (own_but (own_but HO5.out HB6.out (fun b hb e => by have := (HO5.out.lt b hb).1; omega)) (But.grown HG7.out) (fun b hb e => by have := (HO5.out.lt b hb).1; have := (HR.out.own.lt b e.symm).2; omega))
            by_cases he : e5 = 0
            · have he0 : (((e5 : Nat) : Int) != 0) = false := by simp; omega
              have hrr : ((((tn - m5 : Nat) : Nat) : Int) != (tn : Int) - (m5 : Int)) = false := by simp; omega
              have HE := Lib.hid he
              clear he
              go_wp2_with (first
                | (go_at_call 10; refine (same_any _ w.heap.size wr.heap.size (ps ++ qs).length v7 v5 (vs ++ us) vs5 (ps ++ qs) _ _ rfl ?_ ?_ HV5.out HREL.out.txt HX7.out).mono ?_; (have := HS6.out.1.1.le; rw [HQL.out] at this; omega); (rw [List.length_append]; exact HO7.out); rintro ev w8 ⟨rfl, hb8⟩; have HB8 := Lib.hid hb8; clear hb8)
                | (go_at_call 11; refine (rest_std _ w.heap.size lb2 e5 m5 (l.take tn) (ps ++ qs) (HREL.out.std.below HB8.out)).mono ?_; rintro ev w8' ⟨rfl, rfl⟩; rw [if_pos HE.out, HQL.out])
                | (go_at_call 12; refine (wrong_std _ a0 w.heap.size lb2 e5 m5 (l.take tn) (ps ++ qs) ?_ (HREL.out.std.below HB8.out)).mono ?_; (exact HG.out.below (HREL.out.bel.trans (HB8.out.mono HREL.out.bel.size)) HG2.out); rintro ev w9 ⟨rfl, hb9⟩; have HB9 := Lib.hid hb9; clear hb9))
              go_roundw
              case rel =>
                exact ⟨j + 1, tn, lb2, e5, m5, vs ++ us, ps ++ qs, by go_num, rfl, by omega, htl, rel_next HR.out HB2.out HB3.out HLB.out HB4.out HB5.out HS6.out HX6.out HB6.out HO7.out HG7.out HV7.out (HB8.out.trans (HB9.out.mono HB8.out.size))⟩
              case measure => simp [intOf]; omega
            · have he0 : (((e5 : Nat) : Int) != 0) = true := by simp; omega
              have HE := Lib.hid he
              clear he
              go_wp2_with (first
                | (go_at_call 10; refine (same_any _ w.heap.size wr.heap.size (ps ++ qs).length v7 v5 (vs ++ us) vs5 (ps ++ qs) _ _ rfl ?_ ?_ HV5.out HREL.out.txt HX7.out).mono ?_; (have := HS6.out.1.1.le; rw [HQL.out] at this; omega); (rw [List.length_append]; exact HO7.out); rintro ev w8 ⟨rfl, hb8⟩; have HB8 := Lib.hid hb8; clear hb8)
                | (go_at_call 11; refine (rest_std _ w.heap.size lb2 e5 m5 (l.take tn) (ps ++ qs) (HREL.out.std.below HB8.out)).mono ?_; rintro ev w8' ⟨rfl, rfl⟩; rw [if_neg HE.out])
                | (go_at_call 12; refine (wrong_std _ a0 w.heap.size lb2 e5 m5 (l.take tn) (ps ++ qs) ?_ (HREL.out.std.below HB8.out)).mono ?_; (exact HG.out.below (HREL.out.bel.trans (HB8.out.mono HREL.out.bel.size)) HG2.out); rintro ev w9 ⟨rfl, hb9⟩; have HB9 := Lib.hid hb9; clear hb9))
              go_roundw
              case rel =>
                exact ⟨j + 1, tn, lb2, e5, m5, vs ++ us, ps ++ qs, by go_num, rfl, by omega, htl, rel_next HR.out HB2.out HB3.out HLB.out HB4.out HB5.out HS6.out HX6.out HB6.out HO7.out HG7.out HV7.out (HB8.out.trans (HB9.out.mono HB8.out.size))⟩
              case measure => simp [intOf]; omega
    · have hge : ¬ (j : Int) ≤ (n : Int) := by omega
      have HGN := Lib.hid (HG.out.below HR.out.bel HG2.out)
      go_wp2_with (go_at_call 5; refine (known_any _ a0 HGN.out).mono ?_; rintro ev w5 ⟨rfl, hbel5⟩; have HW5 := Lib.hid hbel5; clear hbel5)
      go_ret
      exact ⟨rfl, HR.out.bel.trans (HW5.out.mono HR.out.bel.size)⟩
end Go.Proofs.YthlmjadknklafaaDoor
