/-
  maps.Equal; the program's Same.
-/
import Derived.Test.YtfonbompglddaaaWKeys
import Derived.BigQuiet
import Derived.Deep.RegionHeld3
namespace Go.Proofs.Ytfonbompglddaaa
open Go Go.Shelf Go.RowKit Go.Lib Go.Sort Go.Proofs

attribute [local go_sem] Oper.semAt_some

theorem up_nodup {L : List On} (h : L.Pairwise fun x y => x.1 < y.1) : L.Nodup := h.imp fun h e => by rw [e] at h; exact Nat.lt_irrefl _ h
theorem sub_back {L : List On} (hn : L.Nodup) : ∀ {M : List On}, (∀ x ∈ L, x ∈ M) → M.length ≤ L.length → ∀ y ∈ M, y ∈ L := by
  induction L with
  | nil => intro M _ hl y hy; cases M with
    | nil => cases hy
    | cons => simp at hl
  | cons a l ih =>
    intro M hs hl y hy
    obtain ⟨h1, h2⟩ := List.nodup_cons.1 hn
    have ha := hs a (List.mem_cons_self)
    have hlen := List.length_erase_of_mem ha
    by_cases e : y = a
    · exact e ▸ List.mem_cons_self
    · refine List.mem_cons_of_mem _ (ih h2 (M := M.erase a) (fun x hx => ?_) ?_ y ((List.mem_erase_of_ne e).2 hy))
      · exact (List.mem_erase_of_ne fun e2 : x = a => h1 (by rw [← e2]; exact hx)).2 (hs x (List.mem_cons_of_mem _ hx))
      · rw [hlen]; simp at hl; omega
theorem same_of {L M : List On} (hL : Wl L) (hM : Wl M) (hs : ∀ x ∈ L, x ∈ M) (hl : L.length = M.length) : L = M :=
  up_ext hL.up hM.up fun x => ⟨hs x, sub_back (up_nodup hL.up) hs (by omega) x⟩

/-- a map, or none, that tells L -/
def MapO (w : World) (m : Option Nat) (L : List On) : Prop := (m = none ∧ L = []) ∨ ∃ M, m = some M ∧ MapL w M L
theorem MapO.below {w w' : World} {m : Option Nat} {L : List On} (h : MapO w m L) (hb : Below w.heap.size w w') : MapO w' m L := by
  rcases h with h | ⟨M, e, hM⟩
  · exact .inl h
  · exact .inr ⟨M, e, hM.same (hb.block _ hM.lt)⟩
theorem MapO.look {w : World} {m : Option Nat} {L : List On} (h : MapO w m L) {i : Nat} (hi : i < 4294967296) :
    (Instr.lookup mT (.map m) (.int .u32 (i : Nat)) true).run Try.prog w = .ok (.tuple #[BkV ((lget L i).getD bZ), .bool (lget L i).isSome]) w := by
  rcases h with ⟨rfl, rfl⟩ | ⟨M, rfl, hM⟩
  · exact look_nil w hi
  · exact hM.look hi
theorem MapO.len {w : World} {m : Option Nat} {L : List On} (h : MapO w m L) : ∀ ty, (Builtin.len_ #[mT] ty #[.map m]).run Try.prog w = .ok (.int .i64 (L.length : Nat)) w := fun ty => by
  rcases h with ⟨rfl, rfl⟩ | ⟨M, rfl, hM⟩
  · exact Maps.len_nil hMT ty
  · exact hM.len ty


set_option maxRecDepth 100000 in
set_option maxHeartbeats 4000000 in
theorem equal_nil {w : World} {m2 : Option Nat} {M : List On} (h2 : MapO w m2 M) :
    Calls Try.prog 30 #[.map none, .map m2] w (Tells (.bool (decide ([] = M))) w) := by
  have hl1 : ∀ ty, (Builtin.len_ #[mT] ty #[.map none]).run Try.prog w = .ok (.int .i64 (0 : Nat)) w := fun ty => Maps.len_nil hMT ty
  have hl2 := h2.len
  clear h2
  refine (callsIn_wide (n := 6)).1 ?_
  refine callsIn_of_wp Try.func30 rfl trivial ?_ rfl
  simp only [Try.ntmps30, List.size_toArray, List.length_cons, List.length_nil, Nat.reduceAdd, Nat.reduceSub, Array.replicate_succ, Array.replicate_zero, List.push_toArray, List.append_toArray, List.nil_append, List.cons_append]
  cases M with
  | nil =>
    have hd : (((0 : Nat) : Int) != (([] : List On).length : Int)) = false := by simp
    have hrg := run_range_nilMap (P := Try.prog) w mT uT 33 hMT
    have hnx : ∀ ty, (Instr.next (.pointer (some ⟨w.heap.size, 0, none⟩)) false ty).run Try.prog (w.alloc (.mapIter none 0 #[] 0)) = _ := fun ty => run_next_nilMap _ ty 0 0 #[]
    gi_wp2
    refine wpIn_loop_rounds 1 ?_
    rw [roundsIn_succ]
    gi_wp2
    go_ret
    exact ⟨rfl, (Below.refl _ _).alloc (Nat.le_refl _) _⟩
  | cons x l =>
    have hd : (((0 : Nat) : Int) != ((x :: l).length : Int)) = true := by simp; omega
    gi_wp2
    go_ret
    exact ⟨by simp, Below.refl _ _⟩

set_option maxRecDepth 100000 in
set_option maxHeartbeats 4000000 in
theorem equal_some {w : World} {M1 : Nat} {m2 : Option Nat} {L M : List On} (h1 : MapL w M1 L) (h2 : MapO w m2 M) (hL : Wl L) (hM : Wl M) :
    Calls Try.prog 30 #[.map (some M1), .map m2] w (Tells (.bool (decide (L = M))) w) := by
  have hl1 : ∀ ty, (Builtin.len_ #[mT] ty #[.map (some M1)]).run Try.prog w = .ok (.int .i64 (L.length : Nat)) w := fun ty => h1.len ty
  have hl2 := h2.len
  obtain ⟨D, hown, hsay⟩ := h1
  have H2 : Hid (MapO w m2 M) := h2
  have HL : Hid (Wl L) := hL
  have HM : Hid (Wl M) := hM
  clear h2 hL hM
  refine (callsIn_wide (n := 6)).1 ?_
  refine callsIn_of_wp Try.func30 rfl trivial ?_ rfl
  simp only [Try.ntmps30, List.size_toArray, List.length_cons, List.length_nil, Nat.reduceAdd, Nat.reduceSub, Array.replicate_succ, Array.replicate_zero, List.push_toArray, List.append_toArray, List.nil_append, List.cons_append]
  by_cases hlen : L.length = M.length
  · have hd : ((L.length : Int) != (M.length : Int)) = false := by simp [hlen]
    have HLEN := Lib.hid hlen
    clear hlen
    gi_wp2_with (first
      | (gi_at_range; refine wpListIn_range_own _ rfl _ mT rfl uT 33 hK hMT bR M1 L.length D rfl hown ?_; intro w0 hrg0 hg0 hs0)
      | gi_in)
    go_frame
    gi_loopw [4] (fun _ wr => ∃ (left : Lit → Bool) (cnt : Nat) (pre : List Nat), wr.ranges Try.prog uT bR M1 w.heap.size L.length D left cnt ∧ Told D left cnt pre ∧ Below w.heap.size w wr ∧ ∀ x ∈ L, x.1 ∈ pre → x ∈ M)
      (fun _ wr => wr.rangeLeft M1 w.heap.size)
    case atStart => exact ⟨_, _, [], hrg0, Told.start D, (Below.refl _ _).grown hg0 (Nat.le_refl _) (fun k e => by cases e), fun _ _ h => by cases h⟩
    case round =>
      obtain ⟨left, cnt, pre, hrg, hT, hB, hin⟩ := hrel
      gi_wp2_with (first
        | (gi_at_next; refine wpListIn_next_ranges _ rfl _ rfl uT hK bR uV BkV (fun key kl hk => by obtain ⟨x, hx, _⟩ := key_inv hk; exact ⟨x, hx⟩) (fun v y hv => by obtain ⟨b, hb, _⟩ := bR_inv hv; exact ⟨b, hb⟩) M1 w.heap.size L.length _ _ _ rfl hrg ?_ ?_)
        | gi_in)
      · intro hc0 hl0
        have hp := hT.perm hsay HL.out hl0
        have hLM : L = M := same_of HL.out HM.out (fun x hx => hin x hx (hp.mem_iff.2 (List.mem_map.2 ⟨x, hx, rfl⟩))) HLEN.out
        gi_wp2
        go_ret
        exact ⟨ret_b (decide_eq_true hLM).symm, hB⟩
      · intro x c1 c2 c3 kl0 yd yp w2 cnt2 hkey hlk hv hat hrg2 hlt hg2 hs2 hen
        obtain ⟨x', ex, rfl⟩ := key_inv hkey
        obtain rfl : x = x' := by have := Value.int.inj ex; omega
        have hhas : Maps.has D (kl x) = true := Maps.has_true_of_atKey hat
        obtain ⟨⟨i, b⟩, hb, e⟩ := hsay.of _ hhas
        obtain rfl : x = i := kl_inj e
        have hbb : b = (c1, c2, c3) := by
          obtain ⟨b', e1, e2⟩ := bR_inv hv
          have q1 := (hsay.has _ hb).2 .nil
          rw [hat] at q1
          have q2 : bD b = bD b' := q1.symm.trans (Prod.mk.inj e2).1
          rw [bD_inj q2]
          obtain ⟨b1, b2, b3⟩ := b'
          simp at e1
          rw [e1.1, e1.2.1, e1.2.2]
        subst hbb
        have hB2 : Below w.heap.size w w2 := hB.grown hg2 hB.size (fun k e => by have := Option.some.inj e; omega)
        have hxl := HL.out.lt _ hb
        obtain ⟨o, ho⟩ : ∃ o, lget M x = o := ⟨_, rfl⟩
        have hlook : (Instr.lookup mT (.map m2) (.int .u32 (x : Nat)) true).run Try.prog (w2.alloc (BkO (c1, c2, c3))) = .ok (.tuple #[BkV (o.getD bZ), .bool o.isSome]) (w2.alloc (BkO (c1, c2, c3))) := by
          rw [← ho]
          exact (H2.out.below (hB2.alloc hB2.size _)).look hxl
        have hT2 := hT.step hlk hhas hlt
        have HX := Lib.hid (And.intro hB2 (And.intro hb (And.intro ho (And.intro hT2 (And.intro hrg (And.intro hrg2 (And.intro hlt hin)))))))
        clear hB2 hb ho hT2 hrg hrg2 hg2 hs2 hT hv hat hkey hlk hhas hB hin e ex hlt
        cases o with
        | none =>
          simp only [Option.getD_none, Option.isSome_none] at hlook
          gi_wp2
          go_ret
          refine ⟨ret_b (decide_eq_false fun e => ?_).symm, ((HX.out.1.alloc HX.out.1.size _).alloc (by have := HX.out.1.size; simp; omega) _)⟩
          have q := lget_of HL.out HX.out.2.1
          rw [e, HX.out.2.2.1] at q
          cases q
        | some c =>
          obtain ⟨d1, d2, d3⟩ := c
          simp only [Option.getD_some, Option.isSome_some] at hlook
          obtain ⟨t, ht⟩ : ∃ t, (!(decide (((c1, c2, c3) : Bk) = (d1, d2, d3)))) = t := ⟨_, rfl⟩
          have he : ∀ w, (binOp .neq 33 (BkV (c1, c2, c3)) (BkV (d1, d2, d3))).run Try.prog w = .ok (.bool t) w := fun w => by rw [← ht]; exact bkNe _ _ w
          have hgd := fun (op : BinOp) (x y : Operand) (xs ys : Array Value) (w : World) => run_eqGuard_agg (P := Try.prog) w op 33 x y xs ys bkGuard
          have HT := Lib.hid ht
          clear ht
          cases t with
          | true =>
            gi_wp2
            go_ret
            refine ⟨ret_b (decide_eq_false fun e => ?_).symm, ((HX.out.1.alloc HX.out.1.size _).alloc (by have := HX.out.1.size; simp; omega) _)⟩
            have q := lget_of HL.out HX.out.2.1
            rw [e, HX.out.2.2.1] at q
            have q2 := HT.out
            rw [Option.some.inj q] at q2
            simp at q2
          | false =>
            gi_wp2
            go_roundw
            case rel =>
              refine ⟨_, cnt2, pre ++ [x], (HX.out.2.2.2.2.2.1.alloc _).alloc _, HX.out.2.2.2.1, ((HX.out.1.alloc HX.out.1.size _).alloc (by have := HX.out.1.size; simp; omega) _), fun z hz hp => ?_⟩
              rcases List.mem_append.1 hp with hp | hp
              · exact HX.out.2.2.2.2.2.2.2 z hz hp
              · have e : z.1 = x := List.mem_singleton.1 hp
                have q := lget_of HL.out hz
                have q1 := lget_of HL.out HX.out.2.1
                rw [e] at q
                have e2 : z.2 = (c1, c2, c3) := Option.some.inj (q.symm.trans q1)
                have q2 := HT.out
                simp only [Bool.not_eq_false'] at q2
                have q3 := of_decide_eq_true q2
                have q4 := lget_some HX.out.2.2.1
                rw [← q3, ← e2, ← e] at q4
                exact q4
            case measure => rw [((HX.out.2.2.2.2.2.1.alloc _).alloc _).left_eq, HX.out.2.2.2.2.1.left_eq]; exact HX.out.2.2.2.2.2.2.1
  · have hd : ((L.length : Int) != (M.length : Int)) = true := by simp; omega
    have HLEN := Lib.hid hlen
    clear hlen
    gi_wp2
    go_ret
    exact ⟨ret_b (decide_eq_false fun e => HLEN.out (by rw [e])).symm, Below.refl _ _⟩
theorem equal_any {w : World} {m1 m2 : Option Nat} {L M : List On} (h1 : MapO w m1 L) (h2 : MapO w m2 M) (hL : Wl L) (hM : Wl M) :
    Calls Try.prog 30 #[.map m1, .map m2] w (Tells (.bool (decide (L = M))) w) := by
  rcases h1 with ⟨rfl, rfl⟩ | ⟨M1, rfl, h1⟩
  · exact equal_nil h2
  · exact equal_some h1 h2 hL hM
theorem Wt.mapO {w : World} {G : Nat} {F : Nat → Prop} {L : List On} (h : Wt w G F L) : ∃ m, w.cell? ⟨G, 0, none⟩ = some (.map m) ∧ MapO w m L := by
  obtain ⟨m, c0, -, -, h2⟩ := h.cell
  refine ⟨m, c0, ?_⟩
  rcases h2 with h2 | ⟨M, e, -, hM⟩
  · exact .inl h2
  · exact .inr ⟨M, e, hM⟩
abbrev TwoM (G G2 : Nat) (m1 m2 : Option Nat) (W : World) : Prop := W.cell? ⟨G, 0, none⟩ = some (.map m1) ∧ W.cell? ⟨G2, 0, none⟩ = some (.map m2)
set_option maxHeartbeats 2000000 in
/-- Same: equal just if they hold the same -/
theorem same_any {w : World} {G G2 : Nat} {F F2 : Nat → Prop} {L M : List On} (h : Wt w G F L) (h2 : Wt w G2 F2 M) :
    Calls Try.prog 13 #[.pointer (some ⟨G, 0, none⟩), .pointer (some ⟨G2, 0, none⟩)] w (Tells (.bool (decide (L = M))) w) := by
  obtain ⟨m1, c1, k1⟩ := h.mapO
  obtain ⟨m2, c2, k2⟩ := h2.mapO
  have hd : Below w.heap.size w w.drew := (Below.refl _ _).drew
  have HQ := Lib.hid (equal_any (k1.below hd) (k2.below hd) h.wl h2.wl)
  have HC := Lib.hid (And.intro c1 c2)
  have HLT := Lib.hid (And.intro (h.lt _ h.fG) (h2.lt _ h2.fG))
  have hcd : TwoM G G2 m1 m2 w := ⟨c1, c2⟩
  have hcd2 : TwoM G G2 m1 m2 w.drew := ⟨c1, c2⟩
  clear h h2 k1 k2
  go_enter Try.func13, Try.ntmps13
  go_wp2_with fail
  go_region_held3 (fun W => TwoM G G2 m1 m2 W) (first | assumption | exact hcd | exact hcd2)
    (first
      | (go_at_call 30; ((with_reducible refine HQ.out.mono ?_)); rintro e0 w1 ⟨rfl, hb1⟩; have H1 := Lib.hid hb1; have hcd1 : TwoM G G2 m1 m2 w1 := ⟨(hb1.cell (p := ⟨G, 0, none⟩) HLT.out.1).trans HC.out.1, (hb1.cell (p := ⟨G2, 0, none⟩) HLT.out.2).trans HC.out.2⟩; clear hb1))
  go_wp2
  go_ret
  exact ⟨rfl, ((Below.refl _ _).drew (B := w.heap.size)).trans H1.out⟩
end Go.Proofs.Ytfonbompglddaaa
