/-
  The walk of do: an act by both, kind by kind.
-/
import Derived.Test.YtfchfhkhflghbaaODuo
namespace Go.Proofs.Ytfchfhkhflghbaa
open Go Go.RowKit Go.Lib Go.Sort Go.Proofs

/-- an act, and a box of one -/
abbrev ActV (k : Int) (s : Sl) (m : Int) : Value := .agg #[.int .i64 k, SlV s, .int .i64 m]
abbrev ActO (k : Int) (s : Sl) (m : Int) : Obj := .cells #[.int .i64 k, SlV s, .int .i64 m] 32
theorem act_here {w : World} {B : Nat} {k : Int} {s : Sl} {m : Int} (h : w.heap[B]? = some (ActO k s m)) : w.cell? ⟨B, 0, none⟩ = some (.int .i64 k) ∧ w.cell? ⟨B, 1, none⟩ = some (SlV s) ∧ w.cell? ⟨B, 2, none⟩ = some (.int .i64 m) := by
  refine ⟨?_, ?_, ?_⟩
  all_goals (rw [cell_of_row _ _ _ _ _ _ h]; rfl)
/-- both behind an act -/
def OneTo (K : Nat) (T Z : Nat → Prop) (w : World) (G R : Nat) (e : Ending) (W' : World) : Prop := e = .returned (.bool true) ∧ ∃ (x2 : St) (y2 : Dt), Tie (K + 300) x2 y2 ∧ Dd T Z w W' G R x2 y2 []
theorem Dd.most {T Z : Nat → Prop} {w W : World} {G R : Nat} {x : St} {y : Dt} {X : List (Nat × Obj)} (h : Dd T Z w W G R x y X) : (x.2.1.length : Int) ≤ x.1 := by
  obtain ⟨F, FT, a, c, h1, h2, h3, h4, h5, h6, h7, h8, h9, _⟩ := h.fst
  exact h9
/-- bytes that may be written -/
def Bytes (cur : Array Value) (n : Nat) : Prop := n ≤ cur.size ∧ ∀ j, j < n → ∃ q : Int, cur[j]? = some (.int .u8 q)
theorem Bytes.set {cur : Array Value} {n : Nat} (h : Bytes cur n) (i : Nat) (q : Int) : Bytes (cur.setIfInBounds i (.int .u8 q)) n := by
  refine ⟨by simpa using h.1, fun j hj => ?_⟩
  by_cases e : i = j
  · subst e
    exact ⟨q, Array.getElem?_setIfInBounds_self_of_lt (Nat.lt_of_lt_of_le hj h.1)⟩
  · obtain ⟨u, hu⟩ := h.2 j hj
    exact ⟨u, by rw [Array.getElem?_setIfInBounds_ne e]; exact hu⟩
theorem bytes_cells (l : By) : Bytes (CB.cells l).toArray l.length := by
  have hl : (CB.cells l).length = l.length := by rw [CB.cells_len]; exact Nat.mul_one _
  refine ⟨by simp [hl], fun j hj => ⟨(l[j].toNat : Int), ?_⟩⟩
  have := CB.cells_get l j 0 hj (by decide)
  rw [show j * CB.k + 0 = j from Nat.mul_one j] at this
  rw [List.getElem?_toArray, this]
  rfl
theorem own_full {B : Nat} {w : World} {v : Value} {l : By} (h : CB.Own 5 B w v l) (h0 : l ≠ []) (hl : l.length ≤ 1000000) : ∃ g c cur, v = .slice (some ⟨g, 0, none⟩) l.length c ∧ B ≤ g ∧ w.heap[g]? = some (.cells cur 5 (0, 0)) ∧ Bytes cur l.length ∧ CB.At w (some ⟨g, 0, none⟩) l.length l := by
  obtain ⟨g, c, rfl, hg, hgl, hc, hm, hA⟩ := own_text h h0 hl
  obtain ⟨_, ⟨e, _⟩ | ⟨g', cap, cur, e, hg', hh, hnc, _, hs, ht⟩⟩ := h
  · cases e
  · cases e
    refine ⟨g, c, cur, rfl, hg, hh, ⟨by rw [hs]; exact Nat.le_trans hnc (Nat.le_of_eq (Nat.mul_one _).symm), fun j hj => ?_⟩, hA⟩
    obtain ⟨_, q⟩ := bytes_cells l
    obtain ⟨u, hu⟩ := q j hj
    refine ⟨u, ?_⟩
    rw [List.getElem?_toArray, ← ht, List.getElem?_take] at hu
    split at hu
    · simpa using hu
    · cases hu
section
variable {T Z : Nat → Prop} {w W : World} {G R : Nat} {x : St} {y : Dt} {K : Nat}
set_option maxHeartbeats 4000000 in
set_option maxRecDepth 100000 in
theorem do1 (h : Dd T Z w W G R x y []) (ht : Tie K x y) (hK : K + 300 ≤ 100000) (p : Addr) (cc : Nat) (b : By) (hb : ∀ W', But T w W' → CB.At W' (some p) b.length b) (h0 : b ≠ []) (hl : b.length ≤ 300) (m : Int) :
    Calls Try.prog 10 #[.pointer (some ⟨G, 0, none⟩), .pointer (some ⟨R, 0, none⟩), ActV 1 (some p, b.length, cc) m] W (OneTo K T Z w G R) := by
  obtain ⟨c, x2, y2, ht2, hp, hr⟩ := q_put ht hK b h0 hl h.most
  have HP := Lib.hid hp
  have HRP := Lib.hid hr
  have HT := Lib.hid ht2
  have HBY := Lib.hid hb
  have HL := Lib.hid (And.intro h0 (And.intro hl h.keep.size))
  have h1 := h.box (ActO 1 (some p, b.length, cc) m)
  obtain ⟨a0, a1, a2⟩ := act_here (h1.get (List.mem_cons_self ..))
  have H1 := Lib.hid h1
  clear h h1 hp hr ht2 hb h0 hl ht
  go_enter Try.func10, Try.ntmps10
  go_wp2_with (first
    | (go_at_call 16; ((with_reducible refine (HP.out _ _ _ _ _ _ _ _ _ _ H2.out.1 H2.out.2.2.1).mono ?_)); rintro e w3 ⟨rfl, h3⟩; have H3 := Lib.hid h3; clear h3)
    | (at_builtin; refine rowB.list_at rfl _ _ rfl (W.heap.size + 1) (.slice none 0 0) [] b rfl (World.ownsRow_nil _ _ _ _) (some p) b.length cc rfl (HBY.out _ H1.out.keep) (fun e => by cases e) (by have := HL.out.2.1; simp only [List.length_nil]; omega) (by have := HL.out.2.1; simp only [List.length_nil]; omega) (by simp) ?_; intro v1 w1 ho1 hg1 _; obtain ⟨g, k1, cur, rfl, hgg, hgh, hby, hat⟩ := own_full ho1 HL.out.1 (Nat.le_trans HL.out.2.1 (by decide)); have H2 := Lib.hid (And.intro (H1.out.newbox (((But.grown hg1).below (B := (W.alloc (ActO 1 (some p, b.length, cc) m)).heap.size) (Nat.le_refl _) fun _ e => by cases e)) (by simpa using hgg) hgh) (And.intro hby (And.intro hat hgg))); clear ho1 hg1 hgg hgh hby hat))
  obtain ⟨n, hn⟩ : ∃ n, n = b.length := ⟨_, rfl⟩
  obtain ⟨cur0, hc0⟩ : ∃ cu, cu = cur := ⟨_, rfl⟩
  have HST : Hid (Bytes cur0 n ∧ Dd T Z w w3 G R x2 y [(g, .cells cur0 5), (W.heap.size, ActO 1 (some p, b.length, cc) m)]) := by rw [hc0, hn]; exact ⟨H2.out.2.1, H3.out⟩
  have HG : Hid (W.heap.size + 1 ≤ g) := H2.out.2.2.2
  have HN := Lib.hid hn
  rw [← hn]
  clear H3 hc0 hn
  go_loopg [9] n (fun kx s9 wr => ∃ i : Nat, s9 = .int .i64 i ∧ i ≤ n ∧ n - i ≤ kx ∧ Aside (∃ cur, Bytes cur n ∧ Dd T Z w wr G R x2 y [(g, .cells cur 5), (W.heap.size, ActO 1 (some p, b.length, cc) m)]))
  case atStart => exact ⟨0, by go_num, Nat.zero_le _, Nat.le_refl _, cur0, HST.out.1, HST.out.2⟩
  case round =>
    obtain ⟨i, rfl, hin, hkx, A⟩ := hrel
    clear HST
    obtain ⟨cu, hby, hD⟩ := A.out
    clear A
    by_cases hlt : i < n
    · have hlz : decide (i < n) = true := by simpa using hlt
      have hgr := hD.get (List.mem_cons_self ..)
      obtain ⟨u, hu⟩ := hby.2 i hlt
      have q0 : wr.cell? ⟨g, i, none⟩ = some (.int .u8 u) := by rw [cell_of_row _ _ _ _ _ _ hgr]; exact hu
      have f0 : wr.frozen? ⟨g, i, none⟩ = false := frozen_of_row _ _ _ _ _ hgr
      have hib : i < 1000 := by have := HN.out; have := HL.out.2.1; omega
      have HD := Lib.hid (And.intro hby hD)
      clear hgr hu hby hD
      go_wp2
      go_roundg (n - (i + 1))
      case measure => omega
      case rel =>
        refine ⟨i + 1, by go_num, by omega, Nat.le_refl _, _, HD.out.1.set i _, HD.out.2.turn (by have := HL.out.2.2; have := HG.out; omega) (fun p hp => ?_) ((But.refl (fun b => b = g) wr).setCell (p := ⟨g, i, none⟩) rfl _) (heap_setCell_same wr g i _ _ _ (HD.out.2.get (List.mem_cons_self ..)))⟩
        rw [List.mem_singleton.1 hp]
        have := HG.out
        show W.heap.size ≠ g
        omega
    · have hlz : decide (i < n) = false := by simpa using hlt
      have hac := act_here (hD.get (List.mem_cons_of_mem _ (List.mem_cons_self ..)))
      obtain ⟨b0, b1, b2⟩ := hac
      rw [← HN.out] at b1
      have hk := hD.keep
      have HD := Lib.hid (And.intro hD (HBY.out _ hk))
      have HRR : Hid (∀ T Z w W G R z X p cc, Dd T Z w W G R z y X → CB.At W (some p) b.length b → Calls Try.prog 21 #[.pointer (some ⟨R, 0, none⟩), .slice (some p) n cc] W (DdTo (.int .i64 c) T Z w G R z y2 X)) := by rw [HN.out]; exact HRP.out
      clear hD hk a0 a1 a2 hby
      go_wp2_with (go_at_call 21; ((with_reducible refine (HRR.out _ _ _ _ _ _ _ _ _ _ HD.out.1 HD.out.2).mono ?_)); rintro e w5 ⟨rfl, h5⟩; have H5 := Lib.hid h5; clear h5)
      go_ret
      exact ⟨rfl, x2, y2, HT.out, H5.out.less⟩
/-- nothing is put: refused by both -/
theorem do1e (h : Dd T Z w W G R x y []) (ht : Tie K x y) (a : Option Addr) (cc : Nat) (hb : CB.At W a 0 []) (hb0 : a = none → cc = 0) (m : Int) :
    Calls Try.prog 10 #[.pointer (some ⟨G, 0, none⟩), .pointer (some ⟨R, 0, none⟩), ActV 1 (a, 0, cc) m] W (OneTo K T Z w G R) := by
  have h1 := h.box (ActO 1 (a, 0, cc) m)
  obtain ⟨a0, a1, a2⟩ := act_here (h1.get (List.mem_cons_self ..))
  have H1 := Lib.hid h1
  have HB := Lib.hid (And.intro (hb.below ((Below.refl _ _).alloc (Nat.le_refl _) (ActO 1 (a, 0, cc) m))) (fun e => And.intro (hb0 e) (rfl : 0 = 0)))
  have HT := Lib.hid (ht.mono (Nat.le_add_right K 300))
  clear h h1 hb hb0 ht
  go_enter Try.func10, Try.ntmps10
  go_wp2_with (first
    | (go_at_call 16; refine (put_arg _ _).mono ?_; rintro e w3 ⟨rfl, h3⟩; have H3 := Lib.hid (H2.out.below h3); obtain ⟨b0, b1, b2⟩ := act_here (H3.out.get (List.mem_cons_self ..)); clear h3)
    | (at_builtin; refine rowB.list_at rfl _ _ rfl (W.heap.size + 1) (.slice none 0 0) [] [] rfl (World.ownsRow_nil _ _ _ _) a 0 cc rfl HB.out.1 HB.out.2 (by simp) (by simp) (by simp) ?_; intro v1 w1 ho1 hg1 _; obtain ⟨a3, n3, k3, rfl⟩ := ho1.shape; obtain rfl : n3 = 0 := ho1.size.1; have H2 := Lib.hid (H1.out.below ((But.grown hg1).below (B := (W.alloc (ActO 1 (a, 0, cc) m)).heap.size) (Nat.le_refl _) fun _ e => by cases e)); clear ho1 hg1))
  refine wp_loop_rounds 1 ?_
  rw [rounds_succ]
  go_wp2_with (go_at_call 21; refine (rput_arg _ _).mono ?_; rintro e w5 ⟨rfl, h5⟩; have H5 := Lib.hid (H3.out.below h5); clear h5)
  go_ret
  exact ⟨rfl, x, y, HT.out, H5.out.less⟩
end
end Go.Proofs.Ytfchfhkhflghbaa
