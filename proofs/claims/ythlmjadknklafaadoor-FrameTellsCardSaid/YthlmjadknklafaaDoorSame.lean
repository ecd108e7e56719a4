/-
  The walks of the document's Same, and of the law's wrong and known.
-/
import Derived.Test.YthlmjadknklafaaDoorTold
namespace Go.Proofs.YthlmjadknklafaaDoor
open Go.RowKit CrcM FrM

/-- it answers true, and writes nothing that was there -/
def TellsYes (w : World) (e : Ending) (w' : World) : Prop := e = .returned (.bool true) ∧ Below w.heap.size w w'

theorem own_form {w : World} {base : Nat} {v : Value} {n : Nat} {vs : List Value} (h : w.ownsRow base 22 1 v n vs) :
    ∃ a cap, v = .slice a n cap ∧ (n = 0 ∨ ∃ g, a = some ⟨g, 0, none⟩ ∧ g < w.heap.size ∧ ∀ i u, vs[i]? = some u → i < n → w.cell? ⟨g, i, none⟩ = some u) := by
  obtain ⟨h1, ⟨rfl, rfl⟩ | ⟨g, cap, cur, rfl, _, hg, _, _, _, ht⟩⟩ := h
  · exact ⟨none, 0, rfl, .inl rfl⟩
  · refine ⟨_, cap, rfl, .inr ⟨g, rfl, lt_of_block hg, fun i u hu hi => ?_⟩⟩
    rw [cell_of_row _ _ _ _ _ _ hg]
    have e : (cur.toList.take (n * 1))[i]? = vs[i]? := by rw [ht]
    rw [List.getElem?_take, if_pos (by omega)] at e
    rw [← hu, ← e]
    simp

set_option maxHeartbeats 1000000 in
theorem same_none (w : World) (a b : Option Addr) (c d : Nat) : Calls Tryd.prog 10 #[.slice a 0 c, .slice b 0 d] w (TellsYes w) := by
  go_enter Tryd.func10, Tryd.ntmps10
  go_wp2
  refine wp_loop_rounds 1 ?_
  rw [rounds_succ]
  go_wp2
  go_ret
  exact ⟨rfl, Below.refl _ _⟩

set_option maxHeartbeats 1000000 in
theorem same_some (w : World) (g h n c d : Nat) (vs us : List Value) (ps : List (List Nat)) (S T : Nat → Prop) (hn : ps.length = n) (hb : n ≤ 1000000) (hg : g < w.heap.size) (hh : h < w.heap.size)
    (h1 : ∀ i u, vs[i]? = some u → i < n → w.cell? ⟨g, i, none⟩ = some u) (h2 : ∀ i u, us[i]? = some u → i < n → w.cell? ⟨h, i, none⟩ = some u) (t1 : Txts w S vs ps) (t2 : Txts w T us ps) :
    Calls Tryd.prog 10 #[.slice (some ⟨g, 0, none⟩) n c, .slice (some ⟨h, 0, none⟩) n d] w (TellsYes w) := by
  have H1 := Lib.hid h1
  have H2 := Lib.hid h2
  have T1 := Lib.hid t1
  have T2 := Lib.hid t2
  have HN := Lib.hid hn
  clear h1 h2 t1 t2 hn
  go_enter Tryd.func10, Tryd.ntmps10
  go_wp2
  go_loopw [5] (fun i wr => ∃ k : Nat, i = .int .i64 (k : Int) ∧ k ≤ n ∧ Below w.heap.size w wr) (fun i _ => n - (intOf i).toNat)
  case atStart => exact ⟨0, rfl, by omega, Below.refl _ _⟩
  case round =>
    obtain ⟨k, rfl, hk, hbel⟩ := hrel
    have HB := Lib.hid hbel
    by_cases hlt : k < n
    · obtain ⟨a1, cap1, e1, b1, _, _⟩ := T1.out.2 k (by rw [HN.out]; exact hlt)
      obtain ⟨a2, cap2, e2, b2, _, _⟩ := T2.out.2 k (by rw [HN.out]; exact hlt)
      have c1 : wr.cell? ⟨g, k, none⟩ = some (.slice a1 (ps.getD k []).length cap1) := (hbel.cell (p := ⟨g, k, none⟩) hg).trans (H1.out k _ e1 hlt)
      have c2 : wr.cell? ⟨h, k, none⟩ = some (.slice a2 (ps.getD k []).length cap2) := (hbel.cell (p := ⟨h, k, none⟩) hh).trans (H2.out k _ e2 hlt)
      have s1 := (b1.below hbel).drew.str cap1
      have s2 := (b2.below hbel).drew.str cap2
      generalize strOf (ps.getD k []) = Z at s1 s2
      generalize (ps.getD k []).length = n1 at c1 c2 s1 s2
      clear e1 e2 b1 b2 hbel
      go_wp2
      go_region
      all_goals (try go_wp2)
      all_goals go_roundw
      case rel => exact ⟨k + 1, by go_num, by omega, HB.out.drew⟩
      case measure => simp [intOf]; omega
    · have hge : ¬ (k : Int) < (n : Int) := by omega
      clear hbel
      go_wp2
      go_ret
      exact ⟨rfl, HB.out⟩

theorem same_any (w : World) (base1 base2 n : Nat) (v u : Value) (vs us : List Value) (ps : List (List Nat)) (S T : Nat → Prop) (hn : ps.length = n) (hb : n ≤ 1000000) (h1 : w.ownsRow base1 22 1 v n vs) (h2 : w.ownsRow base2 22 1 u n us)
    (t1 : Txts w S vs ps) (t2 : Txts w T us ps) : Calls Tryd.prog 10 #[v, u] w (TellsYes w) := by
  obtain ⟨a, c, rfl, r1⟩ := own_form h1
  obtain ⟨b, d, rfl, r2⟩ := own_form h2
  rcases r1 with rfl | ⟨g, rfl, hg, q1⟩
  · exact same_none w a b c d
  · rcases r2 with rfl | ⟨h, rfl, hh, q2⟩
    · exact same_none w _ b c d
    · exact same_some w g h n c d vs us ps S T hn hb hg hh q1 q2 t1 t2

set_option maxHeartbeats 1000000 in
theorem wrong_none (w : World) (gd lb at_ wat : Nat) (l : List Nat) (x : Int) (h : Dec w gd lb at_ l wat 0) :
    Calls Tryd.prog 12 #[.pointer (some ⟨gd, 0, none⟩), .int .i64 0, .int .i64 x] w (TellsYes w) := by
  have H := Lib.hid h
  clear h
  go_enter Tryd.func12, Tryd.ntmps12
  go_wp2_with (go_at_call 18; refine (wrong_good _ gd lb _ _ _ H.out).mono ?_; rintro e w' ⟨rfl, rfl⟩)
  go_ret
  exact ⟨rfl, Below.refl _ _⟩

set_option maxHeartbeats 1000000 in
theorem wrong_some (w : World) (a0 : Addr) (gd lb at_ wat werr : Nat) (l : List Nat) (hG : Glo w a0) (h : Dec w gd lb at_ l wat werr) (he : 0 < werr) :
    Calls Tryd.prog 12 #[.pointer (some ⟨gd, 0, none⟩), .int .i64 (werr : Int), .int .i64 (wat : Int)] w (TellsYes w) := by
  have H := Lib.hid h
  have HG := Lib.hid hG
  have he0 : ((werr : Int) == 0) = false := by simp; omega
  clear h hG
  go_enter Tryd.func12, Tryd.ntmps12
  go_wp2_with (first
    | (go_at_call 18; refine (wrong_bad _ gd lb _ _ _ _ H.out he).mono ?_; rintro e w1 ⟨pb, rfl, hbrk, hpb, hbel⟩; have HBR := Lib.hid hbrk; have HW := Lib.hid hbel; have hplt := lt_of_block hbrk; clear hbrk hpb hbel)
    | (go_at_call 19; refine (is_broken pb _ _ ?_).mono ?_; (exact (World.cell?_of_block (Below.heap_alloc _ _ _ hplt)).trans (cells2 HBR.out).2); rintro e w2 ⟨rfl, rfl⟩)
    | (go_at_call 20; refine (as_hit2 _ _ a0 (.pointer none) _ ?_ ?_).mono ?_; (exact (HG.out.below HW.out HG.out.lt).below ((Below.refl _ _).alloc (Nat.le_refl _) _) (by have := HG.out.lt; have := HW.out.size; omega)); (exact heap_alloc_new _ _); rintro e w2 ⟨rfl, htb, hbut⟩; have HBU := Lib.hid hbut; have t0 := (show w2.cell? ⟨w1.heap.size, 0, none⟩ = some (.pointer (some ⟨pb, 0, none⟩)) from by rw [cell_of_row _ _ _ _ _ _ htb]; rfl); have b2 := cells2 (keep2 hbut HBR.out); have b0 := b2.1; have b1 := b2.2; clear htb hbut b2))
  go_ret
  refine ⟨rfl, ?_⟩
  exact (HW.out.alloc HW.out.size _).trans (HBU.out.below w.heap.size (by have := HW.out.size; simp; omega) (fun k hk => by rw [hk]; exact HW.out.size))
end Go.Proofs.YthlmjadknklafaaDoor
