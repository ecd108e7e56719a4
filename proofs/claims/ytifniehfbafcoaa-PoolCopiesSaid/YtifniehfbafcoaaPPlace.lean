/-
  Boxes of messages; the walks of New, Len, place, At.
-/
import Derived.Test.YtifniehfbafcoaaPMem
import Derived.Test.YtifniehfbafcoaaPMath
import Derived.Test.YtifniehfbafcoaaRows
import Derived.Deep.LoopGhost
import Derived.WalkKit
import Derived.ProofKit
namespace Go.Proofs.Ytifniehfbafcoaa
open Go Go.RowKit Go.Lib Go.Sort Go.Proofs

/-- a box of a message: its cells, none is frozen -/
theorem box_here {w : World} {R : Nat} {x : Ms} (h : w.heap[R]? = some (MsO x)) : Ten w R 0 x ∧ (w.frozen? ⟨R, 0, none⟩ = false) ∧ (w.frozen? ⟨R, 1, none⟩ = false) ∧ (w.frozen? ⟨R, 2, none⟩ = false) ∧ (w.frozen? ⟨R, 3, none⟩ = false) ∧ (w.frozen? ⟨R, 4, none⟩ = false) ∧ (w.frozen? ⟨R, 5, none⟩ = false) ∧ (w.frozen? ⟨R, 6, none⟩ = false) ∧ (w.frozen? ⟨R, 7, none⟩ = false) ∧ (w.frozen? ⟨R, 8, none⟩ = false) ∧ (w.frozen? ⟨R, 9, none⟩ = false) := by
  refine ⟨(ten_box (x := x) h).1, ?_, ?_, ?_, ?_, ?_, ?_, ?_, ?_, ?_, ?_⟩
  all_goals exact frozen_of_row _ _ _ _ _ h
theorem below_set10 {K R : Nat} {a w : World} (h : Below K a w) (hR : K ≤ R) (v0 v1 v2 v3 v4 v5 v6 v7 v8 v9 : Value) :
    Below K a ((((((((((w.setCell ⟨R, 0, none⟩ v0).setCell ⟨R, 1, none⟩ v1).setCell ⟨R, 2, none⟩ v2).setCell ⟨R, 3, none⟩ v3).setCell ⟨R, 4, none⟩ v4).setCell ⟨R, 5, none⟩ v5).setCell ⟨R, 6, none⟩ v6).setCell ⟨R, 7, none⟩ v7).setCell ⟨R, 8, none⟩ v8).setCell ⟨R, 9, none⟩ v9) :=
  (((((((((h.setCell (p := ⟨R, 0, none⟩) hR _).setCell (p := ⟨R, 1, none⟩) hR _).setCell (p := ⟨R, 2, none⟩) hR _).setCell (p := ⟨R, 3, none⟩) hR _).setCell (p := ⟨R, 4, none⟩) hR _).setCell (p := ⟨R, 5, none⟩) hR _).setCell (p := ⟨R, 6, none⟩) hR _).setCell (p := ⟨R, 7, none⟩) hR _).setCell (p := ⟨R, 8, none⟩) hR _).setCell (p := ⟨R, 9, none⟩) hR _
theorem but_set10 (w : World) (R : Nat) (v0 v1 v2 v3 v4 v5 v6 v7 v8 v9 : Value) :
    But (fun b => b = R) w ((((((((((w.setCell ⟨R, 0, none⟩ v0).setCell ⟨R, 1, none⟩ v1).setCell ⟨R, 2, none⟩ v2).setCell ⟨R, 3, none⟩ v3).setCell ⟨R, 4, none⟩ v4).setCell ⟨R, 5, none⟩ v5).setCell ⟨R, 6, none⟩ v6).setCell ⟨R, 7, none⟩ v7).setCell ⟨R, 8, none⟩ v8).setCell ⟨R, 9, none⟩ v9) :=
  ((((((((((But.refl (fun b => b = R) w).setCell (p := ⟨R, 0, none⟩) rfl v0).setCell (p := ⟨R, 1, none⟩) rfl v1).setCell (p := ⟨R, 2, none⟩) rfl v2).setCell (p := ⟨R, 3, none⟩) rfl v3).setCell (p := ⟨R, 4, none⟩) rfl v4).setCell (p := ⟨R, 5, none⟩) rfl v5).setCell (p := ⟨R, 6, none⟩) rfl v6).setCell (p := ⟨R, 7, none⟩) rfl v7).setCell (p := ⟨R, 8, none⟩) rfl v8).setCell (p := ⟨R, 9, none⟩) rfl v9

/-- the nought message's object -/
abbrev MsZO : Obj := .cells #[.int .i64 0, .int .i64 0, .int .i64 0, .int .i64 0, .int .i64 0, .int .i64 0, .int .i64 0, .bool false, .bool false, .int .i64 0] 36
/-- an answer; the world is as it was -/
def SameV (v : Value) (w : World) (e : Ending) (w' : World) : Prop := e = .returned v ∧ w = w'
theorem pl_new (w : World) : Calls Try.prog 7 #[] w (plT.New ([], 0) w) := by
  go_enter Try.func7, Try.ntmps7
  go_wp2_with fail
  go_ret
  refine ⟨w.heap.size, fun b => b = w.heap.size, rfl, ⟨.slice none 0 0, [], [], ⟨heap_alloc_new _ _, rfl, fun b h => by subst h; simp, World.ownsRow_nil _ _ _ _, (fun b e => by cases e), rfl, (fun j s l h => by simp at h), (fun j s b h => by simp at h), (fun i j s t b _ h => by simp at h), (fun l h => by simp at h)⟩, rfl, Nat.le_refl _, Nat.le_refl _, Nat.zero_le _⟩, fun b h => by subst h; exact Nat.le_refl _, ?_⟩
  exact (Below.refl _ _).alloc (Nat.le_refl _) _
theorem pl_len {w : World} {G : Nat} {F : Nat → Prop} {x : List Ms × Nat} (h : Pl w G F x) : Calls Try.prog 17 #[.pointer (some ⟨G, 0, none⟩)] w (SameV (.int .i64 (x.1.length : Nat)) w) := by
  obtain ⟨v, vs, bs, h, -⟩ := h
  obtain ⟨-, c1, -, -⟩ := h.cells
  clear h
  go_enter Try.func17, Try.ntmps17
  go_wp2
  go_ret
  exact ⟨rfl, rfl⟩

/-- the i-th one's place -/
def PlaceTo (bs : List (List Ms)) (i : Nat) (w : World) (e : Ending) (w' : World) : Prop := ∃ b r : Nat, e = .returned (.tuple #[.int .i64 b, .int .i64 r]) ∧ PlaceAt bs i b r ∧ w = w'
set_option maxHeartbeats 1000000 in
theorem place_any {w : World} {G : Nat} {F : Nat → Prop} {v : Value} {vs : List Sl} {bs : List (List Ms)} {m n : Nat} (h : PlX w G F v vs bs m n) (i : Nat) (hi : i < bs.flatten.length) (hb : bs.flatten.length ≤ 1000000) (hbl : bs.length ≤ 1000000) : Calls Try.prog 32 #[.pointer (some ⟨G, 0, none⟩), .int .i64 i] w (PlaceTo bs i w) := by
  have hpos : 0 < bs.length := Nat.pos_of_ne_zero fun e => by
    rw [List.eq_nil_of_length_eq_zero e] at hi
    simp at hi
  obtain ⟨g, k, rfl, hg, -⟩ := h.row.some_ (by rw [h.len]; exact hpos)
  obtain ⟨c0, -, -, -⟩ := h.cells
  have HH := Lib.hid h
  have HI := Lib.hid hi
  have HB := Lib.hid hb
  have HBL := Lib.hid hbl
  have hlen := h.len
  rw [hlen] at c0
  clear h hi hb hlen hbl
  go_enter Try.func32, Try.ntmps32
  go_wp2
  go_loopg [1, 4] bs.length (fun kx s1 s4 wr => ∃ b r : Nat, s1 = .int .i64 r ∧ s4 = .int .i64 b ∧ b < bs.length ∧ bs.length - b ≤ kx ∧ w = wr ∧ Aside ((bs.take b).flatten.length + r = i))
  case atStart => exact ⟨0, i, rfl, by go_num, hpos, Nat.le_refl _, rfl, by show _ = _; simp⟩
  case round =>
    obtain ⟨b, r, rfl, rfl, hbb, hkx, rfl, A⟩ := hrel
    obtain ⟨s, hs⟩ := HH.out.ex2 hbb
    obtain ⟨l, hl⟩ : ∃ l, bs[b]? = some l := ⟨_, List.getElem?_eq_getElem hbb⟩
    have hcell := sl_cell HH.out.row hs
    have ho := HH.out.own b s l hs hl
    obtain ⟨a, sn, sc⟩ := s
    have hsn : sn = l.length := ho.size.1
    have HL := Lib.hid hl
    have hrb : r ≤ 1000000 := by have := A.out; have := HI.out; have := HB.out; omega
    have hb6 : b < 1000000 := by have := HBL.out; omega
    have hbz : (b : Int) < (bs.length : Int) := by omega
    clear ho hs
    by_cases hlt : r < sn
    · have hd : decide ((r : Int) ≥ (sn : Int)) = false := by simp; omega
      go_wp2
      exact bodyPost_ret (v := .tuple #[.int .i64 b, .int .i64 r]) (by simp [results, Try.results32, go_sem]) rfl ⟨b, r, rfl, ⟨l, HL.out, hsn ▸ hlt, A.out⟩, rfl⟩
    · have hd : decide ((r : Int) ≥ (sn : Int)) = true := by simp; omega
      have hsub : (r : Int) - (sn : Int) = ((r - sn : Nat) : Int) := by omega
      have hlb : b + 1 < bs.length := by
        have h1 := A.out
        have h2 := HI.out
        have h3 := flat_split HL.out
        rcases Nat.lt_or_ge (b + 1) bs.length with h4 | h4
        · exact h4
        · exfalso
          rw [h3, List.drop_of_length_le h4] at h2
          simp only [List.length_append, List.flatten_nil, List.length_nil] at h2
          omega
      go_wp2
      go_roundg (bs.length - (b + 1))
      case measure => omega
      case rel =>
        refine ⟨b + 1, r - sn, by go_num, by go_num, hlb, Nat.le_refl _, rfl, ?_⟩
        show _ = _
        rw [flat_take_succ HL.out, List.length_append]
        have := A.out
        omega

/-- a message, an error; blocks are laid behind -/
abbrev MsTo (x : Ms) (c : Int) (w : World) (e : Ending) (w' : World) : Prop := Tells (.tuple #[MsV x, .int .i64 c]) w e w'
set_option maxHeartbeats 2000000 in
theorem pl_at_none {w : World} {G : Nat} {F : Nat → Prop} {x : List Ms × Nat} (h : Pl w G F x) (i : Int) (hi : i < 0 ∨ (x.1.length : Int) ≤ i) : Calls Try.prog 21 #[.pointer (some ⟨G, 0, none⟩), .int .i64 i] w (MsTo msZ 6 w) := by
  obtain ⟨v, vs, bs, h, -⟩ := h
  have h' : PlX (w.alloc (MsZO)) G F v vs bs x.1.length x.2 := h.below ((Below.refl _ _).alloc (Nat.le_refl _) _)
  obtain ⟨-, c1, -, -⟩ := h'.cells
  clear h h'
  by_cases h0 : i < 0
  · clear hi
    go_enter Try.func21, Try.ntmps21
    go_wp2
    exact bodyPost_ret (v := .tuple #[MsV msZ, .int .i64 6]) (by simp [results, Try.results21, go_sem, msZ]) rfl ⟨rfl, (Below.refl _ _).alloc (Nat.le_refl _) _⟩
  · have hd : decide (i ≥ (x.1.length : Int)) = true := by simp; omega
    clear hi
    go_enter Try.func21, Try.ntmps21
    go_wp2
    exact bodyPost_ret (v := .tuple #[MsV msZ, .int .i64 6]) (by simp [results, Try.results21, go_sem, msZ]) rfl ⟨rfl, (Below.refl _ _).alloc (Nat.le_refl _) _⟩
set_option maxHeartbeats 1000000 in
theorem pl_at {w : World} {G : Nat} {F : Nat → Prop} {x : List Ms × Nat} (h : Pl w G F x) (i : Nat) (y : Ms) (hy : x.1[i]? = some y) : Calls Try.prog 21 #[.pointer (some ⟨G, 0, none⟩), .int .i64 i] w (MsTo y 0 w) := by
  obtain ⟨L, n⟩ := x
  obtain ⟨v, vs, bs, h, hL, hb1, hb2, hb3⟩ := h
  simp only at hL hy hb2 hb3 hb1 h
  have hil : i < L.length := (List.getElem?_eq_some_iff.1 hy).1
  have h' : PlX (w.alloc (MsZO)) G F v vs bs L.length n := h.below ((Below.refl _ _).alloc (Nat.le_refl _) _)
  have hpos : 0 < bs.length := Nat.pos_of_ne_zero fun e => by
    rw [← hL, List.eq_nil_of_length_eq_zero e] at hil
    simp at hil
  obtain ⟨g, k, rfl, hg, -⟩ := h'.row.some_ (by rw [h'.len]; exact hpos)
  obtain ⟨c0, c1, -, -⟩ := h'.cells
  rw [h'.len] at c0
  have HH := Lib.hid h'
  have HB : Hid (bs.length ≤ 1000000 ∧ bs.flatten.length ≤ 1000000) := ⟨by omega, by rw [hL]; omega⟩
  have HY := Lib.hid hy
  have HI : Hid (i < bs.flatten.length) := by show _ < _; rw [hL]; exact hil
  have HLL := Lib.hid hL
  obtain ⟨f, f0, f1, f2, f3, f4, f5, f6, f7, f8, f9⟩ := box_here (x := msZ) (heap_alloc_new w MsZO)
  have h0 : ¬ (i : Int) < 0 := by omega
  have hni : ¬ L.length ≤ i := by omega
  clear h h' hy hil hb1 hb2 hb3 f hL
  go_enter Try.func21, Try.ntmps21
  go_wp2_with (go_at_call 32; refine (place_any HH.out i HI.out HB.out.2 HB.out.1).mono ?_; rintro e w1 ⟨b, r, rfl, hp, rfl⟩; refine Hid.out ?_)
  obtain ⟨l, y', hl, hr, hy'⟩ := hp.get
  have hbb := (List.getElem?_eq_some_iff.1 hl).1
  have hrr := (List.getElem?_eq_some_iff.1 hr).1
  obtain ⟨s, hs⟩ := HH.out.ex2 hbb
  have hcell := sl_cell HH.out.row hs
  have ho := HH.out.own b s l hs hl
  obtain ⟨B, sc, hsv, hB, -⟩ := ho.some_ (by omega)
  rw [hsv] at hcell ho
  obtain ⟨a', c', e', -, hat, -, -⟩ := ho.at_ (by have := HH.out.le l (List.mem_of_getElem? hl); omega)
  injection e' with e1 e2 e3
  subst e1 e3
  obtain ⟨B', off, e1, -, x, hx, hc⟩ := at_cell hat hrr
  cases e1
  have hxy : x = y := by
    rw [hr] at hx
    rw [HLL.out, HY.out] at hy'
    cases hx
    cases hy'
    rfl
  subst hxy
  obtain ⟨x0, x1, x2, x3, x4, x5, x6, x7, x8, x9⟩ := ten hc
  simp only [Nat.zero_add] at x0 x1 x2 x3 x4 x5 x6 x7 x8 x9
  have hbz : (b : Int) < (bs.length : Int) := by omega
  have hrz : (r : Int) < (l.length : Int) := by omega
  clear hp hl hr hy' hs ho hat hx hc e2 hsv hpos
  refine Lib.hid ?_
  go_wp2
  exact bodyPost_ret (v := .tuple #[MsV x, .int .i64 0]) (by simp [results, Try.results21, go_sem]) rfl ⟨rfl, (Below.refl _ _).alloc (Nat.le_refl _) _⟩
end Go.Proofs.Ytifniehfbafcoaa
