/-
  The walk of frame's look: what the head of what is left tells.
-/
import Derived.Test.YthlmjadknklafaaDoorFr3
namespace Go.Proofs.YthlmjadknklafaaDoor
open Go.RowKit CrcM FrM

/-- the two variables of the packages: frame's own error, the library's handle -/
def Glo (w : World) (a0 : Addr) : Prop := w.cell? ⟨0, 0, none⟩ = some (.iface 101 (.pointer (some a0))) ∧ w.cell? ⟨1, 0, none⟩ = some (.iface 82 (.agg #[.pointer (some ⟨2, 51, none⟩)]))
theorem Glo.lt {w : World} {a0 : Addr} (h : Glo w a0) : 2 ≤ w.heap.size := by
  have := block_lt_of_cell h.2
  simp at this
  omega
theorem Glo.below {B : Nat} {w w' : World} {a0 : Addr} (h : Glo w a0) (hb : Below B w w') (hB : 2 ≤ B) : Glo w' a0 :=
  ⟨(hb.cell (p := ⟨0, 0, none⟩) (by simp; omega)).trans h.1, (hb.cell (p := ⟨1, 0, none⟩) (by simp; omega)).trans h.2⟩
theorem Glo.but {S : Nat → Prop} {w w' : World} {a0 : Addr} (h : Glo w a0) (hb : But S w w') (hS : ∀ k, S k → 2 ≤ k) : Glo w' a0 :=
  h.below (hb.below 2 h.lt hS) (Nat.le_refl _)

def LookWait (a0 : Addr) (w : World) (e : Ending) (w' : World) : Prop := e = .returned (.tuple #[.slice none 0 0, .iface 101 (.pointer (some a0))]) ∧ Below w.heap.size w w'
def LookBad (at_ err : Nat) (w : World) (e : Ending) (w' : World) : Prop :=
  ∃ pb, e = .returned (.tuple #[.slice none 0 0, .iface 53 (.pointer (some ⟨pb, 0, none⟩))]) ∧ Brk w' pb at_ err ∧ w.heap.size ≤ pb ∧ Below w.heap.size w w'
def LookGot (lb n : Nat) (p : List Nat) (w : World) (e : Ending) (w' : World) : Prop :=
  ∃ off, e = .returned (.tuple #[.slice (some ⟨lb, off, none⟩) n n, .nilIface]) ∧ Bts w' (some ⟨lb, off, none⟩) n p ∧ Below w.heap.size w w'

set_option maxHeartbeats 400000 in
theorem look_broken (w : World) (gd lb at_ wat werr : Nat) (l : List Nat) (h : Dec w gd lb at_ l wat werr) (he : 0 < werr) :
    Calls Tryd.prog 24 #[.pointer (some ⟨gd, 0, none⟩)] w (LookBad wat werr w) := by
  have HD := Lib.hid h
  have hd : decide (werr ≠ 0) = true := by simp; omega
  clear h
  go_enter Tryd.func24, Tryd.ntmps24
  go_wp2_with (first
    | (go_at_call 17; refine (isBroken_any _ gd lb _ _ _ _ HD.out).mono ?_; rintro e w' ⟨rfl, rfl⟩; rw [hd])
    | (go_at_call 18; refine (wrong_bad _ gd lb _ _ _ _ HD.out he).mono ?_; rintro e w' ⟨pb, rfl, hp⟩; have HP := Lib.hid hp; clear hp))
  go_ret2
  exact ⟨_, rfl, HP.out⟩

set_option maxHeartbeats 400000 in
theorem look_short (w : World) (a0 : Addr) (gd lb at_ : Nat) (l : List Nat) (hG : Glo w a0) (h : Dec w gd lb at_ l 0 0) (hl : l.length < 2) :
    Calls Tryd.prog 24 #[.pointer (some ⟨gd, 0, none⟩)] w (LookWait a0 w) := by
  have HD := Lib.hid h
  obtain ⟨v, hh, hr, hne, hx, hb1, hb2, hb3⟩ := h
  obtain ⟨c0, c1, c2, c3, cf⟩ := cells4 hh
  obtain ⟨a, cap, rfl, _⟩ := hr.bts hx
  have g0 := hG.1
  have hlt : (l.length : Int) < 2 := by omega
  clear hh hr hx hne cf hG
  go_enter Tryd.func24, Tryd.ntmps24
  go_wp2_with (go_at_call 17; refine (isBroken_any _ gd lb _ _ _ _ HD.out).mono ?_; rintro e w' ⟨rfl, rfl⟩)
  go_region
  all_goals (try go_wp2)
  all_goals (go_ret2; exact ⟨rfl, (Below.refl _ _).drew⟩)

/-- what the walks of a head of two bytes and more need -/
structure Head (w : World) (gd lb off cap N : Nat) (l : List Nat) : Prop where
  bl : Bts w (some ⟨lb, off, none⟩) l.length l
  two : Bts w (some ⟨lb, off, none⟩) 2 (l.take 2)
  num : num (l.take 2) = N
  small : N < 65536
  room : l.length ≤ cap

theorem head_of {w : World} {gd lb at_ : Nat} {l : List Nat} (h : Dec w gd lb at_ l 0 0) (hl : 2 ≤ l.length) :
    ∃ off cap, w.heap[gd]? = some (.cells #[.int .i64 (at_ : Int), .slice (some ⟨lb, off, none⟩) l.length cap, .int .i64 0, .int .i64 0] 49 (0, 0)) ∧ Head w gd lb off cap (len l) l := by
  obtain ⟨v, hh, hr, hne, hx, hb1, hb2, hb3⟩ := h
  have hbt := hr.bts hx
  rcases hr with ⟨rfl, rfl⟩ | ⟨off, cap, cur, rfl, hb, h1, h2, h3, h4⟩
  · simp at hl
  · obtain ⟨a, c, e, hbts, _⟩ := hbt
    cases e
    have e2 : l.take 2 = [l.getD 0 0, l.getD 1 0] := by
      match l, hl with
      | x :: y :: r, _ => simp
    have x0 := hx _ (getD_mem l 0 (by omega))
    have x1 := hx _ (getD_mem l 1 (by omega))
    refine ⟨off, cap, hh, hbts, hbts.take 2 hl, ?_, ?_, h1⟩
    · rw [e2]; simp [num, len]
    · unfold len; omega

set_option maxHeartbeats 400000 in
theorem look_badlen (w : World) (gd lb at_ : Nat) (l : List Nat) (h : Dec w gd lb at_ l 0 0) (hl : 2 ≤ l.length) (hn : len l < 1 ∨ 4096 < len l) :
    Calls Tryd.prog 24 #[.pointer (some ⟨gd, 0, none⟩)] w (LookBad at_ 10 w) := by
  have HD := Lib.hid h
  have hat : at_ ≤ 1000000 := by obtain ⟨_, _, _, _, _, h, _⟩ := h; omega
  obtain ⟨off, cap, hh, hd⟩ := head_of h hl
  obtain ⟨c0, c1, c2, c3, cf⟩ := cells4 hh
  generalize hN : len l = N at hd hn
  have hsmall := hd.small
  have hroom := hd.room
  have H := Lib.hid hd
  have hge : ¬ (l.length : Int) < 2 := by omega
  have hcap : (2 : Int) ≤ (cap : Int) := by omega
  have hcap0 : ¬ cap = 0 := by omega
  clear hh cf h hd hN
  go_enter Tryd.func24, Tryd.ntmps24
  go_wp2_with (first
    | (go_at_call 17; refine (isBroken_any _ gd lb _ _ _ _ HD.out).mono ?_; rintro e w' ⟨rfl, rfl⟩)
    | (go_at_call 35; refine (number_any lb off 2 2 (l.take 2) _ H.out.two (by omega)).mono ?_; rintro e w' ⟨r, rfl, hu, rfl⟩; obtain rfl : r = (N : Int) := (hu.eq H.out.num).1; clear hu)
    | (go_at_call 21; refine (may_no _ _ (by omega)).mono ?_; rintro e w' ⟨rfl, rfl⟩))
  go_region
  all_goals (try go_wp2)
  all_goals (go_ret2; exact ⟨_, rfl, heap_alloc_new _ _, Nat.le_refl _, ((Below.refl _ _).drew).alloc (Nat.le_refl _) _⟩)

set_option maxHeartbeats 400000 in
theorem look_more (w : World) (a0 : Addr) (gd lb at_ : Nat) (l : List Nat) (hG : Glo w a0) (h : Dec w gd lb at_ l 0 0) (hl : 2 ≤ l.length) (hn : ¬ (len l < 1 ∨ 4096 < len l)) (hp : l.length < 6 + len l) :
    Calls Tryd.prog 24 #[.pointer (some ⟨gd, 0, none⟩)] w (LookWait a0 w) := by
  have HD := Lib.hid h
  have hat : at_ ≤ 1000000 := by obtain ⟨_, _, _, _, _, h, _⟩ := h; omega
  obtain ⟨off, cap, hh, hd⟩ := head_of h hl
  obtain ⟨c0, c1, c2, c3, cf⟩ := cells4 hh
  generalize hN : len l = N at hd hn hp
  have hsmall := hd.small
  have hroom := hd.room
  have H := Lib.hid hd
  have g0 := hG.1
  have hge : ¬ (l.length : Int) < 2 := by omega
  have hlt : (l.length : Int) < 6 + (N : Int) := by omega
  have hcap : (2 : Int) ≤ (cap : Int) := by omega
  have hcap0 : ¬ cap = 0 := by omega
  clear hh cf h hd hN hG
  go_enter Tryd.func24, Tryd.ntmps24
  go_wp2_with (first
    | (go_at_call 17; refine (isBroken_any _ gd lb _ _ _ _ HD.out).mono ?_; rintro e w' ⟨rfl, rfl⟩)
    | (go_at_call 35; refine (number_any lb off 2 2 (l.take 2) _ H.out.two (by omega)).mono ?_; rintro e w' ⟨r, rfl, hu, rfl⟩; obtain rfl : r = (N : Int) := (hu.eq H.out.num).1; clear hu)
    | (go_at_call 21; refine (may_yes _ _ (by omega) (by omega)).mono ?_; rintro e w' ⟨rfl, rfl⟩)
    | (go_at_call 16; refine (size_any _ _ (by omega) (by omega)).mono ?_; rintro e w' ⟨rfl, rfl⟩))
  go_region
  all_goals (try go_wp2)
  all_goals (go_ret2; exact ⟨rfl, (Below.refl _ _).drew⟩)
end Go.Proofs.YthlmjadknklafaaDoor
