/-
  The walk of frame's Next: an error, nothing yet, or a payload.
-/
import Derived.Test.YthlmjadknklafaaDoorLook2
import Derived.Test.YthlmjadknklafaaDoorErrs2
namespace Go.Proofs.YthlmjadknklafaaDoor
open Go.RowKit CrcM FrM

def AsHit (e : Addr) (tb : Nat) (w : World) (ev : Ending) (w' : World) : Prop :=
  ev = .returned (.bool true) ∧ w'.heap[tb]? = some (.cells #[.pointer (some e)] 53 (0, 0)) ∧ But (fun k => k = tb) w w'
theorem as_hit2 (e : Addr) (tb : Nat) (a0 : Addr) (old : Value) (w : World) (hG : Glo w a0) (h : w.heap[tb]? = some (.cells #[old] 53 (0, 0))) :
    Calls Tryd.prog 20 #[.iface 53 (.pointer (some e)), .iface 56 (.pointer (some ⟨tb, 0, none⟩))] w (AsHit e tb w) := by
  have hlt := lt_of_block h
  refine (as_hit e ⟨tb, 0, none⟩ old w hG.2 (by rw [cell_of_row _ _ _ _ _ _ h]; rfl) (frozen_of_row _ _ _ _ _ h)).mono ?_
  rintro ev w' ⟨rfl, rfl⟩
  have hb : But (fun k => k = tb) w ((((w.alloc (.cells #[.pointer (some ⟨tb, 0, none⟩)] 56)).alloc (.cells #[.pointer (some ⟨2, 56, none⟩), .pointer (some ⟨w.heap.size, 0, none⟩), .int .u64 150] 72)).alloc (.cells #[.pointer (some ⟨2, 56, none⟩), .pointer (some ⟨w.heap.size, 0, none⟩), .int .u64 150] 72)).alloc (.cells #[.pointer (some e)] 53)) :=
    ((((But.refl _ w).alloc _).alloc _).alloc _).alloc _
  refine ⟨rfl, ?_, hb.at_ _⟩
  refine heap_set (cs := #[old]) ?_ _
  rw [Below.heap_alloc _ _ _ (by simp; omega), Below.heap_alloc _ _ _ (by simp; omega), Below.heap_alloc _ _ _ (by simp; omega), Below.heap_alloc _ _ _ hlt]
  exact h
theorem as_miss2 (e t : Addr) (a0 : Addr) (w : World) (hG : Glo w a0) :
    Calls Tryd.prog 20 #[.iface 101 (.pointer (some e)), .iface 56 (.pointer (some t))] w fun ev w' => ev = .returned (.bool false) ∧ Below w.heap.size w w' := by
  refine (as_miss e t w hG.2).mono ?_
  rintro ev w' ⟨rfl, rfl⟩
  exact ⟨rfl, (((Below.refl _ w).alloc (Nat.le_refl _) _).alloc (by simp) _).alloc (by simp; omega) _⟩

theorem cells2 {w : World} {b : Nat} {x y : Value} {t : TypeId} (h : w.heap[b]? = some (.cells #[x, y] t (0, 0))) :
    w.cell? ⟨b, 0, none⟩ = some x ∧ w.cell? ⟨b, 1, none⟩ = some y := by
  constructor <;> rw [cell_of_row _ _ _ _ _ _ h] <;> rfl

theorem keep2 {w1 w2 : World} {o x : Obj} {k : Nat} (hb : But (fun k => k = w1.heap.size) (w1.alloc o) w2) (h : w1.heap[k]? = some x) : w2.heap[k]? = some x :=
  hb.heap ((Below.heap_alloc _ _ _ (lt_of_block h)).trans h) (by have := lt_of_block h; omega)

def NextBad (gd lb at_ wat werr : Nat) (w : World) (e : Ending) (w' : World) : Prop :=
  e = .returned (.tuple #[.slice none 0 0, .bool false, .int .i64 (werr : Int)]) ∧ Dec w' gd lb at_ [] wat werr ∧ But (fun k => k = gd) w w'

set_option maxHeartbeats 1000000 in
theorem next_bad (w : World) (a0 : Addr) (gd lb at_ wat werr ow oe : Nat) (l : List Nat) (hG : Glo w a0) (h : Dec w gd lb at_ l ow oe) (hw : wat ≤ 1000000) (he : werr ≤ 1000)
    (hl : Calls Tryd.prog 24 #[.pointer (some ⟨gd, 0, none⟩)] w (LookBad wat werr w)) :
    Calls Tryd.prog 15 #[.pointer (some ⟨gd, 0, none⟩)] w (NextBad gd lb at_ wat werr w) := by
  have HG := Lib.hid hG
  have HL := Lib.hid hl
  obtain ⟨v, hh, hr, hne, hx, hb1, hb2, hb3⟩ := h
  have H := Lib.hid hh
  have hgd := lt_of_block hh
  have HB := Lib.hid hb1
  clear hG hl hh hr hne hx hb2 hb3 hb1
  go_enter Tryd.func15, Tryd.ntmps15
  go_wp2_with (first
    | (go_at_call 24; refine HL.out.mono ?_; rintro e w1 ⟨pb, rfl, hbrk, hpb, hbel⟩; have HBR := Lib.hid hbrk; have HPB := Lib.hid hpb; have HW := Lib.hid hbel; clear hbrk hpb hbel)
    | (go_at_call 20; refine (as_hit2 _ _ a0 (.pointer none) _ ?_ ?_).mono ?_; (exact (HG.out.below HW.out HG.out.lt).below ((Below.refl _ _).alloc (Nat.le_refl _) _) (by have := HG.out.lt; have := HW.out.size; omega)); (exact heap_alloc_new _ _); rintro e w2 ⟨rfl, htb, hbut⟩; have HTB := Lib.hid htb; have HBU := Lib.hid hbut; have HD2 := Lib.hid (keep2 hbut ((HW.out.block gd hgd).trans H.out)); have t0 := (show w2.cell? ⟨w1.heap.size, 0, none⟩ = some (.pointer (some ⟨pb, 0, none⟩)) from by rw [cell_of_row _ _ _ _ _ _ htb]; rfl); have b2 := cells2 (keep2 hbut HBR.out); have b0 := b2.1; have b1 := b2.2; have d4 := cells4 HD2.out; have d1 := d4.2.1; have d2 := d4.2.2.1; have d3 := d4.2.2.2.1; have e1 := d4.2.2.2.2 1; have e2 := d4.2.2.2.2 2; have e3 := d4.2.2.2.2 3; have hpg : pb ≠ gd := (by have := HPB.out; omega); clear htb hbut b2 d4))
  have hwg : ¬ w1.heap.size = gd := by have := HW.out.size; omega
  go_region
  all_goals (try go_wp2)
  all_goals go_ret3
  refine ⟨rfl, ⟨_, heap_set (heap_set (heap_set HD2.out _) _) _, .inl ⟨rfl, rfl⟩, .inl rfl, by simp, by have := HB.out; simp; omega, hw, he⟩, ?_⟩
  exact ((((((But.of HW.out).alloc _).next HBU.out (fun j hj hjt => by have := HW.out.size; omega)).at_ _).at_ _).at_ _).drew

def NextWait (w : World) (e : Ending) (w' : World) : Prop := e = .returned (.tuple #[.slice none 0 0, .bool false, .int .i64 0]) ∧ Below w.heap.size w w'

set_option maxHeartbeats 1000000 in
theorem next_wait (w : World) (a0 : Addr) (gd : Nat) (hG : Glo w a0) (hl : Calls Tryd.prog 24 #[.pointer (some ⟨gd, 0, none⟩)] w (LookWait a0 w)) :
    Calls Tryd.prog 15 #[.pointer (some ⟨gd, 0, none⟩)] w (NextWait w) := by
  have HG := Lib.hid hG
  have HL := Lib.hid hl
  clear hG hl
  go_enter Tryd.func15, Tryd.ntmps15
  go_wp2_with (first
    | (go_at_call 24; refine HL.out.mono ?_; rintro e w1 ⟨rfl, hbel⟩; have HW := Lib.hid hbel; clear hbel)
    | (go_at_call 20; refine (as_miss2 _ _ a0 _ ?_).mono ?_; (exact (HG.out.below HW.out HG.out.lt).below ((Below.refl _ _).alloc (Nat.le_refl _) _) (by have := HG.out.lt; have := HW.out.size; omega)); rintro e w2 ⟨rfl, hb2⟩; have HB2 := Lib.hid (((Below.refl _ w1).alloc (Nat.le_refl _) _).trans (hb2.mono (by simp))); have g0 := (HG.out.below (HW.out.trans (HB2.out.mono HW.out.size)) HG.out.lt).1; clear hb2)
    | (go_at_call 19; refine (is_same _ _).mono ?_; rintro e w3 ⟨rfl, rfl⟩))
  go_ret3
  exact ⟨rfl, HW.out.trans (HB2.out.mono HW.out.size)⟩

theorem pass_int (w : World) (gd lb at_ k : Nat) (x : Int) (l : List Nat) (hx : x = (k : Int)) (h : Dec w gd lb at_ l 0 0) (hk : k ≤ l.length) (hk0 : 0 < k) :
    Calls Tryd.prog 26 #[.pointer (some ⟨gd, 0, none⟩), .int .i64 x] w (Passed w gd lb (at_ + k) (l.drop k)) := by
  subst hx
  exact pass_any w gd lb at_ k l h hk hk0

def NextGot (gd lb at_ : Nat) (r p : List Nat) (w : World) (e : Ending) (w' : World) : Prop :=
  ∃ v b, e = .returned (.tuple #[v, .bool true, .int .i64 0]) ∧ Row8 w' b v p ∧ w.heap.size ≤ b ∧ Dec w' gd lb at_ r 0 0 ∧ But (fun k => k = gd) w w'

set_option maxHeartbeats 1000000 in
theorem next_got (w : World) (a0 : Addr) (gd lb at_ n : Nat) (l p : List Nat) (hG : Glo w a0) (h : Dec w gd lb at_ l 0 0) (hn : n ≤ 4096) (hp : 6 + n ≤ l.length)
    (hl : Calls Tryd.prog 24 #[.pointer (some ⟨gd, 0, none⟩)] w (LookGot lb n p w)) :
    Calls Tryd.prog 15 #[.pointer (some ⟨gd, 0, none⟩)] w (NextGot gd lb (at_ + (6 + n)) (l.drop (6 + n)) p w) := by
  have HG := Lib.hid hG
  have HL := Lib.hid hl
  have HD := Lib.hid h
  have hgd := h.lt
  clear hG hl h
  go_enter Tryd.func15, Tryd.ntmps15
  go_wp2_with (first
    | (go_at_call 24; refine HL.out.mono ?_; rintro e w1 ⟨off, rfl, hbt, hbel⟩; have HW := Lib.hid hbel; have HB1 := Lib.hid (hbt.below ((Below.refl _ w1).alloc (Nat.le_refl _) (.cells #[.pointer none] 53))); have HW1 := Lib.hid (hbel.alloc hbel.size (.cells #[.pointer none] 53)); have g0 := (HG.out.below HW1.out HG.out.lt).1; clear hbt hbel)
    | (go_at_call 20; refine (as_nil _ _).mono ?_; rintro e w2 ⟨rfl, rfl⟩)
    | (go_at_call 19; refine (is_nil _ _).mono ?_; rintro e w3 ⟨rfl, rfl⟩)
    | (go_at_call 25; refine (clone_any _ _ _ _ p HB1.out (by omega)).mono ?_; rintro e w4 ⟨v, b, rfl, hr, hb, hbel⟩; have HR := Lib.hid hr; have HBB := Lib.hid hb; have HW4 := Lib.hid hbel; clear hr hb hbel)
    | (go_at_call 16; refine (size_any _ _ (by omega) (by omega)).mono ?_; rintro e w' ⟨rfl, rfl⟩)
    | (go_at_call 26; refine (pass_int _ gd lb at_ (6 + n) _ l (by omega) ?_ hp (by omega)).mono ?_; (exact (HD.out.below HW1.out).below HW4.out); rintro e w5 ⟨rfl, hdec, hbut⟩; have HD5 := Lib.hid hdec; have HB5 := Lib.hid hbut; clear hdec hbut))
  go_ret3
  have s1 := HW1.out.size
  have hb := HBB.out
  refine ⟨v, b, rfl, HR.out.but HB5.out (by omega), by omega, HD5.out, ?_⟩
  exact ((But.of HW1.out).next (But.of (S := fun _ => False) HW4.out) (fun _ _ h => h.elim)).next HB5.out (fun _ _ h => h)
end Go.Proofs.YthlmjadknklafaaDoor
