/-
  The walk of the law's known: the chapter's row.
-/
import Derived.Test.YthlmjadknklafaaDoorSame
namespace Go.Proofs.YthlmjadknklafaaDoor
open Go.RowKit CrcM FrM

theorem a_bts (w : World) (t : TypeId) (fr : Nat × Nat) : Bts (w.alloc (.cells #[.int .u8 97] t fr)) (some ⟨w.heap.size, 0, none⟩) 1 [97] := by
  refine ⟨rfl, by decide, by decide, .inr ⟨w.heap.size, 0, rfl, by simp, ?_⟩⟩
  intro i hi
  rw [cell_of_row _ _ _ _ _ _ (heap_alloc_new _ _)]
  match i, hi with
  | 0, _ => rfl
theorem more_a : more 0 [97] = 3904355907 := by decide +kernel
theorem enc_a : enc [97] = [0, 1, 232, 183, 190, 67, 97] := by
  unfold enc; rw [more_a]; rfl
theorem look_a : FrM.look ([] ++ (enc [97] ++ [0, 0])) = .got 1 := by
  rw [enc_a]
  have h := look_got_of (r := [0, 1, 232, 183, 190, 67, 97] ++ [0, 0]) (by decide) (by decide) (by decide) (by
    rw [show (List.take (len ([0, 1, 232, 183, 190, 67, 97] ++ [0, 0])) (List.drop 6 ([0, 1, 232, 183, 190, 67, 97] ++ [0, 0]))) = [97] from by decide, more_a]; decide)
  exact h
theorem drop_a : ([] ++ (enc [97] ++ [0, 0])).drop (6 + 1) = [0, 0] := by rw [enc_a]; rfl
theorem part_a : ((([] ++ (enc [97] ++ [0, 0])) : List Nat).drop 6).take 1 = [97] := by rw [enc_a]; rfl
theorem look_b : FrM.look [0, 0] = .bad 10 := look_len (by decide) (by decide)
theorem Row8.bts2 {w : World} {b : Nat} {a : Option Addr} {k cap : Nat} {l : List Nat} (h : Row8 w b (.slice a k cap) l) (hb : ∀ x ∈ l, x < 256) :
    k = l.length ∧ Bts w a k l ∧ k ≤ cap ∧ ∀ x, a = some x → x.block = b := by
  obtain ⟨a', c', e2, r1, r2, r3, _⟩ := h.bts hb
  cases e2
  exact ⟨rfl, r1, r2, r3⟩
theorem str_a : strOf [97] = ⟨#[97]⟩ := rfl

set_option maxHeartbeats 4000000 in
set_option maxRecDepth 100000 in
theorem known_any (w : World) (a0 : Addr) (hG : Glo w a0) : Calls Tryd.prog 5 #[] w (TellsYes w) := by
  have kc := fun (w : World) (C : Array Value) (n c : Nat) => Lib.run_convert_bytes_const (P := Tryd.prog) w 22 5 C n c Tryd.underlying22 Tryd.underlying5
  have HG := Lib.hid hG
  have HG2 := Lib.hid hG.lt
  clear hG
  go_enter Tryd.func5, Tryd.ntmps5
  go_wp2_with (first
    | (go_at_call 6; refine (new_any _).mono ?_; rintro e w1 ⟨rfl, hd, hbel⟩; have HD1 := Lib.hid hd; have HW1 := Lib.hid hbel; clear hd hbel)
    | (go_at_call 14; refine (renc_any _ _ _ _ [97] (a_bts w1 _ _) (by decide) (by decide)).mono ?_; rintro e w2 ⟨v2, b2, rfl, hr, hb, hbel⟩; have HR2 := Lib.hid hr; have HB2 := Lib.hid (show w1.heap.size < b2 from by simp at hb; omega); have HW2 := Lib.hid (((Below.refl _ w1).alloc (Nat.le_refl _) _).trans (hbel.mono (by simp))); obtain ⟨a2, n2, cap2, hv2⟩ := hr.slice; subst hv2; clear hr hb hbel)
    | (at_builtin; refine wpList_append_row8 rfl _ _ rfl b2 (.slice a2 n2 cap2) (enc [97]) _ 2 2 [0, 0] rfl (HR2.out.below ((Below.refl _ _).alloc (Nat.le_refl _) _) (HR2.out.lt1 (by rw [enc_a]; simp))) rfl (cells2_bts _ 0 0 (by decide) (by decide) 0 0 rfl rfl) (by rw [enc_a]; decide) ?_; intro v3 w3 b3 hr3 hg3 hc3; have HR3 := Lib.hid hr3; have HB3 := Lib.hid (But.next (But.alloc (But.refl (fun k => k = b2) w2) _) (But.grown hg3) (fun k _ hk => HR2.out.own1 hk.symm)); have HC3 := Lib.hid hc3; obtain ⟨a3, n3, cap3, hv3⟩ := hr3.slice; subst hv3; have hbt3 := hr3.bts2 (by rw [enc_a]; decide); have HN3 := Lib.hid hbt3.1; have HBT3 := Lib.hid hbt3.2.1; have HW3 := Lib.hid ((HW1.out.trans (HW2.out.mono HW1.out.size)).trans (HB3.out.below w.heap.size (by have := HW1.out.size; have := HW2.out.size; omega) (fun k hk => by have := HB2.out; have := HW1.out.size; omega))); have HD3 := Lib.hid ((HD1.out.below HW2.out).but HB3.out (by have := HB2.out; have := HD1.out.lt; omega) (by have := HB2.out; have := HD1.out.lt; omega)); clear hr3 hg3 hc3 hbt3)
    | (go_at_call 7; refine (push_good _ w.heap.size w.heap.size 0 [] a3 n3 cap3 (enc [97] ++ [0, 0]) HD3.out HBT3.out (by rw [HN3.out, enc_a]; decide)).mono ?_; rintro e w4 ⟨rfl, lb, hd, hbut, hlb⟩; have HD4 := Lib.hid hd; have HW4 := Lib.hid (HW3.out.trans (hbut.below w.heap.size HW3.out.size (fun k hk => by omega))); clear hd hbut hlb)
    | (go_at_call 15; have hx := HD5; refine (next_of_bad _ a0 w.heap.size lb _ 10 [0, 0] ?_ HD5.out look_b).mono ?_; (exact HG.out.below HW5.out HG2.out); rintro e w6 ⟨rfl, hd, hbut⟩; have HB6 := Lib.hid hbut; have hs := (HR5.out.but hbut (by have := HBB5.out; have := HD4.out.lt; omega)).bts2 (by decide); have hstr := hs.2.1.str cap5; rw [str_a] at hstr; clear hd hbut hs)
    | (go_at_call 15; refine (next_of_got _ a0 w.heap.size lb _ 1 _ ?_ HD4.out look_a).mono ?_; (exact HG.out.below HW4.out HG2.out); rintro e w5 ⟨v5, b5, rfl, hr, hb, hd, hbut⟩; rw [part_a] at hr; rw [drop_a] at hd; have HR5 := Lib.hid hr; have HBB5 := Lib.hid hb; have HD5 := Lib.hid hd; have HW5 := Lib.hid (HW4.out.trans (hbut.below w.heap.size HW4.out.size (fun k hk => by omega))); obtain ⟨a5, n5, cap5, hv5⟩ := hr.slice; subst hv5; clear hr hb hd hbut)
    | (go_at_call 16; refine (size_any _ _ (by decide) (by decide)).mono ?_; rintro e w' ⟨rfl, rfl⟩))
  go_ret
  have hn2 : n2 = 7 := by
    have := (HR2.out.bts2 (by rw [enc_a]; decide)).1
    rw [enc_a] at this
    exact this
  subst hn2
  exact ⟨rfl, HW5.out.trans (HB6.out.below w.heap.size HW5.out.size (fun k hk => by omega))⟩
end Go.Proofs.YthlmjadknklafaaDoor
