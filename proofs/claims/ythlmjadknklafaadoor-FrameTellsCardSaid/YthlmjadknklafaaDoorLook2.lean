/-
  The walk of frame's look, where a whole frame is there.
-/
import Derived.Test.YthlmjadknklafaaDoorLook
namespace Go.Proofs.YthlmjadknklafaaDoor
open Go.RowKit CrcM FrM

theorem U.inj {r : Int} {n m : Nat} (h : U r n) (k : U r m) : n = m := by
  have := h.1.symm.trans k.1
  exact Int.ofNat.inj this
theorem U.neq {r s : Int} {n m : Nat} (h : U r n) (k : U s m) (hne : n ≠ m) : (r != s) = true := by
  rw [bne_iff_ne]
  intro e
  subst e
  exact hne (h.inj k)
theorem U.neqf {r s : Int} {n m : Nat} (h : U r n) (k : U s m) (he : n = m) : (r != s) = false := by
  rw [h.same (k.eq he.symm)]
  simp
theorem head_four {w : World} {gd lb off cap N : Nat} {l : List Nat} (h : Head w gd lb off cap N l) (hl : 6 + N ≤ l.length) :
    Bts w (some ⟨lb, off + 2, none⟩) 4 ((l.drop 2).take 4) ∧ Bts w (some ⟨lb, off + 6, none⟩) N ((l.drop 6).take N) := by
  have h2 := h.bl.drop 2 (by omega)
  have h6 := h.bl.drop 6 (by omega)
  exact ⟨h2.take 4 (by omega), h6.take N (by omega)⟩

set_option maxHeartbeats 1000000 in
theorem look_badsum (w : World) (gd lb at_ : Nat) (l : List Nat) (h : Dec w gd lb at_ l 0 0) (hn : ¬ (len l < 1 ∨ 4096 < len l)) (hp : 6 + len l ≤ l.length) (hs : num ((l.drop 2).take 4) ≠ more 0 ((l.drop 6).take (len l))) :
    Calls Tryd.prog 24 #[.pointer (some ⟨gd, 0, none⟩)] w (LookBad at_ 11 w) := by
  have HD := Lib.hid h
  have hat : at_ ≤ 1000000 := by obtain ⟨_, _, _, _, _, h, _⟩ := h; omega
  obtain ⟨off, cap, hh, hd⟩ := head_of h (by omega)
  have HH := Lib.hid hh
  obtain ⟨c0, c1, c2, c3, cf⟩ := cells4 hh
  generalize hN : len l = N at hd hn hp hs
  have hsmall := hd.small
  have hroom := hd.room
  have H := Lib.hid hd
  have H4 := Lib.hid (head_four hd hp)
  have HS := Lib.hid hs
  have hN1 : 1 ≤ N := by omega
  have hN2 : N ≤ 4096 := by omega
  clear hh cf h hd hN hs hn
  go_enter Tryd.func24, Tryd.ntmps24
  go_wp2_with (first
    | (go_at_call 17; refine (isBroken_any _ gd lb _ _ _ _ HD.out).mono ?_; rintro e w' ⟨rfl, rfl⟩)
    | (go_at_call_of 35 (Value.slice (some (Addr.mk lb off none)) 2 2); refine (number_any lb off 2 2 (l.take 2) _ H.out.two (by omega)).mono ?_; rintro e w' ⟨r, rfl, hu, rfl⟩; obtain rfl : r = (N : Int) := (hu.eq H.out.num).1; clear hu)
    | (go_at_call 21; refine (may_yes _ _ (by omega) (by omega)).mono ?_; rintro e w' ⟨rfl, rfl⟩)
    | (go_at_call 16; refine (size_any _ _ (by omega) (by omega)).mono ?_; rintro e w' ⟨rfl, rfl⟩)
    | (go_at_call 35; refine (number_any lb (off + 2) 4 4 ((l.drop 2).take 4) _ H4.out.1 (by omega)).mono ?_; rintro e w' ⟨r, rfl, hu, rfl⟩; have HU := Lib.hid hu; clear hu)
    | (go_at_call 22; refine (sum_any _ _ _ ((l.drop 6).take N) _ H4.out.2).mono ?_; rintro e w2 ⟨r2, rfl, hu2, hbel⟩; have hr12 : (r != r2) = true := HU.out.neq hu2 HS.out; have HW := Lib.hid hbel; have hd2 := cells4 ((hbel.block gd (lt_of_block HH.out)).trans HH.out); have d0 := hd2.1; clear hu2 hbel hd2))
  go_region
  all_goals (try go_wp2)
  all_goals (go_ret2; exact ⟨_, rfl, heap_alloc_new _ _, HW.out.size, (HW.out.drew).alloc HW.out.size _⟩)

set_option maxHeartbeats 1000000 in
theorem look_frame (w : World) (gd lb at_ : Nat) (l : List Nat) (h : Dec w gd lb at_ l 0 0) (hn : ¬ (len l < 1 ∨ 4096 < len l)) (hp : 6 + len l ≤ l.length) (hs : num ((l.drop 2).take 4) = more 0 ((l.drop 6).take (len l))) :
    Calls Tryd.prog 24 #[.pointer (some ⟨gd, 0, none⟩)] w (LookGot lb (len l) ((l.drop 6).take (len l)) w) := by
  have HD := Lib.hid h
  have hat : at_ ≤ 1000000 := by obtain ⟨_, _, _, _, _, h, _⟩ := h; omega
  obtain ⟨off, cap, hh, hd⟩ := head_of h (by omega)
  obtain ⟨c0, c1, c2, c3, cf⟩ := cells4 hh
  generalize hN : len l = N at hd hn hp hs
  have hsmall := hd.small
  have hroom := hd.room
  have H := Lib.hid hd
  have H4 := Lib.hid (head_four hd hp)
  have HS := Lib.hid hs
  have hN1 : 1 ≤ N := by omega
  have hN2 : N ≤ 4096 := by omega
  clear hh cf h hd hN hs hn
  go_enter Tryd.func24, Tryd.ntmps24
  go_wp2_with (first
    | (go_at_call 17; refine (isBroken_any _ gd lb _ _ _ _ HD.out).mono ?_; rintro e w' ⟨rfl, rfl⟩)
    | (go_at_call_of 35 (Value.slice (some (Addr.mk lb off none)) 2 2); refine (number_any lb off 2 2 (l.take 2) _ H.out.two (by omega)).mono ?_; rintro e w' ⟨r, rfl, hu, rfl⟩; obtain rfl : r = (N : Int) := (hu.eq H.out.num).1; clear hu)
    | (go_at_call 21; refine (may_yes _ _ (by omega) (by omega)).mono ?_; rintro e w' ⟨rfl, rfl⟩)
    | (go_at_call 16; refine (size_any _ _ (by omega) (by omega)).mono ?_; rintro e w' ⟨rfl, rfl⟩)
    | (go_at_call 35; refine (number_any lb (off + 2) 4 4 ((l.drop 2).take 4) _ H4.out.1 (by omega)).mono ?_; rintro e w' ⟨r, rfl, hu, rfl⟩; have HU := Lib.hid hu; clear hu)
    | (go_at_call 22; refine (sum_any _ _ _ ((l.drop 6).take N) _ H4.out.2).mono ?_; rintro e w2 ⟨r2, rfl, hu2, hbel⟩; have hr12 : (r != r2) = false := HU.out.neqf hu2 HS.out; have HW := Lib.hid hbel; clear hu2 hbel))
  go_ret2
  exact ⟨off + 6, rfl, H4.out.2.below HW.out, HW.out⟩
end Go.Proofs.YthlmjadknklafaaDoor
