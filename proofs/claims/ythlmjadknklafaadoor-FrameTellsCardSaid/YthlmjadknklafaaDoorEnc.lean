/-
  The walks of frame's Encode and of the document's.
-/
import Derived.Test.YthlmjadknklafaaDoorLook2
namespace Go.Proofs.YthlmjadknklafaaDoor
open Go.RowKit CrcM FrM

def TellsEnc (p : List Nat) (w : World) (e : Ending) (w' : World) : Prop :=
  ∃ v b, e = .returned (.tuple #[v, .int .i64 0]) ∧ Row8 w' b v (enc p) ∧ w.heap.size ≤ b ∧ Below w.heap.size w w'

theorem head_row8 (w : World) (len M : Nat) (r : Int) (hr : r = (M : Int)) :
    Row8 (w.alloc (.cells #[.int .u8 ((len : Int) / 256), .int .u8 ((len : Int) % 256), .int .u8 (r / 16777216), .int .u8 (r / 65536 % 256), .int .u8 (r / 256 % 256), .int .u8 (r % 256)] 5)) w.heap.size
      (.slice (some ⟨w.heap.size, 0, none⟩) 6 6) [len / 256, len % 256, M / 16777216, M / 65536 % 256, M / 256 % 256, M % 256] := by
  subst hr
  refine .inr ⟨0, 6, _, rfl, heap_alloc_new _ _, by simp, by decide, by simp, ?_⟩
  intro i hi
  match i, hi with
  | 0, _ | 1, _ | 2, _ | 3, _ | 4, _ | 5, _ => rfl

set_option maxHeartbeats 1000000 in
theorem renc_any (w : World) (a : Option Addr) (len cap : Nat) (p : List Nat) (h : Bts w a len p) (h1 : 1 ≤ len) (h2 : len ≤ 4096) :
    Calls Tryd.prog 14 #[.slice a len cap] w (TellsEnc p w) := by
  have H := Lib.hid h
  clear h
  go_enter Tryd.func14, Tryd.ntmps14
  go_wp2_with (first
    | (go_at_call 23; refine (rsum_any _ _ _ _ _ H.out).mono ?_; rintro e w1 ⟨r, rfl, hu, rfl⟩; have hr0 := hu.lo; have hr1 := hu.hi; have HU := Lib.hid hu; clear hu)
    | (at_builtin; refine wpList_append_row8 rfl _ _ rfl w.heap.size _ _ a len cap p rfl (head_row8 w len (more 0 p) r HU.out.1) rfl (H.out.below ((Below.refl _ _).alloc (Nat.le_refl _) _)) (by simp; omega) ?_; intro v' w2 b' hr2 hg2 hc2; have HR := Lib.hid hr2; have HG := Lib.hid hg2; have HC := Lib.hid hc2; clear hr2 hg2 hc2))
  go_ret2
  refine ⟨v', b', rfl, ?_, ?_, ((Below.refl _ _).alloc (Nat.le_refl _) _).grown HG.out (by simp) (fun k hk => by cases hk; exact Nat.le_refl _)⟩
  · have e : enc p = [len / 256, len % 256, more 0 p / 16777216, more 0 p / 65536 % 256, more 0 p / 256 % 256, more 0 p % 256] ++ p := by
      unfold enc; rw [H.out.1]
    rw [e]
    exact HR.out
  · rcases HC.out with ⟨rfl, _⟩ | ⟨rfl, _⟩
    · exact Nat.le_refl _
    · simp

theorem cells2_bts (w : World) (x y : Nat) (hx : x < 256) (hy : y < 256) (a b : Int) (ha : a = (x : Int)) (hb : b = (y : Int)) :
    Bts (w.alloc (.cells #[.int .u8 a, .int .u8 b] 5)) (some ⟨w.heap.size, 0, none⟩) 2 [x, y] := by
  subst ha; subst hb
  refine ⟨rfl, by simp; omega, by decide, .inr ⟨w.heap.size, 0, rfl, by simp, fun i hi => ?_⟩⟩
  rw [cell_of_row _ _ _ _ _ _ (heap_alloc_new _ _)]
  match i, hi with
  | 0, _ | 1, _ => rfl
theorem cells4_bts (w : World) (x y z u : Nat) (hx : x < 256) (hy : y < 256) (hz : z < 256) (hu : u < 256) (a b c d : Int) (ha : a = (x : Int)) (hb : b = (y : Int)) (hc : c = (z : Int)) (hd : d = (u : Int)) :
    Bts (w.alloc (.cells #[.int .u8 a, .int .u8 b, .int .u8 c, .int .u8 d] 5)) (some ⟨w.heap.size, 0, none⟩) 4 [x, y, z, u] := by
  subst ha; subst hb; subst hc; subst hd
  refine ⟨rfl, by simp; omega, by decide, .inr ⟨w.heap.size, 0, rfl, by simp, fun i hi => ?_⟩⟩
  rw [cell_of_row _ _ _ _ _ _ (heap_alloc_new _ _)]
  match i, hi with
  | 0, _ | 1, _ | 2, _ | 3, _ => rfl

theorem Row8.lt1 {w : World} {b : Nat} {v : Value} {l : List Nat} (h : Row8 w b v l) (hl : l ≠ []) : b < w.heap.size := by
  rcases h with ⟨_, rfl⟩ | ⟨off, cap, cur, rfl, hb, _⟩
  · exact absurd rfl hl
  · exact lt_of_block hb
theorem Row8.own1 {w : World} {b k : Nat} {v : Value} {l : List Nat} (h : Row8 w b v l) (hk : v.ownBlock = some k) : k = b := by
  rcases h with ⟨rfl, _⟩ | ⟨off, cap, cur, rfl, hb, _⟩
  · cases hk
  · cases hk; rfl
/-- an append behind a new block: nothing below B has turned, and the new slice lies from B on -/
theorem grown_row8 {w w2 w3 : World} {o : Obj} {B b b' : Nat} {v v' : Value} {l : List Nat} (hW : Below B w w2) (hB : B ≤ w2.heap.size) (hr : Row8 w2 b v l) (hb : B ≤ b) (hg : (w2.alloc o).grownBy w3 v.ownBlock)
    (hc : (b' = b ∧ (v = .slice none 0 0 → v' = .slice none 0 0)) ∨ (b' = (w2.alloc o).heap.size ∧ b' < w3.heap.size)) : Below B w w3 ∧ B ≤ b' := by
  refine ⟨(hW.alloc hB o).grown hg (by simp; omega) (fun k hk => by rw [hr.own1 hk]; exact hb), ?_⟩
  rcases hc with ⟨rfl, _⟩ | ⟨rfl, _⟩
  · exact hb
  · simp; omega

theorem row8_of_own {w : World} {base g cap : Nat} (h : w.ownsRow base 5 1 (.slice (some ⟨g, 0, none⟩) 0 cap) 0 []) : Row8 w g (.slice (some ⟨g, 0, none⟩) 0 cap) [] := by
  obtain ⟨_, ⟨e, _⟩ | ⟨g', cap', cur, e, _, hg, _, hm, hs, _⟩⟩ := h
  · cases e
  · cases e
    exact .inr ⟨0, cap, cur, rfl, hg, by simp, hm, by omega, by simp⟩

set_option maxRecDepth 100000 in
set_option maxHeartbeats 1000000 in
theorem enc_any (w : World) (a : Option Addr) (len cap : Nat) (p : List Nat) (h : Bts w a len p) (h1 : 1 ≤ len) (h2 : len ≤ 4096) :
    Calls Tryd.prog 13 #[.slice a len cap] w (TellsEnc p w) := by
  have H := Lib.hid h
  obtain ⟨i0, hi, hz0, hz1, hz2⟩ := info_parts info5
  have HI := Lib.hid hi
  have HZ0 := Lib.hid hz0
  have HZ1 := Lib.hid hz1
  have HZ2 := Lib.hid hz2
  clear h hi hz0 hz1 hz2
  go_enter Tryd.func13, Tryd.ntmps13
  go_wp2_with (first
    | (go_at_call 21; refine (may_yes _ _ (by omega) (by omega)).mono ?_; rintro e w' ⟨rfl, rfl⟩)
    | (go_at_call 22; refine (sum_any _ _ _ _ _ H.out).mono ?_; rintro e w1 ⟨r, rfl, hu, hbel⟩; have hr0 := hu.lo; have hr1 := hu.hi; have HU := Lib.hid hu; have HW := Lib.hid hbel; have HM := Lib.hid (show r = ((more 0 p : Nat) : Int) from hu.1); clear hu hbel)
    | (go_at_call 16; refine (size_any _ _ (by omega) (by omega)).mono ?_; rintro e w' ⟨rfl, rfl⟩)
    | (refine wpList_make_own _ rfl _ _ 22 rfl w1.heap.size 5 i0 (.int .u8 0) 1 Tryd.underlying22 HI.out HZ0.out HZ1.out .i64 .i64 _ (6 + len) rfl rfl (by omega) (by rw [HZ2.out]; omega) (by unfold maxLen; omega) (Nat.le_refl _) ?_; intro w2 hown2 hgrow2; have HR0 := Lib.hid (row8_of_own hown2); have HW2 := Lib.hid (HW.out.grown hgrow2 HW.out.size (fun k hk => by cases hk)); have HL0 := Lib.hid (HR0.out.lt.resolve_left (fun e => by cases e)); clear hown2 hgrow2)
    | (at_builtin; have HX := HR2; refine wpList_append_row8 rfl _ _ rfl b2 v2 _ a len cap p rfl HR2.out rfl ?_ ?_ ?_; (exact H.out.below HW4.out.1); (simp; omega); intro v3 w5 b3 hr3 hg3 hc3; have HR3 := Lib.hid hr3; have HG3 := Lib.hid hg3; have HC3 := Lib.hid hc3; clear hr3 hg3 hc3)
    | (at_builtin; have HX := HR1; refine wpList_append_row8 rfl _ _ rfl b1 v1 _ _ 4 4 [more 0 p / 16777216, more 0 p / 65536 % 256, more 0 p / 256 % 256, more 0 p % 256] rfl (HR1.out.below ((Below.refl _ _).alloc (Nat.le_refl _) _) (HR1.out.lt1 (by simp))) rfl ?_ ?_ ?_; (have := HU.out.2; have := HM.out; unfold top at *; exact cells4_bts _ _ _ _ _ (by omega) (by omega) (by omega) (by omega) _ _ _ _ (by rw [HM.out]; rfl) (by rw [HM.out]; rfl) (by rw [HM.out]; rfl) (by rw [HM.out]; rfl)); (simp); intro v2 w4 b2 hr2 hg2 hc2; have HR2 := Lib.hid hr2; have HW4 := Lib.hid (grown_row8 HW3.out.1 HW3.out.1.size HR1.out HW3.out.2 hg2 hc2); clear hr2 hg2 hc2)
    | (at_builtin; refine wpList_append_row8 rfl _ _ rfl w1.heap.size (.slice (some ⟨w1.heap.size, 0, none⟩) 0 (6 + len)) [] _ 2 2 [len / 256, len % 256] rfl (HR0.out.below ((Below.refl _ _).alloc (Nat.le_refl _) _) HL0.out) rfl ?_ ?_ ?_; exact cells2_bts _ _ _ (by omega) (by omega) _ _ rfl rfl; (simp); intro v1 w3 b1 hr1 hg1 hc1; have HR1 := Lib.hid hr1; have HW3 := Lib.hid (grown_row8 HW2.out HW2.out.size HR0.out HW.out.size hg1 hc1); clear hr1 hg1 hc1))
  go_ret2
  have hw4 := HW4.out
  refine ⟨v3, b3, rfl, ?_, ?_, hw4.1.grown HG3.out hw4.1.size (fun k hk => by rw [HR2.out.own1 hk]; exact hw4.2)⟩
  · have e : enc p = [] ++ [len / 256, len % 256] ++ [more 0 p / 16777216, more 0 p / 65536 % 256, more 0 p / 256 % 256, more 0 p % 256] ++ p := by
      unfold enc; rw [H.out.1]; rfl
    rw [e]
    exact HR3.out
  · rcases HC3.out with ⟨rfl, _⟩ | ⟨rfl, _⟩
    · exact hw4.2
    · exact hw4.1.size
end Go.Proofs.YthlmjadknklafaaDoor
