/-
  Proved: the law SequenceNil of the sequence layer, a closed sentence, returns true: what is answered of a sequence that is not there (nil, or a zero one): errors, nothing that waits, a floor of -1, nothing gone over, no copy, the same as another one; and the chapter's row of the clock's three steps.
  Conditions: the listed package variable (code's words) holds what the program's text lays; the card ties that.
-/
import Derived.Test.YthhpoihfaggafaaDoorZSqC
import Derived.RangeFuncNested
import Derived.RangeFuncBound
import Derived.RangeFuncCalls
import Derived.RangeFuncLeaves
import Derived.RangeFuncBox
import Derived.OrdersIn
import Derived.Test.YthhpoihfaggafaaDoorVLaid
import Derived.Test.YthhpoihfaggafaaDoorTie
import Derived.Test.YthhpoihfaggafaaDoorCards
import Derived.ProofKit
import Derived.OpenShut
import Derived.ChangeOld
import Derived.Below
import Derived.SevenTiedAt
namespace Go.Proofs.YthhpoihfaggafaaDoor
open Go Go.RowKit Go.Sort Go.Proofs CodM VmM

def ckP : Prg := ⟨0, [[(1, 0), (1, 10), (1, 1), (15, 0)]]⟩
def ckM : Mo := ⟨[⟨ckP, [], 0⟩], [⟨0, 0, 0, 1, 0, 0⟩]⟩
abbrev ckI : Obj := .cells #[.int .i64 1, .int .i64 0, .int .i64 1, .int .i64 10, .int .i64 1, .int .i64 1, .int .i64 15, .int .i64 0] 66
theorem ck_prog {W : World} {b0 b1 : Nat} (h0 : W.heap[b0]? = some ckI) (h1 : W.heap[b1]? = some (.cells #[.slice (some ⟨b0, 0, none⟩) 4 4] 67 (0, 0))) : ProgAt W (some ⟨b1, 0, none⟩) 1 ckP := by
  refine ⟨by unfold I64 ckP; decide, rfl, by decide, .inr ⟨b1, 0, rfl, heap_lt h1, fun i hi => ?_⟩⟩
  obtain rfl : i = 0 := by omega
  refine ⟨some ⟨b0, 0, none⟩, 4, 4, by rw [cell_of_row _ _ _ _ _ _ h1]; rfl, ⟨by decide, fun e => by cases e⟩, rfl, ?_, by decide, .inr ⟨b0, 0, rfl, heap_lt h0, fun j hj => ?_⟩⟩
  · intro x hx
    have hx' : x ∈ [((1 : Int), (0 : Int)), (1, 10), (1, 1), (15, 0)] := hx
    simp only [List.mem_cons, List.not_mem_nil, or_false] at hx'
    rcases hx' with rfl | rfl | rfl | rfl <;> (unfold I64; decide)
  · rcases (show j = 0 ∨ j = 1 ∨ j = 2 ∨ j = 3 by omega) with rfl | rfl | rfl | rfl <;> (constructor <;> (rw [cell_of_row _ _ _ _ _ _ h0]; rfl))
def ClockTo (w : World) (e : Ending) (w' : World) : Prop := ∃ P E, e = .returned (.agg #[.slice (some ⟨P, 0, none⟩) 1 1, .slice (some ⟨E, 0, none⟩) 1 1]) ∧ MoAt w' ckM (some ⟨P, 0, none⟩) 1 (some ⟨E, 0, none⟩) 1 ∧ Below w.heap.size w w'
theorem szM : (Tryd.prog.info? 27).map (·.size) = some 2 := by kernel_rfl
set_option maxHeartbeats 4000000 in
set_option maxRecDepth 100000 in
theorem clock_any (w : World) : Calls Tryd.prog 48 #[] w (ClockTo w) := by
  go_enter Tryd.func48, Tryd.ntmps48
  go_wp2_with fail
  obtain ⟨g, hg⟩ : ∃ g, g = w.heap.size := ⟨_, rfl⟩
  rw [← hg]
  obtain ⟨w1, hw1⟩ : ∃ w1, w1 = w.alloc (.cells #[.slice (some ⟨g + 1 + 1 + 1, 0, none⟩) 1 1, .slice (some ⟨g + 1 + 1 + 1 + 1, 0, none⟩) 1 1] 27) := ⟨_, rfl⟩
  rw [← hw1]
  obtain ⟨w2, hw2⟩ : ∃ w2, w2 = w1.alloc ckI := ⟨_, rfl⟩
  rw [← hw2]
  obtain ⟨w3, hw3⟩ : ∃ w3, w3 = w2.alloc (.cells #[.slice (some ⟨g + 1, 0, none⟩) 4 4] 67) := ⟨_, rfl⟩
  rw [← hw3]
  obtain ⟨w4, hw4⟩ : ∃ w4, w4 = w3.alloc (.cells #[.int .i64 0, .slice (some ⟨g + 1 + 1, 0, none⟩) 1 1, .slice none 0 0, .int .i64 0] 72) := ⟨_, rfl⟩
  rw [← hw4]
  obtain ⟨w5, hw5⟩ : ∃ w5, w5 = w4.alloc (.cells #[.int .i64 0, .int .i64 0, .int .i64 0, .int .i64 1, .int .i64 0, .int .i64 0] 45) := ⟨_, rfl⟩
  rw [← hw5]
  have z1 : w1.heap.size = g + 1 := by rw [hw1, hg]; simp
  have z2 : w2.heap.size = g + 1 + 1 := by rw [hw2, ← z1]; simp
  have z3 : w3.heap.size = g + 1 + 1 + 1 := by rw [hw3, ← z2]; simp
  have z4 : w4.heap.size = g + 1 + 1 + 1 + 1 := by rw [hw4, ← z3]; simp
  have b1 : Below w.heap.size w w1 := by rw [hw1]; exact (Below.refl _ _).alloc (Nat.le_refl _) _
  have b2 : Below w1.heap.size w1 w2 := by rw [hw2]; exact (Below.refl _ _).alloc (Nat.le_refl _) _
  have b3 : Below w2.heap.size w2 w3 := by rw [hw3]; exact (Below.refl _ _).alloc (Nat.le_refl _) _
  have b4 : Below w3.heap.size w3 w4 := by rw [hw4]; exact (Below.refl _ _).alloc (Nat.le_refl _) _
  have b5 : Below w4.heap.size w4 w5 := by rw [hw5]; exact (Below.refl _ _).alloc (Nat.le_refl _) _
  have b35 := b4.trans (b5.mono b4.size)
  have b25 := b3.trans (b35.mono b3.size)
  have b15 := b2.trans (b25.mono b2.size)
  have b05 := b1.trans (b15.mono b1.size)
  have x0 : w5.heap[g]? = some (.cells #[.slice (some ⟨g + 1 + 1 + 1, 0, none⟩) 1 1, .slice (some ⟨g + 1 + 1 + 1 + 1, 0, none⟩) 1 1] 27 (0, 0)) := by
    rw [b15.block g (by omega), hw1, hg]
    exact heap_alloc_new _ _
  have x1 : w5.heap[g + 1]? = some ckI := by
    rw [b25.block (g + 1) (by omega), hw2, ← z1]
    exact heap_alloc_new _ _
  have x2 : w5.heap[g + 1 + 1]? = some (.cells #[.slice (some ⟨g + 1, 0, none⟩) 4 4] 67 (0, 0)) := by
    rw [b35.block (g + 1 + 1) (by omega), hw3, ← z2]
    exact heap_alloc_new _ _
  have x3 : w5.heap[g + 1 + 1 + 1]? = some (.cells #[.int .i64 0, .slice (some ⟨g + 1 + 1, 0, none⟩) 1 1, .slice none 0 0, .int .i64 0] 72 (0, 0)) := by
    rw [b5.block (g + 1 + 1 + 1) (by omega), hw4, ← z3]
    exact heap_alloc_new _ _
  have x4 : w5.heap[g + 1 + 1 + 1 + 1]? = some (.cells #[.int .i64 0, .int .i64 0, .int .i64 0, .int .i64 1, .int .i64 0, .int .i64 0] 45 (0, 0)) := by
    rw [hw5, ← z4]
    exact heap_alloc_new _ _
  refine ⟨rfl, _, results_cell1 rfl _ _ g 27 _ (0, 0) _ rfl x0 Tryd.underlying27 rfl szM, g + 1 + 1 + 1, g + 1 + 1 + 1 + 1, rfl, ⟨⟨rfl, .inr ⟨_, 0, rfl, heap_lt x3, fun i hi => ?_⟩⟩, ⟨rfl, by decide, .inr ⟨_, 0, rfl, heap_lt x4, fun i hi => ?_⟩⟩, by decide, fun x hx => ?_⟩, b05⟩
  · have : i = 0 := by simp [ckM] at hi; omega
    subst this
    refine ⟨some ⟨g + 1 + 1, 0, none⟩, 1, 1, none, 0, by rw [cell_of_row _ _ _ _ _ _ x3]; rfl, by rw [cell_of_row _ _ _ _ _ _ x3]; rfl, by rw [cell_of_row _ _ _ _ _ _ x3]; rfl, by rw [cell_of_row _ _ _ _ _ _ x3]; rfl, ck_prog x1 x2, ⟨by decide, fun e => by cases e⟩, fun _ => Cod.At.nil _, fun _ => rfl⟩
  · have : i = 0 := by simp [ckM] at hi; omega
    subst this
    exact Cod.Cell.box (C := CEv) (T := 45) (m := (0, 0)) x4
  · have hx' : x ∈ [(⟨ckP, [], 0⟩ : Pm)] := hx
    rw [List.mem_singleton.1 hx']
    decide
end Go.Proofs.YthhpoihfaggafaaDoor
namespace Go.Proofs.YthhpoihfaggafaaDoor
open Go Go.RowKit Go.Sort Go.Proofs CodM VmM

def ckO (k : Nat) : Int := if k = 0 then 0 else 1
def ckS (k : Nat) : Int := if k = 0 then 0 else (k : Int) - 1
def ckE (k : Nat) : Ev := ⟨10 * (k : Int), ckO k, ckS k, 1, 0, 0⟩
def ckQ (k : Nat) : Sq := ⟨ckM, [⟨[], k, 0⟩], [ckE k], [], if k = 0 then -1 else 10 * ((k : Int) - 1), k⟩
theorem ck_new : newQ ckM = ckQ 0 := by kernel_rfl
theorem ck_may : mayMo ckM = true := by decide +kernel
theorem ck_step : ∀ k, k < 3 → stepQ (ckQ k) (ckE k) [] = ckQ (k + 1) ∧ (runOf (ckQ k) (ckE k)).tells = [] := by
  intro k hk
  rcases (show k = 0 ∨ k = 1 ∨ k = 2 by omega) with rfl | rfl | rfl
  · exact ⟨by kernel_rfl, by kernel_rfl⟩
  · exact ⟨by kernel_rfl, by kernel_rfl⟩
  · exact ⟨by kernel_rfl, by kernel_rfl⟩
/-- the clock, so many steps on -/
def CkAt (w : World) (G k : Nat) (W : World) : Prop := (∃ F Z, SqAt (64 + 8 * k) W G F Z (ckQ k) ∧ ∀ b, F b → w.heap.size ≤ b) ∧ Below w.heap.size w W
theorem ck_go {w W : World} {G k : Nat} (h : CkAt w G k W) (hk : k < 3) : Calls Tryd.prog 10 #[ptr G] W (fun e w' => ∃ a c, e = .returned (.tuple #[evW (ckE k), .slice a 0 c, .int .i64 0]) ∧ CkAt w G (k + 1) w') := by
  obtain ⟨⟨F, Z, h1, h2⟩, h3⟩ := h
  refine (step_any h1 (by omega) (x := ckE k) (r := []) rfl).mono fun e w' ⟨tv, he, ho, _, F', k1, k2, _, k4⟩ => ?_
  obtain ⟨s1, s2⟩ := ck_step k hk
  rw [s1] at k1
  rw [s2] at ho
  obtain ⟨a, n, c, rfl⟩ := ho.shape
  have hn := ho.sl
  subst hn
  exact ⟨a, c, he, ⟨F', Z, k1, fun b e => (k2 b e).elim (h2 b) fun e => Nat.le_trans h3.size e⟩, h3.trans (k4.below h3.size h2)⟩
set_option maxHeartbeats 4000000 in
set_option maxRecDepth 100000 in
theorem known13_any (w : World) (hW : Wds w) : Calls Tryd.prog 20 #[] w (Tells (.bool true) w) := by
  have HNEW : Hid (∀ W (P E : Nat), Below w.heap.size w W → MoAt W ckM (some ⟨P, 0, none⟩) 1 (some ⟨E, 0, none⟩) 1 → Calls Tryd.prog 47 #[.agg #[.slice (some ⟨P, 0, none⟩) 1 1, .slice (some ⟨E, 0, none⟩) 1 1]] W (fun e w' => ∃ G, e = .returned (.tuple #[ptr G, .int .i64 0]) ∧ CkAt w G 0 w')) := Lib.hid fun W P E hb hm => by
    refine (new_may (wds_keep hW hb) hm ck_may (fun e => by cases e) (fun e => by cases e)).mono fun e w' ⟨G, F, Z, he, h1, h2, _, h4⟩ => ?_
    rw [ck_new] at h1
    exact ⟨G, he, ⟨F, Z, h1, fun b e => Nat.le_trans hb.size (h2 b e)⟩, hb.trans (h4.mono hb.size)⟩
  clear hW
  go_enter Tryd.func20, Tryd.ntmps20
  go_wp2_with (first
    | (go_at_call 48; refine (clock_any _).mono ?_; rintro e w1 ⟨P, E, rfl, hm1, hb1⟩; have H1 := Lib.hid (And.intro hm1 hb1); clear hm1 hb1)
    | (go_at_call 47; refine (HNEW.out w1 P E H1.out.2 H1.out.1).mono ?_; rintro e w2 ⟨G, rfl, h2⟩; have H2 := Lib.hid h2; clear h2))
  go_loopg [3] 3 (fun kx s3 wr => ∃ k : Nat, s3 = .int .i64 k ∧ k ≤ 3 ∧ 3 - k ≤ kx ∧ Aside (CkAt w G k wr))
  case atStart => exact ⟨0, by go_num, Nat.zero_le _, Nat.le_refl _, H2.out⟩
  case round =>
    obtain ⟨k, rfl, hkn, hkx, A⟩ := hrel
    by_cases hlt : k < 3
    · have HST := Lib.hid (ck_go A.out hlt)
      have hx : evW (ckE k) = .agg #[.int .i64 (10 * (k : Int)), .int .i64 (ckO k), .int .i64 (ckS k), .int .i64 1, .int .i64 0, .int .i64 0] := rfl
      rw [hx] at HST
      have hwk : IntKind.i64.wrap (10 * (k : Int)) = 10 * (k : Int) := by rw [IntKind.wrap_i64]; omega
      have hfl : (ckQ (k + 1)).floor = 10 * (k : Int) := by
        show (if k + 1 = 0 then (-1 : Int) else 10 * (((k + 1 : Nat) : Int) - 1)) = _
        rw [if_neg (by omega)]
        omega
      have HFL : Hid (∀ W W', CkAt w G (k + 1) W → Below W.heap.size W W' → Calls Tryd.prog 15 #[ptr G] W' (Tells (.int .i64 (10 * (k : Int))) W')) := Lib.hid fun W W' ⟨⟨F, Z, h1, _⟩, _⟩ hb => hfl ▸ Floor_any (h1.below hb)
      clear A hx hfl
      go_wp2_with (first
        | (go_at_call 10; refine HST.out.mono ?_; rintro e w4 ⟨a4, c4, rfl, h4⟩; have H4 := Lib.hid h4; clear h4)
        | (go_at_call 15; refine (HFL.out _ _ H4.out ((Below.refl _ _).alloc (Nat.le_refl _) _)).mono ?_; rintro e w5 ⟨rfl, h5⟩; have H5 := Lib.hid (((Below.refl w4.heap.size w4).alloc (Nat.le_refl _) _).trans (h5.mono (by simp))); clear h5))
      go_roundg (3 - (k + 1))
      case measure => omega
      case rel =>
        refine ⟨k + 1, by go_num, by omega, Nat.le_refl _, ?_⟩
        obtain ⟨⟨F, Z, h1, h2⟩, h3⟩ := H4.out
        exact ⟨⟨F, Z, h1.below H5.out, h2⟩, h3.trans (H5.out.mono h3.size)⟩
    · obtain rfl : k = 3 := by omega
      have HD : Hid (∀ W W', CkAt w G 3 W → Below W.heap.size W W' → Calls Tryd.prog 16 #[ptr G] W' (Tells (.int .i64 3) W')) := Lib.hid fun W W' ⟨⟨F, Z, h1, _⟩, _⟩ hb => Done_any (h1.below hb)
      have HWT : Hid (∀ W W', CkAt w G 3 W → Below W.heap.size W W' → Calls Tryd.prog 17 #[ptr G] W' (Tells (.int .i64 1) W')) := Lib.hid fun W W' ⟨⟨F, Z, h1, _⟩, _⟩ hb => Waits_any (h1.below hb)
      have HA := Lib.hid A.out
      clear A
      go_wp2_with (first
        | (go_at_call 16; refine (HD.out _ _ HA.out (Below.refl _ _)).mono ?_; rintro e w6 ⟨rfl, h6⟩; have H6 := Lib.hid h6; clear h6)
        | (go_at_call 17; refine (HWT.out _ _ HA.out H6.out).mono ?_; rintro e w7 ⟨rfl, h7⟩; have H7 := Lib.hid (H6.out.trans (h7.mono H6.out.size)); clear h7))
      go_ret
      exact ⟨rfl, HA.out.2.trans (H7.out.mono HA.out.2.size)⟩
end Go.Proofs.YthhpoihfaggafaaDoor
namespace Go.Proofs.YthhpoihfaggafaaDoor
open Go Go.RowKit Go.Sort Go.Proofs CodM VmM

/-- it is none, wherever one asks -/
abbrev NoneAt (p : Value) (w : World) : Prop := ∀ W, Below w.heap.size w W → Calls Tryd.prog 32 #[p] W (SameB true W)
theorem none_nil (w : World) : NoneAt (.pointer none) w := fun W _ => isNone_nil W
theorem none_zero {w : World} {G : Nat} (hc : w.cell? ⟨G, 2, none⟩ = some (.slice none 0 0)) : NoneAt (ptr G) w := fun W hb => isNone_box W G none 0 0 true (keepc hb hc) rfl
def StepNo (w : World) (e : Ending) (w' : World) : Prop := e = .returned (.tuple #[evW evZ, .slice none 0 0, .int .i64 1]) ∧ Below w.heap.size w w'
set_option maxHeartbeats 2000000 in
theorem Step_no (w : World) (p : Value) (h : Hid (NoneAt p w)) : Calls Tryd.prog 10 #[p] w (StepNo w) := by
  have hb0 : Below w.heap.size w (w.alloc (evO evZ)) := (Below.refl _ _).alloc (Nat.le_refl _) _
  have hx0 : (w.alloc (evO evZ)).heap[w.heap.size]? = some (evO evZ) := heap_alloc_new _ _
  have H0 := Lib.hid (And.intro hb0 hx0)
  clear hb0 hx0
  go_enter Tryd.func10, Tryd.ntmps10
  go_wp2_with (first
    | (go_at_call 32; refine (h.out _ H0.out.1).mono ?_; rintro e w1 ⟨rfl, rfl⟩)
    | (show wpList _ _ _ (Oper.mk _ (.store _ (.tmp 2) (.tmp 14)) _ _ _ _ :: _) _ _; refine wpList_store_row rfl 45 (.tmp 2) (.tmp 14) rfl w.heap.size _ rfl rfl 45 _ H0.out.2 szE rfl (by simp [Value.oneCell']) ?_))
  refine ⟨rfl, _, results_three rfl _ _ w.heap.size 45 _ (0, 0) _ rfl (setRow_heap _ _ _ _ _ _ H0.out.2) Tryd.underlying45 rfl szE, rfl, H0.out.1.trans (setRow_b (Nat.le_refl _) _)⟩
def StateNo (w : World) (e : Ending) (w' : World) : Prop := e = .returned (.tuple #[.agg stZ, .int .i64 1]) ∧ Below w.heap.size w w'
set_option maxHeartbeats 2000000 in
theorem State_no (w : World) (p : Value) (i : Int) (h : Hid (NoneAt p w)) : Calls Tryd.prog 11 #[p, .int .i64 i] w (StateNo w) := by
  have hb0 : Below w.heap.size w (w.alloc (.cells stZ stT)) := (Below.refl _ _).alloc (Nat.le_refl _) _
  have hx0 : (w.alloc (.cells stZ stT)).heap[w.heap.size]? = some (.cells stZ stT (0, 0)) := heap_alloc_new _ _
  have H0 := Lib.hid (And.intro hb0 hx0)
  clear hb0 hx0
  go_enter Tryd.func11, Tryd.ntmps11
  go_wp2_with (first
    | (go_at_call 32; refine (h.out _ H0.out.1).mono ?_; rintro e w1 ⟨rfl, rfl⟩)
    | (show wpList _ _ _ (Oper.mk _ (.store _ (.tmp 4) (.tmp 9)) _ _ _ _ :: _) _ _; refine wpList_store_row rfl stT (.tmp 4) (.tmp 9) rfl w.heap.size _ rfl rfl stT _ H0.out.2 szS rfl (by simp [Value.oneCell']) ?_))
  refine ⟨rfl, _, results_two rfl _ _ w.heap.size stT _ (0, 0) _ rfl (setRow_heap _ _ _ _ _ _ H0.out.2) Tryd.underlying51 rfl szS, rfl, H0.out.1.trans (setRow_b (Nat.le_refl _) _)⟩
theorem Put_no (w : World) (p : Value) (x : Ev) (h : Hid (NoneAt p w)) : Calls Tryd.prog 14 #[p, evW x] w (Tells (.int .i64 1) w) := by
  have H0 := Lib.hid (show Below w.heap.size w (w.alloc (evO x)) from (Below.refl _ _).alloc (Nat.le_refl _) _)
  go_enter Tryd.func14, Tryd.ntmps14
  go_wp2_with (go_at_call 32; refine (h.out _ H0.out).mono ?_; rintro e w1 ⟨rfl, rfl⟩)
  go_ret
  exact ⟨rfl, H0.out⟩
theorem Copy_no (w : World) (p : Value) (h : Hid (NoneAt p w)) : Calls Tryd.prog 18 #[p] w (fun e w' => e = .returned (.pointer none) ∧ w = w') := by
  go_enter Tryd.func18, Tryd.ntmps18
  go_wp2_with (go_at_call 32; refine (h.out _ (Below.refl _ _)).mono ?_; rintro e w1 ⟨rfl, rfl⟩)
  go_ret
  exact ⟨rfl, rfl⟩
theorem Waits_no (w : World) : Calls Tryd.prog 17 #[.pointer none] w (fun e w' => e = .returned (.int .i64 0) ∧ w = w') := by
  go_enter Tryd.func17, Tryd.ntmps17
  go_wp2_with (go_at_call 32; refine (isNone_nil _).mono ?_; rintro e w1 ⟨rfl, rfl⟩)
  go_ret
  exact ⟨rfl, rfl⟩
theorem Same_no (w : World) (p o : Value) (h : Hid (NoneAt p w)) (k : Hid (NoneAt o w)) : Calls Tryd.prog 19 #[p, o] w (Tells (.bool true) w) := by
  go_enter Tryd.func19, Tryd.ntmps19
  go_wp2_with (first
    | (go_at_call 32; (with_reducible refine (h.out _ (Below.refl _ _)).mono ?_); rintro e w1 ⟨rfl, rfl⟩)
    | (go_at_call 32; (with_reducible refine (k.out _ (Below.refl _ _)).mono ?_); rintro e w1 ⟨rfl, rfl⟩))
  go_ret
  exact ⟨rfl, Below.refl _ _⟩
abbrev spT : TypeId := 36
/-- a closure over none -/
def AllNo (w : World) (e : Ending) (w' : World) : Prop := ∃ S0, e = .returned (.func (.func 36) #[] #[.pointer (some ⟨S0, 0, none⟩)]) ∧ w'.heap[S0]? = some (.cells #[.pointer none] spT (0, 0)) ∧ Below w.heap.size w w'
theorem All_no (w : World) (p : Value) (h : Hid (NoneAt p w)) : Calls Tryd.prog 13 #[p] w (AllNo w) := by
  have HC := Lib.hid (Copy_no w p h)
  go_enter Tryd.func13, Tryd.ntmps13
  go_wp2_with (go_at_call 18; refine HC.out.mono ?_; rintro e w1 ⟨rfl, rfl⟩)
  go_ret
  exact ⟨w.heap.size, rfl, heap_alloc_new _ _, (Below.refl _ _).alloc (Nat.le_refl _) _⟩
theorem All1_no (w : World) (y : Value) (S0 : Nat) (h : w.heap[S0]? = some (.cells #[.pointer none] spT (0, 0))) : Calls Tryd.prog 36 #[y, .pointer (some ⟨S0, 0, none⟩)] w (fun e w' => e = .returned (.tuple #[]) ∧ w = w') := by
  have c0 : w.cell? ⟨S0, 0, none⟩ = some (.pointer none) := by rw [cell_of_row _ _ _ _ _ _ h]; rfl
  have HC := Lib.hid (Copy_no w (.pointer none) (Lib.hid (none_nil w)))
  go_enter Tryd.func36, Tryd.ntmps36
  go_wp2_with (go_at_call 18; refine HC.out.mono ?_; rintro e w1 ⟨rfl, rfl⟩)
  go_loopg [9] 0 (fun kx s9 wr => wr = w)
  case atStart => rfl
  case round =>
    obtain rfl := hrel
    go_wp2_with (go_at_call 17; refine (Waits_no _).mono ?_; rintro e w1 ⟨rfl, rfl⟩)
    go_end0
    exact ⟨rfl, rfl⟩
end Go.Proofs.YthhpoihfaggafaaDoor
namespace Go.Proofs.YthhpoihfaggafaaDoor
open Go Go.RowKit Go.Sort Go.Proofs CodM VmM

attribute [local go_sem] Oper.semAt_some
theorem tmps_nm {F : Fence} {n : Nat} {P : Program} {c : Code} {Q : Exit → Act → World → Prop} {tm : Array Value} {df : List Deferred} {w : World} (h : ∀ t, t = tm → c.wpIn F n P Q { tmps := t, defers := df } w) : c.wpIn F n P Q { tmps := tm, defers := df } w := h tm rfl
set_option maxRecDepth 100000 in
theorem fn_nil2 (c : Fn) (a b : Array Value) (w : World) : (binOp .eql 57 (.func c a b) .nilFunc).run Tryd.prog w = .ok (.bool false) w := by
  have h : (Op.equalIn (9999 + 1) 57 (.func c a b) .nilFunc).run Tryd.prog w = .ok false w := by
    rw [Op.equalIn]
    simp [go_sem]
  unfold binOp Op.equal
  simp only [show Op.maxDepth = 9999 + 1 from rfl]
  simp only [Sem.run_bind, h, Result.andThen_ok, Sem.run_pure]
abbrev sqZ : Array Value := #[.slice none 0 0, .slice none 0 0, .slice none 0 0, .slice none 0 0, .slice none 0 0, .map none, .int .i64 0, .int .i64 0]
/-- the two boxes of the law: its answer, a zero sequence -/
structure NW (w : World) (W : World) : Prop where
  bel : Below w.heap.size w W
  ans : W.heap[w.heap.size]? = some (.cells #[.bool false] 4 (0, 0))
  zer : W.heap[w.heap.size + 1]? = some (.cells sqZ qT (0, 0))
theorem NW.next {w W W' : World} (h : NW w W) (hb : Below W.heap.size W W') : NW w W' := ⟨h.bel.trans (hb.mono h.bel.size), (hb.block _ (heap_lt h.ans)).trans h.ans, (hb.block _ (heap_lt h.zer)).trans h.zer⟩
theorem NW.alloc {w W : World} (h : NW w W) (o : Obj) : NW w (W.alloc o) := h.next ((Below.refl _ _).alloc (Nat.le_refl _) o)
theorem NW.zc {w W : World} (h : NW w W) : W.cell? ⟨w.heap.size + 1, 2, none⟩ = some (.slice none 0 0) := by rw [cell_of_row _ _ _ _ _ _ h.zer]; rfl
theorem NW.start (w : World) : NW w ((w.alloc (.cells #[.bool false] 4)).alloc (.cells sqZ qT)) := by
  have z : (w.alloc (.cells #[.bool false] 4)).heap.size = w.heap.size + 1 := by simp
  exact ⟨((Below.refl _ _).alloc (Nat.le_refl _) _).alloc (by simp) _, by rw [heap_alloc_old _ _ (by simp), heap_alloc_new], by rw [← z, heap_alloc_new]⟩
/-- and the list of what is deferred -/
def ND (w : World) (D : Nat) (W : World) : Prop := NW w W ∧ W.heap[D]? = some (.deferred (some [])) ∧ w.heap.size + 1 < D
theorem ND.next {w W W' : World} {D : Nat} (h : ND w D W) (hb : Below W.heap.size W W') : ND w D W' := ⟨h.1.next hb, (hb.block _ (heap_lt h.2.1)).trans h.2.1, h.2.2⟩
set_option maxHeartbeats 8000000 in
set_option maxRecDepth 100000 in
theorem nil_law (w : World) (hW : Wds w) : Calls Tryd.prog 4 #[] w (Tells (.bool true) w) := by
  have mixed : Tryd.prog.follows .mixedOrders = true := by kernel_rfl
  have hfn := fn_nil2
  have H0 := Lib.hid (NW.start w)
  have HK : Hid (∀ W, Below w.heap.size w W → Calls Tryd.prog 20 #[] W (Tells (.bool true) W)) := Lib.hid fun W hb => known13_any W (wds_keep hW hb)
  clear hW
  refine (callsIn_wide (n := 6)).1 ?_
  refine callsIn_of_wp_marks Tryd.func4 rfl trivial ?_ rfl
  refine wpIn_wide.2 ?_
  simp only [Tryd.ntmps4, List.size_toArray, List.length_nil, Nat.reduceSub, Array.replicate_succ, Array.replicate_zero, List.push_toArray, List.append_toArray, List.nil_append, List.cons_append]
  go_wp2_with (first
    | (go_at_call 13; refine (All_no _ (.pointer none) (Lib.hid (none_nil _))).mono ?_; rintro e w8 ⟨S8, rfl, s8, h8⟩; have H8 := Lib.hid (And.intro (H7.out.next h8) s8); clear h8 s8)
    | (go_at_call 13; refine (All_no _ (.pointer none) (Lib.hid (none_nil _))).mono ?_; rintro e w7 ⟨S7, rfl, s7, h7⟩; have H7 := Lib.hid ((H6.out.alloc _).next h7); clear h7 s7)
    | (go_at_call 12; refine (Next_nil _).mono ?_; rintro e w6 ⟨rfl, h6⟩; have H6 := Lib.hid ((H5.out.alloc _).next h6); clear h6)
    | (go_at_call 11; refine (State_no _ (.pointer none) 1 (Lib.hid (none_nil _))).mono ?_; rintro e w5 ⟨rfl, h5⟩; have H5 := Lib.hid ((H4.out.alloc _).next h5); clear h5)
    | (go_at_call 10; refine (Step_no _ (ptr (w.heap.size + 1)) (Lib.hid (none_zero (H3.out.alloc _).zc))).mono ?_; rintro e w4 ⟨rfl, h4⟩; have H4 := Lib.hid ((H3.out.alloc _).next h4); clear h4)
    | (go_at_call 10; refine (Step_no _ (.pointer none) (Lib.hid (none_nil _))).mono ?_; rintro e w3 ⟨rfl, h3⟩; have H3 := Lib.hid (H0.out.next h3); clear h3))
  refine (wpIn_wide (n := 6)).1 ?_
  refine tmps_nm fun tm htm => ?_
  have hS := H8.out.2
  refine wpIn_rangeFunc_ownH (α := Empty) rfl (by decide) (gf := 36) (lb := #[.pointer (some ⟨S8, 0, none⟩)]) (by rw [htm]; rfl) trivial (enters_of Tryd.func36 (by kernel_rfl) rfl)
    (encs := fun x => nomatch x) (Kp := fun _ _ => True) (S := fun _ => True) (Sp := fun _ => False) (N := 0) (w0 := w8)
    (fun l J Jx V hV hJ _ hY h0 => callsIn_wide.2 ((All1_no V (.func (.yield l) #[] #[]) S8 ((hV.block _ (heap_lt hS)).trans hS)).mono fun e V' ⟨he, hv⟩ => ⟨⟨_, he⟩, .inl ⟨[], trivial, hv ▸ h0⟩⟩))
    (fun _ _ => trivial) (fun _ _ _ _ _ _ _ _ => trivial) (Below.refl _ _) (fun x => nomatch x)
    (fun _ V => Below w8.heap.size w8 V) (fun _ _ _ => False) (ownFrom_below (by omega) (by omega)) (fun _ => ownFrom_pure _ _) (Below.refl _ _) (fun _ _ _ => False) (fun x => nomatch x)
    (fun _ _ x => nomatch x) (fun _ _ x => nomatch x) ?done (fun _ _ _ _ _ h => h.elim)
  case done =>
    rintro D xs V hD - hB hK
    subst htm
    have H9 : Hid (ND w D V) := Lib.hid ⟨H8.out.1.next hB, hK, by have := heap_lt H8.out.1.zer; omega⟩
    clear hS hB hK hD
    go_wp2_with (first
      | (go_at_call 20; refine (HK.out _ H15.out.1.bel).mono ?_; rintro e w16 ⟨rfl, h16⟩; have H16 := Lib.hid (H15.out.next h16); clear h16; obtain ⟨k0, k1⟩ : w16.cell? ⟨w.heap.size, 0, none⟩ = some (.bool false) ∧ w16.frozen? ⟨w.heap.size, 0, none⟩ = false := ⟨(by rw [cell_of_row _ _ _ _ _ _ H16.out.1.ans]; rfl), frozen_of_row _ _ _ _ _ H16.out.1.ans⟩)
      | (go_at_call 19; refine (Same_no _ (ptr (w.heap.size + 1)) (.pointer none) (Lib.hid (none_zero H14.out.1.zc)) (Lib.hid (none_nil _))).mono ?_; rintro e w15 ⟨rfl, h15⟩; have H15 := Lib.hid (H14.out.next h15); clear h15)
      | (go_at_call 19; refine (Same_no _ (.pointer none) (ptr (w.heap.size + 1)) (Lib.hid (none_nil _)) (Lib.hid (none_zero H13.out.1.zc))).mono ?_; rintro e w14 ⟨rfl, h14⟩; have H14 := Lib.hid (H13.out.next h14); clear h14)
      | (go_at_call 18; refine (Copy_no _ (.pointer none) (Lib.hid (none_nil _))).mono ?_; rintro e w13 ⟨rfl, rfl⟩)
      | (go_at_call 17; refine (Waits_nil _).mono ?_; rintro e w13 ⟨rfl, h13⟩; have H13 := Lib.hid (H12.out.next h13); clear h13)
      | (go_at_call 16; refine (Done_nil _).mono ?_; rintro e w12 ⟨rfl, h12⟩; have H12 := Lib.hid (H11.out.next h12); clear h12)
      | (go_at_call 15; refine (Floor_nil _).mono ?_; rintro e w11 ⟨rfl, h11⟩; have H11 := Lib.hid (H10.out.next h11); clear h11)
      | (go_at_call 14; refine (Put_no _ (.pointer none) evZ (Lib.hid (none_nil _))).mono ?_; rintro e w10 ⟨rfl, h10⟩; have H10 := Lib.hid (H9.out.next h10); clear h10))
    obtain ⟨hN, hK, hD⟩ := H16.out
    obtain ⟨W, hW⟩ : ∃ W, W = w16.setCell ⟨w.heap.size, 0, none⟩ (.bool true) := ⟨_, rfl⟩
    rw [← hW]
    have hbW : But (fun b => b = w.heap.size) w16 W := by rw [hW]; exact (But.refl (fun b => b = w.heap.size) w16).setCell (p := ⟨w.heap.size, 0, none⟩) rfl _
    have hKW : W.heap[D]? = some (.deferred (some [])) := (hbW.block D (heap_lt hK) (by omega)).trans hK
    have hA := heap_setCell_same w16 w.heap.size 0 _ _ (.bool true) hN.ans
    rw [← hW] at hA
    have hbb : Below w.heap.size w W := hN.bel.trans (hbW.below hN.bel.size fun k e => by omega)
    have hA2 : (W.putObj D (.deferred none)).heap[w.heap.size]? = some (.cells #[.bool true] 4 (0, 0)) := by
      have h1 := belowK_b (n₀ := w.heap.size + 1) (w := w16) (by have := heap_lt hN.ans; omega) W D (.deferred (some [])) (.deferred none)
      have h2 : (W.putObj D (.deferred none)).heap[w.heap.size]? = W.heap[w.heap.size]? := by
        simp only [World.putObj]
        rw [Array.getElem?_setIfInBounds_ne (by omega)]
      rw [h2]
      exact hA
    have hc : (W.putObj D (.deferred none)).cell? ⟨w.heap.size, 0, none⟩ = some (.bool true) := by rw [cell_of_row _ _ _ _ _ _ hA2]; rfl
    refine ⟨by simp, .inl ⟨_, _, rfl, run_takeDeferred hKW, ?_⟩⟩
    refine ⟨.bool true, by simp [results, Tryd.results4, go_sem, hc], rfl, ?_⟩
    exact ⟨hbb.os, hbb.tape, hbb.output, by simp only [World.putObj, Array.size_setIfInBounds]; exact hbb.size, fun k hk => by
      simp only [World.putObj]
      rw [Array.getElem?_setIfInBounds_ne (by omega)]
      exact hbb.block k hk⟩
end Go.Proofs.YthhpoihfaggafaaDoor
namespace Go.Proofs.YthhpoihfaggafaaDoor.sequenceNil
open Go.ChangeShapes Go.WideShapes Go.ChangeAt Go.RowKit

set_option maxRecDepth 100000 in
theorem lifted (os : Os) (started : os.Started) (H : Type) (enc : TypeId × Value → H) :
    ReturnsInHanded {} Tryd.checked os 4 .any (fun w args => (Rows.sequenceNilSpec.pre enc Tryd.prog Tryd.f4 [] false w args ∧ laidMetH Tryd.prog laid1 w) ∧ sizedMet enc Tryd.prog Tryd.f4 (OpenSpec.ofChange Rows.sequenceNilSpec) false w args)
      (Rows.sequenceNilSpec.post enc Tryd.prog Tryd.f4 false true false false) := by
  refine returnsInHanded_of_change_and (C := Tryd.checked) (X := fun w _ => laidMetH Tryd.prog laid1 w) (fun _ _ _ hh h => h.of_heap hh) Tryd.own started (by kernel_rfl) Tryd.func4
    (ChangeSpec.witness_at (enc := enc) (C := Tryd.checked) (os := os) (X := fun w _ => laidMetH Tryd.prog laid1 w) false (laidWorld os) #[] 8 rfl (by kernel_rfl) (by kernel_rfl) (by kernel_rfl) (by kernel_rfl) (by kernel_rfl) (laid1_met os _)) ?_
  intro W base args ds gs before hval0 hW _ _ hL _
  have hW' := hW
  obtain ⟨p, q, hA0, hV, rfl, hfz, hnd⟩ := hW
  have hA : DataW.TrodAll enc Tryd.prog W 0 (fun _ => true) true Tryd.f4.params.toList args.toList ds p := hA0
  rw [Tryd.params4] at hA
  obtain ⟨hargs, rfl, rfl⟩ := trodAll_nil hA
  obtain rfl : args = #[] := by cases args; simp_all
  obtain ⟨rfl, rfl⟩ := trodVars_none hV
  clear hA0 hval0
  refine (nil_law W (wds_of_laid hL)).mono fun e W' ⟨he, bel⟩ => ?_
  subst he
  exact ⟨_, rfl, _, _, _, [], _, [], hW', trodAll_mk1 (shut_bool Tryd.underlying4 _), trodAll_mk0, rfl, bel.frame _, fun h => by cases h⟩

theorem row_holds : Rows.SequenceNilSaid :=
  OpenClaim.holds_of_wide 4 Tryd.f4 rfl rfl rfl rfl rfl rfl rfl ⟨rfl, rfl, rfl, rfl, rfl⟩ rfl rfl rfl rfl rfl (by kernel_rfl) Tryd.func4 (by kernel_rfl)
    (of_decide_eq_true (by kernel_rfl)) (by unfold Func.isWrapper; first | (rw [if_pos (by decide +kernel)]; kernel_rfl) | (rw [if_neg (by decide +kernel)]; exact ⟨rfl, rfl⟩))
    (fun os started H enc _ => lifted os started H enc)
end Go.Proofs.YthhpoihfaggafaaDoor.sequenceNil
namespace Go.Proofs.YthhpoihfaggafaaDoor
open Go

/-- the statement: the card -/
theorem sequenceNil_proved : Rows.SequenceNilCardSaid :=
  Claim7.holds_tied_plain_at .later [] [.data] true Rows.sequenceNilCard.stood.harness true
    sequenceNil.row_holds (fun _ h => by cases h) (by kernel_rfl) (fun _ h => by cases h) sequenceNil_row_tie rfl ⟨rfl, rfl⟩ (by kernel_rfl) rfl
    (fun f fn hf hfn => by
      obtain rfl : f = 4 := Option.some.inj ((show Tryd.prog.funcNamed "riffle/rifflelaw13.SequenceNil" = some 4 by kernel_rfl).symm.trans hf) |>.symm
      obtain rfl : fn = Tryd.f4 := (Option.some.inj (Tryd.func4.symm.trans hfn)).symm
      exact ⟨by kernel_rfl, fun j t ht => by
        rw [Tryd.params4] at ht
        simp at ht⟩)
    (by kernel_rfl)
#print axioms sequenceNil_proved
end Go.Proofs.YthhpoihfaggafaaDoor
