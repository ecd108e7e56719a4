/-
  Events by rising keys: where one belongs, and what it makes of a list to put it there. No program.
-/
import Derived.Test.YthhpoihfaggafaaDoorVMath
import Derived.Test.YthhpoihfaggafaaDoorZOr
import Derived.Test.YthhpoihfaggafaaDoorGMid
import Derived.Test.YthhpoihfaggafaaDoorVBase
import Derived.Test.YthhpoihfaggafaaDoorGQuiet
import Derived.Deep.LoopGhost
import Derived.BigQuiet
import Derived.Test.YthhpoihfaggafaaDoorVSend
import Derived.Lib.Overlaps
import Derived.Laws.Externs
import Derived.Shelf.RegionOpenPlain
import Derived.Maps.Own
import Derived.Maps.OwnSet
import Derived.Maps.Range
import Derived.Maps.Views
import Derived.WalkArith
import Derived.Test.YthhpoihfaggafaaDoorVNew2
import Derived.Test.YthhpoihfaggafaaDoorVMRun
import Derived.Test.YthhpoihfaggafaaDoorMoCop2
import Derived.Test.YthhpoihfaggafaaDoorVInv
namespace Go.Proofs.YthhpoihfaggafaaDoor
open Go.Sort Go.Proofs VmM

/-- its key -/
def keyO (e : Ev) : Or.Ky := (e.time, e.org, e.seq)
/-- does one come ahead of the other -/
def evB (x y : Ev) : Bool := Or.kLt (keyO x) (keyO y)
/-- in order -/
def Asc (l : List Ev) : Prop := l.Pairwise fun x y => evB y x = false
theorem evB_swo : SWO evB := ⟨fun x => Or.kLt_swo.irrefl (keyO x), fun x y z => Or.kLt_swo.trans (keyO x) (keyO y) (keyO z), fun x y z => Or.kLt_swo.ntrans (keyO x) (keyO y) (keyO z)⟩
theorem evB_le {x y z : Ev} (h : evB y x = false) (h2 : evB y z = true) : evB x z = true := Or.StM.lt_of_le_lt evB_swo h h2
/-- where it belongs -/
def posOf (l : List Ev) (x : Ev) : Nat := (l.takeWhile fun y => evB y x).length
/-- it has been put there -/
def putIn (l : List Ev) (x : Ev) : List Ev := putAt l (posOf l x) x
theorem posOf_le (l : List Ev) (x : Ev) : posOf l x ≤ l.length := (List.takeWhile_sublist _).length_le
theorem putIn_len (l : List Ev) (x : Ev) : (putIn l x).length = l.length + 1 := putAt_len l _ x (posOf_le l x)
theorem pos_eq (x : Ev) : ∀ (l : List Ev) (i : Nat), i ≤ l.length → (∀ t (h : t < l.length), t < i → evB l[t] x = true) → (∀ t (h : t < l.length), i ≤ t → evB l[t] x = false) → posOf l x = i
  | [], i, hi, _, _ => by simp at hi; subst hi; rfl
  | a :: r, 0, _, _, h2 => by
    have := h2 0 (by simp) (Nat.le_refl _)
    simp only [List.getElem_cons_zero] at this
    unfold posOf
    rw [List.takeWhile_cons, this]
    rfl
  | a :: r, i + 1, hi, h1, h2 => by
    have ha := h1 0 (by simp) (Nat.succ_pos _)
    simp only [List.getElem_cons_zero] at ha
    have := pos_eq x r i (by simpa using hi) (fun t h ht => h1 (t + 1) (Nat.succ_lt_succ h) (by omega)) (fun t h ht => h2 (t + 1) (Nat.succ_lt_succ h) (by omega))
    unfold posOf at this ⊢
    rw [List.takeWhile_cons, ha]
    simp [this]
theorem Asc.mono {l : List Ev} (h : Asc l) {x : Ev} {a b : Nat} (hb : b < l.length) (hab : a ≤ b) (hx : evB l[b] x = true) : evB (l[a]'(by omega)) x = true := by
  rcases Nat.lt_or_ge a b with hlt | hge
  · exact evB_le (List.pairwise_iff_getElem.1 h a b (by omega) hb hlt) hx
  · obtain rfl : a = b := by omega
    exact hx
theorem pos_spec {l : List Ev} (h : Asc l) (x : Ev) : (∀ y ∈ l.take (posOf l x), evB y x = true) ∧ ∀ y ∈ l.drop (posOf l x), evB y x = false := by
  induction l with
  | nil => exact ⟨fun y hy => by simp at hy, fun y hy => by simp at hy⟩
  | cons a r ih =>
    have ⟨ha, hr⟩ := List.pairwise_cons.1 h
    unfold posOf
    rw [List.takeWhile_cons]
    cases e : evB a x with
    | true =>
      obtain ⟨i1, i2⟩ := ih hr
      simp only [if_true, List.length_cons, List.take_succ_cons, List.drop_succ_cons, List.mem_cons]
      exact ⟨fun y hy => hy.elim (fun hy => hy ▸ e) (i1 y), i2⟩
    | false =>
      simp only [Bool.false_eq_true, if_false, List.length_nil, List.take_zero, List.drop_zero, List.mem_cons]
      refine ⟨fun y hy => by simp at hy, fun y hy => ?_⟩
      rcases hy with rfl | hy
      · exact e
      · cases e2 : evB y x with
        | false => rfl
        | true => rw [evB_le (ha y hy) e2] at e; cases e
theorem mem_putIn {l : List Ev} {x y : Ev} : y ∈ putIn l x ↔ y = x ∨ y ∈ l := by
  unfold putIn putAt
  have := List.take_append_drop (posOf l x) l
  conv => rhs; rw [← this]
  simp only [List.mem_append, List.mem_cons]
  constructor <;> (rintro (h | h | h) <;> simp [h])
theorem Asc.put {l : List Ev} (h : Asc l) (x : Ev) : Asc (putIn l x) := by
  obtain ⟨h1, h2⟩ := pos_spec h x
  have hs := List.take_append_drop (posOf l x) l
  unfold putIn putAt
  unfold Asc at h ⊢
  rw [← hs, List.pairwise_append] at h
  obtain ⟨p1, p2, p3⟩ := h
  rw [List.pairwise_append]
  refine ⟨p1, List.pairwise_cons.2 ⟨fun y hy => h2 y hy, p2⟩, fun a ha b hb => ?_⟩
  rcases List.mem_cons.1 hb with rfl | hb
  · exact evB_swo.asymmA (h1 a ha)
  · exact p3 a ha b hb
theorem Asc.tail {x : Ev} {l : List Ev} (h : Asc (x :: l)) : Asc l := (List.pairwise_cons.1 h).2
end Go.Proofs.YthhpoihfaggafaaDoor
namespace Go.Proofs.YthhpoihfaggafaaDoor
open Go Go.RowKit Go.Sort Go.Proofs CodM VmM

def toO (e : Ev) : Or.Ev := (keyO e, e.to, e.kind, e.data)
abbrev evW (x : Ev) : Value := .agg #[.int .i64 x.time, .int .i64 x.org, .int .i64 x.seq, .int .i64 x.to, .int .i64 x.kind, .int .i64 x.data]
abbrev evO (x : Ev) : Obj := .cells #[.int .i64 x.time, .int .i64 x.org, .int .i64 x.seq, .int .i64 x.to, .int .i64 x.kind, .int .i64 x.data] 45
/-- what ByKey says -/
def cmpE (x y : Ev) : Int := Or.evCmp (toO x) (toO y)
theorem cmpE_neg (x y : Ev) : decide (cmpE x y < 0) = evB x y := Or.kCmp_neg _ _
theorem byKey_w (x y : Ev) (w : World) : Calls Tryd.prog 69 #[evW x, evW y] w (fun e w' => e = .returned (.int .i64 (cmpE x y)) ∧ Below w.heap.size w w') :=
  (Or.byKey_any (toO x) (toO y) w).mono fun _ _ ⟨he, os, hw⟩ => ⟨he, hw ▸ ⟨rfl, rfl, rfl, by simp, fun _ hk => heap_grow_old w os hk⟩⟩
theorem six_at {w : World} {B o : Nat} {x : Ev} (h : CEv.Cell w B o x) : w.cell? ⟨B, o, none⟩ = some (.int .i64 x.time) ∧ w.cell? ⟨B, o + 1, none⟩ = some (.int .i64 x.org) ∧ w.cell? ⟨B, o + 2, none⟩ = some (.int .i64 x.seq) ∧ w.cell? ⟨B, o + 3, none⟩ = some (.int .i64 x.to) ∧ w.cell? ⟨B, o + 4, none⟩ = some (.int .i64 x.kind) ∧ w.cell? ⟨B, o + 5, none⟩ = some (.int .i64 x.data) :=
  ⟨h 0 (by decide), h 1 (by decide), h 2 (by decide), h 3 (by decide), h 4 (by decide), h 5 (by decide)⟩
theorem ev_box {w : World} {b : Nat} {x : Ev} (h : w.heap[b]? = some (evO x)) : CEv.Cell w b 0 x := Cod.Cell.box (C := CEv) (T := 45) (m := (0, 0)) h
/-- what the loop knows: what stands ahead of lo comes ahead, what stands from hi on does not -/
def Bnd (l : List Ev) (x : Ev) (lo hi : Nat) : Prop := (∀ t (h : t < l.length), t < lo → evB l[t] x = true) ∧ ∀ t (h : t < l.length), hi ≤ t → evB l[t] x = false
def SearchTo (p : Nat) (b : Bool) (w : World) (e : Ending) (w' : World) : Prop := e = .returned (.tuple #[.int .i64 p, .bool b]) ∧ Below w.heap.size w w'
/-- is one of its key there -/
def foundE (l : List Ev) (x : Ev) (p : Nat) : Bool := match l[p]? with
  | some y => decide (cmpE y x = 0)
  | none => false
theorem cmp_lt {x y : Ev} (h : evB x y = true) : cmpE x y < 0 := by rw [← cmpE_neg, decide_eq_true_iff] at h; exact h
theorem cmp_ge {x y : Ev} (h : evB x y = false) : ¬ cmpE x y < 0 := by rw [← cmpE_neg, decide_eq_false_iff_not] at h; exact h
set_option maxHeartbeats 4000000 in
set_option maxRecDepth 100000 in
theorem search_any (w : World) (a : Option Addr) (c : Nat) (l : List Ev) (x : Ev) (hA : CEv.At w a l.length l) (hs : Asc l) : Calls Tryd.prog 68 #[.slice a l.length c, evW x, .func (.func 69) #[] #[]] w (SearchTo (posOf l x) (foundE l x (posOf l x)) w) := by
  obtain ⟨n, hn⟩ : ∃ n, n = l.length := ⟨_, rfl⟩
  have hn6 : n ≤ 1000000 := by rw [hn]; exact hA.2.1
  have hA' := hA
  rw [← hn] at hA' ⊢
  have HA := Lib.hid (And.intro hn (And.intro hA' hs))
  obtain ⟨w1, hw1⟩ : ∃ w1, w1 = w.alloc (evO x) := ⟨_, rfl⟩
  have hb1 : Below w.heap.size w w1 := by rw [hw1]; exact (Below.refl _ _).alloc (Nat.le_refl _) _
  have hx1 : w1.heap[w.heap.size]? = some (evO x) := by rw [hw1]; exact heap_alloc_new _ _
  have hz1 : w1.heap.size = w.heap.size + 1 := by rw [hw1]; simp
  have H1 := Lib.hid (And.intro hb1 (And.intro hx1 hz1))
  have HW := Lib.hid hw1
  have HBK : Hid (∀ y V, Calls Tryd.prog 69 #[evW y, evW x] V (fun e w' => e = .returned (.int .i64 (cmpE y x)) ∧ Below V.heap.size V w')) := Lib.hid fun y V => byKey_w y x V
  clear hA hA' hs hn hb1 hx1 hz1 hw1
  go_enter Tryd.func68, Tryd.ntmps68
  go_wp2_with fail
  rw [← HW.out]
  go_loopg [9, 10] n (fun kx s9 s10 wr => ∃ lo hi : Nat, s9 = .int .i64 lo ∧ s10 = .int .i64 hi ∧ lo ≤ hi ∧ hi ≤ n ∧ hi - lo ≤ kx ∧ Aside (Below w1.heap.size w1 wr ∧ Bnd l x lo hi))
  case atStart => exact ⟨0, n, rfl, rfl, Nat.zero_le _, Nat.le_refl _, by omega, ⟨Below.refl _ _, fun t _ h => absurd h (Nat.not_lt_zero _), fun t h1 h2 => absurd h1 (by rw [← HA.out.1]; exact Nat.not_lt.2 h2)⟩⟩
  case round =>
    obtain ⟨lo, hi, rfl, rfl, hlh, hin, hg, I⟩ := hrel
    have bx := ev_box ((I.out.1.block _ (by have := H1.out.2.2; omega)).trans H1.out.2.1)
    obtain ⟨b0, b1, b2, b3, b4, b5⟩ := six_at bx
    clear bx
    by_cases hlt : lo < hi
    · obtain ⟨m, hm⟩ : ∃ m, m = (lo + hi) / 2 := ⟨_, rfl⟩
      have hmn : m < n := by omega
      have HMI : Hid (((lo : Int) + (hi : Int)) / 2 = (m : Int) ∧ lo ≤ m ∧ m < hi) := by rw [Lib.hid_eq]; omega
      clear hm
      obtain ⟨B, off, rfl, hB, y, hy, hc⟩ := HA.out.2.1.cell hmn
      have hc' : CEv.Cell wr B (off + m * 6) y := hc.below ((H1.out.1.trans (I.out.1.mono H1.out.1.size))) hB
      obtain ⟨c0, c1, c2, c3, c4, c5⟩ := six_at hc'
      have HY : Hid (∃ h : m < l.length, l[m] = y) := by
        obtain ⟨h1, h2⟩ := List.getElem?_eq_some_iff.1 hy
        exact ⟨h1, h2⟩
      clear hc hc' hy hB
      have q0 : ∀ q : InB wr, q.w.cell? ⟨w.heap.size, 0, none⟩ = some (.int .i64 x.time) := fun q => cell_keep q b0
      have q1 : ∀ q : InB wr, q.w.cell? ⟨w.heap.size, 1, none⟩ = some (.int .i64 x.org) := fun q => cell_keep q b1
      have q2 : ∀ q : InB wr, q.w.cell? ⟨w.heap.size, 2, none⟩ = some (.int .i64 x.seq) := fun q => cell_keep q b2
      have q3 : ∀ q : InB wr, q.w.cell? ⟨w.heap.size, 3, none⟩ = some (.int .i64 x.to) := fun q => cell_keep q b3
      have q4 : ∀ q : InB wr, q.w.cell? ⟨w.heap.size, 4, none⟩ = some (.int .i64 x.kind) := fun q => cell_keep q b4
      have q5 : ∀ q : InB wr, q.w.cell? ⟨w.heap.size, 5, none⟩ = some (.int .i64 x.data) := fun q => cell_keep q b5
      have r0 : ∀ q : InB wr, q.w.cell? ⟨B, off + m * 6, none⟩ = some (.int .i64 y.time) := fun q => cell_keep q c0
      have r1 : ∀ q : InB wr, q.w.cell? ⟨B, off + m * 6 + 1, none⟩ = some (.int .i64 y.org) := fun q => cell_keep q c1
      have r2 : ∀ q : InB wr, q.w.cell? ⟨B, off + m * 6 + 2, none⟩ = some (.int .i64 y.seq) := fun q => cell_keep q c2
      have r3 : ∀ q : InB wr, q.w.cell? ⟨B, off + m * 6 + 3, none⟩ = some (.int .i64 y.to) := fun q => cell_keep q c3
      have r4 : ∀ q : InB wr, q.w.cell? ⟨B, off + m * 6 + 4, none⟩ = some (.int .i64 y.kind) := fun q => cell_keep q c4
      have r5 : ∀ q : InB wr, q.w.cell? ⟨B, off + m * 6 + 5, none⟩ = some (.int .i64 y.data) := fun q => cell_keep q c5
      clear b0 b1 b2 b3 b4 b5 c0 c1 c2 c3 c4 c5
      go_upto_region 5 with fail
      rw [HMI.out.1]
      refine wp_region_below (by kernel_rfl) (by kernel_rfl) ?_
      repeat (refine WQ.step (fun K hK => ?_); go_simp; first | (refine hK _ ?_; clear hK K) | (apply Exists.intro; refine ⟨fun _ => ?_, hK _ ?_⟩; (go_at_call 69; exact Calls.inb (HBK.out _ _)); clear hK K))
      refine WQ.nil ?_
      rintro w8 ⟨pq, hpq⟩
      have HP := Lib.hid pq.h
      rw [← hpq] at HP
      clear hpq pq q0 q1 q2 q3 q4 q5 r0 r1 r2 r3 r4 r5
      cases e : evB y x with
      | true =>
        have hd : cmpE y x < 0 := cmp_lt e
        have E := Lib.hid e
        clear e
        go_wp2_with fail
        go_roundg (hi - (m + 1))
        case measure => have := HMI.out; omega
        case rel =>
          have hmI := HMI.out
          refine ⟨m + 1, hi, by go_num, rfl, by omega, hin, Nat.le_refl _, ⟨I.out.1.trans (HP.out.mono I.out.1.size), fun t h ht => ?_, I.out.2.2⟩⟩
          obtain ⟨h1, h2⟩ := HY.out
          exact HA.out.2.2.mono h1 (by omega) (by rw [h2]; exact E.out)
      | false =>
        have hd : ¬ cmpE y x < 0 := cmp_ge e
        have E := Lib.hid e
        clear e
        go_wp2_with fail
        go_roundg (m - lo)
        case measure => have := HMI.out; omega
        case rel =>
          have hmI := HMI.out
          refine ⟨lo, m, rfl, by go_num, by omega, by omega, Nat.le_refl _, ⟨I.out.1.trans (HP.out.mono I.out.1.size), I.out.2.1, fun t h ht => ?_⟩⟩
          obtain ⟨h1, h2⟩ := HY.out
          cases e : evB l[t] x with
          | false => rfl
          | true =>
            have := HA.out.2.2.mono h ht e
            rw [h2, E.out] at this
            cases this
    · obtain rfl : hi = lo := by omega
      have HPOS : Hid (posOf l x = hi) := Lib.hid (pos_eq x l hi (by rw [← HA.out.1]; exact hin) I.out.2.1 I.out.2.2)
      by_cases hn : hi < n
      · obtain ⟨B, off, rfl, hB, y, hy, hc⟩ := HA.out.2.1.cell hn
        have hc' : CEv.Cell wr B (off + hi * 6) y := hc.below ((H1.out.1.trans (I.out.1.mono H1.out.1.size))) hB
        obtain ⟨c0, c1, c2, c3, c4, c5⟩ := six_at hc'
        have HF : Hid (foundE l x hi = decide (cmpE y x = 0)) := by rw [Lib.hid_eq]; unfold foundE; rw [hy]
        clear hc hc' hy hB
        have q0 : ∀ q : InB wr, q.w.cell? ⟨w.heap.size, 0, none⟩ = some (.int .i64 x.time) := fun q => cell_keep q b0
        have q1 : ∀ q : InB wr, q.w.cell? ⟨w.heap.size, 1, none⟩ = some (.int .i64 x.org) := fun q => cell_keep q b1
        have q2 : ∀ q : InB wr, q.w.cell? ⟨w.heap.size, 2, none⟩ = some (.int .i64 x.seq) := fun q => cell_keep q b2
        have q3 : ∀ q : InB wr, q.w.cell? ⟨w.heap.size, 3, none⟩ = some (.int .i64 x.to) := fun q => cell_keep q b3
        have q4 : ∀ q : InB wr, q.w.cell? ⟨w.heap.size, 4, none⟩ = some (.int .i64 x.kind) := fun q => cell_keep q b4
        have q5 : ∀ q : InB wr, q.w.cell? ⟨w.heap.size, 5, none⟩ = some (.int .i64 x.data) := fun q => cell_keep q b5
        have r0 : ∀ q : InB wr, q.w.cell? ⟨B, off + hi * 6, none⟩ = some (.int .i64 y.time) := fun q => cell_keep q c0
        have r1 : ∀ q : InB wr, q.w.cell? ⟨B, off + hi * 6 + 1, none⟩ = some (.int .i64 y.org) := fun q => cell_keep q c1
        have r2 : ∀ q : InB wr, q.w.cell? ⟨B, off + hi * 6 + 2, none⟩ = some (.int .i64 y.seq) := fun q => cell_keep q c2
        have r3 : ∀ q : InB wr, q.w.cell? ⟨B, off + hi * 6 + 3, none⟩ = some (.int .i64 y.to) := fun q => cell_keep q c3
        have r4 : ∀ q : InB wr, q.w.cell? ⟨B, off + hi * 6 + 4, none⟩ = some (.int .i64 y.kind) := fun q => cell_keep q c4
        have r5 : ∀ q : InB wr, q.w.cell? ⟨B, off + hi * 6 + 5, none⟩ = some (.int .i64 y.data) := fun q => cell_keep q c5
        clear b0 b1 b2 b3 b4 b5 c0 c1 c2 c3 c4 c5
        obtain ⟨f, hf⟩ : ∃ f, f = decide (cmpE y x = 0) := ⟨_, rfl⟩
        have heq : (cmpE y x == 0) = f := by rw [hf]; rfl
        rw [← hf] at HF
        clear hf
        go_upto_region 8 with fail
        refine wp_region_below (by kernel_rfl) (by kernel_rfl) ?_
        repeat (refine WQ.step (fun K hK => ?_); go_simp; first | (refine hK _ ?_; clear hK K) | (apply Exists.intro; refine ⟨fun _ => ?_, hK _ ?_⟩; (go_at_call 69; exact Calls.inb (HBK.out _ _)); clear hK K))
        refine WQ.nil ?_
        rintro w8 ⟨pq, hpq⟩
        have HP := Lib.hid pq.h
        rw [← hpq] at HP
        clear hpq pq q0 q1 q2 q3 q4 q5 r0 r1 r2 r3 r4 r5
        go_wp2_with fail
        go_ret2
        refine ⟨?_, H1.out.1.trans ((I.out.1.trans (HP.out.mono I.out.1.size)).mono H1.out.1.size)⟩
        rw [HPOS.out, HF.out]
        rfl
      · have HF : Hid (foundE l x hi = false) := by
          rw [Lib.hid_eq]
          unfold foundE
          rw [List.getElem?_eq_none (by rw [← HA.out.1]; omega)]
        have q0 : ∀ q : InB wr, q.w.cell? ⟨w.heap.size, 0, none⟩ = some (.int .i64 x.time) := fun q => cell_keep q b0
        clear b0 b1 b2 b3 b4 b5
        go_upto_region 8 with fail
        refine wp_region_below (by kernel_rfl) (by kernel_rfl) ?_
        repeat (refine WQ.step (fun K hK => ?_); go_simp; first | (refine hK _ ?_; clear hK K) | (apply Exists.intro; refine ⟨fun _ => ?_, hK _ ?_⟩; (go_at_call 69; exact Calls.inb (HBK.out _ _)); clear hK K))
        refine WQ.nil ?_
        rintro w8 ⟨pq, hpq⟩
        have HP := Lib.hid pq.h
        rw [← hpq] at HP
        clear hpq pq q0
        go_wp2_with fail
        go_ret2
        refine ⟨?_, H1.out.1.trans ((I.out.1.trans (HP.out.mono I.out.1.size)).mono H1.out.1.size)⟩
        rw [HPOS.out, HF.out]
        rfl
end Go.Proofs.YthhpoihfaggafaaDoor
namespace Go.Proofs.YthhpoihfaggafaaDoor
open Go Go.RowKit Go.Lib Go.Sort Go.Proofs CodM VmM

/-- what Insert tells: a row that may be the old one, written over, or a new one -/
def InsTo (a : Option Addr) (l : List Ev) (w : World) (e : Ending) (w' : World) : Prop :=
  ∃ a' c', e = .returned (.slice a' l.length c') ∧ CEv.Mid 45 w' a' c' l ∧ But (blkOf a) w w' ∧ ∀ b, blkOf a' b → blkOf a b ∨ w.heap.size ≤ b
theorem ev_news {w : World} {b : Nat} {x : Ev} (h : w.heap[b]? = some (evO x)) : ∀ j u, (CEv.enc x)[j]? = some u → w.cell? ((⟨b, 0, none⟩ : Addr).add j) = some u := by
  intro j u hj
  rw [Addr.add_lit, Nat.zero_add, cell_of_row _ _ _ _ _ _ h]
  show (CEv.enc x).toArray[j]? = some u
  rw [List.getElem?_toArray]
  exact hj
theorem szE : (Tryd.prog.info? 45).map (·.size) = some 6 := by kernel_rfl
section
variable {w : World} {c : Nat} {l : List Ev} {x : Ev} {vb vc : Nat}
set_option maxHeartbeats 4000000 in
set_option maxRecDepth 100000 in
/-- at the end -/
theorem insert_end {a : Option Addr} (h : CEv.Mid 45 w a c l) (hl : l.length ≤ 100000) (hv : w.heap[vb]? = some (evO x)) :
    Calls Tryd.prog 70 #[.slice a l.length c, .int .i64 l.length, .slice (some ⟨vb, 0, none⟩) 1 vc] w (InsTo a (l ++ [x]) w) := by
  obtain ⟨a', c', w', hr, hb, hM, hn⟩ := rowE.push_mid h (by omega) (by decide) x ⟨vb, 0, none⟩ vc (ev_news hv)
  obtain ⟨n, hN⟩ : ∃ n, n = l.length := ⟨_, rfl⟩
  have hc := h.1
  have hcm := h.2.1
  rw [← hN] at hr hc hl ⊢
  have HR := Lib.hid hr
  have HM := Lib.hid (And.intro hb (And.intro hM hn))
  have HN := Lib.hid hN
  have hc63 : c ≤ 9223372036854775807 := hcm
  have hnil := h.nil_cap
  clear h hv hr hb hM hn hN hcm
  cases a with
  | none =>
    obtain ⟨rfl, hl0⟩ := hnil rfl
    obtain rfl : n = 0 := by omega
    clear hl0 hnil
    go_enter Tryd.func70, Tryd.ntmps70
    go_wp2_with (at_builtin; refine Lib.wpList_append_run _ rfl _ _ _ _ rfl _ _ rfl rfl _ _ (HR.out _) ?_)
    go_ret
    exact ⟨a', c', by rw [List.length_append, ← HN.out]; rfl, HM.out.2.1, HM.out.1, HM.out.2.2⟩
  | some ad =>
    clear hnil
    by_cases hcn : c = n
    · go_enter Tryd.func70, Tryd.ntmps70
      go_wp2_with (at_builtin; refine Lib.wpList_append_run _ rfl _ _ _ _ rfl _ _ rfl rfl _ _ (HR.out _) ?_)
      go_ret
      exact ⟨a', c', by rw [List.length_append, ← HN.out]; rfl, HM.out.2.1, HM.out.1, HM.out.2.2⟩
    · go_enter Tryd.func70, Tryd.ntmps70
      go_wp2_with (at_builtin; refine Lib.wpList_append_run _ rfl _ _ _ _ rfl _ _ rfl rfl _ _ (HR.out _) ?_)
      go_ret
      exact ⟨a', c', by rw [List.length_append, ← HN.out]; rfl, HM.out.2.1, HM.out.1, HM.out.2.2⟩
set_option maxHeartbeats 4000000 in
set_option maxRecDepth 100000 in
/-- within, where there is room -/
theorem insert_shift {B o i : Nat} (h : CEv.Mid 45 w (some ⟨B, o, none⟩) c l) (hl : l.length ≤ 100000) (hi : i < l.length) (hroom : l.length + 1 ≤ c) (hv : w.heap[vb]? = some (evO x)) (hne : vb ≠ B) :
    Calls Tryd.prog 70 #[.slice (some ⟨B, o, none⟩) l.length c, .int .i64 i, .slice (some ⟨vb, 0, none⟩) 1 vc] w (InsTo (some ⟨B, o, none⟩) (putAt l i x) w) := by
  have hD : CEv.Mid 45 w.drew (some ⟨B, o, none⟩) c l := h.below ((Below.refl _ _).drew)
  obtain ⟨w1, hr1, hb1, hnx⟩ := rowE.shift_mid hD i hi hroom x
  obtain ⟨w2, hr2, hb2, hM⟩ := hnx w1 rfl ⟨vb, 0, none⟩ vc (ev_news ((hb1.block vb (Array.getElem?_eq_some_iff.1 hv).1 hne).trans hv))
  obtain ⟨n, hN⟩ : ∃ n, n = l.length := ⟨_, rfl⟩
  have hcm := h.2.1
  rw [← hN] at hr1 hr2 hl hi hroom ⊢
  rw [show CEv.k = 6 from rfl] at hr1 hr2
  have hsB : ∃ cs, w.heap[B]? = some (.cells cs 45 (0, 0)) ∧ cs.size ≠ 0 := by
    obtain ⟨h1, h2, ⟨e, _⟩ | ⟨B', pre, post, e, hh, hp⟩⟩ := h
    · cases e
    · cases e
      refine ⟨_, hh, ?_⟩
      have := CEv.cells_len l
      simp only [List.size_toArray, List.length_append, this]
      have : l.length * CEv.k = l.length * 6 := rfl
      omega
  obtain ⟨csB, hsB, hkB⟩ := hsB
  have hov : ∀ lb cb, (callFunc 97 #[.slice (some ⟨vb, 0, none⟩) 1 vc, .slice (some ⟨B, o + (i + 1) * 6, none⟩) lb cb]).run Tryd.prog w = .ok (.value (.bool false)) w := fun lb cb => by
    rw [run_callFunc_extern Tryd.func97 (by kernel_rfl) (by kernel_rfl) (by kernel_rfl) (e := Extern.SlicesOverlaps.overlaps #[25, 25] #[4]) (by kernel_rfl),
      Lib.run_overlaps_apart w 25 4 45 Tryd.underlying25 6 Tryd.sizeOf45 ⟨vb, 0, none⟩ ⟨B, o + (i + 1) * 6, none⟩ 1 vc lb cb hne 45 45 6 csB.size (by simp [World.shape?, hv]) (by simp [World.shape?, hsB]) hkB (by simp [World.frozen?, hv]) (by simp [World.frozen?, hv])]
    rfl
  have HR1 := Lib.hid hr1
  have HR2 := Lib.hid hr2
  have HM := Lib.hid (And.intro hb1 (And.intro hb2 hM))
  have HN := Lib.hid hN
  have hc63 : c ≤ 9223372036854775807 := hcm
  have mixed : Tryd.prog.follows .mixedOrders = true := by kernel_rfl
  have hw1 : IntKind.i64.wrap ((i : Int) + 1) = (i : Int) + 1 := by rw [IntKind.wrap_i64]; omega
  have hb1' : (0 : Int) ≤ (i : Int) + 1 := by omega
  have hb5 : (i : Int) + 1 ≤ (n : Int) + 1 := by omega
  have htn : ((i : Int) + 1).toNat = i + 1 := by omega
  have hb2' : ¬ (c = i + 1) := by omega
  have hb4 : ¬ (c = i) := by omega
  have hin : i ≤ n := by omega
  have hb3 : (i : Int) ≤ (n : Int) + 1 := by omega
  have hne2 : ¬ ((i : Int) = (n : Int)) := by omega
  have hcl : ¬ ((c : Int) < (n : Int) + 1) := by omega
  clear h hD hv hr1 hr2 hb1 hb2 hM hN hnx hsB hkB hcm
  go_enter Tryd.func70, Tryd.ntmps70
  go_wp2_with (simp only [hov])
  go_region_law_o (refine step_copy_mid rfl _ _ 25 25 rfl _ _ (by simp [Act.eval, Act.put]) (by simp [Act.eval, Act.put]) (HR1.out _ (c - (i + 1)) (c - i)) ?_)
  go_wp2_with (refine wpList_copy_mid _ rfl (.tmp 80) (.tmp 81) 25 25 rfl _ _ rfl rfl (HR2.out _ _) ?_)
  go_ret
  exact ⟨_, c, by rw [putAt_len l i x (by rw [← HN.out]; omega), ← HN.out]; rfl, HM.out.2.2, ((But.refl _ w).drew.trans (HM.out.1.trans HM.out.2.1)).mono fun j _ e => ⟨_, rfl, e.symm⟩, fun b e => .inl e⟩
set_option maxHeartbeats 4000000 in
set_option maxRecDepth 100000 in
/-- within, where there is none: a new row -/
theorem insert_grow {B o i : Nat} (h : CEv.Mid 45 w (some ⟨B, o, none⟩) c l) (hl : l.length ≤ 100000) (hi : i < l.length) (hroom : c < l.length + 1) (hv : w.heap[vb]? = some (evO x)) :
    Calls Tryd.prog 70 #[.slice (some ⟨B, o, none⟩) l.length c, .int .i64 i, .slice (some ⟨vb, 0, none⟩) 1 vc] w (InsTo (some ⟨B, o, none⟩) (putAt l i x) w) := by
  obtain ⟨w0, G, cap, hr0, hG, hcap, hcm, hb0, hnx⟩ := rowE.grow_mid h i hi hroom (by omega) (by decide) 3 .i64 Tryd.underlying3 x
  have hBw : B < w.heap.size := h.lt B ⟨_, rfl, rfl⟩
  have hvw : vb < w.heap.size := (Array.getElem?_eq_some_iff.1 hv).1
  obtain ⟨w1, hr1, hb1, hnx1⟩ := hnx w0 rfl ⟨vb, 0, none⟩ vc (ev_news ((hb0.block vb hvw (fun e => e)).trans hv))
  obtain ⟨w2, hr2, hb2, hM⟩ := hnx1 w1.drew rfl (by
    show w1.heap[B]? = _
    rw [hb1.block B (Nat.lt_of_lt_of_le hBw hb0.size) (by omega), hb0.block B hBw (fun e => e)])
  obtain ⟨n, hN⟩ : ∃ n, n = l.length := ⟨_, rfl⟩
  have hc1 := h.1
  rw [← hN] at hr0 hr1 hr2 hl hi hroom hc1 hcap ⊢
  rw [show CEv.k = 6 from rfl] at hr1 hr2
  have HR0 := Lib.hid hr0
  have HR1 := Lib.hid hr1
  have HR2 := Lib.hid hr2
  have HM := Lib.hid (And.intro hb0 (And.intro hb1 (And.intro hb2 (And.intro hM hG))))
  have HN := Lib.hid hN
  have hc63 : cap ≤ 9223372036854775807 := hcm
  have mixed : Tryd.prog.follows .mixedOrders = true := by kernel_rfl
  have hw1 : IntKind.i64.wrap ((i : Int) + 1) = (i : Int) + 1 := by rw [IntKind.wrap_i64]; omega
  have hb1' : (0 : Int) ≤ (i : Int) + 1 := by omega
  have htn : ((i : Int) + 1).toNat = i + 1 := by omega
  have hin : i ≤ n := by omega
  have hb3 : (i : Int) ≤ (n : Int) := by omega
  have hb5 : (i : Int) + 1 ≤ (n : Int) + 1 := by omega
  have hne2 : ¬ ((i : Int) = (n : Int)) := by omega
  have hcl : (c : Int) < (n : Int) + 1 := by omega
  have hkk : (n : Int) + 1 - (i : Int) = ((n + 1 - i : Nat) : Int) := by omega
  have hGi : ¬ (cap = i) := by omega
  have hGi2 : ¬ (cap = i + 1) := by omega
  have hci : ¬ (c = i) := by omega
  rw [← hkk] at HR0
  clear h hv hr0 hr1 hr2 hb0 hb1 hb2 hM hN hnx hnx1 hcm hG hkk hBw hvw
  go_enter Tryd.func70, Tryd.ntmps70
  go_wp2_with (first
    | (at_builtin; refine Lib.wpList_append_run _ rfl _ _ _ _ rfl _ _ rfl rfl _ _ (HR0.out _) ?_)
    | (refine wpList_copy_mid _ rfl (.tmp 43) (.tmp 44) 25 25 rfl _ _ rfl rfl (HR1.out _ _) ?_))
  go_region_law_o (refine step_copy_mid rfl _ _ 25 25 rfl _ _ (by simp [Act.eval, Act.put]) (by simp [Act.eval, Act.put]) (HR2.out _ (cap - (i + 1)) (c - i)) ?_)
  go_wp2
  go_ret
  refine ⟨_, cap, by rw [putAt_len l i x (by rw [← HN.out]; omega), ← HN.out]; rfl, HM.out.2.2.2.1, ?_, fun b ⟨p, e, e2⟩ => .inr (by cases e; rw [← e2, HM.out.2.2.2.2]; exact Nat.le_refl _)⟩
  have hG := HM.out.2.2.2.2
  exact ((HM.out.1.mono (T := blkOf (some ⟨B, o, none⟩)) fun _ _ e => e.elim).next HM.out.2.1 fun j hj e => by omega).next ((But.refl (fun b => b = G) w1).drew.trans HM.out.2.2.1) fun j hj e => by omega
/-- wherever it is put in -/
theorem insert_any {a : Option Addr} {i : Nat} (h : CEv.Mid 45 w a c l) (hl : l.length ≤ 100000) (hi : i ≤ l.length) (hv : w.heap[vb]? = some (evO x)) (hne : ¬ blkOf a vb) :
    Calls Tryd.prog 70 #[.slice a l.length c, .int .i64 i, .slice (some ⟨vb, 0, none⟩) 1 vc] w (InsTo a (putAt l i x) w) := by
  rcases Nat.lt_or_ge i l.length with hlt | hge
  · obtain ⟨B, o, rfl⟩ : ∃ B o, a = some ⟨B, o, none⟩ := by
      obtain ⟨h1, _, ⟨e, h0⟩ | ⟨B, pre, post, e, _⟩⟩ := h
      · omega
      · exact ⟨B, _, e⟩
    by_cases hr : l.length + 1 ≤ c
    · exact insert_shift h hl hlt hr hv fun e => hne ⟨_, rfl, e.symm⟩
    · exact insert_grow h hl hlt (by omega) hv
  · obtain rfl : i = l.length := by omega
    have := insert_end h hl hv (vc := vc)
    unfold putAt
    rw [List.take_length, List.drop_length]
    exact this
end
end Go.Proofs.YthhpoihfaggafaaDoor
namespace Go.Proofs.YthhpoihfaggafaaDoor
open Go Go.RowKit Go.Sort Go.Proofs Go.MapKept

abbrev sl64 (i : Int) : Lit := .int .i64 i
def nR (v : Value) : Option (DataW Unit × List MemPlace) :=
  match v with
  | .agg a => match a.toList with
    | [] => some (.agg [], [])
    | _ => none
  | _ => none
theorem nR_mk : nR (.agg #[]) = some (.agg [], []) := rfl
theorem nR_inv {v : Value} {y : DataW Unit × List MemPlace} (h : nR v = some y) : v = .agg #[] ∧ y = (.agg [], []) := by
  unfold nR at h
  split at h
  · next a =>
    split at h
    · next e =>
      refine ⟨?_, (Option.some.inj h).symm⟩
      have : a = #[] := by rw [← Array.toList_inj, e]
      rw [this]
    · cases h
  · cases h
theorem sl_inj {i j : Int} (h : sl64 i = sl64 j) : i = j := (Lit.int.inj h).2
def I6 (i : Int) : Prop := -9223372036854775808 ≤ i ∧ i ≤ 9223372036854775807
theorem sl_key (i : Int) : WideAt.IsKeyLit (sl64 i) := trivial
abbrev mapT : TypeId := 39
theorem hKs : Maps.Keyed Tryd.prog 2 := Maps.int_keyed Tryd.underlying2
theorem hMs : Tryd.prog.underlying mapT = some (.map 2 101) := Tryd.underlying39
theorem sl_wf {i : Int} (h : I6 i) : (sl64 i).wf = true := WalkArith.wf_i64 ⟨by have := h.1; omega, by have := h.2; omega⟩
theorem key_s {i : Int} (h : I6 i) : keyOf Tryd.prog 2 (.int .i64 i) = some (sl64 i) := Maps.keyOf_int_mk Tryd.underlying2 (sl_wf h)
theorem zero_s (w : World) : (zeroValue 101).run Tryd.prog w = .ok (.agg #[]) w := by kernel_rfl
/-- a datum says which numbers are there -/
structure SaysS (D : DataW Unit) (L : List Int) : Prop where
  size : Maps.size D = L.length
  has : ∀ x ∈ L, Maps.has D (sl64 x) = true
  of : ∀ l, Maps.has D l = true → ∃ x ∈ L, l = sl64 x
/-- block M is a map that tells L -/
def SetAt (w : World) (M : Nat) (L : List Int) : Prop := ∃ D : DataW Unit, w.ownsMap Tryd.prog 2 nR M L.length D ∧ SaysS D L
theorem SetAt.lt {w : World} {M : Nat} {L : List Int} (h : SetAt w M L) : M < w.heap.size := by
  obtain ⟨D, h, _⟩ := h
  exact h.lt
theorem SetAt.same {w w' : World} {M : Nat} {L : List Int} (h : SetAt w M L) (hb : w'.heap[M]? = w.heap[M]?) : SetAt w' M L := by
  obtain ⟨D, ⟨es, c, h1, h2⟩, h3⟩ := h
  exact ⟨D, ⟨es, c, hb.trans h1, h2⟩, h3⟩
theorem SetAt.obj {w : World} {M : Nat} {L : List Int} (h : SetAt w M L) : ∃ es c, w.heap[M]? = some (.map es c) := by
  obtain ⟨D, ⟨es, c, h1, h2⟩, h3⟩ := h
  exact ⟨es, c, h1⟩
theorem SetAt.made (w : World) : SetAt (w.alloc (.map #[] 0)) w.heap.size [] := ⟨.map [], World.ownsMap_made w _ _ _, rfl, (fun _ h => by cases h), fun l h => by cases h⟩
theorem own_tightS {w : World} {M n : Nat} {D : DataW Unit} (h : w.ownsMap Tryd.prog 2 nR M n D) : w.ownsMap Tryd.prog 2 nR M (Maps.size D) D := by
  obtain ⟨es, c, h1, h2, h3, h4⟩ := h
  refine ⟨es, c, h1, h2, ?_, h4⟩
  rw [h4]
  simp [Maps.size, length_sorted]
theorem SetAt.of {w : World} {M n : Nat} {D : DataW Unit} {L : List Int} (h : w.ownsMap Tryd.prog 2 nR M n D) (hs : SaysS D L) : SetAt w M L := ⟨D, hs.size ▸ own_tightS h, hs⟩
theorem SetAt.look {w : World} {M : Nat} {L : List Int} (h : SetAt w M L) {i : Int} (hi : I6 i) :
    (Instr.lookup mapT (.map (some M)) (.int .i64 i) true).run Tryd.prog w = .ok (.tuple #[.agg #[], .bool (decide (i ∈ L))]) w := by
  obtain ⟨D, h1, h2⟩ := h
  obtain ⟨v, ps, hrun, hv⟩ := h1.look_ok hKs hMs (zero_s w) nR_mk (key_s hi)
  rw [hrun]
  obtain ⟨rfl, _⟩ := nR_inv hv
  have : Maps.has D (sl64 i) = decide (i ∈ L) := by
    cases hh : Maps.has D (sl64 i) with
    | true =>
      obtain ⟨x, hx, e⟩ := h2.of _ hh
      exact (decide_eq_true (sl_inj e ▸ hx)).symm
    | false => exact (decide_eq_false fun hm => by rw [h2.has i hm] at hh; cases hh).symm
  rw [this]
theorem SetAt.put {w : World} {M : Nat} {L : List Int} (h : SetAt w M L) {i : Int} (hi : I6 i) (hn : i ∉ L) (hl : L.length < 1000000) :
    ∃ w', (Instr.mapUpdate mapT (.map (some M)) (.int .i64 i) (.agg #[])).run Tryd.prog w = .ok () w' ∧ SetAt w' M (L ++ [i]) ∧ w.grownBy w' (some M) := by
  obtain ⟨D, h1, h2⟩ := h
  obtain ⟨w', hrun, h3, h4⟩ := h1.store hKs hMs (by unfold maxLen; omega) (key_s hi) nR_mk
  have hm := h1.isMap
  have hno : Maps.has D (sl64 i) = false := by
    cases hh : Maps.has D (sl64 i) with
    | false => rfl
    | true =>
      obtain ⟨x, hx, e⟩ := h2.of _ hh
      exact absurd (sl_inj e ▸ hx) hn
  refine ⟨w', hrun, SetAt.of h3 ⟨?_, fun y hy => ?_, fun l hl => ?_⟩, h4.grown⟩
  · rw [Maps.size_put (h1.tidy hKs), if_neg (by rw [hno]; simp), h2.size, List.length_append]
    rfl
  · rcases List.mem_append.1 hy with hy | hy
    · have hne : sl64 y ≠ sl64 i := fun e => hn (sl_inj e ▸ hy)
      rw [Maps.has_put_other hne]
      exact h2.has y hy
    · rw [List.mem_singleton.1 hy]
      exact Maps.has_put_same hm (sl_key _) _
  · by_cases e : l = sl64 i
    · exact ⟨i, by simp, e⟩
    · rw [Maps.has_put_other e] at hl
      obtain ⟨y, hy, e2⟩ := h2.of l hl
      exact ⟨y, by simp [hy], e2⟩
end Go.Proofs.YthhpoihfaggafaaDoor
namespace Go.Proofs.YthhpoihfaggafaaDoor
open Go Go.RowKit Go.Sort Go.Proofs CodM VmM

/-- a sequence: its model, its processes' states, what waits, what was put in, the floor, how many were done -/
structure Sq where
  mo : Mo
  sts : List Ps
  waits : List Ev
  puts : List Int
  floor : Int
  done : Nat
abbrev qT : TypeId := 41
abbrev stT : TypeId := 51
abbrev sqC (pv fv : Value) (ma : Option Addr) (mn mc : Nat) (sa : Option Addr) (sn sc : Nat) (wa : Option Addr) (wn wc : Nat) (mp : Option Nat) (fl dn : Int) : Array Value :=
  #[pv, fv, .slice ma mn mc, .slice sa sn sc, .slice wa wn wc, .map mp, .int .i64 fl, .int .i64 dn]
abbrev sqO (pv fv : Value) (ma : Option Addr) (mn mc : Nat) (sa : Option Addr) (sn sc : Nat) (wa : Option Addr) (wn wc : Nat) (mp : Option Nat) (fl dn : Int) : Obj := .cells (sqC pv fv ma mn mc sa sn sc wa wn wc mp fl dn) qT
/-- a row of machines; a row of states as they lie -/
def CPt : Cod Nat := ⟨fun M => [.pointer (some ⟨M, 0, none⟩)], 1, by decide, fun _ => rfl, fun _ v hv => by simp at hv; subst hv; rfl⟩
structure Rs where
  a : Option Addr
  n : Nat
  c : Nat
  sent : Int
  drawn : Int
def CRs : Cod Rs := ⟨fun r => [.slice r.a r.n r.c, .int .i64 r.sent, .int .i64 r.drawn], 3, by decide, fun _ => rfl, fun _ v hv => by simp at hv; rcases hv with h | h | h <;> (subst h; rfl)⟩
theorem rowPt : RowT Tryd.prog CPt 37 94 8 := ⟨Tryd.underlying37, .pointer none, by kernel_rfl, rfl⟩
theorem rowRs : RowT Tryd.prog CRs 38 stT 40 := ⟨Tryd.underlying38, .agg #[.slice none 0 0, .int .i64 0, .int .i64 0], by kernel_rfl, rfl⟩
/-- it is that state -/
structure RsIs (w : World) (r : Rs) (s : Ps) : Prop where
  n : r.n = s.vars.length
  sent : r.sent = s.sent
  drawn : r.drawn = s.drawn
  vars : CV.Own 2 0 w (.slice r.a r.n r.c) s.vars
  few : s.vars.length ≤ 8
/-- a machine, in rows of its own -/
def MCop (w : World) (M : Nat) (m : Mch) (p : Prg) (a : Option Addr) (n c : Nat) : Prop := MAt w M m p a n c ∧ ∃ B, Cop B w a n p.kinds
/-- blocks of the kinds that a sequence writes -/
def Mty (w : World) (b : Nat) : Prop := (∃ cs t m, w.heap[b]? = some (.cells cs t m) ∧ (t = qT ∨ t = stT ∨ t = 45)) ∨ ∃ es c, w.heap[b]? = some (.map es c)
/-- all else stays -/
structure Ny (w w' : World) : Prop where
  size : w.heap.size ≤ w'.heap.size
  row : ∀ (b : Nat) (cur : Array Value) (t : TypeId) (m : Nat × Nat), t ≠ qT → t ≠ stT → t ≠ 45 → w.heap[b]? = some (.cells cur t m) → w'.heap[b]? = some (.cells cur t m)
theorem Ny.below {w w' : World} (h : Below w.heap.size w w') : Ny w w' := ⟨h.size, fun b _ _ _ _ _ _ hb => (h.block b (heap_lt hb)).trans hb⟩
theorem Ny.of {S : Nat → Prop} {w w' : World} (h : But S w w') (hS : ∀ b, b < w.heap.size → S b → Mty w b) : Ny w w' := ⟨h.size, fun b cur t m h1 h2 h3 hb => (h.block b (heap_lt hb) fun e => by
  rcases hS b (heap_lt hb) e with ⟨cs, t', m', e2, e3⟩ | ⟨es, c, e2⟩
  · rw [hb] at e2
    cases e2
    rcases e3 with e3 | e3 | e3
    · exact h1 e3
    · exact h2 e3
    · exact h3 e3
  · rw [hb] at e2
    cases e2).trans hb⟩
theorem Ny.trans {a b c : World} (h : Ny a b) (k : Ny b c) : Ny a c := ⟨Nat.le_trans h.size k.size, fun i cur t m h1 h2 h3 hb => k.row i cur t m h1 h2 h3 (h.row i cur t m h1 h2 h3 hb)⟩
section
variable {w w' : World}
theorem Ny.own {α : Type} {C : Cod α} {T : TypeId} {B : Nat} {v : Value} {l : List α} (h : Ny w w') (h1 : T ≠ qT) (h2 : T ≠ stT) (h3 : T ≠ 45) (ho : C.Own T B w v l) : C.Own T B w' v l := by
  refine ⟨ho.1, ?_⟩
  rcases ho.2 with h4 | ⟨g, cap, cur, e, hg, hh, rest⟩
  · exact .inl h4
  · exact .inr ⟨g, cap, cur, e, hg, h.row _ _ _ _ h1 h2 h3 hh, rest⟩
theorem Ny.ins {B : Nat} {a : Option Addr} {n : Nat} {l : List Ins} (h : Ny w w') (ho : InsOwn B w a n l) : InsOwn B w' a n l :=
  ho.keep (X := w.heap.size) ⟨h.size, fun k cur t ht _ hh => h.row k cur t _ (by rcases ht with rfl | rfl <;> decide) (by rcases ht with rfl | rfl <;> decide) (by rcases ht with rfl | rfl <;> decide) hh⟩ (fun cur e => by have := heap_lt e; omega)
theorem Ny.cop {B : Nat} {a : Option Addr} {n : Nat} {ks : List (List Ins)} (h : Ny w w') (ho : Cop B w a n ks) : Cop B w' a n ks := by
  refine ⟨ho.1, ?_⟩
  rcases ho.2 with h2 | ⟨G, cur, rfl, hG, hh, hc⟩
  · exact .inl h2
  · refine .inr ⟨G, cur, rfl, hG, h.row _ _ _ _ (by decide) (by decide) (by decide) hh, fun i hi => ?_⟩
    obtain ⟨a', n', c', e1, e2, e3⟩ := hc i hi
    exact ⟨a', n', c', e1, e2, h.ins e3⟩
theorem Ny.cops {B : Nat} {a : Option Addr} {n : Nat} {l : List Pm} (h : Ny w w') (ho : CopPs B w a n l) : CopPs B w' a n l := by
  obtain ⟨h1, h2 | ⟨G, cur, rfl, hG, hh, hc⟩⟩ := ho
  · exact ⟨h1, .inl h2⟩
  · refine ⟨h1, .inr ⟨G, cur, rfl, hG, h.row _ _ _ _ (by decide) (by decide) (by decide) hh, fun i x hx => ?_⟩⟩
    obtain ⟨a, n, c, va, vc, c0, c1, c2, c3, h4, h5, h6⟩ := hc i x hx
    exact ⟨a, n, c, va, vc, c0, c1, c2, c3, h4, h.cop h5, h.own (by decide) (by decide) (by decide) h6⟩
theorem Ny.mcop {M : Nat} {m : Mch} {p : Prg} {a : Option Addr} {n c : Nat} (h : Ny w w') (ho : MCop w M m p a n c) : MCop w' M m p a n c := by
  obtain ⟨h1, B, h2⟩ := ho
  have h3 := h.cop h2
  exact ⟨⟨h.row _ _ _ _ (by decide) (by decide) (by decide) h1.box, ⟨h1.prog.1, h3.kinds h1.prog.2.2.1⟩, h1.may, h1.procs, h1.self⟩, B, h3⟩
theorem Ny.rs {r : Rs} {s : Ps} (h : Ny w w') (ho : RsIs w r s) : RsIs w' r s := ⟨ho.n, ho.sent, ho.drawn, h.own (by decide) (by decide) (by decide) ho.vars, ho.few⟩
end
/-- what is only read of a sequence of n processes: its machines, its model's rows -/
structure Ro (w : World) (pv fv : Value) (ma : Option Addr) (n mc : Nat) (Ms : List Nat) (mo : Mo) : Prop where
  few : 1 ≤ n ∧ n ≤ 16
  len : mo.procs.length = n
  mach : CPt.Own 94 0 w (.slice ma n mc) Ms
  ms : ∀ (i : Nat) (x : Pm), mo.procs[i]? = some x → ∃ M a k c, Ms[i]? = some M ∧ MCop w M ⟨i + 1, n, x.seed⟩ x.prog a k c
  procs : ∃ a c, pv = .slice a n c ∧ CopPs 0 w a n mo.procs
  first : CEv.Own 45 0 w fv mo.first
theorem Ro.next {S : Nat → Prop} {w w' : World} {pv fv : Value} {ma : Option Addr} {n mc : Nat} {Ms : List Nat} {mo : Mo} (h : Ro w pv fv ma n mc Ms mo) (hb : But S w w') (hS : ∀ b, b < w.heap.size → S b → Mty w b) (hf : ∀ b, fv.ownBlock = some b → ¬ S b) : Ro w' pv fv ma n mc Ms mo := by
  have hy := Ny.of hb hS
  obtain ⟨a, c, e, h1⟩ := h.procs
  exact ⟨h.few, h.len, hy.own (by decide) (by decide) (by decide) h.mach, fun i x hx => by
    obtain ⟨M, a, k, c, e1, e2⟩ := h.ms i x hx
    exact ⟨M, a, k, c, e1, hy.mcop e2⟩, ⟨a, c, e, hy.cops h1⟩, h.first.but hb hf⟩
/-- what is written: the blocks, and what they hold -/
structure Wo (w : World) (G : Nat) (pv fv : Value) (ma : Option Addr) (n mc : Nat) (sa : Option Addr) (sc : Nat) (wa : Option Addr) (wc : Nat) (mp : Nat) (rs : List Rs) (q : Sq) : Prop where
  box : w.heap[G]? = some (sqO pv fv ma n mc sa n sc wa q.waits.length wc (some mp) q.floor q.done)
  st : CRs.Mid stT w sa sc rs
  wt : CEv.Mid 45 w wa wc q.waits
  set : SetAt w mp q.puts
  rlen : rs.length = n
  rs : ∀ (i : Nat) (s : Ps), q.sts[i]? = some s → ∃ r, rs[i]? = some r ∧ RsIs w r s
/-- the numbers of a sequence are in order, and at most so many -/
structure GoodQ (K : Nat) (q : Sq) : Prop where
  sts : q.sts.length = q.mo.procs.length
  asc : Asc q.waits
  may : ∀ e ∈ q.waits, mayE q.mo.procs.length e = true
  is : ∀ (i : Nat) (x : Pm) (s : Ps), q.mo.procs[i]? = some x → q.sts[i]? = some s → isOf x.prog s = true ∧ s.sent ≤ K ∧ s.drawn ≤ 64 * K
  lim : q.waits.length ≤ K ∧ q.puts.length ≤ K ∧ q.done ≤ K
theorem GoodQ.mono {K K' : Nat} {q : Sq} (h : GoodQ K q) (hk : K ≤ K') : GoodQ K' q := ⟨h.sts, h.asc, h.may, fun i x s h1 h2 => by
  obtain ⟨a, b, c⟩ := h.is i x s h1 h2
  exact ⟨a, by omega, by omega⟩, by have := h.lim; omega⟩
/-- the blocks that are written -/
def mutB (G : Nat) (sa wa : Option Addr) (mp b : Nat) : Prop := b = G ∨ blkOf sa b ∨ blkOf wa b ∨ b = mp
/-- block G is a sequence; it writes in F, its first events lie in Z -/
def SqAt (K : Nat) (w : World) (G : Nat) (F Z : Nat → Prop) (q : Sq) : Prop :=
  ∃ pv fv ma mc Ms sa sc wa wc mp rs, GoodQ K q ∧ Ro w pv fv ma q.mo.procs.length mc Ms q.mo ∧ Wo w G pv fv ma q.mo.procs.length mc sa sc wa wc mp rs q ∧ (∀ b, mutB G sa wa mp b → F b) ∧ (∀ b, fv.ownBlock = some b → Z b) ∧ (∀ b, Z b → ¬ F b) ∧ (∀ b, F b → mutB G sa wa mp b) ∧ (∀ b, Z b → fv.ownBlock = some b)
section
variable {w w' : World} {G : Nat} {q : Sq} {pv fv : Value} {ma : Option Addr} {n mc : Nat} {sa : Option Addr} {sc : Nat} {wa : Option Addr} {wc : Nat} {mp : Nat} {rs : List Rs}
theorem mid_ty {α : Type} {C : Cod α} {T : TypeId} {a : Option Addr} {c : Nat} {l : List α} (h : C.Mid T w a c l) {b : Nat} (hb : blkOf a b) : ∃ cs, w.heap[b]? = some (.cells cs T (0, 0)) := by
  obtain ⟨p, rfl, rfl⟩ := hb
  obtain ⟨_, _, ⟨e, _⟩ | ⟨B, pre, post, e, hh, _⟩⟩ := h
  · cases e
  · cases e
    exact ⟨_, hh⟩
theorem Wo.mty (h : Wo w G pv fv ma n mc sa sc wa wc mp rs q) : ∀ b, mutB G sa wa mp b → Mty w b := by
  rintro b (rfl | hb | hb | rfl)
  · exact .inl ⟨_, _, _, h.box, .inl rfl⟩
  · obtain ⟨cs, e⟩ := mid_ty h.st hb
    exact .inl ⟨_, _, _, e, .inr (.inl rfl)⟩
  · obtain ⟨cs, e⟩ := mid_ty h.wt hb
    exact .inl ⟨_, _, _, e, .inr (.inr rfl)⟩
  · exact .inr h.set.obj
theorem Mty.lt {b : Nat} (h : Mty w b) : b < w.heap.size := by
  rcases h with ⟨_, _, _, e, _⟩ | ⟨_, _, e⟩ <;> exact heap_lt e
/-- nothing of what it writes has turned -/
theorem Wo.next {S : Nat → Prop} (h : Wo w G pv fv ma n mc sa sc wa wc mp rs q) (hb : But S w w') (hS : ∀ b, b < w.heap.size → S b → Mty w b) (hd : ∀ b, mutB G sa wa mp b → ¬ S b) : Wo w' G pv fv ma n mc sa sc wa wc mp rs q := by
  have hy := Ny.of hb hS
  exact ⟨(hb.block G (heap_lt h.box) (hd G (.inl rfl))).trans h.box, h.st.but hb fun b e => hd b (.inr (.inl e)), h.wt.but hb fun b e => hd b (.inr (.inr (.inl e))), h.set.same (hb.block mp h.set.lt (hd mp (.inr (.inr (.inr rfl))))), h.rlen, fun i s hs => by
    obtain ⟨r, e1, e2⟩ := h.rs i s hs
    exact ⟨r, e1, hy.rs e2⟩⟩
end
theorem blk_ne {w : World} {α β : Type} {C : Cod α} {D : Cod β} {T U : TypeId} {a b : Option Addr} {c d : Nat} {l : List α} {m : List β} (h : C.Mid T w a c l) (k : D.Mid U w b d m) (hne : T ≠ U) {x : Nat} (h1 : blkOf a x) (h2 : blkOf b x) : False := by
  obtain ⟨cs, e1⟩ := mid_ty h h1
  obtain ⟨ds, e2⟩ := mid_ty k h2
  rw [e1] at e2
  cases e2
  exact hne rfl
theorem blk_box {w : World} {α : Type} {C : Cod α} {T U : TypeId} {a : Option Addr} {c : Nat} {l : List α} (h : C.Mid T w a c l) {G : Nat} {cs : Array Value} (hg : w.heap[G]? = some (.cells cs U (0, 0))) (hne : T ≠ U) : ¬ blkOf a G := fun e => by
  obtain ⟨ds, e1⟩ := mid_ty h e
  rw [e1] at hg
  cases hg
  exact hne rfl
theorem blk_map {w : World} {α : Type} {C : Cod α} {T : TypeId} {a : Option Addr} {c : Nat} {l : List α} (h : C.Mid T w a c l) {M : Nat} {L : List Int} (hs : SetAt w M L) : ¬ blkOf a M := fun e => by
  obtain ⟨ds, e1⟩ := mid_ty h e
  obtain ⟨es, c, e2⟩ := hs.obj
  rw [e1] at e2
  cases e2
theorem box_map {w : World} {G M : Nat} {U : TypeId} {cs : Array Value} {L : List Int} (hg : w.heap[G]? = some (.cells cs U (0, 0))) (hs : SetAt w M L) : M ≠ G := fun e => by
  obtain ⟨es, c, e2⟩ := hs.obj
  rw [e, hg] at e2
  cases e2
theorem SqAt.good {w : World} {G : Nat} {F Z : Nat → Prop} {q : Sq} {K : Nat} (h : SqAt K w G F Z q) : GoodQ K q := by
  obtain ⟨pv, fv, ma, mc, Ms, sa, sc, wa, wc, mp, rs, h1, _⟩ := h
  exact h1
theorem SqAt.mty {w : World} {G : Nat} {F Z : Nat → Prop} {q : Sq} {K : Nat} (h : SqAt K w G F Z q) : ∀ b, F b → Mty w b := by
  obtain ⟨pv, fv, ma, mc, Ms, sa, sc, wa, wc, mp, rs, h1, h2, h3, h4, h5, h6, h7, h8⟩ := h
  exact fun b hb => h3.mty b (h7 b hb)
theorem SqAt.but {S : Nat → Prop} {w w' : World} {G : Nat} {F Z : Nat → Prop} {q : Sq} {K : Nat} (h : SqAt K w G F Z q) (hb : But S w w') (hS : ∀ b, b < w.heap.size → S b → Mty w b) (hF : ∀ b, F b → ¬ S b) (hZ : ∀ b, Z b → ¬ S b) : SqAt K w' G F Z q := by
  obtain ⟨pv, fv, ma, mc, Ms, sa, sc, wa, wc, mp, rs, h1, h2, h3, h4, h5, h6, h7, h8⟩ := h
  exact ⟨pv, fv, ma, mc, Ms, sa, sc, wa, wc, mp, rs, h1, h2.next hb hS fun b e => hZ b (h5 b e), h3.next hb hS fun b e => hF b (h4 b e), h4, h5, h6, h7, h8⟩
theorem SqAt.below {w w' : World} {G : Nat} {F Z : Nat → Prop} {q : Sq} {K : Nat} (h : SqAt K w G F Z q) (hb : Below w.heap.size w w') : SqAt K w' G F Z q := h.but (S := fun _ => False) (But.of hb) (fun _ _ e => e.elim) (fun _ _ e => e) fun _ _ e => e
theorem SqAt.mono {K K' : Nat} {w : World} {G : Nat} {F Z : Nat → Prop} {q : Sq} (h : SqAt K w G F Z q) (hk : K ≤ K') : SqAt K' w G F Z q := by
  obtain ⟨pv, fv, ma, mc, Ms, sa, sc, wa, wc, mp, rs, h1, h2⟩ := h
  exact ⟨pv, fv, ma, mc, Ms, sa, sc, wa, wc, mp, rs, h1.mono hk, h2⟩
/-- it stands for another one now -/
def SqTo (K : Nat) (v : Value) (G : Nat) (F Z : Nat → Prop) (q : Sq) (w : World) (e : Ending) (w' : World) : Prop := e = .returned v ∧ ∃ F', SqAt K w' G F' Z q ∧ (∀ b, F' b → F b ∨ w.heap.size ≤ b) ∧ But F w w'
end Go.Proofs.YthhpoihfaggafaaDoor
namespace Go.Proofs.YthhpoihfaggafaaDoor
open Go Go.RowKit Go.Sort Go.Proofs CodM VmM

abbrev ptr (G : Nat) : Value := .pointer (some ⟨G, 0, none⟩)
abbrev evZ : Ev := ⟨0, 0, 0, 0, 0, 0⟩
theorem isNone_nil (w : World) : Calls Tryd.prog 32 #[.pointer none] w (SameB true w) := by
  go_enter Tryd.func32, Tryd.ntmps32
  go_wp2
  go_ret
  exact ⟨rfl, rfl⟩
theorem isNone_box (w : World) (G : Nat) (ma : Option Addr) (mn mc : Nat) (t : Bool) (hc : w.cell? ⟨G, 2, none⟩ = some (.slice ma mn mc)) (ht : t = decide (mn = 0)) : Calls Tryd.prog 32 #[ptr G] w (SameB t w) := by
  have hb : ((mn : Int) == 0) = t := by
    rw [ht]
    by_cases h : mn = 0 <;> simp [h]
  clear ht
  go_enter Tryd.func32, Tryd.ntmps32
  go_wp2
  go_ret
  exact ⟨rfl, rfl⟩
section
variable {w : World} {G : Nat}
theorem Floor_nil (w : World) : Calls Tryd.prog 15 #[.pointer none] w (Tells (.int .i64 (-1)) w) := by
  go_enter Tryd.func15, Tryd.ntmps15
  go_wp2_with (go_at_call 32; refine (isNone_nil _).mono ?_; rintro e w1 ⟨rfl, rfl⟩)
  go_ret
  exact ⟨rfl, Below.refl _ _⟩
theorem Done_nil (w : World) : Calls Tryd.prog 16 #[.pointer none] w (Tells (.int .i64 0) w) := by
  go_enter Tryd.func16, Tryd.ntmps16
  go_wp2_with (go_at_call 32; refine (isNone_nil _).mono ?_; rintro e w1 ⟨rfl, rfl⟩)
  go_ret
  exact ⟨rfl, Below.refl _ _⟩
theorem Waits_nil (w : World) : Calls Tryd.prog 17 #[.pointer none] w (Tells (.int .i64 0) w) := by
  go_enter Tryd.func17, Tryd.ntmps17
  go_wp2_with (go_at_call 32; refine (isNone_nil _).mono ?_; rintro e w1 ⟨rfl, rfl⟩)
  go_ret
  exact ⟨rfl, Below.refl _ _⟩
/-- its cells -/
structure BoxS (w : World) (G : Nat) (pv fv : Value) (ma : Option Addr) (mn mc : Nat) (sa : Option Addr) (sn sc : Nat) (wa : Option Addr) (wn wc : Nat) (mp : Option Nat) (fl dn : Int) : Prop where
  c0 : w.cell? ⟨G, 0, none⟩ = some pv
  c1 : w.cell? ⟨G, 1, none⟩ = some fv
  c2 : w.cell? ⟨G, 2, none⟩ = some (.slice ma mn mc)
  c3 : w.cell? ⟨G, 3, none⟩ = some (.slice sa sn sc)
  c4 : w.cell? ⟨G, 4, none⟩ = some (.slice wa wn wc)
  c5 : w.cell? ⟨G, 5, none⟩ = some (.map mp)
  c6 : w.cell? ⟨G, 6, none⟩ = some (.int .i64 fl)
  c7 : w.cell? ⟨G, 7, none⟩ = some (.int .i64 dn)
theorem boxS {pv fv : Value} {ma : Option Addr} {mn mc : Nat} {sa : Option Addr} {sn sc : Nat} {wa : Option Addr} {wn wc : Nat} {mp : Option Nat} {fl dn : Int} (h : w.heap[G]? = some (sqO pv fv ma mn mc sa sn sc wa wn wc mp fl dn)) : BoxS w G pv fv ma mn mc sa sn sc wa wn wc mp fl dn := by
  refine ⟨?_, ?_, ?_, ?_, ?_, ?_, ?_, ?_⟩ <;> (rw [cell_of_row _ _ _ _ _ _ h]; rfl)
variable {F Z : Nat → Prop} {q : Sq} {K : Nat}
theorem none_of (h : SqAt K w G F Z q) : Calls Tryd.prog 32 #[ptr G] w (SameB false w) := by
  obtain ⟨pv, fv, ma, mc, Ms, sa, sc, wa, wc, mp, rs, h1, h2, h3, _⟩ := h
  exact isNone_box w G ma _ mc false (boxS h3.box).c2 (decide_eq_false (by have := h2.few; omega)).symm
theorem SqAt.flr (h : SqAt K w G F Z q) : w.cell? ⟨G, 6, none⟩ = some (.int .i64 q.floor) ∧ w.cell? ⟨G, 7, none⟩ = some (.int .i64 q.done) := by
  obtain ⟨pv, fv, ma, mc, Ms, sa, sc, wa, wc, mp, rs, h1, h2, h3, _⟩ := h
  exact ⟨(boxS h3.box).c6, (boxS h3.box).c7⟩
theorem Floor_any (h : SqAt K w G F Z q) : Calls Tryd.prog 15 #[ptr G] w (Tells (.int .i64 q.floor) w) := by
  have HN := Lib.hid (none_of h)
  obtain ⟨c6, _⟩ := h.flr
  clear h
  go_enter Tryd.func15, Tryd.ntmps15
  go_wp2_with (go_at_call 32; refine HN.out.mono ?_; rintro e w1 ⟨rfl, rfl⟩)
  go_ret
  exact ⟨rfl, Below.refl _ _⟩
theorem Done_any (h : SqAt K w G F Z q) : Calls Tryd.prog 16 #[ptr G] w (Tells (.int .i64 q.done) w) := by
  have HN := Lib.hid (none_of h)
  obtain ⟨_, c7⟩ := h.flr
  clear h
  go_enter Tryd.func16, Tryd.ntmps16
  go_wp2_with (go_at_call 32; refine HN.out.mono ?_; rintro e w1 ⟨rfl, rfl⟩)
  go_ret
  exact ⟨rfl, Below.refl _ _⟩
theorem SqAt.row (h : SqAt K w G F Z q) : ∃ wa wc, w.cell? ⟨G, 4, none⟩ = some (.slice wa q.waits.length wc) ∧ CEv.Mid 45 w wa wc q.waits := by
  obtain ⟨pv, fv, ma, mc, Ms, sa, sc, wa, wc, mp, rs, h1, h2, h3, _⟩ := h
  exact ⟨wa, wc, (boxS h3.box).c4, h3.wt⟩
theorem Waits_any (h : SqAt K w G F Z q) : Calls Tryd.prog 17 #[ptr G] w (Tells (.int .i64 q.waits.length) w) := by
  have HN := Lib.hid (none_of h)
  obtain ⟨wa, wc, c4, _⟩ := h.row
  clear h
  go_enter Tryd.func17, Tryd.ntmps17
  go_wp2_with (go_at_call 32; refine HN.out.mono ?_; rintro e w1 ⟨rfl, rfl⟩)
  go_ret
  exact ⟨rfl, Below.refl _ _⟩
def NextTo (x : Ev) (b : Bool) (w : World) (e : Ending) (w' : World) : Prop := e = .returned (.tuple #[evW x, .bool b]) ∧ Below w.heap.size w w'
theorem results_cell2 {P : Program} {fn : Func} {p u : Tmp} {ty : TypeId} (h : fn.results = #[.cell p ty, .tmp u]) (tmps : Array Value) (w : World) (g : Nat) (t : TypeId) (cs : Array Value) (fr : Nat × Nat) (d : TypeDesc)
    (hp : tmps.getD p undef = .pointer (some ⟨g, 0, none⟩)) (hg : w.heap[g]? = some (.cells cs t fr))
    (hu : P.underlying ty = some d) (hd : (match d with | .struct _ | .array _ _ => true | _ => false) = true) (hi : (P.info? ty).map (·.size) = some cs.size) :
    (results fn tmps).run P w = .ok (.tuple #[.agg cs, tmps.getD u undef]) w := results_two h tmps w g t cs fr d hp hg hu hd hi
theorem setRow_b {w : World} {B g : Nat} (hg : B ≤ g) (cs : Array Value) : Below B w (w.setRow g cs) := ⟨rfl, rfl, rfl, by simp, fun k hk => setRow_other w g k cs (by omega)⟩
set_option maxHeartbeats 2000000 in
theorem Next_none (w : World) (G : Value) (hN : Hid (∀ W, Below w.heap.size w W → Calls Tryd.prog 17 #[G] W (Tells (.int .i64 0) W))) : Calls Tryd.prog 12 #[G] w (NextTo evZ false w) := by
  have hb0 : Below w.heap.size w (w.alloc (evO evZ)) := (Below.refl _ _).alloc (Nat.le_refl _) _
  have hx0 : (w.alloc (evO evZ)).heap[w.heap.size]? = some (evO evZ) := heap_alloc_new _ _
  have H0 := Lib.hid (And.intro hb0 hx0)
  clear hb0 hx0
  go_enter Tryd.func12, Tryd.ntmps12
  go_wp2_with (first
    | (go_at_call 17; refine (hN.out _ ((Below.refl _ _).alloc (Nat.le_refl _) _)).mono ?_; rintro e w1 ⟨rfl, hb1⟩; have H1 : Hid (Below w.heap.size w w1 ∧ w1.heap[w.heap.size]? = some (evO evZ)) := Lib.hid ⟨H0.out.1.trans (hb1.mono H0.out.1.size), (hb1.block _ (heap_lt H0.out.2)).trans H0.out.2⟩; clear hb1)
    | (show wpList _ _ _ (Oper.mk _ (.store _ (.tmp 2) (.tmp 7)) _ _ _ _ :: _) _ _; refine wpList_store_row rfl 45 (.tmp 2) (.tmp 7) rfl w.heap.size _ rfl rfl 45 _ H1.out.2 szE rfl (by simp [Value.oneCell']) ?_))
  refine ⟨rfl, _, results_cell2 rfl _ _ w.heap.size 45 _ (0, 0) _ rfl (setRow_heap _ _ _ _ _ _ H1.out.2) Tryd.underlying45 rfl szE, rfl, H1.out.1.trans (setRow_b (Nat.le_refl _) _)⟩
theorem Next_nil (w : World) : Calls Tryd.prog 12 #[.pointer none] w (NextTo evZ false w) := Next_none w _ (Lib.hid fun W _ => Waits_nil W)
set_option maxHeartbeats 2000000 in
theorem Next_some {x : Ev} {r : List Ev} (h : SqAt K w G F Z q) (hK : K ≤ 100000) (hq : q.waits = x :: r) : Calls Tryd.prog 12 #[ptr G] w (NextTo x true w) := by
  have hb0 : Below w.heap.size w (w.alloc (evO evZ)) := (Below.refl _ _).alloc (Nat.le_refl _) _
  have hx0 : (w.alloc (evO evZ)).heap[w.heap.size]? = some (evO evZ) := heap_alloc_new _ _
  have HN : Hid (∀ W, Below w.heap.size w W → Calls Tryd.prog 17 #[ptr G] W (Tells (.int .i64 q.waits.length) W)) := Lib.hid fun W hb => Waits_any (h.below hb)
  obtain ⟨wa, wc, c4, hM⟩ := h.row
  have hA := hM.at_ (by have := h.good.lim; omega)
  obtain ⟨n, hn⟩ : ∃ n, n = q.waits.length := ⟨_, rfl⟩
  have hn0 : 0 < n := by rw [hn, hq]; exact Nat.succ_pos _
  rw [← hn] at HN c4 hA
  obtain ⟨B, off, rfl, hB, y, hy, hc⟩ := hA.cell hn0
  rw [hq] at hy
  cases hy
  rw [Nat.zero_mul, Nat.add_zero] at hc
  obtain ⟨d0, d1, d2, d3, d4, d5⟩ := six_at hc
  have H0 := Lib.hid (And.intro hb0 hx0)
  have hz : ¬ ((n : Int) = 0) := by omega
  clear hb0 hx0 h hM hA hn hq hc hB
  go_enter Tryd.func12, Tryd.ntmps12
  go_wp2_with (first
    | (go_at_call 17; refine (HN.out _ ((Below.refl _ _).alloc (Nat.le_refl _) _)).mono ?_; rintro e w1 ⟨rfl, hb1⟩; have hb2 := H0.out.1.trans (hb1.mono H0.out.1.size); have H1 : Hid (Below w.heap.size w w1 ∧ w1.heap[w.heap.size]? = some (evO evZ)) := Lib.hid ⟨hb2, (hb1.block _ (heap_lt H0.out.2)).trans H0.out.2⟩; have c4 := keepc hb2 c4; have d0 := keepc hb2 d0; have d1 := keepc hb2 d1; have d2 := keepc hb2 d2; have d3 := keepc hb2 d3; have d4 := keepc hb2 d4; have d5 := keepc hb2 d5; clear hb1 hb2)
    | (show wpList _ _ _ (Oper.mk _ (.store _ (.tmp 2) (.tmp 13)) _ _ _ _ :: _) _ _; refine wpList_store_row rfl 45 (.tmp 2) (.tmp 13) rfl w.heap.size _ rfl rfl 45 _ H1.out.2 szE rfl (by simp [Value.oneCell']) ?_))
  refine ⟨rfl, _, results_cell2 rfl _ _ w.heap.size 45 _ (0, 0) _ rfl (setRow_heap _ _ _ _ _ _ H1.out.2) Tryd.underlying45 rfl szE, rfl, H1.out.1.trans (setRow_b (Nat.le_refl _) _)⟩
theorem Next_end (h : SqAt K w G F Z q) (hq : q.waits = []) : Calls Tryd.prog 12 #[ptr G] w (NextTo evZ false w) := Next_none w _ (Lib.hid fun W hb => by
  have := Waits_any (h.below hb)
  rw [hq] at this
  exact this)
end
end Go.Proofs.YthhpoihfaggafaaDoor
namespace Go.Proofs.YthhpoihfaggafaaDoor
open Go Go.RowKit Go.Sort Go.Proofs CodM VmM

def WaitTo (K : Nat) (G : Nat) (F Z : Nat → Prop) (q : Sq) (x : Ev) (w : World) (e : Ending) (w' : World) : Prop := SqTo (K + 1) (.tuple #[]) G F Z { q with waits := putIn q.waits x } w e w'
/-- what waits has a row that may be another one -/
theorem SqAt.waits {K : Nat} {w w9 : World} {G : Nat} {F Z : Nat → Prop} {q : Sq} {pv fv : Value} {ma : Option Addr} {mc : Nat} {Ms : List Nat} {sa : Option Addr} {sc : Nat} {wa : Option Addr} {wc mp : Nat} {rs : List Rs} (hro : Ro w pv fv ma q.mo.procs.length mc Ms q.mo) (hwo : Wo w G pv fv ma q.mo.procs.length mc sa sc wa wc mp rs q)
    (hF : ∀ b, mutB G sa wa mp b → F b) (hZ : ∀ b, fv.ownBlock = some b → Z b) (hZF : ∀ b, Z b → ¬ F b) (hZ2 : ∀ b, Z b → fv.ownBlock = some b) (l : List Ev) (hg : GoodQ K { q with waits := l }) {a' : Option Addr} {c' : Nat} (hb : But (blkOf wa) w w9) (hm : CEv.Mid 45 w9 a' c' l) (hn : ∀ b, blkOf a' b → blkOf wa b ∨ w.heap.size ≤ b) :
    ∃ F', SqAt K (w9.setCell ⟨G, 4, none⟩ (.slice a' l.length c')) G F' Z { q with waits := l } ∧ (∀ b, F' b → F b ∨ w.heap.size ≤ b) ∧ But F w (w9.setCell ⟨G, 4, none⟩ (.slice a' l.length c')) := by
  have hne : ¬ blkOf wa G := blk_box hwo.wt hwo.box (by decide)
  have hG9 : w9.heap[G]? = _ := (hb.block G (heap_lt hwo.box) hne).trans hwo.box
  have hb2 : But (fun b => b = G ∨ blkOf wa b) w (w9.setCell ⟨G, 4, none⟩ (.slice a' l.length c')) := (hb.mono fun _ _ e => .inr e).setCell (.inl rfl) _
  have hS : ∀ b, b < w.heap.size → (b = G ∨ blkOf wa b) → Mty w b := fun b _ e => hwo.mty b (e.elim .inl fun e => .inr (.inr (.inl e)))
  have hb3 : But F w (w9.setCell ⟨G, 4, none⟩ (.slice a' l.length c')) := hb2.mono fun b _ e => hF b (e.elim .inl fun e => .inr (.inr (.inl e)))
  have hy := Ny.of hb2 hS
  have hfz : ∀ b, fv.ownBlock = some b → ¬ F b := fun b e => hZF b (hZ b e)
  have hnew : ∀ b, mutB G sa a' mp b → F b ∨ w.heap.size ≤ b := by
    rintro b (e | e | e | e)
    · exact .inl (hF b (.inl e))
    · exact .inl (hF b (.inr (.inl e)))
    · exact (hn b e).imp (fun e => hF b (.inr (.inr (.inl e)))) id
    · exact .inl (hF b (.inr (.inr (.inr e))))
  refine ⟨mutB G sa a' mp, ⟨pv, fv, ma, mc, Ms, sa, sc, a', c', mp, rs, hg, ?_, ⟨?_, ?_, ?_, ?_, hwo.rlen, fun i s hs => ?_⟩, fun b e => e, hZ, fun b hz he => ?_, fun b e => e, hZ2⟩, hnew, hb3⟩
  · exact hro.next hb2 hS fun b e e2 => hfz b e (hF b (e2.elim .inl fun e => .inr (.inr (.inl e))))
  · exact heap_setCell_same w9 G 4 _ _ _ hG9
  · exact hwo.st.but hb2 fun b e e2 => e2.elim (fun e2 => blk_box hwo.st hwo.box (by decide) (e2 ▸ e)) fun e2 => blk_ne hwo.st hwo.wt (by decide) e e2
  · exact hm.but (S := fun b => b = G) ((But.refl (fun b => b = G) w9).setCell (p := ⟨G, 4, none⟩) rfl _) fun b e e2 => blk_box hm hG9 (by decide) (e2 ▸ e)
  · exact hwo.set.same (hb2.block mp hwo.set.lt fun e => e.elim (box_map hwo.box hwo.set) (blk_map hwo.wt hwo.set))
  · obtain ⟨r, e1, e2⟩ := hwo.rs i s hs
    exact ⟨r, e1, hy.rs e2⟩
  · rcases hnew b he with e | e
    · exact hZF b hz e
    · have := (hro.first.lt b (hZ2 b hz)).2
      omega
section
variable {w : World} {G : Nat} {F Z : Nat → Prop} {q : Sq} {K : Nat}
set_option maxHeartbeats 4000000 in
set_option maxRecDepth 100000 in
theorem wait_any (h : SqAt K w G F Z q) (hK : K ≤ 90000) (x : Ev) (hx : mayE q.mo.procs.length x = true) : Calls Tryd.prog 34 #[ptr G, evW x] w (WaitTo K G F Z q x w) := by
  obtain ⟨w1, hw1⟩ : ∃ w1, w1 = w.alloc (evO x) := ⟨_, rfl⟩
  have hb1 : Below w.heap.size w w1 := by rw [hw1]; exact (Below.refl _ _).alloc (Nat.le_refl _) _
  have hx1 : w1.heap[w.heap.size]? = some (evO x) := by rw [hw1]; exact heap_alloc_new _ _
  obtain ⟨pv, fv, ma, mc, Ms, sa, sc, wa, wc, mp, rs, hg, hro, hwo, hF, hZ, hZF, hF2, hZ2⟩ := h
  have hlim := hg.lim
  have hwt := hwo.wt
  have hbx := boxS hwo.box
  have c4 := keepc hb1 hbx.c4
  obtain ⟨n, hn⟩ : ∃ n, n = q.waits.length := ⟨_, rfl⟩
  obtain ⟨b0, b1, b2, b3, b4, b5⟩ := six_at (ev_box hx1)
  have HS : Hid (∀ W, Below w1.heap.size w1 W → Calls Tryd.prog 68 #[.slice wa n wc, evW x, .func (.func 69) #[] #[]] W (SearchTo (posOf q.waits x) (foundE q.waits x (posOf q.waits x)) W)) := Lib.hid fun W hb => by
    rw [hn]
    exact search_any W wa wc q.waits x (((hwt.below hb1).below hb).at_ (by omega)) hg.asc
  obtain ⟨p, hp⟩ : ∃ p, p = posOf q.waits x := ⟨_, rfl⟩
  have hpn : p ≤ n := by rw [hp, hn]; exact posOf_le _ _
  have HI : Hid (∀ W vb vc, Below w1.heap.size w1 W → w1.heap.size ≤ vb → W.heap[vb]? = some (evO x) → Calls Tryd.prog 70 #[.slice wa n wc, .int .i64 p, .slice (some ⟨vb, 0, none⟩) 1 vc] W (InsTo wa (putIn q.waits x) W)) := Lib.hid fun W vb vc hb hvb hv => by
    rw [hn, hp]
    exact insert_any ((hwt.below hb1).below hb) (by omega) (posOf_le _ _) hv fun e => by have := (hwt.below hb1).lt _ e; omega
  have q0 : ∀ q : InB w1, q.w.cell? ⟨w.heap.size, 0, none⟩ = some (.int .i64 x.time) := fun q => cell_keep q b0
  have q1 : ∀ q : InB w1, q.w.cell? ⟨w.heap.size, 1, none⟩ = some (.int .i64 x.org) := fun q => cell_keep q b1
  have q2 : ∀ q : InB w1, q.w.cell? ⟨w.heap.size, 2, none⟩ = some (.int .i64 x.seq) := fun q => cell_keep q b2
  have q3 : ∀ q : InB w1, q.w.cell? ⟨w.heap.size, 3, none⟩ = some (.int .i64 x.to) := fun q => cell_keep q b3
  have q4 : ∀ q : InB w1, q.w.cell? ⟨w.heap.size, 4, none⟩ = some (.int .i64 x.kind) := fun q => cell_keep q b4
  have q5 : ∀ q : InB w1, q.w.cell? ⟨w.heap.size, 5, none⟩ = some (.int .i64 x.data) := fun q => cell_keep q b5
  rw [← hn] at c4
  have q6 : ∀ q : InB w1, q.w.cell? ⟨G, 4, none⟩ = some (.slice wa n wc) := fun q => cell_keep q c4
  have HX := Lib.hid (And.intro hb1 (And.intro hx1 (And.intro hwo.box c4)))
  have HQ := Lib.hid (And.intro hg (And.intro hro (And.intro hwo (And.intro hF (And.intro hZ (And.intro hZF (And.intro hF2 (And.intro hZ2 (And.intro hx hlim)))))))))
  have HW1 := Lib.hid hw1
  have HN := Lib.hid (And.intro hn hp)
  rw [← hp] at HS
  rw [← hn] at hbx
  have HP : Hid (foundE q.waits x p = foundE q.waits x p) := Lib.hid rfl
  clear hb1 hx1 hg hro hwo hF hZ hZF hF2 hZ2 hx hlim hwt hbx hw1 hn hp c4 b0 b1 b2 b3 b4 b5
  go_enter Tryd.func34, Tryd.ntmps34
  go_upto_region 1 with fail
  rw [← HW1.out]
  refine wp_region_below (by kernel_rfl) (by kernel_rfl) ?_
  repeat (refine WQ.step (fun K hK => ?_); go_simp; first | (refine hK _ ?_; clear hK K) | (apply Exists.intro; refine ⟨fun _ => ?_, hK _ ?_⟩; (go_at_call 68; exact Calls.inb (HS.out _ (by exact InB.h _))); clear hK K))
  refine WQ.nil ?_
  rintro w8 ⟨pq, hpq⟩
  have H8 := Lib.hid pq.h
  rw [← hpq] at H8
  clear hpq pq q0 q1 q2 q3 q4 q5 q6 HS
  obtain ⟨b0, b1, b2, b3, b4, b5⟩ := six_at (ev_box ((H8.out.block _ (heap_lt HX.out.2.1)).trans HX.out.2.1))
  have c4 := keepc H8.out HX.out.2.2.2
  obtain ⟨fz, hfz⟩ : ∃ fz, fz = foundE q.waits x p := ⟨_, rfl⟩
  rw [← hfz]
  clear hfz HP
  have HG8 : Hid (∀ W : World, But (blkOf wa) (w8.alloc (evO x)).drew W → W.cell? ⟨G, 4, none⟩ = some (.slice wa n wc) ∧ W.frozen? ⟨G, 4, none⟩ = false ∧ W.heap[G]? = w.heap[G]?) := Lib.hid fun W hb => by
    have hbx := HX.out.2.2.1
    have hne : ¬ blkOf wa G := fun e => by
      obtain ⟨cs, e2⟩ := mid_ty HQ.out.2.2.1.wt e
      rw [hbx] at e2
      cases e2
    have hG : (w8.alloc (evO x)).drew.heap[G]? = w.heap[G]? := by
      show (w8.alloc (evO x)).heap[G]? = _
      rw [Below.heap_alloc _ _ _ (by have := heap_lt hbx; have := HX.out.1.size; have := H8.out.size; show G < w8.heap.size; omega)]
      rw [H8.out.block G (by have := heap_lt hbx; have := HX.out.1.size; omega), HX.out.1.block G (heap_lt hbx)]
    have hW := (hb.block G (by rw [← hG] at hbx; exact heap_lt hbx) hne).trans hG
    rw [hbx] at hW
    refine ⟨?_, by simp [World.frozen?, hW], by rw [hW, hbx]⟩
    rw [HN.out.1]
    exact (boxS hW).c4
  have HI8 : Hid (Calls Tryd.prog 70 #[.slice wa n wc, .int .i64 p, .slice (some ⟨w8.heap.size, 0, none⟩) 1 1] (w8.alloc (evO x)).drew (InsTo wa (putIn q.waits x) (w8.alloc (evO x)).drew)) := Lib.hid (HI.out (w8.alloc (evO x)).drew w8.heap.size 1 ((H8.out.alloc (H8.out.size) _).drew) H8.out.size (heap_alloc_new _ _))
  clear HI
  have c4b := keepc ((Below.refl w8.heap.size w8).alloc (Nat.le_refl _) (evO x)) c4
  go_wp2_with fail
  go_region_law (go_simp; go_at_call 70; refine HI8.out.mono ?_; rintro e9 w9 ⟨a', c', rfl, h91, h92, h93⟩; obtain ⟨g1, g2, g3⟩ := HG8.out w9 h92; have H9 := Lib.hid (And.intro h91 (And.intro h92 (And.intro h93 g3))); clear h91 h92 h93 g3; dsimp only)
  all_goals
    go_end0
    have hbb : But (blkOf wa) w w9 := (But.of ((HX.out.1.trans (H8.out.mono HX.out.1.size)).trans (((Below.refl w8.heap.size w8).alloc (Nat.le_refl _) (evO x)).drew.mono (HX.out.1.trans (H8.out.mono HX.out.1.size)).size))).next H9.out.2.1 fun _ _ e => e
    obtain ⟨hg, hro, hwo, hF, hZ, hZF, hF2, hZ2, hx, hlim⟩ := HQ.out
    refine ⟨rfl, SqAt.waits hro hwo hF hZ hZF hZ2 (putIn q.waits x) ⟨hg.sts, hg.asc.put x, fun e he => (mem_putIn.1 he).elim (fun h => h ▸ hx) (hg.may e), fun i y s h1 h2 => ?_, by rw [putIn_len]; exact ⟨by have := hlim.1; show q.waits.length + 1 ≤ K + 1; omega, Nat.le_succ_of_le hlim.2.1, Nat.le_succ_of_le hlim.2.2⟩⟩ hbb H9.out.1 fun b e => (H9.out.2.2.1 b e).imp id fun e => ?_⟩
    · obtain ⟨a1, a2, a3⟩ := hg.is i y s h1 h2
      exact ⟨a1, by omega, by omega⟩
    · have h1 := (HX.out.1.trans (H8.out.mono HX.out.1.size)).size
      have h2 : (w8.alloc (evO x)).drew.heap.size = w8.heap.size + 1 := by show (w8.alloc (evO x)).heap.size = _; simp
      omega
end
end Go.Proofs.YthhpoihfaggafaaDoor
