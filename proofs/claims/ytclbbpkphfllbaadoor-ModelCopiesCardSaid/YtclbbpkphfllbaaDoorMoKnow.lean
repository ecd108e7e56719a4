/-
  The walk of known.
-/
import Derived.Test.YtclbbpkphfllbaaDoorMoLine
namespace Go.Proofs.YtclbbpkphfllbaaDoor
open Go.RowKit Go.Sort CodM

def SameT (w : World) (e : Ending) (w' : World) : Prop := e = .returned (.bool true) ∧ w' = w
theorem within64_yes (n lo hi : Int) (h1 : lo ≤ n) (h2 : n ≤ hi) (w : World) : Calls Tryd.prog 76 #[.int .i64 n, .int .i64 lo, .int .i64 hi] w (SameT w) := by
  go_enter Tryd.func76, Tryd.ntmps76
  go_wp2
  go_ret
  exact ⟨rfl, rfl⟩
theorem withinInt_yes (n lo hi : Int) (h1 : lo ≤ n) (h2 : n ≤ hi) (w : World) : Calls Tryd.prog 77 #[.int .i64 n, .int .i64 lo, .int .i64 hi] w (SameT w) := by
  go_enter Tryd.func77, Tryd.ntmps77
  go_wp2
  go_ret
  exact ⟨rfl, rfl⟩
/-- the known model's event -/
abbrev kE : Value := .agg #[.int .i64 3, .int .i64 0, .int .i64 0, .int .i64 1, .int .i64 0, .int .i64 0]
abbrev kP (b : Nat) : Value := .agg #[.int .i64 0, .slice (some ⟨b, 0, none⟩) 1 1, .slice none 0 0, .int .i64 7]
theorem kMay (w : World) : Calls Tryd.prog 68 #[kE, .int .i64 1] w (TellsBB true w) := by
  go_enter Tryd.func68, Tryd.ntmps68
  go_wp2_with (first
    | (go_at_call 76; refine (within64_yes _ _ _ (by decide) (by decide) _).mono ?_; rintro e w1 ⟨rfl, rfl⟩)
    | (go_at_call 77; refine (withinInt_yes _ _ _ (by decide) (by decide) _).mono ?_; rintro e w1 ⟨rfl, rfl⟩))
  go_ret
  exact ⟨rfl, (Below.refl _ _).alloc (Nat.le_refl _) _⟩
theorem kFirst (w : World) : Calls Tryd.prog 55 #[kE, .int .i64 0, .int .i64 1] w (TellsBB true w) := by
  have q0 : ∀ W, Below (w.heap.size + 1) (w.alloc (.cells #[.int .i64 3, .int .i64 0, .int .i64 0, .int .i64 1, .int .i64 0, .int .i64 0] 55)) W → W.heap[w.heap.size]? = some (.cells #[.int .i64 3, .int .i64 0, .int .i64 0, .int .i64 1, .int .i64 0, .int .i64 0] 55) := fun W hW => (hW.block _ (by omega)).trans (heap_alloc_new _ _)
  have HQ := Lib.hid q0
  clear q0
  go_enter Tryd.func55, Tryd.ntmps55
  go_wp2_with (go_at_call 68; refine (kMay _).mono ?_; rintro e w1 ⟨rfl, hb⟩; have HB := Lib.hid hb; have hq := HQ.out _ (hb.mono (by simp)); have c1 : w1.cell? ⟨w.heap.size, 1, none⟩ = some (.int .i64 0) := (cell_of_row _ _ _ _ _ _ hq).trans rfl; have c2 : w1.cell? ⟨w.heap.size, 2, none⟩ = some (.int .i64 0) := (cell_of_row _ _ _ _ _ _ hq).trans rfl; clear hb hq)
  go_ret
  exact ⟨rfl, ((Below.refl _ _).alloc (Nat.le_refl _) _).trans (HB.out.mono (by simp))⟩
theorem known_may : CodM.may (codeNk knownP) knownP = true := by decide +kernel
theorem kProc (w : World) (b : Nat) (hW : Wds w) (hp : ProgAt w (some ⟨b, 0, none⟩) 1 knownP) : Calls Tryd.prog 54 #[kP b] w (TellsBB true w) := by
  have hb1 : Below w.heap.size w (w.alloc (.cells #[.int .i64 0, .slice (some ⟨b, 0, none⟩) 1 1, .slice none 0 0, .int .i64 7] 47)) := (Below.refl _ _).alloc (Nat.le_refl _) _
  have HC : Hid (Calls Tryd.prog 57 #[.agg #[.int .i64 0, .slice (some ⟨b, 0, none⟩) 1 1]] (w.alloc (.cells #[.int .i64 0, .slice (some ⟨b, 0, none⟩) 1 1, .slice none 0 0, .int .i64 7] 47)) (TellsBB true (w.alloc (.cells #[.int .i64 0, .slice (some ⟨b, 0, none⟩) 1 1, .slice none 0 0, .int .i64 7] 47)))) := by
    have := may_any (some ⟨b, 0, none⟩) 1 1 knownP (w.alloc (.cells #[.int .i64 0, .slice (some ⟨b, 0, none⟩) 1 1, .slice none 0 0, .int .i64 7] 47)) (hW.alloc _) (hp.below hb1 (Nat.le_refl _))
    rw [known_may] at this
    exact this
  have HQ : Hid (∀ W, Below (w.heap.size + 1) (w.alloc (.cells #[.int .i64 0, .slice (some ⟨b, 0, none⟩) 1 1, .slice none 0 0, .int .i64 7] 47)) W → W.heap[w.heap.size]? = some (.cells #[.int .i64 0, .slice (some ⟨b, 0, none⟩) 1 1, .slice none 0 0, .int .i64 7] 47)) := fun W hW => (hW.block _ (by omega)).trans (heap_alloc_new _ _)
  clear hb1 hW hp
  go_enter Tryd.func54, Tryd.ntmps54
  go_wp2_with (go_at_call 57; refine HC.out.mono ?_; rintro e w1 ⟨rfl, hb⟩; have HB := Lib.hid hb; have hq := HQ.out _ (hb.mono (by simp)); have c0 : w1.cell? ⟨w.heap.size, 0, none⟩ = some (.int .i64 0) := (cell_of_row _ _ _ _ _ _ hq).trans rfl; have c2 : w1.cell? ⟨w.heap.size, 2, none⟩ = some (.slice none 0 0) := (cell_of_row _ _ _ _ _ _ hq).trans rfl; clear hb hq)
  go_ret
  exact ⟨rfl, ((Below.refl _ _).alloc (Nat.le_refl _) _).trans (HB.out.mono (by simp))⟩
/-- the known model in memory -/
structure KM (w : World) (b1 b2 b3 : Nat) : Prop where
  procs : w.heap[b2]? = some (.cells #[.int .i64 0, .slice (some ⟨b1, 0, none⟩) 1 1, .slice none 0 0, .int .i64 7] 47)
  first : w.heap[b3]? = some (.cells #[.int .i64 3, .int .i64 0, .int .i64 0, .int .i64 1, .int .i64 0, .int .i64 0] 55)
  prog : ProgAt w (some ⟨b1, 0, none⟩) 1 knownP
theorem KM.below {w w' : World} {b1 b2 b3 : Nat} (h : KM w b1 b2 b3) (hb : Below w.heap.size w w') : KM w' b1 b2 b3 :=
  ⟨(hb.block _ (heap_lt h.procs)).trans h.procs, (hb.block _ (heap_lt h.first)).trans h.first, h.prog.below hb (Nat.le_refl _)⟩
abbrev PC (w : World) (b b1 : Nat) : Prop := w.cell? ⟨b, 0, none⟩ = some (.int .i64 0) ∧ w.cell? ⟨b, 1, none⟩ = some (.slice (some ⟨b1, 0, none⟩) 1 1) ∧ w.cell? ⟨b, 2, none⟩ = some (.slice none 0 0) ∧ w.cell? ⟨b, 3, none⟩ = some (.int .i64 7)
abbrev EC (w : World) (b : Nat) : Prop := w.cell? ⟨b, 0, none⟩ = some (.int .i64 3) ∧ w.cell? ⟨b, 1, none⟩ = some (.int .i64 0) ∧ w.cell? ⟨b, 2, none⟩ = some (.int .i64 0) ∧ w.cell? ⟨b, 3, none⟩ = some (.int .i64 1) ∧ w.cell? ⟨b, 4, none⟩ = some (.int .i64 0) ∧ w.cell? ⟨b, 5, none⟩ = some (.int .i64 0)
theorem pc_of {w : World} {b b1 : Nat} (h : w.heap[b]? = some (.cells #[.int .i64 0, .slice (some ⟨b1, 0, none⟩) 1 1, .slice none 0 0, .int .i64 7] 47)) : PC w b b1 := by
  refine ⟨?_, ?_, ?_, ?_⟩
  all_goals (rw [cell_of_row _ _ _ _ _ _ h]; rfl)
theorem ec_of {w : World} {b : Nat} (h : w.heap[b]? = some (.cells #[.int .i64 3, .int .i64 0, .int .i64 0, .int .i64 1, .int .i64 0, .int .i64 0] 55)) : EC w b := by
  refine ⟨?_, ?_, ?_, ?_, ?_, ?_⟩
  all_goals (rw [cell_of_row _ _ _ _ _ _ h]; rfl)
abbrev MO (b2 b3 : Nat) : Obj := .cells #[.slice (some ⟨b2, 0, none⟩) 1 1, .slice (some ⟨b3, 0, none⟩) 1 1] 27
abbrev MV (b2 b3 : Nat) : Value := .agg #[.slice (some ⟨b2, 0, none⟩) 1 1, .slice (some ⟨b3, 0, none⟩) 1 1]
theorem mo_of {w : World} {b b2 b3 : Nat} (h : w.heap[b]? = some (MO b2 b3)) : w.cell? ⟨b, 0, none⟩ = some (.slice (some ⟨b2, 0, none⟩) 1 1) ∧ w.cell? ⟨b, 1, none⟩ = some (.slice (some ⟨b3, 0, none⟩) 1 1) := by
  refine ⟨?_, ?_⟩
  all_goals (rw [cell_of_row _ _ _ _ _ _ h]; rfl)
set_option maxHeartbeats 2000000 in
set_option maxRecDepth 100000 in
theorem kModel (w : World) (b1 b2 b3 : Nat) (hW : Wds w) (h : KM w b1 b2 b3) : Calls Tryd.prog 36 #[MV b2 b3] w (TellsBB true w) := by
  have hb1 : Below w.heap.size w (w.alloc (MO b2 b3)) := (Below.refl _ _).alloc (Nat.le_refl _) _
  have H := Lib.hid h
  have HW := Lib.hid hW
  have HB1 := Lib.hid hb1
  have HQ : Hid (∀ W, Below (w.heap.size + 1) (w.alloc (MO b2 b3)) W → W.heap[w.heap.size]? = some (MO b2 b3)) := fun W hW => (hW.block _ (by omega)).trans (heap_alloc_new _ _)
  obtain ⟨p0, p1, p2, p3⟩ := pc_of (h.below hb1).procs
  obtain ⟨m0, m1⟩ := mo_of (heap_alloc_new w (MO b2 b3))
  have hb2 : Below w.heap.size w ((w.alloc (MO b2 b3)).alloc (.cells #[.int .i64 0, .slice (some ⟨b1, 0, none⟩) 1 1, .slice none 0 0, .int .i64 7] 47)) := hb1.alloc hb1.size _
  have HB2 := Lib.hid hb2
  clear h hW hb1 hb2
  go_enter Tryd.func36, Tryd.ntmps36
  go_wp2_with fail
  refine wp_loop_rounds 2 ?_
  rw [rounds_succ]
  go_wp2_with (go_at_call 54; refine (kProc _ b1 (HW.out.next HB2.out (Nat.le_refl _)) (H.out.below HB2.out).prog).mono ?_; rintro e w3 ⟨rfl, hb⟩; refine Hid.out ?_)
  have hbw := HB2.out.trans (hb.mono HB2.out.size)
  have hbq : Below (w.heap.size + 1) (w.alloc (MO b2 b3)) w3 := ((Below.refl (w.heap.size + 1) (w.alloc (MO b2 b3))).alloc (by simp) _).trans (hb.mono (by simp))
  have m2 := mo_of (HQ.out _ hbq)
  obtain ⟨n0, n1⟩ := m2
  obtain ⟨e0, e1, e2, e3, e4, e5⟩ := ec_of (H.out.below hbw).first
  have hb4 : Below w.heap.size w (w3.alloc (.cells #[.int .i64 3, .int .i64 0, .int .i64 0, .int .i64 1, .int .i64 0, .int .i64 0] 55)) := hbw.alloc hbw.size _
  have hbq4 : Below (w.heap.size + 1) (w.alloc (MO b2 b3)) (w3.alloc (.cells #[.int .i64 3, .int .i64 0, .int .i64 0, .int .i64 1, .int .i64 0, .int .i64 0] 55)) := hbq.alloc (by have := hbq.size; simp at this; omega) _
  obtain ⟨k0, k1⟩ := mo_of (HQ.out _ hbq4)
  have HB4 := Lib.hid (And.intro hb4 hbq4)
  clear hb hbw hbq hb4 hbq4 p0 p1 p2 p3 m0 m1
  refine Lib.hid ?_
  go_wp2
  rw [rounds_succ]
  go_wp2
  refine wp_loop_rounds 2 ?_
  rw [rounds_succ]
  go_wp2_with (go_at_call 55; refine (kFirst _).mono ?_; rintro e w5 ⟨rfl, hb⟩; have HB5 := Lib.hid (HB4.out.1.trans (hb.mono HB4.out.1.size)); clear hb)
  rw [rounds_succ]
  go_wp2
  go_ret
  exact ⟨rfl, HB5.out⟩
theorem kNums (w : World) : Calls Tryd.prog 39 #[kE] w (fun e w' => e = .returned (.agg #[.int .i64 3, .int .i64 1, .int .i64 0, .int .i64 0]) ∧ Below w.heap.size w w') := by
  go_enter Tryd.func39, Tryd.ntmps39
  go_wp2
  refine bodyPost_ret (v := .agg #[.int .i64 3, .int .i64 1, .int .i64 0, .int .i64 0]) (by simp [results, Tryd.results39, go_sem]) rfl ⟨rfl, ?_⟩
  exact ((Below.refl _ _).alloc (Nat.le_refl _) _).alloc (by simp) _
theorem Buf.below' {B : Nat} {w w' : World} {v : Value} {l : List UInt8} (h : Buf B w v l) (hb : Below w.heap.size w w') : Buf B w' v l := by
  obtain ⟨h1, h2 | ⟨g, cap, cur, e, hg, hh, rest⟩⟩ := h
  · exact ⟨h1, .inl h2⟩
  · exact ⟨h1, .inr ⟨g, cap, cur, e, hg, (hb.block g (heap_lt hh)).trans hh, rest⟩⟩
def kTextB : List UInt8 := [112, 114, 111, 99] ++ nums [7] ++ [10] ++ textB knownP ++ [102, 105, 114, 115, 116] ++ nums [3, 1, 0, 0] ++ [10]
theorem buf_str {B : Nat} {w : World} {v : Value} {l : List UInt8} (h : Buf B w v l) (h0 : 0 < l.length) : ∃ g cap, v = .slice (some ⟨g, 0, none⟩) l.length cap ∧ (convert 22 9 (.slice (some ⟨g, 0, none⟩) l.length cap)).run Tryd.prog w = .ok (.string (strU l)) w := by
  rcases h.2 with ⟨-, hz⟩ | ⟨g, cap, cur, rfl, -, -, -, -, -, -⟩
  · omega
  · exact ⟨g, cap, rfl, run_convert_bytes_back (P := Tryd.prog) w 22 9 5 ⟨g, 0, none⟩ cap l Tryd.underlying22 Tryd.underlying5 Tryd.underlying9 (fun j hj => h.cells (g := g) rfl j _ (by simp [Lib.byteCells, hj]))⟩
set_option maxHeartbeats 4000000 in
set_option maxRecDepth 100000 in
theorem kText (w : World) (b1 b2 b3 : Nat) (hG : Glo w) (h : KM w b1 b2 b3) : Calls Tryd.prog 17 #[MV b2 b3] w (TellsSB kTextB w) := by
  obtain ⟨i0, hi, hz0, hz1, hz2⟩ := info_parts infoB
  have hb1 : Below w.heap.size w (w.alloc (MO b2 b3)) := (Below.refl _ _).alloc (Nat.le_refl _) _
  have H := Lib.hid h
  have HG := Lib.hid hG
  have HB1 := Lib.hid hb1
  have HQ : Hid (∀ W, Below (w.heap.size + 1) (w.alloc (MO b2 b3)) W → W.heap[w.heap.size]? = some (MO b2 b3)) := fun W hW => (hW.block _ (by omega)).trans (heap_alloc_new _ _)
  obtain ⟨m0, m1⟩ := mo_of (heap_alloc_new w (MO b2 b3))
  clear h hG hb1
  go_enter Tryd.func17, Tryd.ntmps17
  go_wp2_with (go_at_call 36; refine (kModel _ b1 b2 b3 (HG.out.next HB1.out (Nat.le_refl _)).words (H.out.below HB1.out)).mono ?_; rintro e w3 ⟨rfl, hb⟩; refine Hid.out ?_)
  have hbw := HB1.out.trans (hb.mono HB1.out.size)
  have hbq : Below (w.heap.size + 1) (w.alloc (MO b2 b3)) w3 := hb.mono (by simp)
  obtain ⟨n0, n1⟩ := mo_of (HQ.out _ hbq)
  obtain ⟨p0, p1, p2, p3⟩ := pc_of (H.out.below hbw).procs
  have HB3 := Lib.hid (And.intro hbw hbq)
  -- the box of the process, the row of its seed
  obtain ⟨w4, hw4⟩ : ∃ w4, w4 = w3.alloc (.cells #[.int .i64 0, .slice (some ⟨b1, 0, none⟩) 1 1, .slice none 0 0, .int .i64 7] 47) := ⟨_, rfl⟩
  have q4 : w4.heap[w3.heap.size]? = some (.cells #[.int .i64 0, .slice (some ⟨b1, 0, none⟩) 1 1, .slice none 0 0, .int .i64 7] 47) := by rw [hw4]; exact heap_alloc_new _ _
  have hb34 : Below w3.heap.size w3 w4 := by rw [hw4]; exact (Below.refl _ _).alloc (Nat.le_refl _) _
  obtain ⟨w5, hw5⟩ : ∃ w5, w5 = w4.alloc (.cells #[.int .i64 7] 2) := ⟨_, rfl⟩
  have q5 : w5.heap[w4.heap.size]? = some (.cells #[.int .i64 7] 2) := by rw [hw5]; exact heap_alloc_new _ _
  have hb45 : Below w4.heap.size w4 w5 := by rw [hw5]; exact (Below.refl _ _).alloc (Nat.le_refl _) _
  have q45 := (hb45.block _ (heap_lt q4)).trans q4
  have r4 := pc_of q4
  have r5 := pc_of q45
  have hs4 : w4.heap.size = w3.heap.size + 1 := by rw [hw4]; simp
  have hs5 : w5.heap.size = w4.heap.size + 1 := by rw [hw5]; simp
  have HW4 := Lib.hid (And.intro hw4 hw5)
  have HROW : Hid (CV.Own 2 0 w5 (.slice (some ⟨w4.heap.size, 0, none⟩) 1 1) [7]) := ⟨rfl, .inr ⟨w4.heap.size, 1, #[.int .i64 7], rfl, Nat.zero_le _, q5, Nat.le_refl _, by decide, rfl, rfl⟩⟩
  have hb05 := hbw.trans ((hb34.trans (hb45.mono hb34.size)).mono hbw.size)
  have hbq5 := hbq.trans ((hb34.trans (hb45.mono hb34.size)).mono (by have := hbq.size; simp at this; omega))
  have HB5 := Lib.hid (And.intro hb05 hbq5)
  have HQ5 := Lib.hid (And.intro q45 (And.intro q5 (And.intro hs4 (And.intro hs5 (And.intro hb34 hb45)))))
  rw [hw4] at r4
  rw [hw5, hw4] at r5
  obtain ⟨r40, r41, r42, r43⟩ := r4
  obtain ⟨r50, r51, r52, r53⟩ := r5
  clear hb05 hbq5 hb hbw hbq m0 m1 q4 hb34 q5 hb45 q45 hs4 hs5 hw4 hw5
  refine Lib.hid ?_
  go_wp2
  refine wp_loop_rounds 2 ?_
  rw [rounds_succ]
  go_wp2_with (first
    | (go_at_call 37; rw [← HW4.out.1, ← HW4.out.2, show w3.heap.size + 1 = w4.heap.size from HQ5.out.2.2.1.symm]; refine (mLine_any w5.heap.size (.slice none 0 0) [] [112, 114, 111, 99] w5 (pow_of HG.out.pow HB5.out.1 HB5.out.1.size) (Nat.le_refl _) (World.ownsRow_nil _ _ _ _) (by decide) (by decide) w4.heap.size 1 1 _ 2 (0, 0) (by decide) HQ5.out.2.1 [7] rfl (by decide) (fun x hx => by simp at hx; subst hx; exact ⟨by decide, by decide⟩) (fun i x hx => by cases i with | zero => simp at hx; subst hx; rfl | succ i => simp at hx)).mono ?_; rintro e w6 ⟨v6, rfl, hb6, hg6, hk6⟩; refine Hid.out ?_))
  have q6 := hk6 _ _ HQ5.out.1 (fun e => by cases e) (fun c fz e => by cases e)
  obtain ⟨s60, s61, s62, s63⟩ := pc_of q6
  have hb06 := HB5.out.1.trans (hg6.mono HB5.out.1.size)
  have hbq6 := HB5.out.2.trans (hg6.mono (by have := HB5.out.1.size; have := HB5.out.2.size; simp at this; omega))
  have HB6 := Lib.hid (And.intro hb06 hbq6)
  obtain ⟨l6, hl6⟩ : ∃ l6, l6 = ([] : List UInt8) ++ [112, 114, 111, 99] ++ nums [7] ++ [10] := ⟨_, rfl⟩
  have hl7 : l6.length = 7 := by rw [hl6]; decide +kernel
  rw [← hl6] at hb6
  have HL6 := Lib.hid (And.intro hl6 hl7)
  have HBUF6 := Lib.hid hb6
  have HG6 := Lib.hid hg6
  have HT : Hid (Calls Tryd.prog 38 #[.agg #[.int .i64 0, .slice (some ⟨b1, 0, none⟩) 1 1]] w6 (TellsSB (textB knownP) w6)) := text_any w6 (some ⟨b1, 0, none⟩) 1 1 knownP (HG.out.next hb06 (Nat.le_refl _)) (H.out.below hb06).prog
  clear hl6 hl7 hb6 hg6 hk6 q6 hb06 hbq6 r40 r41 r42 r43 r50 r51 r52 r53 p0 p1 p2 p3
  have htl : (textB knownP).length = 26 := by decide +kernel
  have HTL := Lib.hid htl
  obtain ⟨ts, hts⟩ : ∃ ts, ts = strU (textB knownP) := ⟨_, rfl⟩
  have hsz : ts.size = 26 := by rw [hts, strU_size]; exact htl
  have HTS := Lib.hid hts
  unfold TellsSB at HT
  rw [← hts] at HT
  clear htl hts
  refine Lib.hid ?_
  go_wp2_with (first
    | (go_at_call 38; refine HT.out.mono ?_; rintro e w7 ⟨rfl, hb7⟩; refine Hid.out ?_))
  have hb78 := HBUF6.out.below' hb7
  have HB78 := Lib.hid (And.intro hb78 hb7)
  have hBs : w5.heap.size ≤ w7.heap.size := Nat.le_trans HG6.out.size hb7.size
  have e1 : l6.length + ts.size ≤ maxLen := by rw [hsz, HL6.out.2]; decide
  have e2 : l6.length + ts.size ≤ 140737488355328 := by rw [hsz, HL6.out.2]; decide
  have E12 := Lib.hid (And.intro e1 e2)
  clear hb78 hb7 e1 e2
  refine Lib.hid ?_
  go_wp2_with (first
    | (at_builtin; refine Lib.wpList_append_own_string _ rfl _ _ 22 9 rfl w5.heap.size 5 i0 Tryd.underlying22 Tryd.underlying9 hi hz0 hz1 hz2 _ _ _ rfl HB78.out.1 _ rfl E12.out.1 E12.out.2 hBs ?_; intro v8 w8 hown8 hgrow8 _; refine Hid.out ?_))
  have HB8 : Hid (Buf w5.heap.size w8 v8 (l6 ++ textB knownP)) := by
    refine Buf.of hown8 ?_ ?_
    · rw [hsz, List.length_append, HTL.out]
    · rw [HTS.out, ← byteCells_append]
      rfl
  have hb08 : Below w5.heap.size w5 w8 := (HG6.out.trans (HB78.out.2.mono HG6.out.size)).trans (HB78.out.1.grown (Below.refl _ _) hBs hgrow8)
  have hw08 := HB5.out.1.trans (hb08.mono HB5.out.1.size)
  have hbq8 := HB5.out.2.trans (hb08.mono (by have := HB5.out.1.size; have := HB5.out.2.size; simp at this; omega))
  obtain ⟨u0, u1⟩ := mo_of (HQ.out _ hbq8)
  obtain ⟨e0, e1, e2, e3, e4, e5⟩ := ec_of (H.out.below hw08).first
  have HW8 := Lib.hid (And.intro hb08 (And.intro hw08 hbq8))
  obtain ⟨w9, hw9⟩ : ∃ w9, w9 = w8.alloc (.cells #[.int .i64 3, .int .i64 0, .int .i64 0, .int .i64 1, .int .i64 0, .int .i64 0] 55) := ⟨_, rfl⟩
  obtain ⟨f0, f1, f2, f3, f4, f5⟩ := ec_of (w := w9) (b := w8.heap.size) (by rw [hw9]; exact heap_alloc_new _ _)
  rw [hw9] at f0 f1 f2 f3 f4 f5
  have HW9 := Lib.hid hw9
  clear hown8 hgrow8 hb08 hw08 hbq8 hw9 hBs s60 s61 s62 s63 n0 n1
  refine Lib.hid ?_
  go_wp2
  rw [rounds_succ]
  go_wp2
  refine wp_loop_rounds 2 ?_
  rw [rounds_succ]
  go_wp2_with (first
    | (go_at_call 39; refine (kNums _).mono ?_; rintro e w10 ⟨rfl, hb10⟩; refine Hid.out ?_))
  have hb9 : Below w8.heap.size w8 w9 := by rw [HW9.out]; exact (Below.refl _ _).alloc (Nat.le_refl _) _
  rw [← HW9.out] at hb10
  have hb810 := hb9.trans (hb10.mono hb9.size)
  have hb510 := HW8.out.1.trans (hb810.mono HW8.out.1.size)
  have hw010 := HW8.out.2.1.trans (hb810.mono HW8.out.2.1.size)
  obtain ⟨l8, hl8⟩ : ∃ l8, l8 = l6 ++ textB knownP := ⟨_, rfl⟩
  have hl33 : l8.length = 33 := by rw [hl8, List.length_append, HL6.out.2, HTL.out]
  have hbuf10 := HB8.out.below' hb810
  rw [← hl8] at hbuf10
  have HB10 := Lib.hid (And.intro hbuf10 (And.intro hb510 (And.intro hw010 (And.intro hl8 hl33))))
  clear hb9 hb10 hb810 hb510 hw010 hl8 hl33 hbuf10 e0 e1 e2 e3 e4 e5 f0 f1 f2 f3 f4 f5
  refine Lib.hid ?_
  go_wp2_with (go_at_call 37; refine (mLine_any w5.heap.size v8 l8 [102, 105, 114, 115, 116] _ (pow_of HG.out.pow (HB10.out.2.2.1.alloc HB10.out.2.2.1.size _) HB5.out.1.size) (by have := HB10.out.2.1.size; simp; omega) (HB10.out.1.alloc _) (by rw [HB10.out.2.2.2.2]; decide) (by decide) w10.heap.size 4 4 _ 83 (0, 0) (by decide) (heap_alloc_new _ _) [3, 1, 0, 0] rfl (by decide) (fun x hx => by simp at hx; rcases hx with rfl | rfl | rfl | rfl <;> exact ⟨by decide, by decide⟩) (fun i x hx => by match i, hx with | 0, hx | 1, hx | 2, hx | 3, hx => simp at hx; subst hx; rfl)).mono ?_; rintro e w11 ⟨v11, rfl, hb11, hg11, -⟩; refine Hid.out ?_)
  have hk : l8 ++ [102, 105, 114, 115, 116] ++ nums [3, 1, 0, 0] ++ [10] = kTextB := by
    rw [HB10.out.2.2.2.1, HL6.out.1]
    rfl
  rw [hk] at hb11
  have hend : Below w.heap.size w w11 := (HB10.out.2.2.1.alloc HB10.out.2.2.1.size _).trans (hg11.mono HB5.out.1.size)
  obtain ⟨g, cap, rfl, hcv⟩ := buf_str hb11 (by rw [← hk]; simp; omega)
  have HEND := Lib.hid hend
  clear hk hend hb11 hg11
  refine Lib.hid ?_
  go_wp2
  rw [rounds_succ]
  go_wp2
  go_ret
  exact ⟨rfl, HEND.out⟩
theorem kText_list : (strU kTextB).toList = [112, 114, 111, 99, 32, 55, 10, 118, 97, 114, 115, 32, 48, 10, 107, 105, 110, 100, 10, 32, 32, 116, 105, 109, 101, 10, 32, 32, 116, 101, 108, 108, 10, 102, 105, 114, 115, 116, 32, 51, 32, 49, 32, 48, 32, 48, 10] := by
  rw [strU_toList]
  decide +kernel
set_option maxHeartbeats 2000000 in
set_option maxRecDepth 100000 in
theorem mKnown_any (w : World) (hG : Glo w) : Calls Tryd.prog 5 #[] w (TellsBB true w) := by
  obtain ⟨s, hs⟩ : ∃ s, s = strU kTextB := ⟨_, rfl⟩
  have hk := kText_list
  rw [← hs] at hk
  obtain ⟨w2, hw2⟩ : ∃ w2, w2 = (w.alloc (.cells #[.int .i64 4, .int .i64 0, .int .i64 16, .int .i64 0] 51)).alloc (.cells #[.slice (some ⟨w.heap.size, 0, none⟩) 2 2] 48) := ⟨_, rfl⟩
  have hb2 : Below w.heap.size w w2 := by rw [hw2]; exact ((Below.refl _ _).alloc (Nat.le_refl _) _).alloc (by simp) _
  have hp2 : ProgAt w2 (some ⟨w.heap.size + 1, 0, none⟩) 1 knownP := by rw [hw2]; exact known_prog w _ _ _ _
  have hs2 : w2.heap.size = w.heap.size + 2 := by rw [hw2]; simp
  obtain ⟨w5, hw5⟩ : ∃ w5, w5 = ((w2.alloc (.cells #[.int .i64 0, .slice (some ⟨w.heap.size + 1, 0, none⟩) 1 1, .slice none 0 0, .int .i64 7] 47)).alloc (.cells #[.int .i64 3, .int .i64 0, .int .i64 0, .int .i64 1, .int .i64 0, .int .i64 0] 55)).alloc (MO (w.heap.size + 2) (w.heap.size + 3)) := ⟨_, rfl⟩
  have q2 : w5.heap[w.heap.size + 2]? = some (.cells #[.int .i64 0, .slice (some ⟨w.heap.size + 1, 0, none⟩) 1 1, .slice none 0 0, .int .i64 7] 47) := by
    rw [hw5, heap_alloc_old _ _ (by simp; omega), heap_alloc_old _ _ (by simp; omega), ← hs2]
    exact heap_alloc_new _ _
  have q3 : w5.heap[w.heap.size + 3]? = some (.cells #[.int .i64 3, .int .i64 0, .int .i64 0, .int .i64 1, .int .i64 0, .int .i64 0] 55) := by
    have hz : (w2.alloc (.cells #[.int .i64 0, .slice (some ⟨w.heap.size + 1, 0, none⟩) 1 1, .slice none 0 0, .int .i64 7] 47)).heap.size = w.heap.size + 3 := by simp; omega
    rw [hw5, heap_alloc_old _ _ (by simp; omega), ← hz]
    exact heap_alloc_new _ _
  have hb25 : Below w2.heap.size w2 w5 := by rw [hw5]; exact (((Below.refl _ _).alloc (Nat.le_refl _) _).alloc (by simp) _).alloc (by simp; omega) _
  have hb5 := hb2.trans (hb25.mono hb2.size)
  have HC : Hid (Calls Tryd.prog 17 #[MV (w.heap.size + 2) (w.heap.size + 3)] w5 (TellsSB kTextB w5)) := kText w5 (w.heap.size + 1) (w.heap.size + 2) (w.heap.size + 3) (hG.next hb5 (Nat.le_refl _)) ⟨q2, q3, hp2.below hb25 (Nat.le_refl _)⟩
  unfold TellsSB at HC
  rw [← hs] at HC
  have HB5 := Lib.hid hb5
  have HW := Lib.hid (And.intro hw2 (And.intro hw5 hs2))
  clear hs hb2 hp2 hb25 hb5 q2 q3 hw2 hw5 hs2
  go_enter Tryd.func5, Tryd.ntmps5
  go_wp2_with (go_at_call 17; rw [← HW.out.1, ← HW.out.2.1]; refine HC.out.mono ?_; rintro e w7 ⟨rfl, hb⟩; have HB7 := Lib.hid (HB5.out.trans (hb.mono HB5.out.size)); clear hb)
  go_ret
  exact ⟨rfl, HB7.out⟩
end Go.Proofs.YtclbbpkphfllbaaDoor
