/-
  The walks of Least, Take, Drop.
-/
import Derived.Test.YtgfoagpmkbdciaaHPut
namespace Go.Proofs.Ytgfoagpmkbdciaa
open Go Go.Shelf Go.RowKit Go.Lib Go.Sort Go.Proofs HpM

/-- no item -/
def itZ : It := (((0, 0, 0), 0, 0, 0), 0)
/-- an item is told, or that there is none -/
def ItTo (x : It) (t : Bool) (w : World) (e : Ending) (w' : World) : Prop := e = .returned (.tuple #[ItV x, .bool t]) ∧ Below w.heap.size w w'
abbrev ItZO : Obj := .cells #[.int .i64 0, .int .i64 0, .int .i64 0, .int .i64 0, .int .i64 0, .int .i64 0, .int .i64 0] 36

/-- a box of one item: its cells may be read and written, whatever is laid behind -/
theorem box_alloc {w : World} {R : Nat} {x : It} (h : w.heap[R]? = some (ItO x)) : (∀ o, (w.alloc o).cell? ⟨R, 0, none⟩ = some (.int .i64 x.1.1.1)) ∧ (∀ o, (w.alloc o).cell? ⟨R, 1, none⟩ = some (.int .i64 x.1.1.2.1)) ∧ (∀ o, (w.alloc o).cell? ⟨R, 2, none⟩ = some (.int .i64 x.1.1.2.2)) ∧ (∀ o, (w.alloc o).cell? ⟨R, 3, none⟩ = some (.int .i64 x.1.2.1)) ∧ (∀ o, (w.alloc o).cell? ⟨R, 4, none⟩ = some (.int .i64 x.1.2.2.1)) ∧ (∀ o, (w.alloc o).cell? ⟨R, 5, none⟩ = some (.int .i64 x.1.2.2.2)) ∧ (∀ o, (w.alloc o).cell? ⟨R, 6, none⟩ = some (.int .i64 x.2)) ∧ (∀ o, (w.alloc o).frozen? ⟨R, 0, none⟩ = false) ∧ (∀ o, (w.alloc o).frozen? ⟨R, 1, none⟩ = false) ∧ (∀ o, (w.alloc o).frozen? ⟨R, 2, none⟩ = false) ∧ (∀ o, (w.alloc o).frozen? ⟨R, 3, none⟩ = false) ∧ (∀ o, (w.alloc o).frozen? ⟨R, 4, none⟩ = false) ∧ (∀ o, (w.alloc o).frozen? ⟨R, 5, none⟩ = false) ∧ (∀ o, (w.alloc o).frozen? ⟨R, 6, none⟩ = false) := by
  have k : ∀ o, (w.alloc o).heap[R]? = some (ItO x) := fun o => (heap_alloc_old _ _ (Array.getElem?_eq_some_iff.1 h).1).trans h
  refine ⟨?_, ?_, ?_, ?_, ?_, ?_, ?_, ?_, ?_, ?_, ?_, ?_, ?_, ?_⟩ <;> intro o
  all_goals first
    | exact frozen_of_row _ _ _ _ _ (k o)
    | (rw [cell_of_row _ _ _ _ _ _ (k o)]; rfl)
theorem box_here {w : World} {R : Nat} {x : It} (h : w.heap[R]? = some (ItO x)) : (w.cell? ⟨R, 0, none⟩ = some (.int .i64 x.1.1.1)) ∧ (w.cell? ⟨R, 1, none⟩ = some (.int .i64 x.1.1.2.1)) ∧ (w.cell? ⟨R, 2, none⟩ = some (.int .i64 x.1.1.2.2)) ∧ (w.cell? ⟨R, 3, none⟩ = some (.int .i64 x.1.2.1)) ∧ (w.cell? ⟨R, 4, none⟩ = some (.int .i64 x.1.2.2.1)) ∧ (w.cell? ⟨R, 5, none⟩ = some (.int .i64 x.1.2.2.2)) ∧ (w.cell? ⟨R, 6, none⟩ = some (.int .i64 x.2)) ∧ (w.frozen? ⟨R, 0, none⟩ = false) ∧ (w.frozen? ⟨R, 1, none⟩ = false) ∧ (w.frozen? ⟨R, 2, none⟩ = false) ∧ (w.frozen? ⟨R, 3, none⟩ = false) ∧ (w.frozen? ⟨R, 4, none⟩ = false) ∧ (w.frozen? ⟨R, 5, none⟩ = false) ∧ (w.frozen? ⟨R, 6, none⟩ = false) := by
  refine ⟨?_, ?_, ?_, ?_, ?_, ?_, ?_, ?_, ?_, ?_, ?_, ?_, ?_, ?_⟩
  all_goals first
    | exact frozen_of_row _ _ _ _ _ h
    | (rw [cell_of_row _ _ _ _ _ _ h]; rfl)
theorem below_set7 {K R : Nat} {a w : World} (h : Below K a w) (hR : K ≤ R) (v0 v1 v2 v3 v4 v5 v6 : Value) :
    Below K a (((((((w.setCell ⟨R, 0, none⟩ v0).setCell ⟨R, 1, none⟩ v1).setCell ⟨R, 2, none⟩ v2).setCell ⟨R, 3, none⟩ v3).setCell ⟨R, 4, none⟩ v4).setCell ⟨R, 5, none⟩ v5).setCell ⟨R, 6, none⟩ v6) :=
  ((((((h.setCell (p := ⟨R, 0, none⟩) hR _).setCell (p := ⟨R, 1, none⟩) hR _).setCell (p := ⟨R, 2, none⟩) hR _).setCell (p := ⟨R, 3, none⟩) hR _).setCell (p := ⟨R, 4, none⟩) hR _).setCell (p := ⟨R, 5, none⟩) hR _).setCell (p := ⟨R, 6, none⟩) hR _

theorem least_none (w : World) (G : Nat) (F : Nat → Prop) (d : Array It) (f : Pl) (h : HeapSt w G F d f) (hs : d.size = 0) : Calls Try.prog 22 #[.pointer (some ⟨G, 0, none⟩)] w (ItTo itZ false w) := by
  have HH : Hid (HeapSt (w.alloc ItZO) G F d f) := h.below ((Below.refl _ _).alloc (Nat.le_refl _) _)
  have HS : Hid ((d.size : Int) = 0) := by show (d.size : Int) = 0; omega
  clear h hs
  go_enter Try.func22, Try.ntmps22
  go_wp2_with (go_at_call 24; refine (len_any _ G F d f HH.out).mono ?_; rintro e w1 ⟨rfl, rfl⟩; rw [HS.out])
  exact bodyPost_ret (v := .tuple #[ItV itZ, .bool false]) (by simp [results, Try.results22, go_sem, itZ]) rfl ⟨rfl, (Below.refl _ _).alloc (Nat.le_refl _) _⟩
theorem least_some (w : World) (G B M cap : Nat) (d : Array It) (f : Pl) (h : Full w G B M cap d f) (hs : 0 < d.size) : Calls Try.prog 22 #[.pointer (some ⟨G, 0, none⟩)] w (ItTo d[0]! true w) := by
  have hF : Full (w.alloc ItZO) G B M cap d f := h.below ((Below.refl _ _).alloc (Nat.le_refl _) _)
  have HST : Hid (HeapSt (w.alloc ItZO) G (fun b => b < (w.alloc ItZO).heap.size) d f) := ⟨hF.ltG, fun _ h => h, .inr ⟨B, M, cap, hF.row.lt, hF.map.lt, hF⟩⟩
  have c0 := hF.c0
  have x7 := (hF.row.cell hs).seven
  obtain ⟨x, hx⟩ : ∃ x, x = d[0]! := ⟨_, rfl⟩
  rw [← hx] at x7 ⊢
  simp only [Nat.zero_mul] at x7
  obtain ⟨x0, x1, x2, x3, x4, x5, x6⟩ := x7
  have hd : ((d.size : Int) == 0) = false := beq_eq_false_iff_ne.2 (by omega)
  have hz : (0 : Int) < (d.size : Int) := by omega
  clear h hF hx
  go_enter Try.func22, Try.ntmps22
  go_wp2_with (go_at_call 24; refine (len_any _ G _ d f HST.out).mono ?_; rintro e w1 ⟨rfl, rfl⟩)
  exact bodyPost_ret (v := .tuple #[ItV x, .bool true]) (by simp [results, Try.results22, go_sem]) rfl ⟨rfl, ((Below.refl _ _).alloc (Nat.le_refl _) _)⟩

/-- an item is taken away -/
def AwayTo (G : Nat) (F : Nat → Prop) (d : Array It) (x : It) (w : World) (e : Ending) (w' : World) : Prop :=
  e = .returned (.tuple #[ItV x, .bool true]) ∧ ∃ d' f', HeapSt w' G (Ext F w w') d' f' ∧ d.toList.Perm (x :: d'.toList) ∧ HP iLt d' ∧ But F w w'
theorem away_end {w w1 w2 w3 : World} {G B M cap : Nat} {F : Nat → Prop} {d d' : Array It} {f f' : Pl} {x : It} (h : HeapSt w G F d f) (fB : F B) (fM : F M) (b1 : Below w.heap.size w w1) (b2 : But (fun b => b = G ∨ b = B ∨ b = M) w1 w2) (hF : Full w2 G B M cap d' f') (b3 : Below w.heap.size w2 w3)
    (hp : d.toList.Perm (x :: d'.toList)) (hh : HP iLt d') : AwayTo G F d x w (.returned (.tuple #[ItV x, .bool true])) w3 := by
  have h2 := h.2.1
  have bb : But F w w2 := (But.of b1).trans (b2.mono fun _ _ e => by rcases e with rfl | rfl | rfl <;> first | exact h.1 | assumption)
  have bw : But F w w3 := bb.next (T := fun b => w.heap.size ≤ b) ⟨b3.os, b3.tape, b3.output, b3.size, fun k hk hs => b3.block k (by omega)⟩ fun j hj e => by omega
  have hF3 : Full w3 G B M cap d' f' := hF.same fun b hl e => b3.block b (by rcases e with rfl | rfl | rfl <;> first | exact h2 _ h.1 | exact h2 _ fB | exact h2 _ fM)
  exact ⟨rfl, d', f', ⟨.inl h.1, fun b hb => hb.elim (fun e => Nat.lt_of_lt_of_le (h2 b e) bw.size) fun e => e.2, .inr ⟨B, M, cap, .inl fB, .inl fM, hF3⟩⟩, hp, hh, bw⟩

theorem take_none (w : World) (G : Nat) (F : Nat → Prop) (d : Array It) (f : Pl) (h : HeapSt w G F d f) (hs : d.size = 0) : Calls Try.prog 19 #[.pointer (some ⟨G, 0, none⟩)] w (ItTo itZ false w) := by
  have HH : Hid (HeapSt (w.alloc ItZO) G F d f) := h.below ((Below.refl _ _).alloc (Nat.le_refl _) _)
  have HS := Lib.hid hs
  have hbz : (w.alloc ItZO).heap[w.heap.size]? = some ItZO := heap_alloc_new _ _
  have HBZ := Lib.hid hbz
  have hsz : (w.alloc ItZO).heap.size = w.heap.size + 1 := by simp
  have HSZ := Lib.hid hsz
  clear h hs hbz hsz
  go_enter Try.func19, Try.ntmps19
  go_wp2_with (go_at_call 22; refine (least_none _ G F d f HH.out HS.out).mono ?_; rintro e w1 ⟨rfl, hb1⟩; have HB1 := Lib.hid hb1; obtain ⟨x0, x1, x2, x3, x4, x5, x6, f0, f1, f2, f3, f4, f5, f6⟩ := box_alloc (x := itZ) ((hb1.block _ (by have := HSZ.out; omega)).trans HBZ.out); clear hb1)
  refine bodyPost_ret (v := .tuple #[ItV itZ, .bool false]) (by simp [results, Try.results19, go_sem, itZ, x0, x1, x2, x3, x4, x5, x6]) rfl ⟨rfl, ?_⟩
  have hb := ((Below.refl w.heap.size w).alloc (Nat.le_refl _) ItZO).trans (HB1.out.mono (by have := HSZ.out; omega))
  exact below_set7 (hb.alloc hb.size _) (Nat.le_refl _) _ _ _ _ _ _ _
theorem HeapSt.full {w : World} {G : Nat} {F : Nat → Prop} {d : Array It} {f : Pl} (h : HeapSt w G F d f) (hs : 0 < d.size) : ∃ B M cap, F B ∧ F M ∧ Full w G B M cap d f := by
  obtain ⟨_, _, ⟨rfl, _, _⟩ | h⟩ := h
  · exact absurd hs (Nat.lt_irrefl _)
  · exact h
set_option maxHeartbeats 1000000 in
theorem take_some (w : World) (G : Nat) (F : Nat → Prop) (d : Array It) (f : Pl) (h : HeapSt w G F d f) (hs : 0 < d.size) (hp : HP iLt d) : Calls Try.prog 19 #[.pointer (some ⟨G, 0, none⟩)] w (AwayTo G F d d[0]! w) := by
  obtain ⟨B, M, cap, fB, fM, hF⟩ := h.full hs
  have H0 := Lib.hid h
  have HS := Lib.hid hs
  have HHP := Lib.hid hp
  have HFM := Lib.hid (And.intro fB fM)
  have HF : Hid (Full (w.alloc ItZO) G B M cap d f) := hF.below ((Below.refl _ _).alloc (Nat.le_refl _) _)
  have hbz : (w.alloc ItZO).heap[w.heap.size]? = some ItZO := heap_alloc_new _ _
  have HBZ := Lib.hid hbz
  have hsz : (w.alloc ItZO).heap.size = w.heap.size + 1 := by simp
  have HSZ := Lib.hid hsz
  have hLT : Hid (G < w.heap.size ∧ B < w.heap.size ∧ M < w.heap.size) := ⟨hF.ltG, hF.row.lt, hF.map.lt⟩
  obtain ⟨x, hx⟩ : ∃ x, x = d[0]! := ⟨_, rfl⟩
  have HX := Lib.hid hx
  rw [← hx]
  clear h hs hp fB fM hF hbz hsz hx
  go_enter Try.func19, Try.ntmps19
  go_wp2_with (first
    | (go_at_call 22; refine (least_some _ G B M cap d f HF.out HS.out).mono ?_; rintro e w1 ⟨rfl, hb1⟩; rw [← HX.out]; have HB1 := Lib.hid hb1; clear hb1)
    | (go_at_call 37; refine (remove_any (w1.alloc (ItO x)) G B M cap 0 d f (HF.out.below (HB1.out.alloc HB1.out.size _)) HS.out HHP.out).mono ?_; rintro e w3 ⟨rfl, d', f', hF3, hp3, hh3, hb3⟩; have H3 := Lib.hid (And.intro hF3 (And.intro hp3 (And.intro hh3 hb3))); clear hF3 hp3 hh3 hb3; refine Hid.out ?_))
  have hs1 : w.heap.size + 1 ≤ w1.heap.size := by have := HB1.out.size; have := HSZ.out; omega
  obtain ⟨n1, n2, n3⟩ := hLT.out
  have e1 : w1.heap[w.heap.size]? = some ItZO := (HB1.out.block _ (by have := HSZ.out; omega)).trans HBZ.out
  have e2 : w3.heap[w.heap.size]? = some (ItO itZ) := (H3.out.2.2.2.block _ (by simp; omega) (by omega)).trans ((heap_alloc_old _ _ (by omega)).trans e1)
  have e3 : w3.heap[w1.heap.size]? = some (ItO x) := (H3.out.2.2.2.block _ (by simp) (by omega)).trans (heap_alloc_new _ _)
  obtain ⟨x0, x1, x2, x3, x4, x5, x6, f0, f1, f2, f3, f4, f5, f6⟩ := box_here e2
  obtain ⟨y0, y1, y2, y3, y4, y5, y6, -, -, -, -, -, -, -⟩ := box_here e3
  have HE := Lib.hid hs1
  clear e1 e2 e3 n1 n2 n3 hs1
  refine Lib.hid ?_
  go_wp2
  refine bodyPost_ret (v := .tuple #[ItV x, .bool true]) (by simp [results, Try.results19, go_sem, x0, x1, x2, x3, x4, x5, x6]) rfl ?_
  obtain ⟨hF3, hp3, hh3, hb3⟩ := H3.out
  rw [← HX.out] at hp3
  refine away_end H0.out HFM.out.1 HFM.out.2 (w1 := w1.alloc (ItO x)) ?_ hb3 hF3 (below_set7 (Below.refl _ _) (Nat.le_refl _) _ _ _ _ _ _ _) hp3 hh3
  exact (((Below.refl w.heap.size w).alloc (Nat.le_refl _) ItZO).trans (HB1.out.mono (by have := HSZ.out; omega))).alloc (by have := HE.out; omega) _
end Go.Proofs.Ytgfoagpmkbdciaa
