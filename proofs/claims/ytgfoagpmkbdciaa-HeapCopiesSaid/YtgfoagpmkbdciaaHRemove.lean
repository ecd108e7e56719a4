/-
  A heap in memory; the walks of Len, Has, swapper, remove.
-/
import Derived.Test.YtgfoagpmkbdciaaHSink
import Derived.RegionTactic
import Derived.ChangeAlike
namespace Go.Proofs.Ytgfoagpmkbdciaa
open Go Go.Shelf Go.RowKit Go.Lib Go.Sort Go.Proofs HpM

/-- a heap that has had items -/
structure Full (w : World) (G B M cap : Nat) (d : Array It) (f : Pl) : Prop where
  row : RowC w B cap d
  map : MapF w M f
  g : w.heap[G]? = some (.cells #[.slice (some ⟨B, 0, none⟩) d.size cap, .map (some M)] 57 (0, 0))
  plc : Plc f d
  big : d.size ≤ 1000000
theorem Full.gB {w : World} {G B M cap : Nat} {d : Array It} {f : Pl} (h : Full w G B M cap d f) : G ≠ B := fun e => by
  obtain ⟨cur, hh, _⟩ := h.row.cells
  have := h.g
  rw [e, hh] at this
  cases this
theorem Full.gM {w : World} {G B M cap : Nat} {d : Array It} {f : Pl} (h : Full w G B M cap d f) : G ≠ M := fun e => by
  obtain ⟨l, c, hb, _⟩ := h.map
  have := h.g
  rw [e, hb] at this
  cases this
theorem Full.ltG {w : World} {G B M cap : Nat} {d : Array It} {f : Pl} (h : Full w G B M cap d f) : G < w.heap.size := (Array.getElem?_eq_some_iff.1 h.g).1
theorem Full.c0 {w : World} {G B M cap : Nat} {d : Array It} {f : Pl} (h : Full w G B M cap d f) : w.cell? ⟨G, 0, none⟩ = some (.slice (some ⟨B, 0, none⟩) d.size cap) := by
  rw [cell_of_row _ _ _ _ _ _ h.g]; rfl
theorem Full.c1 {w : World} {G B M cap : Nat} {d : Array It} {f : Pl} (h : Full w G B M cap d f) : w.cell? ⟨G, 1, none⟩ = some (.map (some M)) := by
  rw [cell_of_row _ _ _ _ _ _ h.g]; rfl
theorem Full.same {w w' : World} {G B M cap : Nat} {d : Array It} {f : Pl} (h : Full w G B M cap d f) (hb : ∀ b, b < w.heap.size → b = G ∨ b = B ∨ b = M → w'.heap[b]? = w.heap[b]?) : Full w' G B M cap d f :=
  ⟨h.row.same (hb _ h.row.lt (.inr (.inl rfl))), h.map.same (hb _ h.map.lt (.inr (.inr rfl))), (hb _ h.ltG (.inl rfl)).trans h.g, h.plc, h.big⟩
theorem Full.below {w w' : World} {G B M cap : Nat} {d : Array It} {f : Pl} (h : Full w G B M cap d f) (hb : Below w.heap.size w w') : Full w' G B M cap d f := h.same fun b hl _ => hb.block b hl

/-- a heap in memory: its blocks are within F -/
def HeapSt (w : World) (G : Nat) (F : Nat → Prop) (d : Array It) (f : Pl) : Prop :=
  F G ∧ (∀ b, F b → b < w.heap.size) ∧ ((d = #[] ∧ (f = fun _ => none) ∧ w.heap[G]? = some (.cells #[.slice none 0 0, .map none] 57 (0, 0))) ∨ ∃ B M cap, F B ∧ F M ∧ Full w G B M cap d f)
theorem HeapSt.but {w w' : World} {G : Nat} {F S : Nat → Prop} {d : Array It} {f : Pl} (h : HeapSt w G F d f) (hb : But S w w') (hs : ∀ b, F b → ¬ S b) : HeapSt w' G F d f := by
  obtain ⟨h1, h2, h3⟩ := h
  refine ⟨h1, fun b hf => Nat.lt_of_lt_of_le (h2 b hf) hb.size, ?_⟩
  rcases h3 with ⟨e1, e2, e3⟩ | ⟨B, M, cap, fB, fM, hF⟩
  · exact .inl ⟨e1, e2, (hb.block _ (h2 _ h1) (hs _ h1)).trans e3⟩
  · exact .inr ⟨B, M, cap, fB, fM, hF.same fun b hl hh => hb.block b hl (hs b (by rcases hh with rfl | rfl | rfl <;> assumption))⟩
theorem HeapSt.below {w w' : World} {G : Nat} {F : Nat → Prop} {d : Array It} {f : Pl} (h : HeapSt w G F d f) (hb : Below w.heap.size w w') : HeapSt w' G F d f :=
  h.but (S := fun _ => False) (But.of hb) fun _ _ h => h
theorem HeapSt.plc {w : World} {G : Nat} {F : Nat → Prop} {d : Array It} {f : Pl} (h : HeapSt w G F d f) : Plc f d := by
  obtain ⟨_, _, ⟨rfl, rfl, _⟩ | ⟨B, M, cap, _, _, hF⟩⟩ := h
  · exact Plc.empty
  · exact hF.plc
theorem HeapSt.c0 {w : World} {G : Nat} {F : Nat → Prop} {d : Array It} {f : Pl} (h : HeapSt w G F d f) : ∃ a c, w.cell? ⟨G, 0, none⟩ = some (.slice a d.size c) := by
  obtain ⟨_, _, ⟨rfl, rfl, e3⟩ | ⟨B, M, cap, _, _, hF⟩⟩ := h
  · exact ⟨none, 0, by rw [cell_of_row _ _ _ _ _ _ e3]; rfl⟩
  · exact ⟨_, _, hF.c0⟩
theorem HeapSt.look {w : World} {G : Nat} {F : Nat → Prop} {d : Array It} {f : Pl} (h : HeapSt w G F d f) (a b : Int) : ∃ m, w.cell? ⟨G, 1, none⟩ = some (.map m) ∧
    (Instr.lookup 55 (.map m) (.agg #[.int .i64 a, .int .i64 b]) true).run Try.prog w = .ok (.tuple #[.int .i64 (getF f (a, b) : Nat), .bool (hasF f (a, b))]) w := by
  obtain ⟨_, _, ⟨rfl, rfl, e3⟩ | ⟨B, M, cap, _, _, hF⟩⟩ := h
  · exact ⟨none, by rw [cell_of_row _ _ _ _ _ _ e3]; rfl, look_nil w a b⟩
  · exact ⟨_, hF.c1, look_ok w M f hF.map a b⟩

theorem len_any (w : World) (G : Nat) (F : Nat → Prop) (d : Array It) (f : Pl) (h : HeapSt w G F d f) : Calls Try.prog 24 #[.pointer (some ⟨G, 0, none⟩)] w (SameI (d.size : Nat) w) := by
  obtain ⟨a, c, c0⟩ := h.c0
  clear h
  go_enter Try.func24, Try.ntmps24
  go_wp2
  go_ret
  exact ⟨rfl, rfl⟩
def SameB (t : Bool) (w : World) (e : Ending) (w' : World) : Prop := e = .returned (.bool t) ∧ w = w'
theorem has_any (w : World) (G : Nat) (F : Nat → Prop) (d : Array It) (f : Pl) (a b : Int) (h : HeapSt w G F d f) : Calls Try.prog 28 #[.pointer (some ⟨G, 0, none⟩), .int .i64 a, .int .i64 b] w (SameB (hasF f (a, b)) w) := by
  obtain ⟨m, c1, hl⟩ := h.look a b
  generalize hasF f (a, b) = t at hl ⊢
  generalize ((getF f (a, b) : Nat) : Int) = v at hl
  clear h
  go_enter Try.func28, Try.ntmps28
  go_wp2
  go_ret
  exact ⟨rfl, rfl⟩

def SwapperTo (G B M cap : Nat) (d : Array It) (f : Pl) (w : World) (e : Ending) (w' : World) : Prop :=
  ∃ P1 P2, e = .returned (.func (.func 45) #[] #[.pointer (some ⟨P1, 0, none⟩), .pointer (some ⟨P2, 0, none⟩)]) ∧ HpW w' G P1 P2 B M d.size cap d f ∧ Below w.heap.size w w' ∧ P1 ≠ G ∧ P2 ≠ G
theorem swapper_end {w w' : World} {G B M cap P1 P2 : Nat} {d : Array It} {f : Pl} (h : Full w G B M cap d f) (hb : Below w.heap.size w w') (h1 : w'.cell? ⟨P1, 0, none⟩ = some (.slice (some ⟨B, 0, none⟩) d.size cap)) (h2 : w'.cell? ⟨P2, 0, none⟩ = some (.map (some M)))
    (n1 : w.heap.size ≤ P1) (n2 : w.heap.size ≤ P2) : SwapperTo G B M cap d f w (.returned (.func (.func 45) #[] #[.pointer (some ⟨P1, 0, none⟩), .pointer (some ⟨P2, 0, none⟩)])) w' := by
  have h' := h.below hb
  have := h.row.lt
  exact ⟨P1, P2, rfl, ⟨⟨h'.row, h'.map, ⟨h1, h2, by omega, by omega⟩⟩, h'.g, Nat.le_refl _, h.big, h.plc⟩, hb, by have := h.ltG; omega, by have := h.ltG; omega⟩
set_option maxHeartbeats 2000000 in
theorem swapper_any (w : World) (G B M cap : Nat) (d : Array It) (f : Pl) (h : Full w G B M cap d f) : Calls Try.prog 36 #[.pointer (some ⟨G, 0, none⟩)] w (SwapperTo G B M cap d f w) := by
  have c0 := h.c0
  have c1 := h.c1
  have hG := h.ltG
  have HF := Lib.hid h
  clear h
  go_enter Try.func36, Try.ntmps36
  go_wp2
  go_region
  all_goals go_wp2
  all_goals
    go_ret
    refine swapper_end HF.out ?_ ?_ ?_ ?_ ?_
    · exact (((Below.refl _ _).alloc (Nat.le_refl _) _).alloc (by simp) _).drew
    · simp
    · simp
    · simp
    · simp

abbrev RmS (G B M n cap o : Nat) (x : It) (W : World) : Prop := W.cell? ⟨G, 0, none⟩ = some (.slice (some ⟨B, 0, none⟩) n cap) ∧ W.cell? ⟨G, 1, none⟩ = some (.map (some M)) ∧ Cells7 W B o x
theorem RmS.gw {w w' : World} {G B M n cap o : Nat} {x : It} (h : RmS G B M n cap o x w) (g : Gw w w') : RmS G B M n cap o x w' := by
  obtain ⟨c0, c1, x0, x1, x2, x3, x4, x5, x6⟩ := h
  exact ⟨g.cell c0, g.cell c1, g.cell x0, g.cell x1, g.cell x2, g.cell x3, g.cell x4, g.cell x5, g.cell x6⟩
theorem HpW.rm {w : World} {G P1 P2 B M nC cap : Nat} {d : Array It} {f : Pl} (h : HpW w G P1 P2 B M nC cap d f) {i : Nat} (hi : i < d.size) : RmS G B M d.size cap (i * 7) d[i]! w :=
  ⟨h.c0, h.c1, (h.sw.row.cell hi).seven⟩
/-- the place of a name struck -/
theorem HpW.struck {w w1 : World} {G P1 P2 B M nC cap : Nat} {d : Array It} {f : Pl} (h : HpW w G P1 P2 B M nC cap d f) (g : Gw w.drew w1) (a b : Int) (ty : TypeId) :
    ∃ w', Sem.run Try.prog (Builtin.delete_ #[55, 64] ty #[.map (some M), .agg #[.int .i64 a, .int .i64 b]]) w1 = .ok (.tuple #[]) w' ∧ SwW w' P1 P2 B M nC cap d (fdel f (a, b)) ∧
      w'.heap[G]? = some (.cells #[.slice (some ⟨B, 0, none⟩) d.size cap, .map (some M)] 57 (0, 0)) ∧ But (fun b => b = M) w w' := by
  have g' : Gw w w1 := (Gw.refl w).drew.trans g
  have h1 := h.gw g'
  obtain ⟨w', hrun, hm, hg⟩ := del_run w1 M f h1.sw.map a b ty
  refine ⟨w', hrun, h1.sw.stored hm hg, (hg.block _ h1.ltG fun e => h1.gM (Option.some.inj e)).trans h1.g, ?_⟩
  exact ((But.refl _ w).gw g').trans ((But.grown hg).mono fun b _ e => Option.some.inj e)

theorem struck_rm {w' : World} {G P1 P2 B M nC cap l : Nat} {d : Array It} {f' : Pl} {x : It} (hs : d.size = l + 1) (hx : x = d[l]!) (h : SwW w' P1 P2 B M nC cap d f')
    (g : w'.heap[G]? = some (.cells #[.slice (some ⟨B, 0, none⟩) d.size cap, .map (some M)] 57 (0, 0))) : RmS G B M (l + 1) cap (l * 7) x w' := by
  rw [hs] at g
  refine ⟨?_, ?_, ?_⟩
  · rw [cell_of_row _ _ _ _ _ _ g]; rfl
  · rw [cell_of_row _ _ _ _ _ _ g]; rfl
  · rw [hx]
    exact (h.row.cell (by omega)).seven
/-- the last item's place let go -/
theorem shortened {w : World} {G P1 P2 B M nC cap l : Nat} {d : Array It} {f : Pl} (h : SwW w P1 P2 B M nC cap d f) (hs : d.size = l + 1) (g : w.heap[G]? = some (.cells #[.slice (some ⟨B, 0, none⟩) d.size cap, .map (some M)] 57 (0, 0)))
    (hl : d.size ≤ nC) (hb : d.size ≤ 1000000) (hp : Plc f d.pop) (n1 : P1 ≠ G) (n2 : P2 ≠ G) :
    HpW (w.setCell ⟨G, 0, none⟩ (.slice (some ⟨B, 0, none⟩) l cap)) G P1 P2 B M nC cap d.pop f ∧ But (fun b => b = G) w (w.setCell ⟨G, 0, none⟩ (.slice (some ⟨B, 0, none⟩) l cap)) := by
  have hps : d.pop.size = l := by simp [hs]
  have hbut : But (fun b => b = G) w (w.setCell ⟨G, 0, none⟩ (.slice (some ⟨B, 0, none⟩) l cap)) := (But.refl (fun b => b = G) w).setCell (p := ⟨G, 0, none⟩) rfl _
  have gB : B ≠ G := fun e => by
    obtain ⟨cur, hh, _⟩ := h.row.cells
    rw [e, g] at hh
    cases hh
  have gM : M ≠ G := fun e => by
    obtain ⟨l, c, hb, _⟩ := h.map
    rw [e, g] at hb
    cases hb
  refine ⟨⟨⟨h.row.pop.same (hbut.block _ h.row.lt gB), h.map.same (hbut.block _ h.map.lt gM), h.caps.same (hbut.block _ h.caps.lt.1 n1) (hbut.block _ h.caps.lt.2 n2)⟩, ?_, by omega, by omega, hp⟩, hbut⟩
  rw [heap_setCell_same w G 0 _ _ _ g, hps]
  rfl
def RemoveTo (G B M cap i : Nat) (d : Array It) (w : World) (e : Ending) (w' : World) : Prop :=
  e = .returned (.tuple #[]) ∧ ∃ d' f', Full w' G B M cap d' f' ∧ d.toList.Perm (d[i]! :: d'.toList) ∧ HP iLt d' ∧ But (fun b => b = G ∨ b = B ∨ b = M) w w'

set_option maxHeartbeats 4000000 in
set_option maxRecDepth 100000 in
theorem remove_any (w : World) (G B M cap i : Nat) (d : Array It) (f : Pl) (h : Full w G B M cap d f) (hi : i < d.size) (hp : HP iLt d) :
    Calls Try.prog 37 #[.pointer (some ⟨G, 0, none⟩), .int .i64 i] w (RemoveTo G B M cap i d w) := by
  obtain ⟨l, hl⟩ : ∃ l, d.size = l + 1 := ⟨d.size - 1, by omega⟩
  have hbig := h.big
  have hil : i ≤ l := by omega
  have hlb : l < 1000000 := by omega
  have HF := Lib.hid h
  have HL := Lib.hid hl
  have HI := Lib.hid hi
  have HHP := Lib.hid hp
  clear h hl hi hp hbig
  go_enter Try.func37, Try.ntmps37
  go_wp2_with (first
    | (go_at_call 36; refine (swapper_any _ G B M cap d f HF.out).mono ?_; rintro e w1 ⟨P1, P2, rfl, hw1, hb1, np1, np2⟩; have HW1 := Lib.hid (And.intro hw1 hb1); have HNP := Lib.hid (And.intro np1 np2); have c0 := hw1.c0; rw [HL.out] at c0; clear hw1 hb1 np1 np2)
    | (go_at_call 45; refine (swap_any _ G P1 P2 B M d.size cap i l d f HW1.out.1 HI.out (by have := HL.out; omega)).mono ?_; rintro e w2 ⟨rfl, hw2, hb2⟩; have HW2 := Lib.hid (And.intro hw2 hb2); clear hw2 hb2; refine Hid.out ?_))
  obtain ⟨d2, hd2⟩ : ∃ d2, d2 = swp d i l := ⟨_, rfl⟩
  obtain ⟨f2, hf2⟩ : ∃ f2, f2 = fset (fset f (nm (swp d i l)[i]!) i) (nm (swp d i l)[l]!) l := ⟨_, rfl⟩
  have hs2 : d2.size = l + 1 := by rw [hd2, swp_size]; exact HL.out
  have hw2 : HpW w2 G P1 P2 B M d.size cap d2 f2 := by rw [hd2, hf2]; exact HW2.out.1
  obtain ⟨x, hx⟩ : ∃ x, x = d2[l]! := ⟨_, rfl⟩
  have hrm : RmS G B M (l + 1) cap (l * 7) x w2 := by
    have := hw2.rm (i := l) (by omega)
    rw [hs2, ← hx] at this
    exact this
  have HS2 := Lib.hid hs2
  have HH2 := Lib.hid hw2
  have HX := Lib.hid hx
  have HRM := Lib.hid hrm
  have HD2 := Lib.hid hd2
  obtain ⟨c0, c1, x0, x1, x2, x3, x4, x5, x6⟩ := hrm
  clear hd2 hf2 hs2 hw2 hx
  have hz0 : (0 : Int) ≤ (l : Int) := by omega
  have hz1 : (l : Int) < (l : Int) + 1 := by omega
  refine Lib.hid ?_
  go_wp2_with fail
  go_region_held3 (fun W => RmS G B M (l + 1) cap (l * 7) x W) (first | assumption | exact HRM.out | exact HRM.out.gw (Gw.refl _).drew | exact HG3.out | exact HG4.out)
    (first
      | (go_at_call 34; ((with_reducible refine (named_lit _ _ _ _ _ _ _ _).mono ?_)); rintro e0 w3 ⟨rfl, hg⟩; obtain ⟨w4, hrun, hs4, hg4, hb4⟩ := HH2.out.struck hg x.1.1.2.1 x.2 0; have HG3 := Lib.hid (HRM.out.gw ((Gw.refl _).drew.trans hg)); have HG4 : Hid (RmS G B M (l + 1) cap (l * 7) x w4) := struck_rm HS2.out HX.out hs4 hg4; have HW4 := Lib.hid (And.intro hs4 (And.intro hg4 hb4)); clear hs4 hg4 hb4))
  have hg4 := HW4.out.2.1
  have e0 := (HG4.out).1
  have e1 := (HG4.out).2.1
  have hfr : w4.frozen? ⟨G, 0, none⟩ = false := frozen_of_row _ _ _ _ _ hg4
  have hlc : (l : Int) ≤ (cap : Int) := by have := HF.out.row.le; have := HL.out; omega
  have hplc : Plc (fdel f2 (x.1.1.2.1, x.2)) d2.pop := by
    have h0 := HH2.out.plc.pop (by have := HS2.out; omega)
    have e : d2.size - 1 = l := by have := HS2.out; omega
    rw [e, ← HX.out] at h0
    exact h0
  have hsh := shortened HW4.out.1 HS2.out hg4 HH2.out.le HH2.out.big hplc HNP.out.1 HNP.out.2
  have HW5 := Lib.hid hsh
  have hpop : d2.pop.size = l := by simp [HS2.out]
  have hget : ∀ k, k < d2.pop.size → k ≠ i → d2.pop[k]! = d[k]! := fun k hk hki => by
    rw [pop_get d2 k hk, HD2.out, swp_get d HI.out (by have := HL.out; omega), if_neg (by omega), if_neg hki]
  have hperm : d.toList.Perm (d[i]! :: d2.pop.toList) := by
    have p1 := pop_perm d2 (by have := HS2.out; omega)
    have e : d2.size - 1 = l := by have := HS2.out; omega
    rw [e] at p1
    have e2 : d2[l]! = d[i]! := by rw [HD2.out, swp_get d HI.out (by have := HL.out; omega), if_pos rfl]
    rw [e2] at p1
    have p0 := swp_perm d HI.out (show l < d.size by have := HL.out; omega)
    rw [← HD2.out] at p0
    exact p0.symm.trans p1
  have HPP := Lib.hid hperm
  have HGET := Lib.hid (And.intro hpop hget)
  have hbut : But (fun b => b = G ∨ b = B ∨ b = M) w (w4.setCell ⟨G, 0, none⟩ (.slice (some ⟨B, 0, none⟩) l cap)) :=
    ((((But.of HW1.out.2).trans (HW2.out.2.mono fun _ _ h => .inr h)).trans (HW4.out.2.2.mono fun _ _ h => .inr (.inr h))).trans (hsh.2.mono fun _ _ h => .inl h))
  have HBT := Lib.hid hbut
  clear c0 c1 x0 x1 x2 x3 x4 x5 x6 hrun hg hg4 hplc hsh hpop hget hperm hbut
  by_cases hlt : i < l
  · have hd : decide ((i : Int) < (l : Int)) = true := by simpa using hlt
    have HLT := Lib.hid hlt
    clear hlt
    go_wp2_with (first
      | (go_at_call 35; refine (rise_any _ G P1 P2 B M d.size cap i d2.pop _ HW5.out.1 (by have := HGET.out.1; have := HLT.out; omega) (HHP.out.removed iLt_swo (by have := HGET.out.1; have := HL.out; omega) HGET.out.2)).mono ?_; rintro e w6 ⟨rfl, d6, f6, hm6, hd6⟩; have H6 := Lib.hid (And.intro hm6 hd6); clear hm6 hd6)
      | (go_at_call 46; refine (sink_any _ G P1 P2 B M d.size cap i d6 f6 H6.out.1.hp (by have := H6.out.1.size; have := HGET.out.1; have := HLT.out; omega) H6.out.2).mono ?_; rintro e w7 ⟨rfl, d7, f7, hm7, hd7⟩; have H7 := Lib.hid (And.intro hm7 hd7); clear hm7 hd7))
    go_end0
    have m6 := H6.out.1
    have m7 := H7.out.1
    refine ⟨rfl, d7, f7, ⟨m7.hp.sw.row, m7.hp.sw.map, m7.hp.g, m7.hp.plc, m7.hp.big⟩, ?_, H7.out.2, ?_⟩
    · exact HPP.out.trans (List.Perm.cons _ ((m7.perm.trans m6.perm).symm))
    · exact (HBT.out.trans (m6.but.mono fun _ _ h => .inr h)).trans (m7.but.mono fun _ _ h => .inr h)
  · have hd : decide ((i : Int) < (l : Int)) = false := by simp; omega
    obtain rfl : i = l := by omega
    clear hlt
    go_wp2
    go_end0
    have m5 := HW5.out.1
    exact ⟨rfl, d2.pop, _, ⟨m5.sw.row, m5.sw.map, m5.g, m5.plc, m5.big⟩, HPP.out, HHP.out.short (by have := HGET.out.1; have := HL.out; omega) (fun k hk => HGET.out.2 k hk (by have := HGET.out.1; omega)), HBT.out⟩
end Go.Proofs.Ytgfoagpmkbdciaa
