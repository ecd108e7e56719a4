/-
  The walk of Put.
-/
import Derived.Test.YtgfoagpmkbdciaaHApp
import Derived.Shelf.SlMaps.Clone
namespace Go.Proofs.Ytgfoagpmkbdciaa
open Go Go.Shelf Go.RowKit Go.Lib Go.Sort Go.Proofs HpM

def TellsIB (n : Int) (w : World) (e : Ending) (w' : World) : Prop := e = .returned (.int .i64 n) ∧ Below w.heap.size w w'
/-- F, and what has been made since -/
def Ext (F : Nat → Prop) (w w' : World) : Nat → Prop := fun b => F b ∨ (w.heap.size ≤ b ∧ b < w'.heap.size)
/-- an item as a value -/
abbrev ItV (x : It) : Value := .agg #[.int .i64 x.1.1.1, .int .i64 x.1.1.2.1, .int .i64 x.1.1.2.2, .int .i64 x.1.2.1, .int .i64 x.1.2.2.1, .int .i64 x.1.2.2.2, .int .i64 x.2]
abbrev ItO (x : It) : Obj := .cells #[.int .i64 x.1.1.1, .int .i64 x.1.1.2.1, .int .i64 x.1.1.2.2, .int .i64 x.1.2.1, .int .i64 x.1.2.2.1, .int .i64 x.1.2.2.2, .int .i64 x.2] 36
theorem has_is {w : World} {G : Nat} {F : Nat → Prop} {d : Array It} {f : Pl} {a b : Int} {t : Bool} (h : HeapSt w G F d f) (ht : t = hasF f (a, b)) : Calls Try.prog 28 #[.pointer (some ⟨G, 0, none⟩), .int .i64 a, .int .i64 b] w (SameB t w) := ht ▸ has_any w G F d f a b h

set_option maxHeartbeats 2000000 in
theorem put_twice (w : World) (G : Nat) (F : Nat → Prop) (d : Array It) (f : Pl) (x : It) (h : HeapSt w G F d f) (hn : hasF f (nm x) = true) : Calls Try.prog 15 #[.pointer (some ⟨G, 0, none⟩), ItV x] w (TellsIB 7 w) := by
  have hw : HeapSt (w.alloc (ItO x)) G F d f := h.below ((Below.refl _ _).alloc (Nat.le_refl _) _)
  have HH := Lib.hid hw
  have HN : Hid (true = hasF f (x.1.1.2.1, x.2)) := hn.symm
  clear h hw hn
  go_enter Try.func15, Try.ntmps15
  go_wp2_with (go_at_call 28; refine (has_is HH.out HN.out).mono ?_; rintro e w1 ⟨rfl, rfl⟩)
  go_ret
  exact ⟨rfl, (Below.refl _ _).alloc (Nat.le_refl _) _⟩
set_option maxHeartbeats 2000000 in
theorem put_full (w : World) (G : Nat) (F : Nat → Prop) (d : Array It) (f : Pl) (x : It) (h : HeapSt w G F d f) (hn : hasF f (nm x) = false) (hs : 1024 ≤ d.size) : Calls Try.prog 15 #[.pointer (some ⟨G, 0, none⟩), ItV x] w (TellsIB 5 w) := by
  have hw : HeapSt (w.alloc (ItO x)) G F d f := h.below ((Below.refl _ _).alloc (Nat.le_refl _) _)
  obtain ⟨a, c, c0⟩ := hw.c0
  have HH := Lib.hid hw
  have HN : Hid (false = hasF f (x.1.1.2.1, x.2)) := hn.symm
  have hd : decide ((d.size : Int) ≥ 1024) = true := by simp; omega
  clear h hw hn
  go_enter Try.func15, Try.ntmps15
  go_wp2_with (go_at_call 28; refine (has_is HH.out HN.out).mono ?_; rintro e w1 ⟨rfl, rfl⟩)
  go_ret
  exact ⟨rfl, (Below.refl _ _).alloc (Nat.le_refl _) _⟩

def PutTo (G : Nat) (F : Nat → Prop) (d : Array It) (x : It) (w : World) (e : Ending) (w' : World) : Prop :=
  e = .returned (.int .i64 0) ∧ ∃ d' f', HeapSt w' G (Ext F w w') d' f' ∧ d'.toList.Perm (d.push x).toList ∧ HP iLt d' ∧ But F w w'
theorem list_size (d : Array It) : d.toList.length = d.size := by simp
theorem hasF_none {f : Pl} {n : Nm} (h : hasF f n = false) : f n = none := by
  unfold hasF at h
  cases e : f n with
  | none => rfl
  | some k => rw [e] at h; cases h
theorem put_end {w w7 w9 w10 w11 : World} {G P1 P2 B6 M c6 nC : Nat} {F : Nat → Prop} {d d0 d11 : Array It} {f0 f11 : Pl} {x : It} (h : HeapSt w G F d0 f0) (fG : F G ∨ w.heap.size ≤ G) (fB : F B6 ∨ w.heap.size ≤ B6) (fM : F M ∨ w.heap.size ≤ M)
    (b7 : But (fun b => F b ∨ w.heap.size ≤ b) w w7) (b9 : But (fun b => b = M) w7 w9) (b10 : Below w9.heap.size w9 w10) (m : Moved w10 w11 G P1 P2 B6 M nC c6 (d.push x) d11 f11) (hd : Down iLt d11 d.size) : PutTo G F d x w (.returned (.int .i64 0)) w11 := by
  have hf := h.2.1
  have bw : But (fun b => F b ∨ w.heap.size ≤ b) w w11 :=
    ((b7.trans (b9.mono fun _ _ e => e ▸ fM)).trans (But.of b10)).trans (m.but.mono fun _ _ e => by rcases e with rfl | rfl <;> assumption)
  have lt : ∀ b, (F b ∨ w.heap.size ≤ b) → b < w11.heap.size → Ext F w w11 b := fun b hb hl => hb.imp id fun h => ⟨h, hl⟩
  refine ⟨rfl, d11, f11, ⟨lt _ fG m.hp.ltG, fun b hb => ?_, .inr ⟨B6, M, c6, lt _ fB m.hp.sw.row.lt, lt _ fM m.hp.sw.map.lt, ⟨m.hp.sw.row, m.hp.sw.map, m.hp.g, m.hp.plc, m.hp.big⟩⟩⟩, m.perm, hd.last ?_, ⟨bw.os, bw.tape, bw.output, bw.size, fun k hk hs => bw.block k hk fun e => e.elim hs fun e => by omega⟩⟩
  · rcases hb with hb | hb
    · exact Nat.lt_of_lt_of_le (hf b hb) bw.size
    · exact hb.2
  · have := m.size
    rw [Array.size_push] at this
    omega
/-- a heap that is ready for one more -/
structure Pre (w : World) (G : Nat) (F : Nat → Prop) (a : Option Addr) (c M : Nat) (d : Array It) (f : Pl) (x : It) (X : Nat) : Prop where
  g : w.heap[G]? = some (.cells #[.slice a d.size c, .map (some M)] 57 (0, 0))
  own : ItOwn 0 w (.slice a d.size c) d.toList
  map : MapF w M f
  plc : Plc f d
  fM : F M
  fB : ∀ b, (Value.slice a d.size c).ownBlock = some b → F b
  box : w.heap[X]? = some (ItO x)
  nX : ∀ b, (Value.slice a d.size c).ownBlock = some b → b ≠ X
theorem Pre.lt {w : World} {G : Nat} {F : Nat → Prop} {a : Option Addr} {c M : Nat} {d : Array It} {f : Pl} {x : It} {X : Nat} (h : Pre w G F a c M d f x X) : G < w.heap.size ∧ M < w.heap.size ∧ X < w.heap.size :=
  ⟨(Array.getElem?_eq_some_iff.1 h.g).1, h.map.lt, (Array.getElem?_eq_some_iff.1 h.box).1⟩
theorem pre_fresh {w w1 : World} {G : Nat} {F : Nat → Prop} {d : Array It} {f : Pl} {x : It} (fG : F G) (fL : ∀ b, F b → b < w.heap.size) (hd : d = #[]) (hf : f = fun _ => none)
    (hg : ((w.alloc (ItO x)).alloc (.map #[] 0)).heap[G]? = some (.cells #[.slice none 0 0, .map none] 57 (0, 0)))
    (h1 : w1 = ((w.alloc (ItO x)).alloc (.map #[] 0)).setCell ⟨G, 1, none⟩ (.map (some (w.heap.size + 1)))) : Pre w1 G (fun b => F b ∨ w.heap.size ≤ b) none 0 (w.heap.size + 1) d f x w.heap.size ∧ But F w w1 := by
  have hG := fL G fG
  have hb1 : But (fun b => b = G) ((w.alloc (ItO x)).alloc (.map #[] 0)) w1 := by rw [h1]; exact (But.refl (fun b => b = G) _).setCell (p := ⟨G, 1, none⟩) rfl _
  have s1 : (w.alloc (ItO x)).heap.size = w.heap.size + 1 := by simp
  refine ⟨⟨?_, ?_, ?_, ?_, .inr (by omega), (fun b hb => by cases hb), ?_, (fun b hb => by cases hb)⟩, ?_⟩
  · rw [h1, heap_setCell_same _ G 1 _ _ _ hg, hd]
    rfl
  · rw [hd]
    exact World.ownsRow_nil _ _ _ _
  · rw [hf]
    have hm := MapF.made (w.alloc (ItO x))
    rw [s1] at hm
    exact hm.same (hb1.block _ hm.lt (by omega))
  · rw [hd, hf]
    exact Plc.empty
  · refine (hb1.block _ (by simp; omega) (by omega)).trans ?_
    exact (heap_alloc_old _ _ (by omega)).trans (heap_alloc_new _ _)
  · rw [h1]
    exact (((But.refl F w).alloc _).alloc _).setCell (p := ⟨G, 1, none⟩) fG _
theorem pre_full {w w1 : World} {G B M cap : Nat} {F : Nat → Prop} {d : Array It} {f : Pl} {x : It} (fB : F B) (fM : F M) (hfl : ∀ b, F b → b < w.heap.size) (h : Full (w.alloc (ItO x)) G B M cap d f) (h1 : w1 = w.alloc (ItO x)) :
    Pre w1 G (fun b => F b ∨ w.heap.size ≤ b) (some ⟨B, 0, none⟩) cap M d f x w.heap.size ∧ But F w w1 := by
  subst h1
  refine ⟨⟨h.g, ?_, h.map, h.plc, .inl fM, fun b hb => ?_, heap_alloc_new _ _, fun b hb => ?_⟩, (But.refl F w).alloc _⟩
  · have := h.row.own (Nat.zero_le B)
    rw [← list_size d] at this ⊢
    exact this
  · simp [Value.ownBlock] at hb
    subst hb
    exact .inl fB
  · simp [Value.ownBlock] at hb
    subst hb
    have := hfl B fB
    omega
theorem Pre.cells {w : World} {G : Nat} {F : Nat → Prop} {a : Option Addr} {c M : Nat} {d : Array It} {f : Pl} {x : It} {X : Nat} (h : Pre w G F a c M d f x X) :
    w.cell? ⟨G, 0, none⟩ = some (.slice a d.size c) ∧ w.cell? ⟨G, 1, none⟩ = some (.map (some M)) ∧ w.frozen? ⟨G, 0, none⟩ = false ∧ Cells7 w X 0 x := by
  refine ⟨by rw [cell_of_row _ _ _ _ _ _ h.g]; rfl, by rw [cell_of_row _ _ _ _ _ _ h.g]; rfl, frozen_of_row _ _ _ _ _ h.g, ?_⟩
  refine ⟨?_, ?_, ?_, ?_, ?_, ?_, ?_⟩ <;> (rw [cell_of_row _ _ _ _ _ _ h.box]; rfl)

/-- .. one more in its row, its header not yet laid -/
structure App (w : World) (G : Nat) (F : Nat → Prop) (B6 c6 : Nat) (a : Option Addr) (c M : Nat) (d : Array It) (f : Pl) (x : It) (X : Nat) : Prop where
  g : w.heap[G]? = some (.cells #[.slice a d.size c, .map (some M)] 57 (0, 0))
  row : RowC w B6 c6 (d.push x)
  map : MapF w M f
  fB : F B6
  box : w.heap[X]? = some (ItO x)
theorem pre_app {w1 wa w6 : World} {G : Nat} {F : Nat → Prop} {a : Option Addr} {c M : Nat} {d : Array It} {f : Pl} {x : It} {X : Nat} {v6 : Value} (h : Pre w1 G F a c M d f x X) (g : Gw w1 wa)
    (own : ItOwn 0 w6 v6 (d.toList ++ [x])) (gr : wa.grownBy w6 (Value.slice a d.size c).ownBlock) (nw : NewOr wa (.slice a d.size c) v6) (hF : ∀ b, w1.heap.size ≤ b → F b) :
    ∃ B6 c6, v6 = .slice (some ⟨B6, 0, none⟩) (d.size + 1) c6 ∧ App w6 G F B6 c6 a c M d f x X ∧ But F w1 w6 := by
  have hlen : (d.toList ++ [x]).length = d.size + 1 := by simp
  have hl := h.lt
  have key : ∀ k, k < w1.heap.size → (Value.slice a d.size c).ownBlock ≠ some k → w6.heap[k]? = w1.heap[k]? := fun k hk hne =>
    (gr.block k (Nat.lt_of_lt_of_le hk g.size) (fun e => hne e.symm)).trans (g.block hk)
  have typ : ∀ b, (Value.slice a d.size c).ownBlock = some b → ∃ cur, w1.heap[b]? = some (.cells cur 36 (0, 0)) := fun b hb => by
    obtain ⟨_, ⟨e, _⟩ | ⟨gg, cap, cur, e, _, hh, _⟩⟩ := h.own
    · rw [e] at hb; cases hb
    · rw [e] at hb
      cases hb
      exact ⟨cur, hh⟩
  have nG : (Value.slice a d.size c).ownBlock ≠ some G := fun e => by
    obtain ⟨cur, hh⟩ := typ G e
    rw [h.g] at hh
    cases hh
  have nM : (Value.slice a d.size c).ownBlock ≠ some M := fun e => by
    obtain ⟨cur, hh⟩ := typ M e
    obtain ⟨l, ck, hb, _⟩ := h.map
    rw [hb] at hh
    cases hh
  have own' := own
  obtain ⟨_, ⟨e, h0⟩ | ⟨B6, c6, cur, e, _, hh, _⟩⟩ := own
  · rw [hlen] at h0; cases h0
  · subst e
    have hr := (rowC_of_own own').1
    have e1 : (d.toList ++ [x]).toArray = d.push x := Array.ext' (by rw [Array.toList_push])
    rw [e1] at hr
    refine ⟨B6, c6, by rw [hlen], ⟨(key _ hl.1 nG).trans h.g, hr, h.map.same (key _ hl.2.1 nM), ?_, (key _ hl.2.2 fun e => h.nX _ e rfl).trans h.box⟩, ?_⟩
    · rcases nw.1 B6 rfl with e | e
      · exact h.fB _ e
      · exact hF _ (Nat.le_trans g.size e)
    · exact ((But.refl F w1).gw g).next (But.grown gr) fun j _ e => h.fB j e.symm
theorem App.cells {w : World} {G : Nat} {F : Nat → Prop} {B6 c6 : Nat} {a : Option Addr} {c M : Nat} {d : Array It} {f : Pl} {x : It} {X : Nat} (h : App w G F B6 c6 a c M d f x X) :
    w.cell? ⟨G, 0, none⟩ = some (.slice a d.size c) ∧ w.frozen? ⟨G, 0, none⟩ = false :=
  ⟨by rw [cell_of_row _ _ _ _ _ _ h.g]; rfl, frozen_of_row _ _ _ _ _ h.g⟩
/-- .. its header laid -/
theorem App.laid {w : World} {G : Nat} {F : Nat → Prop} {B6 c6 : Nat} {a : Option Addr} {c M : Nat} {d : Array It} {f : Pl} {x : It} {X : Nat} (h : App w G F B6 c6 a c M d f x X) (fG : F G) (hX : X ≠ G) {w7 : World} (h7 : w7 = w.setCell ⟨G, 0, none⟩ (.slice (some ⟨B6, 0, none⟩) (d.size + 1) c6)) :
    w7.heap[G]? = some (.cells #[.slice (some ⟨B6, 0, none⟩) (d.push x).size c6, .map (some M)] 57 (0, 0)) ∧ RowC w7 B6 c6 (d.push x) ∧ MapF w7 M f ∧ w7.heap[X]? = some (ItO x) ∧ But F w w7 := by
  have hb : But (fun b => b = G) w w7 := by rw [h7]; exact (But.refl (fun b => b = G) _).setCell (p := ⟨G, 0, none⟩) rfl _
  have gB : B6 ≠ G := fun e => by
    obtain ⟨cur, hh, _⟩ := h.row.cells
    rw [e, h.g] at hh
    cases hh
  have gM : M ≠ G := fun e => by
    obtain ⟨l, ck, hh, _⟩ := h.map
    rw [e, h.g] at hh
    cases hh
  refine ⟨?_, h.row.same (hb.block _ h.row.lt gB), h.map.same (hb.block _ h.map.lt gM), (hb.block _ (Array.getElem?_eq_some_iff.1 h.box).1 hX).trans h.box, hb.mono fun _ _ e => e ▸ fG⟩
  rw [h7, heap_setCell_same w G 0 _ _ _ h.g, Array.size_push]
  rfl

structure LaidP (w : World) (G B6 c6 M : Nat) (d : Array It) (f : Pl) (x : It) (X : Nat) : Prop where
  g : w.heap[G]? = some (.cells #[.slice (some ⟨B6, 0, none⟩) (d.push x).size c6, .map (some M)] 57 (0, 0))
  row : RowC w B6 c6 (d.push x)
  map : MapF w M f
  box : w.heap[X]? = some (ItO x)
abbrev PtS (G M X : Nat) (x : It) (W : World) : Prop := W.cell? ⟨G, 1, none⟩ = some (.map (some M)) ∧ Cells7 W X 0 x
theorem LaidP.pts {w : World} {G B6 c6 M : Nat} {d : Array It} {f : Pl} {x : It} {X : Nat} (h : LaidP w G B6 c6 M d f x X) : PtS G M X x w := by
  refine ⟨by rw [cell_of_row _ _ _ _ _ _ h.g]; rfl, ?_⟩
  refine ⟨?_, ?_, ?_, ?_, ?_, ?_, ?_⟩ <;> (rw [cell_of_row _ _ _ _ _ _ h.box]; rfl)
theorem LaidP.gw {w w' : World} {G B6 c6 M : Nat} {d : Array It} {f : Pl} {x : It} {X : Nat} (h : LaidP w G B6 c6 M d f x X) (g : Gw w w') : LaidP w' G B6 c6 M d f x X :=
  ⟨(g.block (Array.getElem?_eq_some_iff.1 h.g).1).trans h.g, h.row.same (g.block h.row.lt), h.map.same (g.block h.map.lt), (g.block (Array.getElem?_eq_some_iff.1 h.box).1).trans h.box⟩
theorem LaidP.store {w w1 : World} {G B6 c6 M : Nat} {d : Array It} {f : Pl} {x : It} {X : Nat} (h : LaidP w G B6 c6 M d f x X) (g : Gw w.drew w1) (hp : Plc f d) (hn : f (nm x) = none) (hs : d.size < 1024) :
    ∃ w', Sem.run Try.prog (Instr.mapUpdate 55 (.map (some M)) (.agg #[.int .i64 x.1.1.2.1, .int .i64 x.2]) (.int .i64 (d.size : Nat))) w1 = .ok () w' ∧ Full w' G B6 M c6 (d.push x) (fset f (nm x) d.size) ∧ PtS G M X x w' ∧ But (fun b => b = M) w w' := by
  have g' : Gw w w1 := (Gw.refl w).drew.trans g
  have h1 := h.gw g'
  obtain ⟨w', hrun, hm, hg⟩ := put_run w1 M f h1.map x.1.1.2.1 x.2 d.size
  obtain ⟨l, ck, hb, _⟩ := h1.map
  have nG : G ≠ M := fun e => by
    have := h1.g
    rw [e, hb] at this
    cases this
  have nX : X ≠ M := fun e => by
    have := h1.box
    rw [e, hb] at this
    cases this
  have key : ∀ k, k < w1.heap.size → k ≠ M → w'.heap[k]? = w1.heap[k]? := fun k hk hne => hg.block k hk fun e => hne (Option.some.inj e)
  have e1 := (key _ (Array.getElem?_eq_some_iff.1 h1.g).1 nG).trans h1.g
  have e2 := (key _ (Array.getElem?_eq_some_iff.1 h1.box).1 nX).trans h1.box
  refine ⟨w', hrun, ⟨h1.row.same (key _ h1.row.lt (row_ne_map h1.row h1.map)), hm, e1, hp.push hn, by rw [Array.size_push]; omega⟩, ⟨by rw [cell_of_row _ _ _ _ _ _ e1]; rfl, ?_⟩, ((But.refl _ w).gw g').trans ((But.grown hg).mono fun b _ e => Option.some.inj e)⟩
  refine ⟨?_, ?_, ?_, ?_, ?_, ?_, ?_⟩ <;> (rw [cell_of_row _ _ _ _ _ _ e2]; rfl)

set_option maxHeartbeats 8000000 in
set_option maxRecDepth 100000 in
theorem put_new (w : World) (G : Nat) (F : Nat → Prop) (d : Array It) (f : Pl) (x : It) (h : HeapSt w G F d f) (hn : hasF f (nm x) = false) (hs : d.size < 1024) (hp : HP iLt d) :
    Calls Try.prog 15 #[.pointer (some ⟨G, 0, none⟩), ItV x] w (PutTo G F d x w) := by
  have hw : HeapSt (w.alloc (ItO x)) G F d f := h.below ((Below.refl _ _).alloc (Nat.le_refl _) _)
  have HH := Lib.hid hw
  have H0 := Lib.hid h
  have HN : Hid (false = hasF f (x.1.1.2.1, x.2)) := hn.symm
  have HHP := Lib.hid hp
  have hd : decide ((d.size : Int) ≥ 1024) = false := by simp; omega
  have hq := fun (w : World) (p : Option Nat) => run_eql_map_nil_sl (P := Try.prog) w 55 _ _ p Try.underlying55
  have hmm := @run_makeMap Try.prog
  have hbx : (w.alloc (ItO x)).heap[w.heap.size]? = some (ItO x) := heap_alloc_new _ _
  have HBX := Lib.hid hbx
  obtain ⟨fG, fL, hc⟩ := hw
  clear h hn hp hbx
  rcases hc with ⟨hd0, hf0, hg⟩ | ⟨B, M, cap, fB, fM, hF⟩
  · have c0 : (w.alloc (ItO x)).cell? ⟨G, 0, none⟩ = some (.slice none d.size 0) := by rw [cell_of_row _ _ _ _ _ _ hg, hd0]; rfl
    have c1 : (w.alloc (ItO x)).cell? ⟨G, 1, none⟩ = some (.map none) := by rw [cell_of_row _ _ _ _ _ _ hg]; rfl
    have hg2 : ((w.alloc (ItO x)).alloc (.map #[] 0)).heap[G]? = some (.cells #[.slice none 0 0, .map none] 57 (0, 0)) := (heap_alloc_old _ _ (fL _ fG)).trans hg
    have k0 : ((w.alloc (ItO x)).alloc (.map #[] 0)).cell? ⟨G, 0, none⟩ = some (.slice none d.size 0) := by rw [cell_of_row _ _ _ _ _ _ hg2, hd0]; rfl
    have k1 : ((w.alloc (ItO x)).alloc (.map #[] 0)).cell? ⟨G, 1, none⟩ = some (.map none) := by rw [cell_of_row _ _ _ _ _ _ hg2]; rfl
    have kf : ((w.alloc (ItO x)).alloc (.map #[] 0)).frozen? ⟨G, 1, none⟩ = false := frozen_of_row _ _ _ _ _ hg2
    have HG := Lib.hid (And.intro hg hg2)
    have HD0 := Lib.hid hd0
    have HF0 := Lib.hid hf0
    clear hd0 hf0 hg hg2 hd
    go_enter Try.func15, Try.ntmps15
    go_wp2_with (go_at_call 28; refine (has_is HH.out HN.out).mono ?_; rintro e w1 ⟨rfl, rfl⟩)
    obtain ⟨w1, hw1⟩ : ∃ w1, w1 = ((w.alloc (ItO x)).alloc (.map #[] 0)).setCell ⟨G, 1, none⟩ (.map (some (w.heap.size + 1))) := ⟨_, rfl⟩
    have HPRE := Lib.hid (pre_fresh fG H0.out.2.1 HD0.out HF0.out HG.out.2 hw1)
    obtain ⟨a, c, M, hpre⟩ : ∃ a c M, Hid (Pre w1 G (fun b => F b ∨ w.heap.size ≤ b) a c M d f x w.heap.size ∧ But F w w1) := ⟨_, _, _, HPRE⟩
    clear HPRE HD0 HF0 HG c0 c1 k0 k1 kf fL
    rw [← hw1]
    clear hw1
    obtain ⟨c0, c1, cf, x0, x1, x2, x3, x4, x5, x6⟩ := hpre.out.1.cells
    have hnb : d.size < 1024 := hs
    have HNN : Hid (f (nm x) = none) := hasF_none HN.out.symm
    have HUP : Hid (UpA iLt (d.push x) d.size) := HHP.out.pushed (by simp) (push_get d x)
    have HPLC := Lib.hid hpre.out.1.plc
    have e0 : (w1.alloc (ItO x)).cell? ⟨G, 0, none⟩ = some (.slice a d.size c) := ((Gw.refl w1).alloc _).cell c0
    have HF1 : Hid (∀ b, w1.heap.size ≤ b → (F b ∨ w.heap.size ≤ b)) := fun b hb => .inr (Nat.le_trans hpre.out.2.size hb)
    go_region_law (first
      | (refine step_append_it rfl _ _ rfl 0 (.slice a d.size c) d.toList (by simp [Act.eval]) (World.ownsRow.alloc (list_size d ▸ hpre.out.1.own) _) ⟨w1.heap.size, 0, none⟩ 1 1 [x] (by simp [Act.eval]) rfl (one_item _ x _ (heap_alloc_new _ _)) (by rw [list_size]; omega) (Nat.zero_le _) ?_; intro v6 w6 hown6 hgrow6 hnew6; obtain ⟨B6, c6, rfl, happ, hb6⟩ := pre_app hpre.out.1 ((Gw.refl w1).drew.alloc _) hown6 hgrow6 hnew6 HF1.out; have HAPP := Lib.hid (And.intro happ hb6); obtain ⟨g0, gf⟩ := happ.cells; clear hown6 hgrow6 hnew6 happ hb6))
    all_goals
      obtain ⟨w7, hw7⟩ : ∃ w7, w7 = w6.setCell ⟨G, 0, none⟩ (.slice (some ⟨B6, 0, none⟩) (d.size + 1) c6) := ⟨_, rfl⟩
      rw [← hw7]
      have H7 := Lib.hid (HAPP.out.1.laid (.inl fG) (by have := H0.out.2.1 G fG; omega) hw7)
      clear hw7 g0 gf e0 c0 c1 cf x0 x1 x2 x3 x4 x5 x6
      have hl7 : LaidP w7 G B6 c6 M d f x w.heap.size := ⟨H7.out.1, H7.out.2.1, H7.out.2.2.1, H7.out.2.2.2.1⟩
      obtain ⟨c1, x0, x1, x2, x3, x4, x5, x6⟩ := hl7.pts
      have HL7 := Lib.hid hl7
      have HB7 : Hid (But (fun b => F b ∨ w.heap.size ≤ b) w w7) := ((hpre.out.2.mono fun _ _ h => .inl h).trans HAPP.out.2).trans H7.out.2.2.2.2
      clear hl7
      go_wp2_with fail
      go_region_held3 (fun W => PtS G M w.heap.size x W) (first | assumption | exact (HL7.out.gw (Gw.refl _).drew).pts | exact HG3.out | exact HG4.out)
        (first
          | (go_at_call 34; ((with_reducible refine (named_lit _ _ _ _ _ _ _ _).mono ?_)); rintro e0 w8 ⟨rfl, hg⟩; obtain ⟨w9, hrun, hf9, hs9, hb9⟩ := HL7.out.store hg HPLC.out HNN.out hnb; have HG3 := Lib.hid ((HL7.out.gw ((Gw.refl _).drew.trans hg)).pts); have HG4 := Lib.hid hs9; have H9 := Lib.hid (And.intro hf9 hb9); clear hf9 hs9 hb9))
      clear c1 x0 x1 x2 x3 x4 x5 x6
      go_wp2_with (first
        | (go_at_call 36; refine (swapper_any _ G B6 M c6 _ _ H9.out.1).mono ?_; rintro e w10 ⟨P1, P2, rfl, hw10, hb10, -, -⟩; have H10 := Lib.hid (And.intro hw10 hb10); clear hw10 hb10)
        | (go_at_call 35; refine (rise_any _ G P1 P2 B6 M _ c6 d.size _ _ H10.out.1 (by simp) HUP.out).mono ?_; rintro e w11 ⟨rfl, d11, f11, hm11, hd11⟩; have H11 := Lib.hid (And.intro hm11 hd11); clear hm11 hd11))
      go_ret
      exact put_end H0.out (.inl fG) HAPP.out.1.fB hpre.out.1.fM HB7.out H9.out.2 H10.out.2 H11.out.1 H11.out.2
  · have c0 := hF.c0
    have c1 := hF.c1
    obtain ⟨w1, hw1⟩ : ∃ w1, w1 = w.alloc (ItO x) := ⟨_, rfl⟩
    have HPRE := Lib.hid (pre_full fB fM H0.out.2.1 hF hw1)
    clear hF
    have HW1 := Lib.hid hw1
    clear hw1
    go_enter Try.func15, Try.ntmps15
    go_wp2_with (go_at_call 28; refine (has_is HH.out HN.out).mono ?_; rintro e w1 ⟨rfl, rfl⟩)
    obtain ⟨a, c, M, hpre⟩ : ∃ a c M, Hid (Pre w1 G (fun b => F b ∨ w.heap.size ≤ b) a c M d f x w.heap.size ∧ But F w w1) := ⟨_, _, _, HPRE⟩
    clear HPRE c0 c1 fL
    rw [← HW1.out]
    clear HW1
    obtain ⟨c0, c1, cf, x0, x1, x2, x3, x4, x5, x6⟩ := hpre.out.1.cells
    have hnb : d.size < 1024 := hs
    have HNN : Hid (f (nm x) = none) := hasF_none HN.out.symm
    have HUP : Hid (UpA iLt (d.push x) d.size) := HHP.out.pushed (by simp) (push_get d x)
    have HPLC := Lib.hid hpre.out.1.plc
    have e0 : (w1.alloc (ItO x)).cell? ⟨G, 0, none⟩ = some (.slice a d.size c) := ((Gw.refl w1).alloc _).cell c0
    have HF1 : Hid (∀ b, w1.heap.size ≤ b → (F b ∨ w.heap.size ≤ b)) := fun b hb => .inr (Nat.le_trans hpre.out.2.size hb)
    go_region_law (first
      | (refine step_append_it rfl _ _ rfl 0 (.slice a d.size c) d.toList (by simp [Act.eval]) (World.ownsRow.alloc (list_size d ▸ hpre.out.1.own) _) ⟨w1.heap.size, 0, none⟩ 1 1 [x] (by simp [Act.eval]) rfl (one_item _ x _ (heap_alloc_new _ _)) (by rw [list_size]; omega) (Nat.zero_le _) ?_; intro v6 w6 hown6 hgrow6 hnew6; obtain ⟨B6, c6, rfl, happ, hb6⟩ := pre_app hpre.out.1 ((Gw.refl w1).drew.alloc _) hown6 hgrow6 hnew6 HF1.out; have HAPP := Lib.hid (And.intro happ hb6); obtain ⟨g0, gf⟩ := happ.cells; clear hown6 hgrow6 hnew6 happ hb6))
    all_goals
      obtain ⟨w7, hw7⟩ : ∃ w7, w7 = w6.setCell ⟨G, 0, none⟩ (.slice (some ⟨B6, 0, none⟩) (d.size + 1) c6) := ⟨_, rfl⟩
      rw [← hw7]
      have H7 := Lib.hid (HAPP.out.1.laid (.inl fG) (by have := H0.out.2.1 G fG; omega) hw7)
      clear hw7 g0 gf e0 c0 c1 cf x0 x1 x2 x3 x4 x5 x6
      have hl7 : LaidP w7 G B6 c6 M d f x w.heap.size := ⟨H7.out.1, H7.out.2.1, H7.out.2.2.1, H7.out.2.2.2.1⟩
      obtain ⟨c1, x0, x1, x2, x3, x4, x5, x6⟩ := hl7.pts
      have HL7 := Lib.hid hl7
      have HB7 : Hid (But (fun b => F b ∨ w.heap.size ≤ b) w w7) := ((hpre.out.2.mono fun _ _ h => .inl h).trans HAPP.out.2).trans H7.out.2.2.2.2
      clear hl7
      go_wp2_with fail
      go_region_held3 (fun W => PtS G M w.heap.size x W) (first | assumption | exact (HL7.out.gw (Gw.refl _).drew).pts | exact HG3.out | exact HG4.out)
        (first
          | (go_at_call 34; ((with_reducible refine (named_lit _ _ _ _ _ _ _ _).mono ?_)); rintro e0 w8 ⟨rfl, hg⟩; obtain ⟨w9, hrun, hf9, hs9, hb9⟩ := HL7.out.store hg HPLC.out HNN.out hnb; have HG3 := Lib.hid ((HL7.out.gw ((Gw.refl _).drew.trans hg)).pts); have HG4 := Lib.hid hs9; have H9 := Lib.hid (And.intro hf9 hb9); clear hf9 hs9 hb9))
      clear c1 x0 x1 x2 x3 x4 x5 x6
      go_wp2_with (first
        | (go_at_call 36; refine (swapper_any _ G B6 M c6 _ _ H9.out.1).mono ?_; rintro e w10 ⟨P1, P2, rfl, hw10, hb10, -, -⟩; have H10 := Lib.hid (And.intro hw10 hb10); clear hw10 hb10)
        | (go_at_call 35; refine (rise_any _ G P1 P2 B6 M _ c6 d.size _ _ H10.out.1 (by simp) HUP.out).mono ?_; rintro e w11 ⟨rfl, d11, f11, hm11, hd11⟩; have H11 := Lib.hid (And.intro hm11 hd11); clear hm11 hd11))
      go_ret
      exact put_end H0.out (.inl fG) HAPP.out.1.fB hpre.out.1.fM HB7.out H9.out.2 H10.out.2 H11.out.1 H11.out.2
end Go.Proofs.Ytgfoagpmkbdciaa
