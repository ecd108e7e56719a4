/-
  The walk of the law ModelCopies: where one of what is given is too much.
-/
import Derived.Test.YtclbbpkphfllbaaDoorMoKnow
import Derived.Test.YtclbbpkphfllbaaDoorMoSpot
import Derived.Test.YtclbbpkphfllbaaDoorMoCop2
import Derived.Test.YtclbbpkphfllbaaDoorMoRSame
import Derived.Test.YtclbbpkphfllbaaDoorMoMuch
namespace Go.Proofs.YtclbbpkphfllbaaDoor
open Go Go.RowKit Go.Sort Go.Proofs CodM VmM

/-- a model, a state, as they are given -/
abbrev mV (a : Option Addr) (n c : Nat) (fa : Option Addr) (fn fc : Nat) : Value := .agg #[.slice a n c, .slice fa fn fc]
abbrev mB (a : Option Addr) (n c : Nat) (fa : Option Addr) (fn fc : Nat) : Obj := .cells #[.slice a n c, .slice fa fn fc] 27
abbrev sB (a : Option Addr) (n c : Nat) (s d : Int) : Obj := .cells #[.slice a n c, .int .i64 s, .int .i64 d] 38
/-- the world with the four of them in boxes -/
def box4 (w : World) (a fa b fb va vb : Option Addr) (n c fn fc m d fm fd vn vc vm vd : Nat) (s1 d1 s2 d2 : Int) : World :=
  (((w.alloc (mB a n c fa fn fc)).alloc (mB b m d fb fm fd)).alloc (sB va vn vc s1 d1)).alloc (sB vb vm vd s2 d2)
structure Box4 (g : Nat) (a fa b fb va vb : Option Addr) (n c fn fc m d fm fd vn vc vm vd : Nat) (s1 d1 s2 d2 : Int) (w : World) : Prop where
  b0 : w.heap[g]? = some (mB a n c fa fn fc)
  b1 : w.heap[g + 1]? = some (mB b m d fb fm fd)
  b2 : w.heap[g + 2]? = some (sB va vn vc s1 d1)
  b3 : w.heap[g + 3]? = some (sB vb vm vd s2 d2)
theorem box4_at (w : World) (a fa b fb va vb : Option Addr) (n c fn fc m d fm fd vn vc vm vd : Nat) (s1 d1 s2 d2 : Int) :
    Box4 w.heap.size a fa b fb va vb n c fn fc m d fm fd vn vc vm vd s1 d1 s2 d2 (box4 w a fa b fb va vb n c fn fc m d fm fd vn vc vm vd s1 d1 s2 d2) ∧ Below w.heap.size w (box4 w a fa b fb va vb n c fn fc m d fm fd vn vc vm vd s1 d1 s2 d2) ∧ (box4 w a fa b fb va vb n c fn fc m d fm fd vn vc vm vd s1 d1 s2 d2).heap.size = w.heap.size + 4 := by
  have z1 : ∀ o, (w.alloc o).heap.size = w.heap.size + 1 := fun o => by simp
  have z2 : ∀ o p, ((w.alloc o).alloc p).heap.size = w.heap.size + 2 := fun o p => by simp
  have z3 : ∀ o p q, (((w.alloc o).alloc p).alloc q).heap.size = w.heap.size + 3 := fun o p q => by simp
  unfold box4
  refine ⟨⟨?_, ?_, ?_, ?_⟩, ((((Below.refl _ _).alloc (Nat.le_refl _) _).alloc (by simp) _).alloc (by simp; omega) _).alloc (by simp; omega) _, by simp⟩
  · rw [heap_alloc_old _ _ (by rw [z3]; omega), heap_alloc_old _ _ (by rw [z2]; omega), heap_alloc_old _ _ (by rw [z1]; omega)]
    exact heap_alloc_new _ _
  · rw [heap_alloc_old _ _ (by rw [z3]; omega), heap_alloc_old _ _ (by rw [z2]; omega), ← z1 (mB a n c fa fn fc)]
    exact heap_alloc_new _ _
  · rw [heap_alloc_old _ _ (by rw [z3]; omega), ← z2 (mB a n c fa fn fc) (mB b m d fb fm fd)]
    exact heap_alloc_new _ _
  · rw [← z3 (mB a n c fa fn fc) (mB b m d fb fm fd) (sB va vn vc s1 d1)]
    exact heap_alloc_new _ _
/-- the cells of the four -/
def Cel4 (g : Nat) (a fa b fb va vb : Option Addr) (n c fn fc m d fm fd vn vc vm vd : Nat) (s1 d1 s2 d2 : Int) (w : World) : Prop :=
  w.cell? ⟨g, 0, none⟩ = some (.slice a n c) ∧ w.cell? ⟨g, 1, none⟩ = some (.slice fa fn fc) ∧ w.cell? ⟨g + 1, 0, none⟩ = some (.slice b m d) ∧ w.cell? ⟨g + 1, 1, none⟩ = some (.slice fb fm fd) ∧
  w.cell? ⟨g + 2, 0, none⟩ = some (.slice va vn vc) ∧ w.cell? ⟨g + 2, 1, none⟩ = some (.int .i64 s1) ∧ w.cell? ⟨g + 2, 2, none⟩ = some (.int .i64 d1) ∧
  w.cell? ⟨g + 3, 0, none⟩ = some (.slice vb vm vd) ∧ w.cell? ⟨g + 3, 1, none⟩ = some (.int .i64 s2) ∧ w.cell? ⟨g + 3, 2, none⟩ = some (.int .i64 d2)
theorem Box4.cel {g : Nat} {a fa b fb va vb : Option Addr} {n c fn fc m d fm fd vn vc vm vd : Nat} {s1 d1 s2 d2 : Int} {w : World} (h : Box4 g a fa b fb va vb n c fn fc m d fm fd vn vc vm vd s1 d1 s2 d2 w) : Cel4 g a fa b fb va vb n c fn fc m d fm fd vn vc vm vd s1 d1 s2 d2 w :=
  ⟨(cell_of_row _ _ _ _ _ _ h.b0).trans rfl, (cell_of_row _ _ _ _ _ _ h.b0).trans rfl, (cell_of_row _ _ _ _ _ _ h.b1).trans rfl, (cell_of_row _ _ _ _ _ _ h.b1).trans rfl,
   (cell_of_row _ _ _ _ _ _ h.b2).trans rfl, (cell_of_row _ _ _ _ _ _ h.b2).trans rfl, (cell_of_row _ _ _ _ _ _ h.b2).trans rfl, (cell_of_row _ _ _ _ _ _ h.b3).trans rfl, (cell_of_row _ _ _ _ _ _ h.b3).trans rfl, (cell_of_row _ _ _ _ _ _ h.b3).trans rfl⟩
theorem Cel4.next {g : Nat} {a fa b fb va vb : Option Addr} {n c fn fc m d fm fd vn vc vm vd : Nat} {s1 d1 s2 d2 : Int} {w w' : World} (h : Cel4 g a fa b fb va vb n c fn fc m d fm fd vn vc vm vd s1 d1 s2 d2 w) (hb : Below w.heap.size w w') : Cel4 g a fa b fb va vb n c fn fc m d fm fd vn vc vm vd s1 d1 s2 d2 w' := by
  obtain ⟨h0, h1, h2, h3, h4, h5, h6, h7, h8, h9⟩ := h
  exact ⟨keepc hb h0, keepc hb h1, keepc hb h2, keepc hb h3, keepc hb h4, keepc hb h5, keepc hb h6, keepc hb h7, keepc hb h8, keepc hb h9⟩

set_option maxHeartbeats 4000000 in
set_option maxRecDepth 100000 in
theorem mc_guard (w : World) (a fa b fb va vb : Option Addr) (n c fn fc m d fm fd vn vc vm vd : Nat) (s1 d1 s2 d2 : Int) (t1 t2 : Bool)
    (HM1 : Hid (∀ W, Below w.heap.size w W → Calls Tryd.prog 10 #[mV a n c fa fn fc] W (TellsE t1 W)))
    (HM2 : Hid (∀ W, Below w.heap.size w W → Calls Tryd.prog 10 #[mV b m d fb fm fd] W (TellsE t2 W)))
    (HK : Hid (∀ W, Below w.heap.size w W → Calls Tryd.prog 5 #[] W (TellsBB true W)))
    (hvn : vn ≤ 9223372036854775807) (hvm : vm ≤ 9223372036854775807)
    (h : t1 = true ∨ (t1 = false ∧ t2 = true) ∨ (t1 = false ∧ t2 = false ∧ 20 < vn) ∨ (t1 = false ∧ t2 = false ∧ vn ≤ 20 ∧ 20 < vm)) :
    Calls Tryd.prog 4 #[mV a n c fa fn fc, mV b m d fb fm fd, stA va vn vc s1 d1, stA vb vm vd s2 d2] w (TellsBB true w) := by
  obtain ⟨hx0, hb0, hs0⟩ := box4_at w a fa b fb va vb n c fn fc m d fm fd vn vc vm vd s1 d1 s2 d2
  obtain ⟨wb, hwb⟩ : ∃ wb, wb = box4 w a fa b fb va vb n c fn fc m d fm fd vn vc vm vd s1 d1 s2 d2 := ⟨_, rfl⟩
  rw [← hwb] at hx0 hb0 hs0
  unfold box4 at hwb
  have HX0 := Lib.hid hx0.cel
  have HB0 := Lib.hid hb0
  have HWB := Lib.hid hwb
  clear hx0 hb0 hs0 hwb
  go_enter Tryd.func4, Tryd.ntmps4
  go_upto_region 1 with fail
  rw [← HWB.out]
  obtain ⟨p0, p1, p2, p3, p4, p5, p6, p7, p8, p9⟩ := HX0.out
  rcases h with h | ⟨h1, h2⟩ | ⟨h1, h2, h3⟩ | ⟨h1, h2, h3, h4⟩
  · subst h
    go_wp2_with (first
      | (go_at_call 10; refine (HM1.out _ HB0.out).mono ?_; rintro e w1 ⟨rfl, hb⟩; have HB1 := Lib.hid (HB0.out.trans (hb.mono HB0.out.size)); clear hb)
      | (go_at_call 5; refine (HK.out _ HB1.out).mono ?_; rintro e w2 ⟨rfl, hb⟩; have HB2 := Lib.hid (HB1.out.trans (hb.mono HB1.out.size)); clear hb))
    go_ret
    exact ⟨rfl, HB2.out⟩
  · subst h1 h2
    go_wp2_with (first
      | (go_at_call_of 10 (Value.agg #[.slice a n c, .slice fa fn fc]); refine (HM1.out _ HB0.out).mono ?_; rintro e w1 ⟨rfl, hb⟩; have HB1 := Lib.hid (HB0.out.trans (hb.mono HB0.out.size)); have HX1 := Lib.hid (HX0.out.next hb); clear hb; refine Hid.out ?_))
    clear p0 p1 p2 p3 p4 p5 p6 p7 p8 p9
    obtain ⟨p0, p1, p2, p3, p4, p5, p6, p7, p8, p9⟩ := HX1.out
    refine Lib.hid ?_
    go_wp2_with (first
      | (go_at_call 10; refine (HM2.out _ HB1.out).mono ?_; rintro e w2 ⟨rfl, hb⟩; have HB2 := Lib.hid (HB1.out.trans (hb.mono HB1.out.size)); clear hb)
      | (go_at_call 5; refine (HK.out _ HB2.out).mono ?_; rintro e w3 ⟨rfl, hb⟩; have HB3 := Lib.hid (HB2.out.trans (hb.mono HB2.out.size)); clear hb))
    go_ret
    exact ⟨rfl, HB3.out⟩
  · subst h1 h2
    go_wp2_with (first
      | (go_at_call_of 10 (Value.agg #[.slice a n c, .slice fa fn fc]); refine (HM1.out _ HB0.out).mono ?_; rintro e w1 ⟨rfl, hb⟩; have HB1 := Lib.hid (HB0.out.trans (hb.mono HB0.out.size)); have HX1 := Lib.hid (HX0.out.next hb); clear hb; refine Hid.out ?_))
    clear p0 p1 p2 p3 p4 p5 p6 p7 p8 p9
    obtain ⟨p0, p1, p2, p3, p4, p5, p6, p7, p8, p9⟩ := HX1.out
    refine Lib.hid ?_
    go_wp2_with (first
      | (go_at_call 10; refine (HM2.out _ HB1.out).mono ?_; rintro e w2 ⟨rfl, hb⟩; have HB2 := Lib.hid (HB1.out.trans (hb.mono HB1.out.size)); have HX2 := Lib.hid (HX1.out.next hb); clear hb; refine Hid.out ?_))
    clear p0 p1 p2 p3 p4 p5 p6 p7 p8 p9
    obtain ⟨p0, p1, p2, p3, p4, p5, p6, p7, p8, p9⟩ := HX2.out
    refine Lib.hid ?_
    go_wp2_with (first
      | (go_at_call 5; refine (HK.out _ HB2.out).mono ?_; rintro e w3 ⟨rfl, hb⟩; have HB3 := Lib.hid (HB2.out.trans (hb.mono HB2.out.size)); clear hb))
    go_ret
    exact ⟨rfl, HB3.out⟩
  · subst h1 h2
    go_wp2_with (first
      | (go_at_call_of 10 (Value.agg #[.slice a n c, .slice fa fn fc]); refine (HM1.out _ HB0.out).mono ?_; rintro e w1 ⟨rfl, hb⟩; have HB1 := Lib.hid (HB0.out.trans (hb.mono HB0.out.size)); have HX1 := Lib.hid (HX0.out.next hb); clear hb; refine Hid.out ?_))
    clear p0 p1 p2 p3 p4 p5 p6 p7 p8 p9
    obtain ⟨p0, p1, p2, p3, p4, p5, p6, p7, p8, p9⟩ := HX1.out
    refine Lib.hid ?_
    go_wp2_with (first
      | (go_at_call 10; refine (HM2.out _ HB1.out).mono ?_; rintro e w2 ⟨rfl, hb⟩; have HB2 := Lib.hid (HB1.out.trans (hb.mono HB1.out.size)); have HX2 := Lib.hid (HX1.out.next hb); clear hb; refine Hid.out ?_))
    clear p0 p1 p2 p3 p4 p5 p6 p7 p8 p9
    obtain ⟨p0, p1, p2, p3, p4, p5, p6, p7, p8, p9⟩ := HX2.out
    refine Lib.hid ?_
    go_wp2_with (first
      | (go_at_call 5; refine (HK.out _ HB2.out).mono ?_; rintro e w3 ⟨rfl, hb⟩; have HB3 := Lib.hid (HB2.out.trans (hb.mono HB2.out.size)); clear hb))
    go_ret
    exact ⟨rfl, HB3.out⟩
end Go.Proofs.YtclbbpkphfllbaaDoor
