/-
  The walks of maps.Clone, of the heap's Copy.
-/
import Derived.Test.YtgfoagpmkbdciaaHAll
import Derived.Test.YtgfoagpmkbdciaaHTwoT
import Derived.Deep.RegionHeld3
namespace Go.Proofs.Ytgfoagpmkbdciaa
open Go Go.Shelf Go.RowKit Go.Lib Go.Sort Go.Proofs HpM

def MCloneTo (f : Pl) (w : World) (e : Ending) (w' : World) : Prop := e = .returned (.map (some w.heap.size)) ∧ MapF w' w.heap.size f ∧ Below w.heap.size w w'
theorem mclone_any (w : World) (M : Nat) (f : Pl) (h : MapF w M f) : Calls Try.prog 32 #[.map (some M)] w (MCloneTo f w) := by
  obtain ⟨l, c, h1, h2⟩ := h
  have := AnyW.maps_Clone Try.cloneMap M _ c w h1
  change Calls Try.prog 32 _ _ _ at this
  refine this.mono ?_
  rintro e w' ⟨rfl, rfl⟩
  exact ⟨rfl, ⟨l, c, heap_alloc_new _ _, h2⟩, (Below.refl _ _).alloc (Nat.le_refl _) _⟩
theorem mclone_nil (w : World) : Calls Try.prog 32 #[.map none] w (fun e w' => e = .returned (.map none) ∧ w = w') := by
  have := AnyW.maps_Clone_nil Try.cloneMap w
  change Calls Try.prog 32 _ _ _ at this
  refine this.mono ?_
  rintro e w' ⟨rfl, rfl⟩
  exact ⟨rfl, rfl⟩
theorem itAt_nil (w : World) : ItAt w none 0 [] := ⟨rfl, Nat.zero_le _, .inl rfl⟩
/-- what a copy needs of the heap -/
abbrev CpS (w : World) (G : Nat) (v m : Value) (W : World) : Prop := W.cell? ⟨G, 0, none⟩ = some v ∧ W.cell? ⟨G, 1, none⟩ = some m ∧ Hid (Below w.heap.size w W)
theorem CpS.next {w : World} {G : Nat} {v m : Value} {W W' : World} (h : CpS w G v m W) (hb : Below W.heap.size W W') : CpS w G v m W' := by
  obtain ⟨h0, h1, h2⟩ := h
  have hl := World.block_lt_of_cell? W _ h0
  exact ⟨(World.cell?_of_block (w := W) (a := ⟨G, 0, none⟩) (hb.block _ hl)).trans h0, (World.cell?_of_block (w := W) (a := ⟨G, 1, none⟩) (hb.block _ hl)).trans h1, h2.out.trans (hb.mono h2.out.size)⟩
theorem CpS.alloc {w : World} {G : Nat} {v m : Value} {W : World} (h : CpS w G v m W) (o : Obj) : CpS w G v m (W.alloc o) := h.next ((Below.refl _ _).alloc (Nat.le_refl _) o)
theorem CpS.drew {w : World} {G : Nat} {v m : Value} {W : World} (h : CpS w G v m W) : CpS w G v m W.drew := h.next (Below.refl _ _).drew
def CopyTo (L : List It) (w : World) (e : Ending) (w' : World) : Prop := ∃ G2 F2, e = .returned (.pointer (some ⟨G2, 0, none⟩)) ∧ Hp w' G2 F2 L ∧ (∀ b, F2 b → w.heap.size ≤ b) ∧ Below w.heap.size w w'
theorem copy_end {w w3 w4 : World} {B c : Nat} {d : Array It} {f : Pl} {L : List It} (hr : Rep f d L) (hl : d.size ≤ 10000) (h3 : ItOwn w.heap.size w3 (.slice (some ⟨B, 0, none⟩) d.size c) d.toList) (hb3 : Below w.heap.size w w3) (h4 : MapF w4 w3.heap.size f) (hb4 : Below w3.heap.size w3 w4) :
    CopyTo L w (.returned (.pointer (some ⟨w4.heap.size, 0, none⟩))) (w4.alloc (.cells #[.slice (some ⟨B, 0, none⟩) d.size c, .map (some w3.heap.size)] 57)) := by
  have hs3 := hb3.size
  have hs4 := hb4.size
  have hlt := h3.lt B rfl
  obtain ⟨hrow, -, hB⟩ := rowC_of_own (l := d.toList) (n := d.size) (by have := h3; unfold ItOwn at this; rwa [Array.length_toList] at this)
  rw [Array.toArray_toList] at hrow
  have hm := h4.lt
  have hal : Below w4.heap.size w4 (w4.alloc (.cells #[.slice (some ⟨B, 0, none⟩) d.size c, .map (some w3.heap.size)] 57)) := (Below.refl _ _).alloc (Nat.le_refl _) _
  refine ⟨_, fun b => w.heap.size ≤ b ∧ b < w4.heap.size + 1, rfl, ⟨d, f, ⟨⟨by omega, by omega⟩, fun b e => by simpa using e.2, .inr ⟨B, w3.heap.size, c, ⟨hB, by omega⟩, ⟨by omega, by omega⟩, ?_⟩⟩, hr⟩, fun b e => e.1, ?_⟩
  · exact ⟨(hrow.same (hb4.block _ hrow.lt)).same (hal.block _ (by omega)), h4.same (hal.block _ hm), heap_alloc_new _ _, hr.plc, by omega⟩
  · exact (hb3.trans (hb4.mono hs3)).alloc (by omega) _
/-- a row of items is cloned -/
def CloneC (w : World) (G : Nat) (v m : Value) (d : Array It) (w0 : World) (e : Ending) (w' : World) : Prop := ∃ B c, e = .returned (.slice (some ⟨B, 0, none⟩) d.size c) ∧ CpS w G v m w' ∧ ItOwn w.heap.size w' (.slice (some ⟨B, 0, none⟩) d.size c) d.toList ∧ Below w0.heap.size w0 w'
theorem clone_c {w W : World} {G B0 cap : Nat} {v m : Value} {d : Array It} (h : CpS w G v m W) (hI : ItAt W (some ⟨B0, 0, none⟩) d.size d.toList) (hn : d.size ≤ 10000) : Calls Try.prog 31 #[.slice (some ⟨B0, 0, none⟩) d.size cap] W (CloneC w G v m d W) := by
  refine (clone_any W _ d.size cap d.toList hI hn).mono ?_
  rintro e w' ⟨v', rfl, ho, hb, -, hs⟩
  obtain ⟨B, c, rfl⟩ := hs (by simp)
  have hl : d.toList.length = d.size := by simp
  rw [hl] at ho ⊢
  exact ⟨B, c, rfl, h.next hb, ho.mono h.2.2.out.size, hb⟩
set_option maxHeartbeats 2000000 in
theorem copy_any (w : World) (G : Nat) (F : Nat → Prop) (L : List It) (h : Hp w G F L) (hl : L.length ≤ 10000) : Calls Try.prog 11 #[.pointer (some ⟨G, 0, none⟩)] w (CopyTo L w) := by
  have mixed : Try.prog.follows .mixedOrders = true := by kernel_rfl
  obtain ⟨d, f, ⟨hFG, hFl, h⟩, hr⟩ := h
  have hd : d.size ≤ 10000 := by rw [hr.size]; exact hl
  have HD := Lib.hid hd
  have HR := Lib.hid hr
  rcases h with ⟨rfl, rfl, hG⟩ | ⟨B, M, cap, hFB, hFM, hF⟩
  · have hst : CpS w G (.slice none 0 0) (.map none) w := ⟨by rw [cell_of_row _ _ _ _ _ _ hG]; rfl, by rw [cell_of_row _ _ _ _ _ _ hG]; rfl, Below.refl _ _⟩
    have HST := Lib.hid hst
    have HSTD : Hid (CpS w G (.slice none 0 0) (.map none) w.drew) := hst.next (Below.refl _ _).drew
    clear hFG hFl hr hG hl hd
    go_enter Try.func11, Try.ntmps11
    go_wp2_with fail
    go_region_held3 (fun W => CpS w G (.slice none 0 0) (.map none) W) (first | assumption | exact HST.out | exact HSTD.out | exact (HST.out.alloc _).drew)
      (first
        | (go_at_call 32; ((with_reducible refine (mclone_nil _).mono ?_)); rintro e0 w' ⟨rfl, rfl⟩)
        | (go_at_call 31; ((with_reducible refine (clone_any _ none 0 0 [] (itAt_nil _) (Nat.zero_le _)).mono ?_)); rintro e0 w' ⟨v', rfl, -, -, hn, -⟩; obtain ⟨rfl, rfl⟩ := hn rfl))
    go_wp2
    go_ret
    refine ⟨_, fun b => b = w.heap.size, rfl, ⟨#[], _, ⟨rfl, fun b e => by subst e; simp, .inl ⟨rfl, rfl, heap_alloc_new _ _⟩⟩, HR.out⟩, fun b e => e ▸ Nat.le_refl _, ?_⟩
    exact (Below.refl _ _).drew.alloc (Nat.le_refl _) _
  · have hst : CpS w G (.slice (some ⟨B, 0, none⟩) d.size cap) (.map (some M)) w := ⟨hF.c0, hF.c1, Below.refl _ _⟩
    have HST := Lib.hid hst
    have HSTD : Hid (CpS w G (.slice (some ⟨B, 0, none⟩) d.size cap) (.map (some M)) w.drew) := hst.next (Below.refl _ _).drew
    have HI : Hid (ItAt w.drew (some ⟨B, 0, none⟩) d.size d.toList) := by
      have hI : ItAt w (some ⟨B, 0, none⟩) d.size d.toList := ⟨by simp, by omega, .inr ⟨B, 0, rfl, hF.row.lt, fun i hi => by
        have := hF.row.cell (i := i) (by simpa using hi)
        rw [Nat.zero_add, get_list (by simpa using hi)]
        exact this⟩⟩
      exact hI.below (Below.refl _ _).drew
    have HM : Hid (∀ W, Below w.heap.size w W → MapF W M f) := fun W hb => hF.map.same (hb.block _ hF.map.lt)
    clear hFG hFl hr hl hd hFB hFM hF
    go_enter Try.func11, Try.ntmps11
    go_wp2_with fail
    go_region_held3 (fun W => CpS w G (.slice (some ⟨B, 0, none⟩) d.size cap) (.map (some M)) W) (first | assumption | exact HST.out | exact HSTD.out | exact hst4 | exact hst4.alloc _)
      (first
        | (go_at_call 32; ((with_reducible refine (mclone_any _ M f (HM.out _ hst3.2.2.out)).mono ?_)); rintro e0 w4 ⟨rfl, hm4, hb4⟩; have H4 := Lib.hid (And.intro hm4 hb4); have hst4 := hst3.next hb4; clear hm4 hb4)
        | (go_at_call 31; ((with_reducible refine (clone_c HSTD.out HI.out HD.out).mono ?_)); rintro e0 w3 ⟨B3, c3, rfl, hst3, ho3, hb3⟩; have H3 := Lib.hid (And.intro ho3 hb3); clear ho3 hb3))
    go_wp2
    go_ret
    exact copy_end HR.out HD.out H3.out.1 hst3.2.2.out H4.out.1 H4.out.2
end Go.Proofs.Ytgfoagpmkbdciaa
