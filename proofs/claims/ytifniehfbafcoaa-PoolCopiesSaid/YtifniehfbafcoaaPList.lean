/-
  The walks of the pool's list and of All.
-/
import Derived.Test.YtifniehfbafcoaaPSeq
import Derived.Laws.MakeOwn
import Derived.Deep.RegionLaw
import Derived.Deep.RegionHeld3
import Derived.TacticsIn
namespace Go.Proofs.Ytifniehfbafcoaa
open Go Go.Shelf Go.RowKit Go.Lib Go.Sort Go.Proofs

/-- a row of its own -/
def RowTo (L : List Ms) (w : World) (e : Ending) (w' : World) : Prop := ∃ v, e = .returned v ∧ MsC.Own 36 w.heap.size w' v L ∧ Below w.heap.size w w'
set_option maxHeartbeats 2000000 in
theorem plist_any (w : World) (G : Nat) (F : Nat → Prop) (x : List Ms × Nat) (h : Pl w G F x) : Calls Try.prog 29 #[.pointer (some ⟨G, 0, none⟩)] w (RowTo x.1 w) := by
  have mixed : Try.prog.follows .mixedOrders = true := by kernel_rfl
  obtain ⟨k, hk⟩ : ∃ k, k = x.1.length := ⟨_, rfl⟩
  have hkb : k ≤ 1000000 := by
    obtain ⟨v, vs, bs, h1, h2, h3, h4, h5⟩ := h
    omega
  obtain ⟨v, vs, bs, hx, hfl, hn1, hn2, hn3⟩ := id h
  obtain ⟨i0, hi, hz0, hz1, hz2⟩ := info_parts infoM
  obtain ⟨row, hrow⟩ : ∃ row : Obj, row = .cells (madeCells (MsV msZ).cells (k * i0.size)) 36 := ⟨_, rfl⟩
  have hmk : ∀ W : World, (Instr.makeSlice 27 (.int .i64 0) (.int .i64 k)).run Try.prog W = .ok (.slice (some ⟨W.heap.size, 0, none⟩) 0 k) (W.alloc row) := fun W => by
    have := run_make (P := Try.prog) W 27 36 i0 _ Try.underlying27 hi hz0 .i64 .i64 0 k (Int.le_refl _) (by omega) (by rw [hz2]; omega) (by omega)
    simp only [Int.toNat_zero, Int.toNat_natCast] at this
    rw [hrow]
    exact this
  have hown : ∀ W : World, w.heap.size ≤ W.heap.size → MsC.Own 36 w.heap.size (W.alloc row) (.slice (some ⟨W.heap.size, 0, none⟩) 0 k) [] := fun W hW => by
    rw [hrow]
    show (W.alloc _).ownsRow w.heap.size 36 10 _ 0 []
    rw [← hz1]
    exact World.ownsRow_made W _ k hW (by unfold maxLen; omega) (size_madeCells _ _)
  have HO : Hid (∀ W : World, w.heap.size ≤ W.heap.size → MsC.Own 36 w.heap.size (W.alloc row) (.slice (some ⟨W.heap.size, 0, none⟩) 0 k) []) := hown
  obtain ⟨bx, hbx⟩ : ∃ bx : Obj, bx = .cells #[.pointer (some ⟨G, 0, none⟩)] 24 := ⟨_, rfl⟩
  have HBX := Lib.hid hbx
  have HX := Lib.hid hx
  have HN : Hid (bs.flatten = x.1 ∧ bs.length ≤ 1000000 ∧ bs.flatten.length ≤ 1000000) := ⟨hfl, by omega, by rw [hfl]; omega⟩
  have hFw := plT.lt h
  have hdr : ∀ W : World, Below w.heap.size W W.drew := fun W => (Below.refl _ _).drew
  have HA : Hid (Calls Try.prog 37 #[.slice (some ⟨w.heap.size, 0, none⟩) 0 k, .func (.func 40) #[] #[.pointer (some ⟨w.heap.size + 1, 0, none⟩)]] ((w.alloc row).alloc bx).drew (SeqTo w.heap.size x.1 ((w.alloc row).alloc bx).drew)) := by
    have hb : Below w.heap.size w ((w.alloc row).alloc bx).drew := (((Below.refl _ _).alloc (Nat.le_refl _) _).alloc (by simp) _).drew
    have := seq_any ((w.alloc row).alloc bx).drew w.heap.size hb.size (.slice (some ⟨w.heap.size, 0, none⟩) 0 k) ((HO.out w (Nat.le_refl _)).but (((But.refl (fun _ => False) _).alloc bx).drew) (fun _ _ e => e)) (w.heap.size + 1) G F v vs bs _ _ (HX.out.below hb) hFw (by
      show ((w.alloc row).alloc bx).heap[w.heap.size + 1]? = _
      have := heap_alloc_new (w.alloc row) bx
      rw [World.size_alloc] at this
      rw [this, HBX.out]) HN.out.2.1 HN.out.2.2
    rw [HN.out.1] at this
    exact this
  have HB : Hid (Calls Try.prog 37 #[.slice (some ⟨w.heap.size + 1, 0, none⟩) 0 k, .func (.func 40) #[] #[.pointer (some ⟨w.heap.size, 0, none⟩)]] ((w.alloc bx).alloc row).drew (SeqTo w.heap.size x.1 ((w.alloc bx).alloc row).drew)) := by
    have hb : Below w.heap.size w ((w.alloc bx).alloc row).drew := (((Below.refl _ _).alloc (Nat.le_refl _) _).alloc (by simp) _).drew
    have ho := HO.out (w.alloc bx) (by simp)
    rw [World.size_alloc] at ho
    have := seq_any ((w.alloc bx).alloc row).drew w.heap.size hb.size (.slice (some ⟨w.heap.size + 1, 0, none⟩) 0 k) (ho.but ((But.refl (fun _ => False) _).drew) (fun _ _ e => e)) w.heap.size G F v vs bs _ _ (HX.out.below hb) hFw (by
      show ((w.alloc bx).alloc row).heap[w.heap.size]? = _
      rw [heap_alloc_old _ _ (by simp), heap_alloc_new, HBX.out]) HN.out.2.1 HN.out.2.2
    rw [HN.out.1] at this
    exact this
  have H := Lib.hid h
  have HK := Lib.hid hk
  have HD : Hid (Pl w.drew G F x) := plT.but (S := fun _ => False) h ((But.refl _ _).drew) (fun _ _ e => e)
  clear h hk hx hfl hn1 hn2 hn3 hi hz0 hz1 hz2 hrow hown hbx hFw hdr
  go_enter Try.func29, Try.ntmps29
  go_wp2_with fail
  go_region_held3 (fun W => Below w.heap.size w W) (first | assumption | exact Below.refl _ _ | exact (Below.refl _ _).drew | exact (Below.refl _ _).drew.alloc (by simp) _ | exact ((Below.refl _ _).drew.alloc (by simp) _).alloc (by simp) _)
    (first
      | (go_at_call 17; ((with_reducible refine (pl_len (F := F) (x := x) HD.out).mono ?_)); rintro e0 w' ⟨rfl, rfl⟩; rw [← HK.out])
      | (go_at_call 33; ((with_reducible refine (each_any _ G).mono ?_)); rintro e0 w' ⟨rfl, rfl⟩; rw [← HBX.out])
      | (go_at_call 37; (first | (with_reducible refine (HA.out).mono ?_) | (with_reducible refine (HB.out).mono ?_)); rintro e0 w5 ⟨v5, rfl, ho5, hb5⟩; obtain ⟨a5, n5, c5, rfl⟩ := ho5.shape; have hst5 : Below w.heap.size w w5 := ((((Below.refl _ _).alloc (Nat.le_refl _) _).alloc (by simp) _).drew).trans hb5; have H5 := Lib.hid (And.intro ho5 hst5); clear ho5 hb5))
  all_goals
    go_wp2
    go_ret
    exact ⟨_, rfl, H5.out.1, H5.out.2⟩
/-- a closure over a box of a row of its own -/
def AllTo (L : List Ms) (w : World) (e : Ending) (w' : World) : Prop := ∃ S0 a c, e = .returned (.func (.func 36) #[] #[.pointer (some ⟨S0, 0, none⟩)]) ∧ w'.heap[S0]? = some (.cells #[.slice a L.length c] 27 (0, 0)) ∧ MsC.At w' a L.length L ∧ Below w.heap.size w w' ∧ w.heap.size ≤ S0 ∧ (∀ p, a = some p → w.heap.size ≤ p.block)
theorem all_any (w : World) (G : Nat) (F : Nat → Prop) (x : List Ms × Nat) (h : Pl w G F x) : Calls Try.prog 12 #[.pointer (some ⟨G, 0, none⟩)] w (AllTo x.1 w) := by
  have H := Lib.hid h
  have hxb : x.1.length ≤ 1000000 := by
    obtain ⟨v, vs, bs, h1, h2, h3, h4, h5⟩ := h
    omega
  have HN := Lib.hid hxb
  clear h hxb
  go_enter Try.func12, Try.ntmps12
  go_wp2_with (first
    | (go_at_call 29; refine (plist_any w G F x H.out).mono ?_; rintro e w1 ⟨v1, rfl, ho1, hb1⟩; obtain ⟨a1, c1, rfl, -, hat1, hbl1, hor1⟩ := ho1.at_ HN.out; have hlow : ∀ p, a1 = some p → w.heap.size ≤ p.block := (by rintro p rfl; rcases hor1 with ⟨e, _⟩ | ⟨g, e⟩; cases e; cases e; exact (hbl1 g rfl).2); have H1 := Lib.hid (And.intro hat1 (And.intro hb1 hlow)); clear ho1 hat1 hb1 hbl1 hor1 hlow)
    | (go_at_call 28; refine (values_any _ _ _ _).mono ?_; rintro e w2 ⟨rfl, rfl⟩))
  go_ret
  obtain ⟨hat, hb, hbl⟩ := H1.out
  have hb2 : Below w1.heap.size w1 (w1.alloc (.cells #[.slice a1 x.1.length c1] 27)) := (Below.refl _ _).alloc (Nat.le_refl _) _
  exact ⟨_, _, _, rfl, heap_alloc_new _ _, hat.below hb2, hb.trans (hb2.mono hb.size), hb.size, hbl⟩
end Go.Proofs.Ytifniehfbafcoaa
