/-
  The walk of Most.
-/
import Derived.Test.YtgfoagpmkbdciaaHMost
import Derived.Deep.RegionWith
namespace Go.Proofs.Ytgfoagpmkbdciaa
open Go Go.Shelf Go.RowKit Go.Lib Go.Sort Go.Proofs HpM

theorem most_none (w : World) (G : Nat) (F : Nat → Prop) (d : Array It) (f : Pl) (h : HeapSt w G F d f) (hs : d.size = 0) : Calls Try.prog 23 #[.pointer (some ⟨G, 0, none⟩)] w (ItTo itZ false w) := by
  have HH : Hid (HeapSt (w.alloc ItZO) G F d f) := h.below ((Below.refl _ _).alloc (Nat.le_refl _) _)
  have HS : Hid ((d.size : Int) = 0) := by show (d.size : Int) = 0; omega
  clear h hs
  go_enter Try.func23, Try.ntmps23
  go_wp2_with (go_at_call 24; refine (len_any _ G F d f HH.out).mono ?_; rintro e w1 ⟨rfl, rfl⟩; rw [HS.out])
  exact bodyPost_ret (v := .tuple #[ItV itZ, .bool false]) (by simp [results, Try.results23, go_sem, itZ]) rfl ⟨rfl, (Below.refl _ _).alloc (Nat.le_refl _) _⟩
/-- the greatest of the leaves -/
def MostTo (d : Array It) (w : World) (e : Ending) (w' : World) : Prop :=
  ∃ y, e = .returned (.tuple #[ItV y, .bool true]) ∧ (∃ i, d.size / 2 ≤ i ∧ i < d.size ∧ d[i]! = y) ∧ (∀ i, d.size / 2 ≤ i → i < d.size → iLt y d[i]! = false) ∧ Below w.heap.size w w'

set_option maxHeartbeats 2000000 in
theorem most_some (w : World) (G B M cap : Nat) (d : Array It) (f : Pl) (h : Full w G B M cap d f) (hs : 0 < d.size) : Calls Try.prog 23 #[.pointer (some ⟨G, 0, none⟩)] w (MostTo d w) := by
  have hF : Full (w.alloc ItZO) G B M cap d f := h.below ((Below.refl _ _).alloc (Nat.le_refl _) _)
  have HST : Hid (HeapSt (w.alloc ItZO) G (fun b => b < (w.alloc ItZO).heap.size) d f) := ⟨hF.ltG, fun _ h => h, .inr ⟨B, M, cap, hF.row.lt, hF.map.lt, hF⟩⟩
  have c0 := hF.c0
  have hd : ((d.size : Int) == 0) = false := beq_eq_false_iff_ne.2 (by omega)
  have hz : (0 : Int) < (d.size : Int) := by omega
  have hbig := h.big
  have hcap := h.row.le
  obtain ⟨k, hk⟩ : ∃ k, k = d.size / 2 := ⟨_, rfl⟩
  have hkd : k < d.size := by omega
  have hkw : IntKind.i64.wrap ((d.size : Int) / 2) = (k : Int) := by rw [IntKind.wrap_i64]; omega
  have hne : ¬ cap = k := by omega
  have hkz : (k : Int) ≤ (d.size : Int) := by omega
  have hkz0 : (0 : Int) ≤ (k : Int) := by omega
  have HK := Lib.hid hk
  have HBZ : Hid ((w.alloc ItZO).heap[w.heap.size]? = some (ItO itZ)) := heap_alloc_new _ _
  clear hk
  have hel : Hid (∀ W, Gw (w.alloc ItZO) W → ∀ i, i < d.size - k → ItCell W B (k * 7 + i * 7) d[k + i]!) := fun W g i hi => by
    have := (hF.row.cell (i := k + i) (by omega)).same (g.block hF.row.lt)
    rwa [show k * 7 + i * 7 = (k + i) * 7 by omega]
  have HF := Lib.hid hF
  clear h hF
  go_enter Try.func23, Try.ntmps23
  go_wp2_with (go_at_call 24; refine (len_any _ G _ d f HST.out).mono ?_; rintro e w1 ⟨rfl, rfl⟩)
  go_region_with (first
    | (go_at_call 39; refine (max_any _ B (k * 7) (d.size - k) (cap - k) (fun i => d[k + i]!) (hel.out _ (Gw.refl _).drew) (by have := HF.out.row.lt; simpa using this) (by omega) (by omega)).mono ?_; rintro e w2 ⟨y, rfl, hy1, hy2, hb2⟩; have HY := Lib.hid (And.intro hy1 (And.intro hy2 hb2)); obtain ⟨x0, x1, x2, x3, x4, x5, x6, f0, f1, f2, f3, f4, f5, f6⟩ := box_here (x := itZ) ((hb2.block _ (by simp)).trans (HBZ.out : (w.alloc ItZO).drew.heap[w.heap.size]? = _)); clear hy1 hy2 hb2))
  all_goals
    go_wp2
    refine bodyPost_ret (v := .tuple #[ItV y, .bool true]) (by simp [results, Try.results23, go_sem, x0, x1, x2, x3, x4, x5, x6]) rfl ?_
    refine ⟨y, rfl, ?_, fun i h1 h2 => ?_, ?_⟩
    · obtain ⟨j, hj, e⟩ := HY.out.1
      exact ⟨k + j, by have := HK.out; omega, by omega, e.symm⟩
    · have := HY.out.2.1 (i - k) (by have := HK.out; omega)
      rwa [show k + (i - k) = i by have := HK.out; omega] at this
    · exact below_set7 (((Below.refl w.heap.size w).alloc (Nat.le_refl _) ItZO).drew.trans (HY.out.2.2.mono (by simp))) (Nat.le_refl _) _ _ _ _ _ _ _
end Go.Proofs.Ytgfoagpmkbdciaa
