/-
  The walk of Drop.
-/
import Derived.Test.YtgfoagpmkbdciaaHTake
namespace Go.Proofs.Ytgfoagpmkbdciaa
open Go Go.Shelf Go.RowKit Go.Lib Go.Sort Go.Proofs HpM

set_option maxHeartbeats 1000000 in
theorem drop_none (w : World) (G : Nat) (F : Nat → Prop) (d : Array It) (f : Pl) (a b : Int) (h : HeapSt w G F d f) (hn : hasF f (a, b) = false) : Calls Try.prog 17 #[.pointer (some ⟨G, 0, none⟩), .int .i64 a, .int .i64 b] w (ItTo itZ false w) := by
  have HH : Hid (HeapSt (w.alloc ItZO) G F d f) := h.below ((Below.refl _ _).alloc (Nat.le_refl _) _)
  have HN : Hid (false = hasF f (a, b)) := hn.symm
  clear h hn
  go_enter Try.func17, Try.ntmps17
  go_wp2_with (go_at_call 28; refine (has_is HH.out HN.out).mono ?_; rintro e w1 ⟨rfl, rfl⟩)
  exact bodyPost_ret (v := .tuple #[ItV itZ, .bool false]) (by simp [results, Try.results17, go_sem, itZ]) rfl ⟨rfl, (Below.refl _ _).alloc (Nat.le_refl _) _⟩

set_option maxHeartbeats 2000000 in
theorem drop_some (w : World) (G : Nat) (F : Nat → Prop) (d : Array It) (f : Pl) (a b : Int) (k : Nat) (h : HeapSt w G F d f) (hk : f (a, b) = some k) (hp : HP iLt d) :
    Calls Try.prog 17 #[.pointer (some ⟨G, 0, none⟩), .int .i64 a, .int .i64 b] w (AwayTo G F d d[k]! w) := by
  have hkd := (h.plc.only _ _ hk).1
  obtain ⟨B, M, cap, fB, fM, hF⟩ := h.full (by omega)
  have H0 := Lib.hid h
  have HKD := Lib.hid hkd
  have HHP := Lib.hid hp
  have HFM := Lib.hid (And.intro fB fM)
  have hF1 : Full (w.alloc ItZO) G B M cap d f := hF.below ((Below.refl _ _).alloc (Nat.le_refl _) _)
  have HF := Lib.hid hF1
  have HH : Hid (HeapSt (w.alloc ItZO) G F d f) := h.below ((Below.refl _ _).alloc (Nat.le_refl _) _)
  have HN : Hid (true = hasF f (a, b)) := by show true = hasF f (a, b); unfold hasF; rw [hk]; rfl
  have hlk := look_one (w.alloc ItZO) M f hF1.map a b
  rw [show getF f (a, b) = k by unfold getF; rw [hk]; rfl] at hlk
  have hbz : (w.alloc ItZO).heap[w.heap.size]? = some ItZO := heap_alloc_new _ _
  have HBZ := Lib.hid hbz
  have hsz : (w.alloc ItZO).heap.size = w.heap.size + 1 := by simp
  have HSZ := Lib.hid hsz
  have hLT : Hid (G < w.heap.size ∧ B < w.heap.size ∧ M < w.heap.size) := ⟨hF.ltG, hF.row.lt, hF.map.lt⟩
  obtain ⟨x, hx⟩ : ∃ x, x = d[k]! := ⟨_, rfl⟩
  have x7 := (hF1.row.cell hkd).seven
  rw [← hx] at x7 ⊢
  obtain ⟨x0, x1, x2, x3, x4, x5, x6⟩ := x7
  have c0 := hF1.c0
  have c1 := hF1.c1
  have hkz : (k : Int) < (d.size : Int) := by omega
  have HX := Lib.hid hx
  clear h hp fB fM hF hF1 hbz hsz hx hk hkd
  go_enter Try.func17, Try.ntmps17
  go_wp2_with (first
    | (go_at_call 28; refine (has_is HH.out HN.out).mono ?_; rintro e w1 ⟨rfl, rfl⟩)
    | (go_at_call 37; refine (remove_any ((w.alloc ItZO).alloc (ItO x)) G B M cap k d f (HF.out.below ((Below.refl _ _).alloc (Nat.le_refl _) _)) HKD.out HHP.out).mono ?_; rintro e w3 ⟨rfl, d', f', hF3, hp3, hh3, hb3⟩; have H3 := Lib.hid (And.intro hF3 (And.intro hp3 (And.intro hh3 hb3))); clear hF3 hp3 hh3 hb3; refine Hid.out ?_))
  obtain ⟨n1, n2, n3⟩ := hLT.out
  have e2 : w3.heap[w.heap.size]? = some (ItO itZ) := (H3.out.2.2.2.block _ (by simp; omega) (by omega)).trans ((heap_alloc_old _ _ (by have := HSZ.out; omega)).trans HBZ.out)
  have e3 : w3.heap[w.heap.size + 1]? = some (ItO x) := by
    have h1 := heap_alloc_new (w.alloc ItZO) (ItO x)
    rw [HSZ.out] at h1
    exact (H3.out.2.2.2.block _ (by simp) (by omega)).trans h1
  clear x0 x1 x2 x3 x4 x5 x6 c0 c1 hlk
  obtain ⟨x0, x1, x2, x3, x4, x5, x6, f0, f1, f2, f3, f4, f5, f6⟩ := box_here e2
  obtain ⟨y0, y1, y2, y3, y4, y5, y6, -, -, -, -, -, -, -⟩ := box_here e3
  clear e2 e3 n1 n2 n3
  refine Lib.hid ?_
  go_wp2
  refine bodyPost_ret (v := .tuple #[ItV x, .bool true]) (by simp [results, Try.results17, go_sem, x0, x1, x2, x3, x4, x5, x6]) rfl ?_
  obtain ⟨hF3, hp3, hh3, hb3⟩ := H3.out
  rw [← HX.out] at hp3
  refine away_end H0.out HFM.out.1 HFM.out.2 (w1 := (w.alloc ItZO).alloc (ItO x)) ?_ hb3 hF3 (below_set7 (Below.refl _ _) (Nat.le_refl _) _ _ _ _ _ _ _) hp3 hh3
  exact (((Below.refl w.heap.size w).alloc (Nat.le_refl _) ItZO).alloc (by have := HSZ.out; omega) _)
end Go.Proofs.Ytgfoagpmkbdciaa
