/-
  The walk of Copy.
-/
import Derived.Test.YthhpoihfaggafaaDoorD3
namespace Go.Proofs.YthhpoihfaggafaaDoor
open Go.RowKit CodM

/-- blocks of instructions and of kinds read in w' as they did in w, but the kinds' block X -/
def Keep (X : Nat) (w w' : World) : Prop := w.heap.size ≤ w'.heap.size ∧ ∀ k cur t, (t = 66 ∨ t = 67) → k ≠ X → w.heap[k]? = some (.cells cur t (0, 0)) → w'.heap[k]? = some (.cells cur t (0, 0))
theorem heap_lt {w : World} {k : Nat} {o : Obj} (h : w.heap[k]? = some o) : k < w.heap.size := by
  rcases Nat.lt_or_ge k w.heap.size with h' | h'
  · exact h'
  · rw [Array.getElem?_eq_none h'] at h; cases h
theorem InsOwn.keep {B X : Nat} {w w' : World} {a : Option Addr} {n : Nat} {l : List Ins} (h : InsOwn B w a n l) (hk : Keep X w w') (hX : ∀ cur, w.heap[X]? ≠ some (.cells cur 66 (0, 0))) : InsOwn B w' a n l := by
  obtain ⟨⟨h1, h2, h3, h4⟩, h5⟩ := h
  rcases h5 with h5 | ⟨G, cur, rfl, hG, hh⟩
  · exact ⟨⟨h1, h2, h3, .inl h5⟩, .inl h5⟩
  · have hh' := hk.2 G cur 66 (.inl rfl) (fun e => hX cur (e ▸ hh)) hh
    refine ⟨⟨h1, h2, h3, ?_⟩, .inr ⟨G, cur, rfl, hG, hh'⟩⟩
    rcases h4 with h4 | ⟨B', off, e, hB, hc⟩
    · exact .inl h4
    · cases e
      refine .inr ⟨G, 0, rfl, heap_lt hh', fun i hi => ?_⟩
      have hb : w'.heap[G]? = w.heap[G]? := hh'.trans hh.symm
      exact ⟨(World.cell?_of_block (a := ⟨G, 0 + i * 2, none⟩) hb).trans (hc i hi).1, (World.cell?_of_block (a := ⟨G, 0 + i * 2 + 1, none⟩) hb).trans (hc i hi).2⟩
theorem Keep.below {w w' : World} (X : Nat) (h : Below w.heap.size w w') : Keep X w w' := ⟨h.size, fun k _ _ _ _ hh => (h.block k (heap_lt hh)).trans hh⟩
theorem Keep.set {w : World} (X o : Nat) (v : Value) : Keep X w (w.setCell ⟨X, o, none⟩ v) := ⟨by simp [World.setCell], fun _ _ _ _ hne hh => (Below.heap_setCell _ _ _ _ hne).trans hh⟩
theorem InsOwn.mono {B B' : Nat} {w : World} {a : Option Addr} {n : Nat} {l : List Ins} (h : InsOwn B w a n l) (hB : B' ≤ B) : InsOwn B' w a n l := by
  refine ⟨h.1, ?_⟩
  rcases h.2 with h5 | ⟨G, cur, rfl, hG, hh⟩
  · exact .inl h5
  · exact .inr ⟨G, cur, rfl, by omega, hh⟩

/-- a copy's kinds: a block of their own, each kind a block of its own -/
def Cop (B : Nat) (w : World) (a : Option Addr) (n : Nat) (ks : List (List Ins)) : Prop :=
  ks.length = n ∧ (n = 0 ∨ ∃ G cur, a = some ⟨G, 0, none⟩ ∧ B ≤ G ∧ w.heap[G]? = some (.cells cur 67 (0, 0)) ∧
    ∀ i, i < n → ∃ a' n' c', cur[i]? = some (.slice a' n' c') ∧ SlOk a' n' c' ∧ InsOwn B w a' n' (ks.getD i []))
theorem Cop.kinds {B : Nat} {w : World} {a : Option Addr} {n : Nat} {ks : List (List Ins)} (h : Cop B w a n ks) (hm : n ≤ 9223372036854775807) : KindsAt w a n ks := by
  refine ⟨h.1, hm, ?_⟩
  rcases h.2 with h2 | ⟨G, cur, rfl, _, hh, hc⟩
  · exact .inl h2
  · refine .inr ⟨G, 0, rfl, heap_lt hh, fun i hi => ?_⟩
    obtain ⟨a', n', c', e1, e2, e3⟩ := hc i hi
    exact ⟨a', n', c', by rw [cell_of_row _ _ _ _ _ _ hh, Nat.zero_add]; exact e1, e2, e3.1⟩
theorem Cop.keep {B X : Nat} {w w' : World} {a : Option Addr} {n : Nat} {ks : List (List Ins)} (h : Cop B w a n ks) (hk : Keep X w w') (hX : ∀ cur, w.heap[X]? ≠ some (.cells cur 66 (0, 0))) (hX2 : ∀ cur, w.heap[X]? ≠ some (.cells cur 67 (0, 0))) : Cop B w' a n ks := by
  refine ⟨h.1, ?_⟩
  rcases h.2 with h2 | ⟨G, cur, rfl, hG, hh, hc⟩
  · exact .inl h2
  · refine .inr ⟨G, cur, rfl, hG, hk.2 G cur _ (.inr rfl) (fun e => hX2 cur (e ▸ hh)) hh, fun i hi => ?_⟩
    obtain ⟨a', n', c', e1, e2, e3⟩ := hc i hi
    exact ⟨a', n', c', e1, e2, e3.keep hk hX⟩

theorem Keep.trans {X : Nat} {a b c : World} (h : Keep X a b) (k : Keep X b c) : Keep X a c := ⟨Nat.le_trans h.1 k.1, fun i cur t ht hne hh => k.2 i cur t ht hne (h.2 i cur t ht hne hh)⟩
theorem fin_world {w : World} {R : Nat} {u0 u1 : Value} {t : TypeId} (hres : w.heap[R]? = some (.cells #[u0, u1] t)) (v0 v1 : Value) :
    ((w.setCell ⟨R, 0, none⟩ v0).setCell ⟨R, 1, none⟩ v1).heap[R]? = some (.cells #[v0, v1] t) := by
  have h1 := heap_setCell_same w R 0 #[u0, u1] t v0 hres
  have h2 := heap_setCell_same (w.setCell ⟨R, 0, none⟩ v0) R 1 _ t v1 h1
  rw [h2]
  rfl
theorem fin_cells {w : World} {R : Nat} {u0 u1 : Value} {t : TypeId} (hres : w.heap[R]? = some (.cells #[u0, u1] t)) (v0 v1 : Value) :
    ((w.setCell ⟨R, 0, none⟩ v0).setCell ⟨R, 1, none⟩ v1).cell? ⟨R, 0, none⟩ = some v0 ∧ ((w.setCell ⟨R, 0, none⟩ v0).setCell ⟨R, 1, none⟩ v1).cell? ⟨R, 1, none⟩ = some v1 :=
  ⟨by rw [cell_of_row _ _ _ _ _ _ (fin_world hres v0 v1)]; rfl, by rw [cell_of_row _ _ _ _ _ _ (fin_world hres v0 v1)]; rfl⟩
/-- so many kinds are copied -/
def CopyRel (B : Nat) (w2 : World) (G n : Nat) (vs : List Value) (ks : List (List Ins)) (i : Value) (wr : World) : Prop :=
  ∃ (k : Nat) (cur : Array Value), k ≤ n ∧ i = .int .i64 k ∧ wr.heap[G]? = some (.cells cur 67 (0, 0)) ∧ n ≤ cur.size ∧ (∀ i, k ≤ i → i < n → cur[i]? = vs[i]?) ∧
    (∀ i, i < k → ∃ a' n' c', cur[i]? = some (.slice a' n' c') ∧ SlOk a' n' c' ∧ InsOwn B wr a' n' (ks.getD i [])) ∧ Below B w2 wr

def CopyTo (vars : Int) (n : Nat) (ks : List (List Ins)) (w : World) (e : Ending) (w' : World) : Prop :=
  ∃ a c, e = .returned (.agg #[.int .i64 vars, .slice a n c]) ∧ SlOk a n c ∧ Cop w.heap.size w' a n ks ∧ Below w.heap.size w w'

set_option maxHeartbeats 4000000 in
set_option maxRecDepth 100000 in
theorem copy_any (w : World) (a : Option Addr) (n c : Nat) (x : Int) (ks : List (List Ins)) (hk : KindsAt w a n ks) (hn : n ≤ 12) (h200 : ∀ l ∈ ks, l.length ≤ 200) (ha : SlOk a n c) :
    Calls Tryd.prog 101 #[.agg #[.int .i64 x, .slice a n c]] w (CopyTo x n ks w) := by
  obtain ⟨w2, hw2⟩ : ∃ w2, w2 = (w.alloc (.cells #[.int .i64 x, .slice a n c] 70)).alloc (.cells #[.int .i64 0, .slice none 0 0] 70) := ⟨_, rfl⟩
  have hb2 : Below w.heap.size w w2 := by rw [hw2]; exact ((Below.refl _ _).alloc (Nat.le_refl _) _).alloc (by simp) _
  have hs2 : w2.heap.size = w.heap.size + 2 := by rw [hw2]; simp
  have hbox : w2.heap[w.heap.size]? = some (.cells #[.int .i64 x, .slice a n c] 70) := by rw [hw2]; exact (heap_alloc_old _ _ (by simp)).trans (heap_alloc_new _ _)
  have hres : w2.heap[w.heap.size + 1]? = some (.cells #[.int .i64 0, .slice none 0 0] 70) := by
    rw [hw2]
    have := heap_alloc_new (w.alloc (.cells #[.int .i64 x, .slice a n c] 70)) (.cells #[.int .i64 0, .slice none 0 0] 70)
    simpa using this
  obtain ⟨vs, hvs, hclone⟩ := cloneK_any w2 a n c ks (hk.below hb2 (Nat.le_refl _)) hn ha
  have hlen := hk.1
  have HVS := Lib.hid hvs
  have HCL := Lib.hid hclone
  have HB2 := Lib.hid hb2
  have HS2 := Lib.hid hs2
  have HBOX := Lib.hid hbox
  have HRES := Lib.hid hres
  have HK := Lib.hid hk
  have H200 := Lib.hid h200
  have HLEN := Lib.hid hlen
  have HW2 := Lib.hid hw2
  clear hvs hclone hb2 hs2 hbox hres hk h200 hlen hw2
  go_enter Tryd.func101, Tryd.ntmps101
  go_wp2_with (first
    | (go_at_call 131; rw [← HW2.out]; refine HCL.out.mono ?_; rintro e w3 ⟨a3, c3, rfl, hsl, hvo, hb⟩; refine Hid.out ?_))
  have HB3 := Lib.hid hb
  have HW3 := Lib.hid (HB2.out.trans (hb.mono HB2.out.size))
  have HVO := Lib.hid hvo
  have HSL := Lib.hid hsl
  clear hb hvo hsl
  refine Lib.hid ?_
  by_cases h0 : n = 0
  · subst h0
    have hbox3 := (HB3.out.block w.heap.size (by have := HS2.out; omega)).trans HBOX.out
    have hres3 := (HB3.out.block (w.heap.size + 1) (by have := HS2.out; omega)).trans HRES.out
    have v0 : w3.cell? ⟨w.heap.size, 0, none⟩ = some (.int .i64 x) := by rw [cell_of_row _ _ _ _ _ _ hbox3]; rfl
    have r0 : w3.cell? ⟨w.heap.size + 1, 0, none⟩ = some (.int .i64 0) := by rw [cell_of_row _ _ _ _ _ _ hres3]; rfl
    have r1 : w3.cell? ⟨w.heap.size + 1, 1, none⟩ = some (.slice none 0 0) := by rw [cell_of_row _ _ _ _ _ _ hres3]; rfl
    have f0 : w3.frozen? ⟨w.heap.size + 1, 0, none⟩ = false := frozen_of_row _ _ _ _ _ hres3
    have f1 : w3.frozen? ⟨w.heap.size + 1, 1, none⟩ = false := frozen_of_row _ _ _ _ _ hres3
    have HRES3 := Lib.hid hres3
    clear hbox3 hres3
    go_wp2
    refine wp_loop_rounds 1 ?_
    rw [rounds_succ]
    go_wp2
    obtain ⟨k0, k1⟩ := fin_cells HRES3.out (.int .i64 x) (.slice a3 0 c3)
    refine bodyPost_ret (v := .agg #[.int .i64 x, .slice a3 0 c3]) (by simp [results, Tryd.results101, go_sem, k0, k1]) rfl ⟨a3, c3, rfl, HSL.out, ⟨HLEN.out, .inl rfl⟩, ?_⟩
    exact HW3.out.trans (((Below.refl _ _).setCell (by simp) _).setCell (by simp) _)
  · rcases HVO.out.2 with h | ⟨G, cur0, rfl, hG, hh0, hsz0, hcur0⟩
    · exact absurd h h0
    have HH0 := Lib.hid hh0
    have HC0 := Lib.hid hcur0
    clear hh0 hcur0
    go_wp2
    go_loopw [11] (fun i wr => CopyRel w2.heap.size w2 G n vs ks i wr) (fun i _ => n - (intOf i).toNat)
    case atStart => exact ⟨0, cur0, Nat.zero_le _, rfl, HH0.out, hsz0, fun i _ hi => HC0.out i hi, fun i hi => by omega, HB3.out⟩
    case round =>
      obtain ⟨k, cur, hk, rfl, hh, hsz, hcur, hdone, hbel⟩ := hrel
      have HH := Lib.hid hh
      have HCUR := Lib.hid hcur
      have HDONE := Lib.hid hdone
      have HBEL := Lib.hid hbel
      clear hh hcur hdone hbel
      by_cases hlt : k < n
      · obtain ⟨a', n', c', hv, hsl, hin⟩ := HVS.out.2 k (by rw [HLEN.out]; exact hlt)
        have d1 : wr.cell? ⟨G, k, none⟩ = some (.slice a' n' c') := by rw [cell_of_row _ _ _ _ _ _ HH.out, HCUR.out k (Nat.le_refl _) hlt, hv]
        have h200' : n' ≤ 200 := by
          rw [← hin.1]
          have hkl : k < ks.length := by rw [HLEN.out]; exact hlt
          exact H200.out _ (by simp [List.getD, hkl])
        have HIN := Lib.hid (hin.below HBEL.out (Nat.le_refl _))
        have HSLK := Lib.hid hsl
        have hGr : G < wr.heap.size := heap_lt HH.out
        clear hv hsl hin
        go_wp2_with (first
          | (go_at_call 132; refine (cloneI_any _ _ _ _ _ HIN.out h200' HSLK.out).mono ?_; rintro e w4 ⟨a4, c4, rfl, hsl4, ho4, hb4⟩; refine Hid.out ?_))
        have hh4 : w4.heap[G]? = some (.cells cur 67 (0, 0)) := (hb4.block G hGr).trans HH.out
        have g1 : w4.cell? ⟨G, k, none⟩ = some (.slice a' n' c') := by rw [cell_of_row _ _ _ _ _ _ hh4, ← cell_of_row _ _ _ _ _ _ HH.out, d1]
        have g2 : w4.frozen? ⟨G, k, none⟩ = false := frozen_of_row _ _ _ _ _ hh4
        have HH4 := Lib.hid hh4
        have HSL4 := Lib.hid hsl4
        have HO4 := Lib.hid ho4
        have HB4 := Lib.hid hb4
        clear hh4 hsl4 ho4 hb4 d1
        refine Lib.hid ?_
        go_wp2
        go_roundw
        case rel =>
          have hne : ∀ cur', w4.heap[G]? ≠ some (.cells cur' 66 (0, 0)) := fun cur' h => by rw [HH4.out] at h; cases h
          refine ⟨k + 1, cur.setIfInBounds k (.slice a4 n' c4), by omega, by go_num, heap_setCell_same w4 G k cur _ _ HH4.out, by simpa using hsz, fun i h1 h2 => ?_, fun i hi => ?_, (HBEL.out.trans (HB4.out.mono HBEL.out.size)).setCell hG _⟩
          · rw [Array.getElem?_setIfInBounds_ne (by omega)]
            exact HCUR.out i (by omega) h2
          · by_cases hik : i = k
            · subst hik
              exact ⟨a4, n', c4, by simp [show i < cur.size from by omega], HSL4.out, (HO4.out.mono HBEL.out.size).keep (Keep.set G i _) hne⟩
            · obtain ⟨a5, n5, c5, e1, e2, e3⟩ := HDONE.out i (by omega)
              have hneR : ∀ cur', wr.heap[G]? ≠ some (.cells cur' 66 (0, 0)) := fun cur' h => by rw [HH.out] at h; cases h
              exact ⟨a5, n5, c5, by rw [Array.getElem?_setIfInBounds_ne (by omega)]; exact e1, e2, (e3.keep (Keep.below G HB4.out) hneR).keep (Keep.set G k _) hne⟩
        case measure => simp [intOf]; omega
      · have hbox3 := (HBEL.out.block w.heap.size (by have := HS2.out; omega)).trans HBOX.out
        have hres3 := (HBEL.out.block (w.heap.size + 1) (by have := HS2.out; omega)).trans HRES.out
        have v0 : wr.cell? ⟨w.heap.size, 0, none⟩ = some (.int .i64 x) := by rw [cell_of_row _ _ _ _ _ _ hbox3]; rfl
        have r0 : wr.cell? ⟨w.heap.size + 1, 0, none⟩ = some (.int .i64 0) := by rw [cell_of_row _ _ _ _ _ _ hres3]; rfl
        have r1 : wr.cell? ⟨w.heap.size + 1, 1, none⟩ = some (.slice none 0 0) := by rw [cell_of_row _ _ _ _ _ _ hres3]; rfl
        have f0 : wr.frozen? ⟨w.heap.size + 1, 0, none⟩ = false := frozen_of_row _ _ _ _ _ hres3
        have f1 : wr.frozen? ⟨w.heap.size + 1, 1, none⟩ = false := frozen_of_row _ _ _ _ _ hres3
        have HRES3 := Lib.hid hres3
        clear hbox3 hres3
        go_wp2
        obtain ⟨k0, k1⟩ := fin_cells HRES3.out (.int .i64 x) (.slice (some ⟨G, 0, none⟩) n c3)
        have hcop : Cop w.heap.size wr (some ⟨G, 0, none⟩) n ks := by
          refine ⟨HLEN.out, .inr ⟨G, cur, rfl, by have := HS2.out; omega, HH.out, fun i hi => ?_⟩⟩
          obtain ⟨a5, n5, c5, e1, e2, e3⟩ := HDONE.out i (by omega)
          exact ⟨a5, n5, c5, e1, e2, e3.mono (by have := HS2.out; omega)⟩
        have hn1 : ∀ t cur', t ≠ 70 → wr.heap[w.heap.size + 1]? ≠ some (.cells cur' t (0, 0)) := fun t cur' ht h => by rw [HRES3.out] at h; cases h; exact ht rfl
        refine bodyPost_ret (v := .agg #[.int .i64 x, .slice (some ⟨G, 0, none⟩) n c3]) (by simp [results, Tryd.results101, go_sem, k0, k1]) rfl ⟨_, c3, rfl, HSL.out, hcop.keep ((Keep.set _ 0 _).trans (Keep.set _ 1 _)) (fun cur' => hn1 _ cur' (by decide)) (fun cur' => hn1 _ cur' (by decide)), ?_⟩
        exact (HB2.out.trans (HBEL.out.mono HB2.out.size)).trans (((Below.refl _ _).setCell (by simp) _).setCell (by simp) _)
end Go.Proofs.YthhpoihfaggafaaDoor
