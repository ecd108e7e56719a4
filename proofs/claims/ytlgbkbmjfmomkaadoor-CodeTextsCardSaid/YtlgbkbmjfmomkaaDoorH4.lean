/-
  The walk of the byte reader's program.
-/
import Derived.Test.YtlgbkbmjfmomkaaDoorH3
import Derived.Deep.RegionHeld3
import Derived.Deep.RegionWith
import Derived.RegionDies
namespace Go.Proofs.YtlgbkbmjfmomkaaDoor
open Go.RowKit CodM

/-- so many kinds that stand ahead, and what is left -/
def rdKs : Nat → List UInt8 → Option (List (List Ins) × List UInt8)
  | 0, l => some ([], l)
  | k + 1, l => (rdKs k l).bind fun p => (rdKind p.2).map fun q => (p.1 ++ [q.1], q.2)
def rdProg : List UInt8 → Option (Prg × List UInt8)
  | x :: y :: t => (rdKs y.toNat t).map fun p => (⟨x.toNat, p.1⟩, p.2)
  | _ => none
theorem rdKs_step {k : Nat} {l r r' : List UInt8} {xs : List (List Ins)} {y : List Ins} (h : rdKs k l = some (xs, r)) (hy : rdKind r = some (y, r')) : rdKs (k + 1) l = some (xs ++ [y], r') := by simp [rdKs, h, hy]
theorem rdKs_none {k : Nat} {l : List UInt8} (h : rdKs k l = none) : ∀ m, k ≤ m → rdKs m l = none
  | 0, hm => by obtain rfl : k = 0 := by omega
                exact h
  | m + 1, hm => by
    by_cases e : k = m + 1
    · exact e ▸ h
    · simp [rdKs, rdKs_none h m (by omega)]
theorem rdKs_stop {k m : Nat} {l r : List UInt8} {xs : List (List Ins)} (h : rdKs k l = some (xs, r)) (hy : rdKind r = none) (hm : k < m) : rdKs m l = none :=
  rdKs_none (k := k + 1) (by simp [rdKs, h, hy]) m (by omega)
theorem rdKs_length : ∀ {k : Nat} {l r : List UInt8} {xs : List (List Ins)}, rdKs k l = some (xs, r) → xs.length = k
  | 0, l, r, xs, h => by simp [rdKs] at h; rw [h.1]; rfl
  | k + 1, l, r, xs, h => by
    simp only [rdKs, Option.bind_eq_some_iff, Option.map_eq_some_iff] at h
    obtain ⟨⟨ys, r1⟩, h1, ⟨y, r2⟩, h2, h3⟩ := h
    simp at h3
    rw [← h3.1, List.length_append, rdKs_length h1]
    rfl

def zeroS (n : Nat) : Array Value := madeCells (Value.slice none 0 0).cells n
theorem zeroS_size (n : Nat) : (zeroS n).size = n := size_madeCells _ _
theorem zeroS_get (n : Nat) : ∀ (j : Nat) (u : Value), (zeroS n)[j]? = some u → u = Value.slice none 0 0 := by
  intro j u h
  have hj : j < n := by
    rcases Nat.lt_or_ge j n with h' | h'
    · exact h'
    · rw [Array.getElem?_eq_none (by rw [zeroS_size]; exact h')] at h; cases h
  unfold zeroS madeCells at h
  rw [Array.getElem?_map, Array.getElem?_range, if_pos hj] at h
  simp only [Option.map_some, Option.some.injEq] at h
  rw [← h]
  have hz : (Value.slice none 0 0).cells = #[.slice none 0 0] := rfl
  rw [hz]
  show #[Value.slice none 0 0][j % 1]! = _
  rw [Nat.mod_one]
  rfl
theorem madeS (n : Nat) (hn : n ≤ 255) : ∀ w : World, (Instr.makeSlice 22 (.int .i64 (n : Int)) (.int .i64 (n : Int))).run Tryd.prog w = .ok (.slice (some ⟨w.heap.size, 0, none⟩) n n) (w.alloc (.cells (zeroS n) 46)) := by
  intro w
  obtain ⟨i0, hi, hz0, hz1, hz2⟩ := info_parts infoS
  have := run_make (P := Tryd.prog) w 22 46 i0 (.slice none 0 0) Tryd.underlying22 hi hz0 .i64 .i64 (n : Int) (n : Int) (by omega) (Int.le_refl _) (by rw [hz2]; omega) (by omega)
  rw [hz1, Int.toNat_natCast, Nat.mul_one] at this
  exact this

def ProgTo (g : Nat) (l : List UInt8) (w : World) (e : Ending) (w' : World) : Prop :=
  But (fun k => k = g) w w' ∧ match rdProg l with
  | none => e = .panicked codePanic
  | some (p, r) => ∃ a n c, e = .returned (.agg #[.int .i64 p.vars, .slice a n c]) ∧ SlOk a n c ∧ Cop w.heap.size w' a n p.kinds ∧ RdAt w' g r
theorem progTo_no {g : Nat} {l : List UInt8} {w w' : World} (h : rdProg l = none) (hb : But (fun k => k = g) w w') : ProgTo g l w (.panicked codePanic) w' := by
  refine ⟨hb, ?_⟩
  rw [h]
theorem But.drew {S : Nat → Prop} {a b : World} (h : But S a b) : But S a b.drew := ⟨h.os, h.tape, h.output, h.size, h.block⟩
/-- so many kinds are read into the block K -/
def PRel (w : World) (g R Pb K n : Nat) (x : Int) (l : List UInt8) (i : Value) (wr : World) : Prop :=
  ∃ (k : Nat) (ks : List (List Ins)) (r : List UInt8) (cur : Array Value), k ≤ n ∧ i = .int .i64 k ∧ rdKs k l = some (ks, r) ∧ RdAt wr g r ∧ wr.heap[K]? = some (.cells cur 46 (0, 0)) ∧ cur.size = n ∧
    (∀ j, j < k → ∃ a' n' c', cur[j]? = some (.slice a' n' c') ∧ SlOk a' n' c' ∧ InsOwn w.heap.size wr a' n' (ks.getD j [])) ∧ (∀ (j : Nat) (u : Value), cur[j]? = some u → ∃ a n c, u = Value.slice a n c) ∧
    wr.heap[R]? = some (.cells #[.int .i64 0, .slice none 0 0] 24) ∧ wr.heap[Pb]? = some (.cells #[.int .i64 x, .slice (some ⟨K, 0, none⟩) n n] 24) ∧ But (fun k => k = g) w wr

set_option maxHeartbeats 1000000 in
set_option maxRecDepth 100000 in
theorem program_nil (g : Nat) (w : World) (hr : RdAt w g []) : Calls Tryd.prog 37 #[.pointer (some ⟨g, 0, none⟩)] w (ProgTo g [] w) := by
  have HR := Lib.hid hr
  clear hr
  go_enter Tryd.func37, Tryd.ntmps37
  go_wp2_with (first
    | (go_at_call 54; refine (number_no g [] 1 _ (HR.out.alloc _) (by decide)).mono ?_; rintro e w' ⟨rfl, rfl⟩))
  exact ⟨rfl, (But.refl _ _).alloc _, rfl⟩
set_option maxHeartbeats 1000000 in
set_option maxRecDepth 100000 in
theorem program_one (g : Nat) (x : UInt8) (w : World) (hr : RdAt w g [x]) : Calls Tryd.prog 37 #[.pointer (some ⟨g, 0, none⟩)] w (ProgTo g [x] w) := by
  have HR := Lib.hid hr
  clear hr
  go_enter Tryd.func37, Tryd.ntmps37
  go_wp2_with (first
    | (go_at_call 54; have hx := HR; refine (number_yes g [x] 1 _ (HR.out.alloc _) (by simp) (by decide) (by decide)).mono ?_; rintro e w1 ⟨rfl, hr1, hb1⟩; rw [num1]; have HR1 := Lib.hid hr1; have HB1 := Lib.hid (((But.refl (fun k => k = g) w).alloc _).trans hb1); clear hr1 hb1 HR)
    | (go_at_call 54; refine (number_no g [] 1 _ (HR1.out.alloc _) (by decide)).mono ?_; rintro e w' ⟨rfl, rfl⟩))
  exact ⟨rfl, HB1.out.alloc _, rfl⟩

set_option maxHeartbeats 4000000 in
set_option maxRecDepth 100000 in
theorem program_two (g : Nat) (x y : UInt8) (l : List UInt8) (w : World) (hr : RdAt w g (x :: y :: l)) : Calls Tryd.prog 37 #[.pointer (some ⟨g, 0, none⟩)] w (ProgTo g (x :: y :: l) w) := by
  have hg := hr.lt
  have hy255 := y.toNat_lt
  obtain ⟨n, hn⟩ : ∃ n, n = y.toNat := ⟨_, rfl⟩
  obtain ⟨X, hX⟩ : ∃ X : Int, X = (x.toNat : Int) := ⟨_, rfl⟩
  have hn255 : n ≤ 255 := by omega
  have HN := Lib.hid hn
  have HX := Lib.hid hX
  have HR := Lib.hid hr
  have hmk := madeS n hn255
  obtain ⟨Z, hZ⟩ : ∃ Z, Z = zeroS n := ⟨_, rfl⟩
  rw [← hZ] at hmk
  have HZ := Lib.hid hZ
  clear hr hn hX hZ hy255
  go_enter Tryd.func37, Tryd.ntmps37
  go_wp2_with (first
    | (go_at_call 54; refine (number_yes g (x :: y :: l) 1 _ (HR.out.alloc _) (by simp) (by decide) (by decide)).mono ?_; rintro e w1 ⟨rfl, hr1, hb1⟩; rw [num1, ← HX.out]; refine Hid.out ?_))
  have hres1 : w1.heap[w.heap.size]? = some (.cells #[.int .i64 0, .slice none 0 0] 24) := hb1.heap (heap_alloc_new _ _) (by omega)
  have HRES1 := Lib.hid hres1
  have HR1 := Lib.hid hr1
  have HB1 := Lib.hid (((But.refl (fun k => k = g) w).alloc _).trans hb1)
  have hsz1 : w.heap.size < w1.heap.size := by have := hb1.size; simp at this; omega
  clear hres1 hr1 hb1
  refine Lib.hid ?_
  go_wp2_with (first
    | (go_at_call 54; refine (number_yes g (y :: l) 1 _ (by simpa using HR1.out.alloc _) (by simp) (by decide) (by decide)).mono ?_; rintro e w2 ⟨rfl, hr2, hb2⟩; rw [num1, ← HN.out]; refine Hid.out ?_))
  have hres2 := hb2.heap ((heap_alloc_old _ _ hsz1).trans HRES1.out) (by omega)
  have hp2 : w2.heap[w1.heap.size]? = some (.cells #[.int .i64 X, .slice none 0 0] 24) := hb2.heap (heap_alloc_new _ _) (by omega)
  have r0 : w2.cell? ⟨w1.heap.size, 1, none⟩ = some (.slice none 0 0) := by rw [cell_of_row _ _ _ _ _ _ hp2]; rfl
  have f0 : w2.frozen? ⟨w1.heap.size, 1, none⟩ = false := frozen_of_row _ _ _ _ _ hp2
  have hsz2 : w1.heap.size < w2.heap.size := heap_lt hp2
  have HRES2 := Lib.hid hres2
  have HP2 := Lib.hid hp2
  have HR2 := Lib.hid hr2
  have HB2 := Lib.hid ((HB1.out.alloc (.cells #[.int .i64 X, .slice none 0 0] 24)).trans hb2)
  clear hres2 hp2 hr2 hb2
  refine Lib.hid ?_
  go_wp2
  clear hmk r0 f0
  have hss : (w2.setCell ⟨w1.heap.size, 1, none⟩ (.slice (some ⟨w2.heap.size, 0, none⟩) n n)).heap.size = w2.heap.size := by simp [World.setCell]
  have hset := heap_setCell_same w2 w1.heap.size 1 _ _ (.slice (some ⟨w2.heap.size, 0, none⟩) n n) HP2.out
  have hbs : But (fun j => j = w1.heap.size) w2 (w2.setCell ⟨w1.heap.size, 1, none⟩ (.slice (some ⟨w2.heap.size, 0, none⟩) n n)) := (But.refl (fun j => j = w1.heap.size) _).setCell (.inl rfl) _
  have HS1 : Hid (RdAt (w2.setCell ⟨w1.heap.size, 1, none⟩ (.slice (some ⟨w2.heap.size, 0, none⟩) n n)) g l) :=
    RdAt.but (by simpa using HR2.out) hbs (by show ¬ g = w1.heap.size; omega) (no_byte HP2.out (fun z => by simp) (fun z => by simp))
  have HS2 := Lib.hid (hbs.heap HRES2.out (by omega))
  have HS3 := Lib.hid (show (w2.setCell ⟨w1.heap.size, 1, none⟩ (.slice (some ⟨w2.heap.size, 0, none⟩) n n)).heap[w1.heap.size]? = some (.cells #[.int .i64 X, .slice (some ⟨w2.heap.size, 0, none⟩) n n] 24) from hset)
  have HS4 := Lib.hid (HB2.out.setCell (p := ⟨w1.heap.size, 1, none⟩) (.inr (by show w.heap.size ≤ w1.heap.size; omega)) (.slice (some ⟨w2.heap.size, 0, none⟩) n n))
  have HSS := Lib.hid hss
  clear hss hset hbs
  obtain ⟨ws, hws⟩ : ∃ ws, ws = w2.setCell ⟨w1.heap.size, 1, none⟩ (.slice (some ⟨w2.heap.size, 0, none⟩) n n) := ⟨_, rfl⟩
  rw [← hws] at HS1 HS2 HS3 HS4 HSS ⊢
  clear hws
  have hKz : ws.heap.size = w2.heap.size := HSS.out
  go_loopw [15] (fun i wr => PRel w g w.heap.size w1.heap.size w2.heap.size n X l i wr) (fun i _ => n - (intOf i).toNat)
  case atStart =>
    refine ⟨0, [], l, Z, Nat.zero_le _, rfl, rfl, HS1.out.alloc _, ?_, by rw [HZ.out]; exact zeroS_size n, fun j hj => by omega, fun j u hu => ⟨none, 0, 0, zeroS_get n j u (by rw [← HZ.out]; exact hu)⟩, ?_, ?_, HS4.out.alloc _⟩
    · rw [← hKz]; exact heap_alloc_new _ _
    · exact (heap_alloc_old _ _ (by omega)).trans HS2.out
    · exact (heap_alloc_old _ _ (by omega)).trans HS3.out
  case round =>
    obtain ⟨k, ks, r, cur, hk, rfl, hrd, hrr, hK, hcs, hcur, hint, hR, hP, hbut⟩ := hrel
    have HRD := Lib.hid hrd
    have HRR := Lib.hid hrr
    have HK := Lib.hid hK
    have HCS := Lib.hid hcs
    have HCUR := Lib.hid hcur
    have HINT := Lib.hid hint
    have HRB := Lib.hid hR
    have HPB := Lib.hid hP
    have HBUT := Lib.hid hbut
    have p0 : wr.cell? ⟨w1.heap.size, 0, none⟩ = some (.int .i64 X) := by rw [cell_of_row _ _ _ _ _ _ hP]; rfl
    have p1 : wr.cell? ⟨w1.heap.size, 1, none⟩ = some (.slice (some ⟨w2.heap.size, 0, none⟩) n n) := by rw [cell_of_row _ _ _ _ _ _ hP]; rfl
    clear hrd hrr hK hcs hcur hint hR hP hbut
    by_cases hlt : k < n
    · have hs := HCS.out
      obtain ⟨ua, un, uc, hu⟩ := HINT.out k _ (Array.getElem?_eq_getElem (by omega))
      have c0 : wr.cell? ⟨w2.heap.size, k, none⟩ = some (.slice ua un uc) := by rw [cell_of_row _ _ _ _ _ _ HK.out, Array.getElem?_eq_getElem (by omega), hu]
      have f0 : wr.frozen? ⟨w2.heap.size, k, none⟩ = false := frozen_of_row _ _ _ _ _ HK.out
      clear hu hs
      rcases hri : rdKind r with _ | ⟨xs, r'⟩
      · have HRI := Lib.hid hri
        have HNO : Hid (rdProg (x :: y :: l) = none) := by
          show (rdKs y.toNat l).map _ = none
          rw [← HN.out, rdKs_stop HRD.out hri hlt]
          rfl
        clear hri
        go_wp2
        go_region_dies
        all_goals (go_at_call 55; refine (kind_no g r _ ?_ HRI.out).mono ?_; (exact HRR.out); rintro e w3 ⟨rfl, hb3⟩; exact ⟨rfl, progTo_no HNO.out (HBUT.out.drew.trans hb3)⟩)
      · have HRI := Lib.hid hri
        clear hri
        go_wp2
        go_region_with (first
          | (go_at_call 55; refine (kind_yes g r xs r' _ ?_ HRI.out).mono ?_; (exact HRR.out); rintro e w3 ⟨Kk, rfl, ho3, hr3, hb3⟩; have g1 := hb3.cell (p := ⟨w1.heap.size, 1, none⟩) p1 (by show ¬ w1.heap.size = g; omega); have g2 := hb3.cell (p := ⟨w2.heap.size, k, none⟩) c0 (by show ¬ w2.heap.size = g; omega); have g3 : w3.frozen? ⟨w2.heap.size, k, none⟩ = false := frozen_of_row _ _ _ _ _ (hb3.heap HK.out (by omega)); have HO3 := Lib.hid ho3; have HR3 := Lib.hid hr3; have HB3 := Lib.hid (HBUT.out.drew.trans hb3); have HB3' := Lib.hid hb3; clear ho3 hr3 hb3))
        all_goals
          clear p0 p1 c0 f0 g1 g2 g3
          go_wp2
          go_roundw
          case rel =>
            have hs := HCS.out
            have hkl := rdKs_length HRD.out
            have hK3 : w3.heap[w2.heap.size]? = some (.cells cur 46 (0, 0)) := HB3'.out.heap HK.out (by omega)
            have hset := heap_setCell_same w3 w2.heap.size k cur _ (.slice (some ⟨Kk, 0, none⟩) xs.length xs.length) hK3
            have hgI : ∀ cur', wr.drew.heap[g]? ≠ some (.cells cur' 49 (0, 0)) := fun cur' h => by
              obtain ⟨ra, rc, rh, _⟩ := HRR.out
              have h' : wr.heap[g]? = some (.cells cur' 49 (0, 0)) := h
              rw [rh] at h'
              cases h'
            have hKI : ∀ cur', w3.heap[w2.heap.size]? ≠ some (.cells cur' 49 (0, 0)) := fun cur' h => by rw [hK3] at h; cases h
            have hkp : Keep g wr.drew w3 := ⟨HB3'.out.size, fun _ _ _ _ hne hh => HB3'.out.heap hh hne⟩
            refine ⟨k + 1, ks ++ [xs], r', _, by omega, by go_num, rdKs_step HRD.out HRI.out, ?_, hset, by simpa using hs, fun j hj => ?_, fun j u hu => ?_, ?_, ?_, ?_⟩
            · exact HR3.out.but ((But.refl (fun j => j = w2.heap.size) _).setCell (.inl rfl) _) (by show ¬ g = w2.heap.size; omega) (fun B off z hc e => by
                subst e
                rw [cell_of_row _ _ _ _ _ _ hK3] at hc
                obtain ⟨_, _, _, hz'⟩ := HINT.out _ _ hc
                cases hz')
            · by_cases hjk : j = k
              · subst hjk
                have e1 : (ks ++ [xs]).getD j [] = xs := by simp [List.getD, ← hkl]
                rw [e1]
                refine ⟨some ⟨Kk, 0, none⟩, xs.length, xs.length, by simp [show j < cur.size from by omega], ⟨Nat.le_refl _, fun e => by cases e⟩, ?_⟩
                exact (HO3.out.mono HBUT.out.size).keep (Keep.set _ _ _) hKI
              · obtain ⟨a', n', c', c1, c2, c3⟩ := HCUR.out j (by omega)
                have e1 : (ks ++ [xs]).getD j [] = ks.getD j [] := by simp [List.getD, List.getElem?_append_left (show j < ks.length from by omega)]
                rw [e1, Array.getElem?_setIfInBounds_ne (by omega)]
                exact ⟨a', n', c', c1, c2, (InsOwn.keep (w := wr.drew) c3 hkp hgI).keep (Keep.set _ _ _) hKI⟩
            · rw [Array.getElem?_setIfInBounds] at hu
              split at hu
              · split at hu
                · cases hu; exact ⟨_, _, _, rfl⟩
                · cases hu
              · exact HINT.out j u hu
            · exact (Below.heap_setCell _ _ _ _ (by show w.heap.size ≠ w2.heap.size; omega)).trans (HB3'.out.heap HRB.out (by omega))
            · exact (Below.heap_setCell _ _ _ _ (by show w1.heap.size ≠ w2.heap.size; omega)).trans (HB3'.out.heap HPB.out (by omega))
            · exact HB3.out.setCell (.inr (by show w.heap.size ≤ w2.heap.size; omega)) _
          case measure => simp [intOf]; omega
    · obtain rfl : k = n := by omega
      have r0 : wr.cell? ⟨w.heap.size, 0, none⟩ = some (.int .i64 0) := by rw [cell_of_row _ _ _ _ _ _ HRB.out]; rfl
      have r1 : wr.cell? ⟨w.heap.size, 1, none⟩ = some (.slice none 0 0) := by rw [cell_of_row _ _ _ _ _ _ HRB.out]; rfl
      have f0 : wr.frozen? ⟨w.heap.size, 0, none⟩ = false := frozen_of_row _ _ _ _ _ HRB.out
      have f1 : wr.frozen? ⟨w.heap.size, 1, none⟩ = false := frozen_of_row _ _ _ _ _ HRB.out
      go_wp2
      obtain ⟨k0, k1⟩ := fin_cells HRB.out (.int .i64 X) (.slice (some ⟨w2.heap.size, 0, none⟩) k k)
      refine bodyPost_ret (v := .agg #[.int .i64 X, .slice (some ⟨w2.heap.size, 0, none⟩) k k]) (by simp [results, Tryd.results37, go_sem, k0, k1]) rfl ⟨(HBUT.out.setCell (.inr (Nat.le_refl _)) _).setCell (.inr (Nat.le_refl _)) _, ?_⟩
      have hpg : rdProg (x :: y :: l) = some (⟨X, ks⟩, r) := by
        show (rdKs y.toNat l).map _ = _
        rw [← HN.out, HRD.out, HX.out]
        rfl
      rw [hpg]
      have hs := HCS.out
      have hn1 : ∀ t cur', t ≠ 24 → wr.heap[w.heap.size]? ≠ some (.cells cur' t (0, 0)) := fun t cur' ht h => by rw [HRB.out] at h; cases h; exact ht rfl
      have hcop : Cop w.heap.size wr (some ⟨w2.heap.size, 0, none⟩) k ks := ⟨rdKs_length HRD.out, .inr ⟨w2.heap.size, cur, rfl, by omega, HK.out, HCUR.out⟩⟩
      refine ⟨some ⟨w2.heap.size, 0, none⟩, k, k, rfl, ⟨Nat.le_refl _, fun e => by cases e⟩, hcop.keep ((Keep.set _ 0 _).trans (Keep.set _ 1 _)) (fun cur' => hn1 _ cur' (by decide)) (fun cur' => hn1 _ cur' (by decide)), ?_⟩
      exact HRR.out.but (((But.refl (fun j => j = w.heap.size) _).setCell (.inl rfl) _).setCell (.inl rfl) _) (by show ¬ g = w.heap.size; omega) (no_byte HRB.out (fun z => by simp) (fun z => by simp))
theorem program_any (g : Nat) (l : List UInt8) (w : World) (hr : RdAt w g l) : Calls Tryd.prog 37 #[.pointer (some ⟨g, 0, none⟩)] w (ProgTo g l w) := by
  match l, hr with
  | [], hr => exact program_nil g w hr
  | [x], hr => exact program_one g x w hr
  | x :: y :: l, hr => exact program_two g x y l w hr
end Go.Proofs.YtlgbkbmjfmomkaaDoor
