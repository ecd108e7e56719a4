/-
  The walk of the byte reader's kind.
-/
import Derived.Test.YtlgbkbmjfmomkaaDoorH2
import Derived.Laws.MakeOwn
namespace Go.Proofs.YtlgbkbmjfmomkaaDoor
open Go.RowKit CodM

/-- so many instructions that stand ahead, and what is left -/
def rdN : Nat → List UInt8 → Option (List Ins × List UInt8)
  | 0, l => some ([], l)
  | k + 1, l => (rdN k l).bind fun p => (rdIns p.2).map fun q => (p.1 ++ [q.1], q.2)
def rdKind : List UInt8 → Option (List Ins × List UInt8)
  | [] => none
  | x :: r => rdN x.toNat r
theorem rdN_step {k : Nat} {l r r' : List UInt8} {xs : List Ins} {y : Ins} (h : rdN k l = some (xs, r)) (hy : rdIns r = some (y, r')) : rdN (k + 1) l = some (xs ++ [y], r') := by simp [rdN, h, hy]
theorem rdN_none {k : Nat} {l : List UInt8} (h : rdN k l = none) : ∀ m, k ≤ m → rdN m l = none
  | 0, hm => by obtain rfl : k = 0 := by omega
                exact h
  | m + 1, hm => by
    by_cases e : k = m + 1
    · exact e ▸ h
    · simp [rdN, rdN_none h m (by omega)]
theorem rdN_stop {k m : Nat} {l r : List UInt8} {xs : List Ins} (h : rdN k l = some (xs, r)) (hy : rdIns r = none) (hm : k < m) : rdN m l = none :=
  rdN_none (k := k + 1) (by simp [rdN, h, hy]) m (by omega)
theorem rdN_length : ∀ {k : Nat} {l r : List UInt8} {xs : List Ins}, rdN k l = some (xs, r) → xs.length = k
  | 0, l, r, xs, h => by simp [rdN] at h; rw [h.1]; rfl
  | k + 1, l, r, xs, h => by
    simp only [rdN, Option.bind_eq_some_iff, Option.map_eq_some_iff] at h
    obtain ⟨⟨ys, r1⟩, h1, ⟨y, r2⟩, h2, h3⟩ := h
    simp at h3
    rw [← h3.1, List.length_append, rdN_length h1]
    rfl
theorem wrap_i64 (n : Int) : I64 (wrap64 n) := by unfold I64 wrap64; omega
theorem rdIns_wf {l r : List UInt8} {y : Ins} (h : rdIns l = some (y, r)) : I64 y.1 ∧ I64 y.2 := by
  cases l with
  | nil => simp [rdIns] at h
  | cons x t =>
    have hx := x.toNat_lt
    have h1 : I64 (x.toNat : Int) := by unfold I64; omega
    rcases hn : numbered (x.toNat : Int) with _ | _
    · simp [rdIns, hn] at h
      rw [← h.1]
      exact ⟨h1, by unfold I64; omega⟩
    · by_cases hs : t.length < 8
      · simp [rdIns, hn, hs] at h
      · simp [rdIns, hn, hs] at h
        rw [← h.1]
        exact ⟨h1, wrap_i64 _⟩
theorem rdN_wf : ∀ {k : Nat} {l r : List UInt8} {xs : List Ins}, rdN k l = some (xs, r) → ∀ x ∈ xs, I64 x.1 ∧ I64 x.2
  | 0, l, r, xs, h => by simp [rdN] at h; rw [h.1]; simp
  | k + 1, l, r, xs, h => by
    simp only [rdN, Option.bind_eq_some_iff, Option.map_eq_some_iff] at h
    obtain ⟨⟨ys, r1⟩, h1, ⟨y, r2⟩, h2, h3⟩ := h
    simp at h3
    rw [← h3.1]
    intro x hx
    rcases List.mem_append.1 hx with hx | hx
    · exact rdN_wf h1 x hx
    · simp at hx; subst hx; exact rdIns_wf h2

def KindTo (g : Nat) (l : List UInt8) (w : World) (e : Ending) (w' : World) : Prop :=
  But (fun k => k = g) w w' ∧ match rdKind l with
  | none => e = .panicked codePanic
  | some (xs, r) => ∃ K, e = .returned (.slice (some ⟨K, 0, none⟩) xs.length xs.length) ∧ InsOwn w.heap.size w' (some ⟨K, 0, none⟩) xs.length xs ∧ RdAt w' g r
/-- so many instructions are read into the block K -/
def KRel (w : World) (g K n : Nat) (l : List UInt8) (i : Value) (wr : World) : Prop :=
  ∃ (k : Nat) (xs : List Ins) (r : List UInt8) (cur : Array Value), k ≤ n ∧ i = .int .i64 k ∧ rdN k l = some (xs, r) ∧ RdAt wr g r ∧ wr.heap[K]? = some (.cells cur 49 (0, 0)) ∧ cur.size = n * 2 ∧
    (∀ j, j < k → cur[j * 2]? = some (.int .i64 (xs.getD j (0, 0)).1) ∧ cur[j * 2 + 1]? = some (.int .i64 (xs.getD j (0, 0)).2)) ∧ (∀ (j : Nat) (u : Value), cur[j]? = some u → ∃ z, u = Value.int .i64 z) ∧ But (fun k => k = g) w wr

set_option maxHeartbeats 1000000 in
set_option maxRecDepth 100000 in
theorem kind_none (g : Nat) (w : World) (hr : RdAt w g []) : Calls Tryd.prog 55 #[.pointer (some ⟨g, 0, none⟩)] w (KindTo g [] w) := by
  have HR := Lib.hid hr
  clear hr
  go_enter Tryd.func55, Tryd.ntmps55
  go_wp2_with (first
    | (go_at_call 54; refine (number_no g [] 1 _ HR.out (by decide)).mono ?_; rintro e w' ⟨rfl, rfl⟩))
  exact ⟨rfl, But.refl _ _, rfl⟩

def zeroI (n : Nat) : Array Value := madeCells (Value.agg #[.int .i64 0, .int .i64 0]).cells (n * 2)
theorem zeroI_size (n : Nat) : (zeroI n).size = n * 2 := size_madeCells _ _
theorem zeroI_get (n : Nat) : ∀ (j : Nat) (u : Value), (zeroI n)[j]? = some u → ∃ z, u = Value.int .i64 z := by
  intro j u h
  have hj : j < n * 2 := by
    rcases Nat.lt_or_ge j (n * 2) with h' | h'
    · exact h'
    · rw [Array.getElem?_eq_none (by rw [zeroI_size]; exact h')] at h; cases h
  unfold zeroI madeCells at h
  rw [Array.getElem?_map, Array.getElem?_range, if_pos hj] at h
  simp only [Option.map_some, Option.some.injEq] at h
  rw [← h]
  have hz : (Value.agg #[.int .i64 0, .int .i64 0]).cells = #[.int .i64 0, .int .i64 0] := rfl
  rw [hz]
  rcases Nat.mod_two_eq_zero_or_one j with e | e
  · exact ⟨0, by show #[Value.int .i64 0, Value.int .i64 0][j % 2]! = _; rw [e]; rfl⟩
  · exact ⟨0, by show #[Value.int .i64 0, Value.int .i64 0][j % 2]! = _; rw [e]; rfl⟩
theorem madeI (n : Nat) (hn : n ≤ 255) : ∀ w : World, (Instr.makeSlice 46 (.int .i64 (n : Int)) (.int .i64 (n : Int))).run Tryd.prog w = .ok (.slice (some ⟨w.heap.size, 0, none⟩) n n) (w.alloc (.cells (zeroI n) 49)) := by
  intro w
  obtain ⟨i0, hi, hz0, hz1, hz2⟩ := info_parts infoI
  have := run_make (P := Tryd.prog) w 46 49 i0 (.agg #[.int .i64 0, .int .i64 0]) Tryd.underlying46 hi hz0 .i64 .i64 (n : Int) (n : Int) (by omega) (Int.le_refl _) (by rw [hz2]; omega) (by omega)
  rw [hz1] at this
  unfold zeroI
  simpa using this

set_option maxHeartbeats 2000000 in
set_option maxRecDepth 100000 in
theorem kind_some (g : Nat) (x : UInt8) (l : List UInt8) (w : World) (hr : RdAt w g (x :: l)) : Calls Tryd.prog 55 #[.pointer (some ⟨g, 0, none⟩)] w (KindTo g (x :: l) w) := by
  have hg := hr.lt
  have hx255 := x.toNat_lt
  obtain ⟨n, hn⟩ : ∃ n, n = x.toNat := ⟨_, rfl⟩
  have hn255 : n ≤ 255 := by omega
  have HN := Lib.hid hn
  have HR := Lib.hid hr
  have hmk := madeI n hn255
  obtain ⟨Z, hZ⟩ : ∃ Z, Z = zeroI n := ⟨_, rfl⟩
  rw [← hZ] at hmk
  have HZ := Lib.hid hZ
  clear hr hn hZ hx255
  go_enter Tryd.func55, Tryd.ntmps55
  go_wp2_with (first
    | (go_at_call 54; refine (number_yes g (x :: l) 1 _ HR.out (by simp) (by decide) (by decide)).mono ?_; rintro e w1 ⟨rfl, hr1, hb1⟩; rw [num1, ← HN.out]; have HR1 := Lib.hid hr1; have HB1 := Lib.hid hb1; clear hr1 hb1))
  clear hmk
  have hsz1 : w.heap.size ≤ w1.heap.size := HB1.out.size
  go_loopw [10] (fun i wr => KRel w g w1.heap.size n l i wr) (fun i _ => n - (intOf i).toNat)
  case atStart =>
    refine ⟨0, [], l, Z, Nat.zero_le _, rfl, rfl, by simpa using HR1.out.alloc _, heap_alloc_new _ _, by rw [HZ.out]; exact zeroI_size n, fun j hj => by omega, by rw [HZ.out]; exact zeroI_get n, HB1.out.alloc _⟩
  case round =>
    obtain ⟨k, xs, r, cur, hk, rfl, hrd, hrr, hK, hcs, hcur, hint, hbut⟩ := hrel
    have HRD := Lib.hid hrd
    have HRR := Lib.hid hrr
    have HK := Lib.hid hK
    have HCS := Lib.hid hcs
    have HCUR := Lib.hid hcur
    have HINT := Lib.hid hint
    have HBUT := Lib.hid hbut
    clear hrd hrr hK hcs hcur hint hbut
    by_cases hlt : k < n
    · rcases hri : rdIns r with _ | ⟨⟨o, m⟩, r'⟩
      · have HRI := Lib.hid hri
        clear hri
        go_wp2_with (first
          | (go_at_call 63; refine (instruction_no g r _ HRR.out HRI.out).mono ?_; rintro e w2 ⟨rfl, hb2⟩; have HB2 := Lib.hid hb2; clear hb2))
        refine ⟨rfl, HBUT.out.trans HB2.out, ?_⟩
        have : rdKind (x :: l) = none := by
          show rdN x.toNat l = none
          rw [← HN.out]
          exact rdN_stop HRD.out HRI.out hlt
        rw [this]
      · have HRI := Lib.hid hri
        clear hri
        go_wp2_with (first
          | (go_at_call 63; refine (instruction_yes g r (o, m) r' _ HRR.out HRI.out).mono ?_; rintro e w2 ⟨rfl, hr2, hb2⟩; refine Hid.out ?_))
        have hKg : ¬ w1.heap.size = g := by omega
        have hK2 : w2.heap[w1.heap.size]? = some (.cells cur 49 (0, 0)) := hb2.heap HK.out hKg
        have hs := HCS.out
        obtain ⟨z0, hz0⟩ := HINT.out (k * 2) _ (Array.getElem?_eq_getElem (by omega))
        obtain ⟨z1, hz1⟩ := HINT.out (k * 2 + 1) _ (Array.getElem?_eq_getElem (by omega))
        have r0 : w2.cell? ⟨w1.heap.size, k * 2, none⟩ = some (.int .i64 z0) := by rw [cell_of_row _ _ _ _ _ _ hK2, Array.getElem?_eq_getElem (by omega), hz0]
        have r1 : w2.cell? ⟨w1.heap.size, k * 2 + 1, none⟩ = some (.int .i64 z1) := by rw [cell_of_row _ _ _ _ _ _ hK2, Array.getElem?_eq_getElem (by omega), hz1]
        have f0 : w2.frozen? ⟨w1.heap.size, k * 2, none⟩ = false := frozen_of_row _ _ _ _ _ hK2
        have f1 : w2.frozen? ⟨w1.heap.size, k * 2 + 1, none⟩ = false := frozen_of_row _ _ _ _ _ hK2
        have HK2 := Lib.hid hK2
        have HR2 := Lib.hid hr2
        have HB2 := Lib.hid hb2
        clear hK2 hr2 hb2 hs hz0 hz1
        refine Lib.hid ?_
        go_wp2
        go_roundw
        case rel =>
          have hs := HCS.out
          have hset := heap_setCell_same (w2.setCell ⟨w1.heap.size, k * 2, none⟩ (.int .i64 o)) w1.heap.size (k * 2 + 1) _ _ (.int .i64 m) (heap_setCell_same w2 w1.heap.size (k * 2) cur _ (.int .i64 o) HK2.out)
          have hxl := rdN_length HRD.out
          refine ⟨k + 1, xs ++ [(o, m)], r', _, by omega, by go_num, rdN_step HRD.out HRI.out, ?_, hset, by simpa using hs, fun j hj => ?_, fun j u hu => ?_, ?_⟩
          · exact HR2.out.but (((But.refl (fun j => j = w1.heap.size) _).setCell (.inl rfl) _).setCell (.inl rfl) _) (by show ¬ g = w1.heap.size; omega) (fun B off z hc e => by
              subst e
              rw [cell_of_row _ _ _ _ _ _ HK2.out] at hc
              obtain ⟨z', hz'⟩ := HINT.out _ _ hc
              cases hz')
          · by_cases hjk : j = k
            · subst hjk
              have e1 : (xs ++ [(o, m)]).getD j (0, 0) = (o, m) := by simp [List.getD, ← hxl]
              rw [e1]
              constructor
              · rw [Array.getElem?_setIfInBounds_ne (by omega)]
                simp [show j * 2 < cur.size from by omega]
              · simp [show j * 2 + 1 < cur.size from by omega]
            · obtain ⟨c1, c2⟩ := HCUR.out j (by omega)
              have e1 : (xs ++ [(o, m)]).getD j (0, 0) = xs.getD j (0, 0) := by simp [List.getD, List.getElem?_append_left (show j < xs.length from by omega)]
              rw [e1, Array.getElem?_setIfInBounds_ne (by omega), Array.getElem?_setIfInBounds_ne (by omega), Array.getElem?_setIfInBounds_ne (by omega), Array.getElem?_setIfInBounds_ne (by omega)]
              exact ⟨c1, c2⟩
          · rw [Array.getElem?_setIfInBounds] at hu
            split at hu
            · split at hu
              · cases hu; exact ⟨_, rfl⟩
              · cases hu
            · rw [Array.getElem?_setIfInBounds] at hu
              split at hu
              · split at hu
                · cases hu; exact ⟨_, rfl⟩
                · cases hu
              · exact HINT.out j u hu
          · exact ((HBUT.out.trans HB2.out).setCell (.inr hsz1) _).setCell (.inr hsz1) _
        case measure => simp [intOf]; omega
    · obtain rfl : k = n := by omega
      go_wp2
      go_ret
      refine ⟨HBUT.out, ?_⟩
      have hkd : rdKind (x :: l) = some (xs, r) := by
        show rdN x.toNat l = _
        rw [← HN.out]
        exact HRD.out
      rw [hkd]
      have hxl := rdN_length HRD.out
      have hs := HCS.out
      have hlt : w1.heap.size < wr.heap.size := heap_lt HK.out
      refine ⟨w1.heap.size, by rw [hxl]; rfl, ⟨⟨rfl, rdN_wf HRD.out, by omega, .inr ⟨w1.heap.size, 0, rfl, hlt, fun i hi => ?_⟩⟩, .inr ⟨w1.heap.size, cur, rfl, hsz1, HK.out⟩⟩, HRR.out⟩
      rw [cell_of_row _ _ _ _ _ _ HK.out, cell_of_row _ _ _ _ _ _ HK.out, Nat.zero_add]
      exact HCUR.out i (by omega)
theorem kind_any (g : Nat) (l : List UInt8) (w : World) (hr : RdAt w g l) : Calls Tryd.prog 55 #[.pointer (some ⟨g, 0, none⟩)] w (KindTo g l w) := by
  cases l with
  | nil => exact kind_none g w hr
  | cons x l => exact kind_some g x l w hr
theorem kind_no (g : Nat) (l : List UInt8) (w : World) (hr : RdAt w g l) (h : rdKind l = none) : Calls Tryd.prog 55 #[.pointer (some ⟨g, 0, none⟩)] w (PanicsB g w) :=
  (kind_any g l w hr).mono fun _ _ ⟨hb, hm⟩ => by
    rw [h] at hm
    exact ⟨hm, hb⟩
def KindRd (g : Nat) (xs : List Ins) (r : List UInt8) (w : World) (e : Ending) (w' : World) : Prop :=
  ∃ K, e = .returned (.slice (some ⟨K, 0, none⟩) xs.length xs.length) ∧ InsOwn w.heap.size w' (some ⟨K, 0, none⟩) xs.length xs ∧ RdAt w' g r ∧ But (fun k => k = g) w w'
theorem kind_yes (g : Nat) (l : List UInt8) (xs : List Ins) (r : List UInt8) (w : World) (hr : RdAt w g l) (h : rdKind l = some (xs, r)) : Calls Tryd.prog 55 #[.pointer (some ⟨g, 0, none⟩)] w (KindRd g xs r w) :=
  (kind_any g l w hr).mono fun _ _ ⟨hb, hm⟩ => by
    rw [h] at hm
    obtain ⟨K, h1, h2, h3⟩ := hm
    exact ⟨K, h1, h2, h3, hb⟩
end Go.Proofs.YtlgbkbmjfmomkaaDoor
