/-
  The walks of frame's number, pass, Push, Wrong, and of bytes.Clone.
-/
import Derived.Test.YthlmjadknklafaaDoorFr1
import Derived.Deep.RegionWith
namespace Go.Proofs.YthlmjadknklafaaDoor
open Go.RowKit CrcM FrM

theorem num_snoc (l : List Nat) (x : Nat) : num (l ++ [x]) = 256 * num l + x := by simp [num, List.foldl_append]
theorem num_take (l : List Nat) (k : Nat) (h : k < l.length) : num (l.take (k + 1)) = 256 * num (l.take k) + l.getD k 0 := by
  rw [take_step l k h, num_snoc]
theorem num_lt (l : List Nat) (hb : ∀ x ∈ l, x < 256) : num l < 256 ^ l.length := by
  have key : ∀ (l : List Nat) (a m : Nat), (∀ x ∈ l, x < 256) → a < 256 ^ m → List.foldl (fun n x => 256 * n + x) a l < 256 ^ (m + l.length) := by
    intro l
    induction l with
    | nil => intro a m _ h; simpa using h
    | cons x r ih =>
      intro a m hb h
      have := ih (256 * a + x) (m + 1) (fun y hy => hb y (List.mem_cons_of_mem _ hy)) (by have := hb x List.mem_cons_self; rw [Nat.pow_succ]; omega)
      rw [show m + (x :: r).length = m + 1 + r.length from by simp; omega]
      exact this
  have := key l 0 0 hb (by simp)
  simpa [num] using this
theorem pow4 (k : Nat) (h : k ≤ 3) : 256 ^ k ≤ 16777216 := by
  have : 256 ^ k ≤ 256 ^ 3 := Nat.pow_le_pow_right (by omega) h
  omega
theorem num_low (l : List Nat) (k : Nat) (hb : ∀ x ∈ l, x < 256) (h : k ≤ 3) : num (l.take k) < 16777216 := by
  have h1 := num_lt (l.take k) (fun x hx => hb x (List.mem_of_mem_take hx))
  have h2 : (l.take k).length ≤ 3 := by rw [List.length_take]; omega
  have := pow4 _ h2
  omega
theorem num_top (l : List Nat) (hb : ∀ x ∈ l, x < 256) (h : l.length ≤ 4) : num l < top := by
  have h1 := num_lt l hb
  have : 256 ^ l.length ≤ 256 ^ 4 := Nat.pow_le_pow_right (by omega) h
  unfold top; omega

theorem or_low (a x : Nat) (h : x < 256) : 256 * a ||| x = 256 * a + x := by
  have := Nat.shiftLeft_add_eq_or_of_lt (i := 8) (b := x) (by simpa using h) a
  rw [Nat.shiftLeft_eq] at this
  rw [show 256 * a = a * 2 ^ 8 from by omega]
  exact this.symm

set_option maxRecDepth 100000 in
set_option maxHeartbeats 400000 in
theorem number_any (B off len cap : Nat) (l : List Nat) (w : World) (h : Bts w (some ⟨B, off, none⟩) len l) (hl4 : len ≤ 4) :
    Calls Tryd.prog 35 #[.slice (some ⟨B, off, none⟩) len cap] w (TellsU (num l) w) := by
  obtain ⟨hl, hb, _, hcase⟩ := h
  have hcell : ∀ i, i < len → w.cell? ⟨B, off + i, none⟩ = some (.int .u8 (l.getD i 0 : Nat)) := by
    rcases hcase with rfl | ⟨B', off', e, _, hc⟩
    · intro i hi; omega
    · cases e; exact hc
  have HL := Lib.hid hl
  have HB := Lib.hid hb
  have HX := Lib.hid hcell
  clear hcase hcell hb hl
  go_enter Tryd.func35, Tryd.ntmps35
  go_wp2
  go_loop [3, 5, 8] (fun r x i => ∃ (k : Nat) (rv : Int), k ≤ len ∧ i = .int .i64 k ∧ r = .int .u32 rv ∧ U rv (num (l.take k))) (fun _ _ i => len - (intOf i).toNat)
  case atStart => exact ⟨0, _, by omega, rfl, rfl, ⟨rfl, by simp [num, top]⟩⟩
  case round =>
    obtain ⟨k, rv, hk, rfl, rfl, hu⟩ := hrel
    have hr0 := hu.lo
    by_cases hlt : k < len
    · have hx := HX.out k hlt
      have hlow := num_low l k HB.out (by omega)
      have hr1 : rv < 16777216 := by rw [hu.1]; omega
      have hbk := HB.out _ (getD_mem l k (by rw [HL.out]; exact hlt))
      have hs := num_take l k (by rw [HL.out]; exact hlt)
      generalize hv : ((l.getD k 0 : Nat) : Int) = xv at hx
      have hb0 : 0 ≤ xv := by omega
      have hb1 : xv < 256 := by omega
      have HN : Hid (U (bits .or .u32 (rv * 256) xv) (num (l.take (k + 1)))) := by
        have e1 : rv * 256 = ((256 * num (l.take k) : Nat) : Int) := by rw [hu.1]; omega
        refine ⟨?_, ?_⟩
        · rw [e1, ← hv, u32_or_nat _ _ (by omega) (by omega), or_low _ _ hbk, hs]
        · rw [hs]; unfold top; omega
      clear hu hv hbk hlow hs
      go_wp2
      go_round
      case rel => exact ⟨k + 1, _, by omega, by go_num, rfl, HN.out⟩
      case measure => simp [intOf]; omega
    · have hge : ¬ ((k : Int) < (len : Int)) := by omega
      have HF := Lib.hid (hu.eq (show num (l.take k) = num l from by rw [List.take_of_length_le (by rw [HL.out]; omega)]))
      clear hu hlt
      go_wp2
      go_ret
      exact ⟨_, rfl, HF.out, rfl⟩

theorem heap_set {w : World} {gd i : Nat} {cs : Array Value} {t : TypeId} (h : w.heap[gd]? = some (.cells cs t (0, 0))) (v : Value) :
    (w.setCell ⟨gd, i, none⟩ v).heap[gd]? = some (.cells (cs.setIfInBounds i v) t (0, 0)) := heap_setCell_same w gd i cs t v h

theorem But.at_ {a b : World} {gd i : Nat} (h : But (fun k => k = gd) a b) (u : Value) : But (fun k => k = gd) a (b.setCell ⟨gd, i, none⟩ u) := h.setCell (S := fun k => k = gd) (p := ⟨gd, i, none⟩) rfl u

/-- pass: so many bytes are told -/
def Passed (w : World) (gd lb at_ : Nat) (l : List Nat) (e : Ending) (w' : World) : Prop := e = .returned (.tuple #[]) ∧ Dec w' gd lb at_ l 0 0 ∧ But (fun k => k = gd) w w'

set_option maxHeartbeats 400000 in
theorem pass_any (w : World) (gd lb at_ k : Nat) (l : List Nat) (h : Dec w gd lb at_ l 0 0) (hk : k ≤ l.length) (hk0 : 0 < k) :
    Calls Tryd.prog 26 #[.pointer (some ⟨gd, 0, none⟩), .int .i64 (k : Int)] w (Passed w gd lb (at_ + k) (l.drop k)) := by
  obtain ⟨v, hh, hr, hne, hx, hb1, hb2, hb3⟩ := h
  obtain ⟨c0, c1, c2, c3, cf⟩ := cells4 hh
  have hf0 := cf 0
  have hf1 := cf 1
  rcases hr with ⟨rfl, rfl⟩ | ⟨off, cap, cur, rfl, hb, h1, h2, h3, h4⟩
  · simp at hk; omega
  · have hkc : (k : Int) ≤ (cap : Int) := by omega
    have hkl : (k : Int) ≤ (l.length : Int) := by omega
    have hk00 : (0 : Int) ≤ (k : Int) := by omega
    have hneq : lb ≠ gd := hne.resolve_left (fun e => by cases e)
    have H := Lib.hid hh
    have HB := Lib.hid hb
    have HX := Lib.hid hx
    have H4 := Lib.hid h4
    clear hh hb hx h4 hne cf
    by_cases hlt : k < l.length
    · have hck : ¬ cap ≤ k := by omega
      have hck2 : ¬ k = cap := by omega
      have hz : (((l.length - k : Nat) : Int) == 0) = false := by simp; omega
      go_enter Tryd.func26, Tryd.ntmps26
      go_wp2
      go_end0
      refine ⟨rfl, ⟨_, heap_set (heap_set H.out _) _, ?_, .inr hneq, fun x hx => HX.out x (List.mem_of_mem_drop hx), by rw [List.length_drop]; omega, by omega, by omega⟩, ((But.refl _ _).at_ _).at_ _⟩
      refine .inr ⟨off + k, cap - k, cur, by rw [List.length_drop], ?_, by rw [List.length_drop]; omega, by omega, by omega, fun i hi => ?_⟩
      · rw [heap_setCell_other _ _ _ _ hneq, heap_setCell_other _ _ _ _ hneq]; exact HB.out
      · rw [List.length_drop] at hi
        rw [Nat.add_assoc, H4.out (k + i) (by omega)]
        simp [List.getD, List.getElem?_drop]
    · have hz : l.length - k = 0 := by omega
      have hd : l.drop k = [] := List.drop_eq_nil_of_le (by omega)
      by_cases hck : cap = k
      · go_enter Tryd.func26, Tryd.ntmps26
        go_wp2
        go_end0
        refine ⟨rfl, ⟨_, heap_set (heap_set (heap_set H.out _) _) _, .inl ⟨rfl, hd⟩, .inl rfl, by rw [hd]; simp, by rw [hd]; simp; omega, by omega, by omega⟩, (((But.refl _ _).at_ _).at_ _).at_ _⟩
      · have hck1 : ¬ cap ≤ k := by omega
        have hck2 : ¬ k = cap := by omega
        go_enter Tryd.func26, Tryd.ntmps26
        go_wp2
        go_end0
        refine ⟨rfl, ⟨_, heap_set (heap_set (heap_set H.out _) _) _, .inl ⟨rfl, hd⟩, .inl rfl, by rw [hd]; simp, by rw [hd]; simp; omega, by omega, by omega⟩, (((But.refl _ _).at_ _).at_ _).at_ _⟩
end Go.Proofs.YthlmjadknklafaaDoor
