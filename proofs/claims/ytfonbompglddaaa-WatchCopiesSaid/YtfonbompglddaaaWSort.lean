/-
  slices.Sort of a row of one's own, slices.Sorted of a map's numbers.
-/
import Derived.Test.YtfonbompglddaaaSPdqV
import Derived.Test.YtfonbompglddaaaWKeys
namespace Go.Proofs.Ytfonbompglddaaa
open Go Go.Shelf Go.RowKit Go.Lib Go.Sort Go.Proofs

theorem ins_nil (w : World) : Calls Try.prog 43 #[.slice none 0 0, .int .i64 0, .int .i64 0] w fun e w' => e = .returned (.tuple #[]) ∧ w' = w := by
  go_enter Try.func43, Try.ntmps43
  go_wp2
  go_loopg [6] 0 (fun _ s6 wr => s6 = .int .i64 1 ∧ w = wr)
  case atStart => exact ⟨by go_num, rfl⟩
  case round =>
    obtain ⟨rfl, rfl⟩ := hrel
    go_wp2_with fail
    go_end0
    exact ⟨rfl, rfl⟩
set_option maxHeartbeats 4000000 in
set_option maxRecDepth 100000 in
theorem pdq_nil (w : World) : Calls Try.prog 41 #[.slice none 0 0, .int .i64 0, .int .i64 0, .int .i64 0] w fun e w' => e = .returned (.tuple #[]) ∧ w' = w := by
  go_enter Try.func41, Try.ntmps41
  go_wp2_with fail
  go_loopg [1, 2, 3, 8, 9] 0 (fun _ s1 s2 s3 s8 s9 wr => s1 = .int .i64 0 ∧ s2 = .int .i64 0 ∧ s3 = .int .i64 0 ∧ s8 = .bool true ∧ s9 = .bool true ∧ w = wr)
  case atStart => exact ⟨by go_num, by go_num, by go_num, rfl, rfl, rfl⟩
  case round =>
    obtain ⟨rfl, rfl, rfl, rfl, rfl, rfl⟩ := hrel
    go_wp2_with (go_at_call 43; refine (ins_nil _).mono ?_; rintro e w1 ⟨rfl, rfl⟩)
    refine bodyPost_ret (results_none rfl _ _ _) rfl ⟨rfl, rfl⟩
theorem len_enough {n : Nat} (h : n ≤ 16) : n ≤ bitsLen n + 12 ∧ bitsLen n ≤ 64 := by
  by_cases h1 : n ≤ 12
  · have := (bitsLen_le_iff n 64).2 (by omega)
    omega
  · by_cases h2 : n = 16
    · rw [(len_v n).2 h2]; omega
    · rw [(len_v n).1 (by omega)]; omega
/-- a row of the call's own is sorted -/
def SortU (B : Nat) (v : Value) (l : List Nat) (w : World) (e : Ending) (w' : World) : Prop := e = .returned (.tuple #[]) ∧ ∃ s, IdC.Own uT B w' v s ∧ s.Perm l ∧ (s.Pairwise fun x y => x < y) ∧ Below B w w'
theorem id_cells (l : List Nat) : IdC.cells l = l.map uV := by
  induction l with
  | nil => rfl
  | cons a t ih =>
    show uV a :: IdC.cells t = _
    rw [ih]
    rfl
set_option maxHeartbeats 2000000 in
theorem sort_any {B : Nat} {w : World} {v : Value} {l : List Nat} (h : IdC.Own uT B w v l) (hl : l.length ≤ 16) (hd : l.Nodup) : Calls Try.prog 38 #[v] w (SortU B v l w) := by
  have h' := h
  obtain ⟨h1, ⟨rfl, hn⟩ | ⟨g, cap, cur, rfl, hg, hh, hc, hm, hs, ht⟩⟩ := h
  · obtain rfl : l = [] := List.eq_nil_of_length_eq_zero hn
    have H' : Hid (IdC.Own uT B w (.slice none 0 0) []) := h'
    clear h' h1 hn hd hl
    go_enter Try.func38, Try.ntmps38
    go_wp2_with (first
      | (go_at_call 41; refine (pdq_nil _).mono ?_; rintro e w1 ⟨rfl, rfl⟩)
      | (go_at_call 42; refine (len_is (n := 0) (z := 0) (by omega) rfl _).mono ?_; rintro e w1 ⟨rfl, rfl⟩))
    go_end0
    exact ⟨rfl, [], H'.out, List.Perm.refl _, List.Pairwise.nil, Below.refl _ _⟩
  · have hw : w.ownsRow B uT 1 (.slice (some ⟨g, 0, none⟩) l.length cap) l.length (IdC.cells l) := h'
    have hr : Rw w w g l.toArray := by
      refine ⟨fun j hj => ?_, fun j => World.ownsRow.frozenAt hw j, (Array.getElem?_eq_some_iff.1 hh).1, But.refl _ _, fun cur _ e => ⟨cur, e, rfl⟩⟩
      have hj' : j < l.length := by simpa using hj
      rw [World.ownsRow.cellAt hw j (by omega), id_cells, List.getElem?_map, List.getElem?_eq_getElem hj', getElem!_pos _ j hj]
      simp
    obtain ⟨n, hn⟩ : ∃ n, n = l.length := ⟨_, rfl⟩
    have hpd := pdq_any n (c := cap) hr (n := n) (by rw [hn]; simp) 0 n (bitsLen n) (Nat.zero_le _) (Nat.le_refl _) (by omega) (by omega) (by have := (len_enough (n := n) (by omega)).1; omega) (len_enough (n := n) (by omega)).2 (.inl rfl) (by simpa using hd)
    have HP := Lib.hid hpd
    have HH := Lib.hid hh
    have HO : Hid (B ≤ g ∧ l.length ≤ cap ∧ cur.size = cap * 1 ∧ n = l.length ∧ cap ≤ maxLen) := by
      refine ⟨hg, hc, ?_, hn, ?_⟩ <;> first | assumption | omega
    have HD := Lib.hid hd
    have hl16 : n ≤ 16 := by omega
    have hl62 : IntKind.u64.wrap (n : Int) = (n : Int) := by rw [IntKind.wrap_u64]; omega
    rw [← hn]
    clear hpd hr hw h' h1 hg hh hc hm hs ht hd hn hl
    go_enter Try.func38, Try.ntmps38
    go_wp2_with (first
      | (go_at_call 41; refine Hid.out ?_)
      | (go_at_call 42; refine (len_any n hl16 _).mono ?_; rintro e w1 ⟨rfl, rfl⟩))
    refine Lib.hid ?_
    refine HP.out.mono ?_
    rintro e w1 ⟨d', rfl, hp, hso, hrw⟩
    have H1 := Lib.hid (And.intro hp (And.intro hso hrw))
    clear hp hso hrw
    go_wp2
    go_end0
    obtain ⟨hp, hso, hrw⟩ := H1.out
    have hz : d'.size = n := by rw [hp.1, HO.out.2.2.2.1]; simp
    have hnn := HO.out.2.2.2.1
    have hperm : d'.toList.Perm l := by
      have := perm_whole hp (by rw [hnn]; simp)
      simpa using this
    have hnd : d'.toList.Nodup := hperm.nodup_iff.2 HD.out
    obtain ⟨cur2, hc2, hz2⟩ := hrw.shp cur uT HH.out
    refine ⟨rfl, d'.toList, ?_, hperm, ?_, hrw.but.below (by have := HO.out.1; have := (Array.getElem?_eq_some_iff.1 HH.out).1; omega) fun k e => e ▸ HO.out.1⟩
    · show w1.ownsRow B uT 1 _ d'.toList.length (IdC.cells d'.toList)
      rw [Array.length_toList, hz]
      refine ⟨?_, .inr ⟨g, cap, cur2, rfl, HO.out.1, hc2, ?_, HO.out.2.2.2.2, ?_, ?_⟩⟩
      · rw [id_cells]; simp [hz]
      · have := HO.out.2.1; omega
      · rw [hz2]; exact HO.out.2.2.1
      · rw [id_cells]
        refine List.ext_getElem? fun j => ?_
        by_cases hj : j < n
        · have e := hrw.cell j (by omega)
          rw [cell_of_row _ _ _ _ _ _ hc2] at e
          rw [List.getElem?_take, if_pos (by omega), List.getElem?_map]
          rw [show cur2.toList[j]? = cur2[j]? by simp, e]
          rw [getElem!_pos d' j (by omega)]
          simp [hz, hj]
        · rw [List.getElem?_take, if_neg (by omega), List.getElem?_eq_none (by simp; omega)]
    · rw [List.pairwise_iff_getElem]
      intro i j hi hj hij
      have hi' : i < d'.size := by simpa using hi
      have hj' : j < d'.size := by simpa using hj
      have e := hso i j (Nat.zero_le _) hij (by omega)
      have hne := nodup_ne hnd hi' hj' (by omega)
      rw [getElem!_pos d' i hi', getElem!_pos d' j hj'] at e hne
      simp [ltN] at e
      simp
      omega
/-- the numbers, rising, in a row of one's own -/
def SortedU (L : List On) (w : World) (e : Ending) (w' : World) : Prop := ∃ v, e = .returned v ∧ IdC.Own uT w.heap.size w' v (ids L) ∧ Below w.heap.size w w'
theorem sorted_any (w : World) (S0 : Nat) (L : List On) (hL : Wl L) (h : MBox w S0 L) :
    Calls Try.prog 33 #[.func (.func 39) #[] #[.pointer (some ⟨S0, 0, none⟩)]] w (SortedU L w) := by
  have HL : Hid (Wl L) := hL
  have H : Hid (MBox w S0 L) := h
  have hup : (ids L).Pairwise fun x y => x < y := List.pairwise_map.2 hL.up
  have HUP := Lib.hid hup
  clear hL h hup
  go_enter Try.func33, Try.ntmps33
  go_wp2_with (go_at_call 37; refine Hid.out ?_)
  refine Lib.hid ?_
  refine (collect_any _ S0 L HL.out H.out).mono ?_
  rintro e w1 ⟨v, ys, rfl, h1, h2, h3⟩
  have H1 := Lib.hid (And.intro h1 (And.intro h2 h3))
  have hys : ys.length ≤ 16 := by rw [h2.length_eq]; simpa using HL.out.le
  have hnd : ys.Nodup := h2.nodup_iff.2 (HUP.out.imp fun h e => by rw [e] at h; exact Nat.lt_irrefl _ h)
  have HS := Lib.hid (sort_any h1 hys hnd)
  clear h1 h2 h3 hys hnd
  go_wp2_with (go_at_call 38; refine Hid.out ?_)
  refine Lib.hid ?_
  refine HS.out.mono ?_
  rintro e w2 ⟨rfl, s, k1, k2, k3, k4⟩
  have H2 := Lib.hid (And.intro k1 (And.intro k2 (And.intro k3 k4)))
  clear k1 k2 k3 k4
  go_wp2
  go_ret
  obtain ⟨k1, k2, k3, k4⟩ := H2.out
  have hs : s = ids L := (k2.trans H1.out.2.1).eq_of_pairwise (le := fun x y => x < y) (fun a b _ _ h1 h2 => by omega) k3 HUP.out
  exact ⟨v, rfl, hs ▸ k1, H1.out.2.2.trans k4⟩
end Go.Proofs.Ytfonbompglddaaa
