/-
  The walk of few; acts in a row.
-/
import Derived.Test.YtfchfhkhflghbaaOOpen
import Derived.Test.YtfchfhkhflghbaaOLook
namespace Go.Proofs.Ytfchfhkhflghbaa
open Go Go.RowKit Go.Lib Go.Sort Go.Proofs

abbrev ActAt (w : World) (B o : Nat) (y : Ac) : Prop := w.cell? ⟨B, o, none⟩ = some (.int .i64 y.1) ∧ w.cell? ⟨B, o + 1, none⟩ = some (SlV y.2.1) ∧ w.cell? ⟨B, o + 2, none⟩ = some (.int .i64 y.2.2)
theorem act_at {w : World} {B o : Nat} {y : Ac} (h : AcC.Cell w B o y) : ActAt w B o y := ⟨h 0 (by decide), h 1 (by decide), h 2 (by decide)⟩
/-- acts that came in -/
structure Acts (W : World) (a : Option Addr) (n : Nat) (l : List Ac) : Prop where
  len : l.length = n
  le : n ≤ maxLen
  good : ∀ x ∈ l, Good W x.2.1
  part : ∀ m, m ≤ n → m ≤ 1000000 → AcC.At W a m (l.take m)
theorem Acts.below {W W' : World} {a : Option Addr} {n : Nat} {l : List Ac} (h : Acts W a n l) (hb : Below W.heap.size W W') : Acts W' a n l :=
  ⟨h.len, h.le, fun x hx => by
    obtain ⟨b, h1, h2, h3, h4, h5⟩ := h.good x hx
    exact ⟨b, h1, h2, h3, fun hs => (h4 hs).below hb, h5⟩, fun m h1 h2 => (h.part m h1 h2).below hb⟩
theorem Acts.cell {W : World} {a : Option Addr} {n : Nat} {l : List Ac} (h : Acts W a n l) {i : Nat} (hi : i < n) (hi2 : i < 1000) : ∃ B off x, a = some ⟨B, off, none⟩ ∧ B < W.heap.size ∧ l[i]? = some x ∧ ActAt W B (off + i * 3) x := by
  obtain ⟨B, off, e, hB, x, hx, hc⟩ := (h.part (min n 1000) (Nat.min_le_left _ _) (by omega)).cell (i := i) (by omega)
  rw [List.getElem?_take_of_lt (by omega)] at hx
  exact ⟨B, off, x, e, hB, hx, act_at hc⟩
/-- few, of few bytes each? -/
def fewB (n : Nat) (l : List Ac) (M : Nat) : Bool := decide (n ≤ M) && l.all fun x => decide (x.2.1.2.1 ≤ 300)
theorem fewB_yes {n M : Nat} {l : List Ac} (h : fewB n l M = true) : n ≤ M ∧ ∀ x ∈ l, x.2.1.2.1 ≤ 300 := by
  unfold fewB at h
  rw [Bool.and_eq_true, decide_eq_true_eq, List.all_eq_true] at h
  exact ⟨h.1, fun x hx => of_decide_eq_true (h.2 x hx)⟩
theorem fewB_no {n M i : Nat} {l : List Ac} {x : Ac} (hx : l[i]? = some x) (hb : ¬ x.2.1.2.1 ≤ 300) : fewB n l M = false := by
  cases e : fewB n l M with
  | false => rfl
  | true => exact absurd ((fewB_yes e).2 x (List.mem_of_getElem? hx)) hb
theorem fewB_far {n M : Nat} {l : List Ac} (h : ¬ n ≤ M) : fewB n l M = false := by
  cases e : fewB n l M with
  | false => rfl
  | true => exact absurd (fewB_yes e).1 h
/-- .. if so, they are -/
def FewTo (n : Nat) (l : List Ac) (M : Nat) (w : World) (e : Ending) (w' : World) : Prop := w' = w ∧ ∃ t, e = .returned (.bool t) ∧ (t = true → n ≤ M ∧ ∀ x ∈ l, x.2.1.2.1 ≤ 300)
set_option maxHeartbeats 1000000 in
theorem few_b {w : World} {a : Option Addr} {n c : Nat} {l : List Ac} (h : Acts w a n l) (M : Nat) (hM : M ≤ 100) : Calls Try.prog 6 #[.slice a n c, .int .i64 (M : Nat)] w (fun e w' => w' = w ∧ e = .returned (.bool (fewB n l M))) := by
  have H := Lib.hid h
  have hn : n ≤ 9223372036854775807 := h.le
  clear h
  go_enter Try.func6, Try.ntmps6
  go_wp2
  go_loopg [5] (M + 2) (fun kx s5 wr => ∃ i : Nat, s5 = .int .i64 i ∧ i ≤ n ∧ i ≤ M + 1 ∧ M + 2 - i ≤ kx ∧ Aside (wr = w ∧ ∀ j, j < i → ∀ x, l[j]? = some x → x.2.1.2.1 ≤ 300))
  case atStart => exact ⟨0, by go_num, Nat.zero_le _, Nat.zero_le _, by omega, rfl, fun j hj => absurd hj (Nat.not_lt_zero _)⟩
  case round =>
    obtain ⟨i, rfl, hin, hiM, hkx, A⟩ := hrel
    obtain ⟨rfl, hall⟩ := A.out
    have HA := Lib.hid hall
    clear A hall
    by_cases hlt : i < n
    · have hlz : decide (i < n) = true := by simpa using hlt
      by_cases hle : i ≤ M
      · have hlz2 : decide (i ≤ M) = true := by simpa using hle
        obtain ⟨B, off, ⟨k, ⟨p, bn, bc⟩, m⟩, rfl, hB, hx, x0, x1, x2⟩ := H.out.cell hlt (by omega)
        have HX := Lib.hid hx
        clear hB hx
        by_cases hb : bn ≤ 300
        · have hg : decide (bn > 300) = false := by simpa using hb
          have hg2 : decide ((bn : Int) > 300) = false := by simp; omega
          have HB := Lib.hid hb
          clear hb
          go_wp2
          go_roundg (M + 2 - (i + 1))
          case measure => omega
          case rel =>
            refine ⟨i + 1, by go_num, by omega, by omega, by omega, rfl, fun j hj x hxj => ?_⟩
            by_cases hji : j = i
            · subst hji
              rw [HX.out] at hxj
              cases hxj
              exact HB.out
            · exact HA.out j (by omega) x hxj
        · have hg : decide (bn > 300) = true := by simpa using hb
          have hg2 : decide ((bn : Int) > 300) = true := by simp; omega
          have HNO := Lib.hid (fewB_no (n := n) (M := M) HX.out hb)
          clear hb
          go_wp2
          go_ret
          exact ⟨rfl, by rw [HNO.out]; rfl⟩
      · have hlz2 : decide (i ≤ M) = false := by simpa using hle
        have hnm : decide (n ≤ M) = false := by simp; omega
        have HNO := Lib.hid (fewB_far (n := n) (M := M) (l := l) (by omega))
        go_wp2
        go_ret
        exact ⟨rfl, by rw [HNO.out]; rfl⟩
    · have hlz : decide (i < n) = false := by simpa using hlt
      obtain rfl : i = n := by omega
      have HL := Lib.hid H.out.len
      cases hd : decide (i ≤ M)
      all_goals
        go_wp2
        go_ret
        refine ⟨rfl, ?_⟩
      · rw [fewB_far (of_decide_eq_false hd)]
        rfl
      · have hy : fewB i l M = true := by
          unfold fewB
          rw [hd, Bool.true_and, List.all_eq_true]
          intro x hx
          obtain ⟨j, hj, rfl⟩ := List.mem_iff_getElem.1 hx
          exact decide_eq_true (HA.out j (by rw [← HL.out]; exact hj) _ (List.getElem?_eq_getElem hj))
        rw [hy]
        rfl
theorem few_any {w : World} {a : Option Addr} {n c : Nat} {l : List Ac} (h : Acts w a n l) (M : Nat) (hM : M ≤ 100) : Calls Try.prog 6 #[.slice a n c, .int .i64 (M : Nat)] w (FewTo n l M w) :=
  (few_b h M hM).mono fun _ _ ⟨hw, he⟩ => ⟨hw, _, he, fewB_yes⟩
end Go.Proofs.Ytfchfhkhflghbaa
