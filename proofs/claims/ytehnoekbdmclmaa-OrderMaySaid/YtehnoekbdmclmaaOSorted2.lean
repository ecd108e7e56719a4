/-
  The walk of order.Sorted, continued: Clone, SortStableFunc, Sorted.
-/
import Derived.Test.YtehnoekbdmclmaaOSorted
import Derived.RowKit
namespace Go.Proofs.Ytehnoekbdmclmaa
open Go Go.Shelf Go.RowKit Go.Lib Go.Sort Go.Proofs StM

theorem infoE : (Try.prog.info? 28).map (fun i => (i.zero, i.size, i.bytes)) = some (some (.agg #[.int .i64 0, .int .i64 0, .int .i64 0, .int .i64 0, .int .i64 0, .int .i64 0]), 6, 48) := by kernel_rfl
theorem infoK : (Try.prog.info? 23).map (fun i => (i.zero, i.size, i.bytes)) = some (some (.agg #[.int .i64 0, .int .i64 0, .int .i64 0]), 3, 24) := by kernel_rfl
def EvTo (l : List Ev) (w : World) (e : Ending) (w' : World) : Prop := ∃ v, e = .returned v ∧ EvOwn w.heap.size w' v l ∧ Below w.heap.size w w'

theorem evAt_news {w : World} {ad : Addr} {n : Nat} {l : List Ev} (h : EvAt w (some ad) n l) : ∀ j u, (evCells l)[j]? = some u → w.cell? (ad.add j) = some u := by
  intro j u hj
  obtain ⟨h1, h2, h3 | ⟨B, off, e, hB, hc⟩⟩ := h
  · have : (evCells l).length = 0 := by rw [evCells_len]; omega
    rw [List.eq_nil_of_length_eq_zero this] at hj
    cases hj
  · cases e
    rw [Addr.add_lit]
    exact EvAt.news ⟨h1, h2, .inr ⟨B, off, rfl, hB, hc⟩⟩ j u hj

set_option maxHeartbeats 2000000 in
set_option maxRecDepth 100000 in
theorem clone_any (w : World) (a : Option Addr) (n c : Nat) (l : List Ev) (hl : EvAt w a n l) : Calls Try.prog 21 #[.slice a n c] w (EvTo l w) := by
  obtain ⟨i0, hi, hz0, hz1, hz2⟩ := info_parts infoE
  have q22 : ∀ (w : World) (a : Option Addr) (n c n' c' : Nat), (binOp .eql 33 (.slice a n c) (.slice none n' c')).run Try.prog w = .ok (.bool a.isNone) w := fun w a n c n' c' => Lib.run_eql_slice_nil w _ _ a n c n' c' Try.underlying33
  have hn := hl.1
  have hn2 := hl.2.1
  have HL := Lib.hid hl
  have HN := Lib.hid hn
  clear hl hn
  cases a with
  | none =>
    have h0 : n = 0 := by
      obtain ⟨_, _, h | ⟨_, _, h, _⟩⟩ := HL.out
      · exact h
      · cases h
    have H0 := Lib.hid h0
    clear h0
    go_enter Try.func21, Try.ntmps21
    go_wp2
    go_ret
    refine ⟨_, rfl, ?_, Below.refl _ _⟩
    have : l = [] := List.eq_nil_of_length_eq_zero (by rw [HN.out, H0.out])
    rw [this]
    exact World.ownsRow_nil _ _ _ _
  | some ad =>
    go_enter Try.func21, Try.ntmps21
    go_wp2_with (at_builtin; refine wpList_append_own _ rfl _ _ 33 rfl w.heap.size 28 i0 _ 6 48 Try.underlying33 hi hz0 hz1 hz2 rfl (by decide) _ _ _ rfl (World.ownsRow_made w #[] 0 (Nat.le_refl _) (Nat.zero_le _) (by simp)) ad n c (evCells l) rfl ?qc1 ?qc2 ?qc3 ?qc4 ?qc5 ?qc6 ?_)
    case qc1 => rw [evCells_len, HN.out]
    case qc2 => exact evAt_news (HL.out.below ((Below.refl _ w).alloc (Nat.le_refl _) _))
    case qc3 => exact evCells_one l
    case qc4 => unfold maxLen; omega
    case qc5 => omega
    case qc6 => simp
    intro v' w1 hown hgrow _
    have HOWN := Lib.hid hown
    have HG := Lib.hid hgrow
    clear hown hgrow
    go_wp2
    go_ret
    refine ⟨v', rfl, ?_, ?_⟩
    · have h := HOWN.out
      rw [← HN.out] at h
      exact h
    · exact ((Below.refl _ w).alloc (Nat.le_refl _) _).grown HG.out (by simp) (by intro k hk; simp [Value.ownBlock] at hk; omega)

def SortTo (B : Nat) (v : Value) (l : List Ev) (w : World) (e : Ending) (w' : World) : Prop := e = .returned (.tuple #[]) ∧ EvOwn B w' v (evSort l) ∧ Below B w w'
set_option maxHeartbeats 1000000 in
theorem sortStable_any (B : Nat) (w : World) (v : Value) (l : List Ev) (h : EvOwn B w v l) (hl : l.length ≤ 1000000) : Calls Try.prog 22 #[v, .func (.func 10) #[] #[]] w (SortTo B v l w) := by
  have H := Lib.hid h
  obtain ⟨h1, ⟨rfl, hn⟩ | ⟨g, cap, cur, rfl, hg, hh, hc, hm, hs, ht⟩⟩ := h
  · have HN := Lib.hid hn
    clear hn h1
    go_enter Try.func22, Try.ntmps22
    go_wp2_with fail
    refine (stable_nil _).mono ?_
    rintro e w1 ⟨rfl, rfl⟩
    go_wp2
    go_end0
    refine ⟨rfl, ?_, Below.refl _ _⟩
    have : l = [] := List.eq_nil_of_length_eq_zero HN.out
    rw [this]
    exact World.ownsRow_nil _ _ _ _
  · have hlt : g < w.heap.size := (Array.getElem?_eq_some_iff.1 hh).1
    have HC := stableE g 0 cap l.length l.toArray w (own_holds hh ht) hlt (by simp) (by omega)
    have HX : Hid (_ ∧ _ ∧ _ ∧ _ ∧ _) := ⟨hh, hg, hc, hm, hs⟩
    obtain ⟨n, hn⟩ : ∃ n, n = l.length := ⟨_, rfl⟩
    rw [← hn] at HC ⊢
    have HN := Lib.hid hn
    have HCC := Lib.hid HC
    clear HC hh hg hc hm hs ht h1 hn
    go_enter Try.func22, Try.ntmps22
    go_wp2_with (go_at_call 24; refine HCC.out.mono ?_; rintro e w1 ⟨rfl, d', S1, hR⟩; have H1 := Lib.hid (And.intro S1 hR); clear S1 hR)
    go_end0
    obtain ⟨x1, x2, x3, x4, x5⟩ := HX.out
    obtain ⟨S1, hR⟩ := H1.out
    have hsz : d'.size = l.length := by rw [hR.kept.size]; simp
    obtain ⟨y1, y2⟩ := sorted_own (B := B) x1 x2 x3 x4 x5 hsz S1
    have e : d'.toList = evSort l := by
      have hO : SWO (ltOf evCmp) := by rw [ltOf_evCmp]; exact evLt_swo
      have hR' : SymTo (ltOf evCmp) 0 l.toArray.size l.toArray d' := by rw [show l.toArray.size = n by rw [HN.out]; simp]; exact hR
      have := isort_unique hO hR'
      rw [this, ltOf_evCmp]
      rfl
    rw [e] at y1
    refine ⟨rfl, ?_, y2.mono x2⟩
    rw [HN.out]
    exact y1

theorem sorted_len (l : List Ev) : (evSort l).length = l.length := by
  have key : ∀ (t acc : List Ev), (t.foldl (put evLt) acc).length = acc.length + t.length := by
    intro t
    induction t with
    | nil => intro acc; rfl
    | cons x t ih =>
      intro acc
      rw [List.foldl_cons, ih]
      have : ∀ (m : List Ev), (put evLt m x).length = m.length + 1 := by
        intro m
        induction m with
        | nil => rfl
        | cons y m ihm =>
          rw [put]
          split
          · rfl
          · rw [List.length_cons, ihm]
            rfl
      rw [this, List.length_cons]
      omega
  have h := key l []
  rw [List.length_nil, Nat.zero_add] at h
  exact h

set_option maxHeartbeats 1000000 in
theorem sorted_any (w : World) (a : Option Addr) (n c : Nat) (l : List Ev) (hl : EvAt w a n l) : Calls Try.prog 15 #[.slice a n c] w (EvTo (evSort l) w) := by
  have hn2 : l.length ≤ 1000000 := by have := hl.1; have := hl.2.1; omega
  have HL := Lib.hid hl
  clear hl
  go_enter Try.func15, Try.ntmps15
  go_wp2_with (first
    | (go_at_call 21; refine (clone_any _ _ _ _ l HL.out).mono ?_; rintro e w1 ⟨v, rfl, ho, hb⟩; have H1 := Lib.hid (And.intro ho hb); clear ho hb)
    | (go_at_call 22; refine (sortStable_any w.heap.size _ v l H1.out.1 hn2).mono ?_; rintro e w2 ⟨rfl, ho, hb⟩; have H2 := Lib.hid (And.intro ho hb); clear ho hb))
  go_ret
  exact ⟨v, rfl, H2.out.1, H1.out.2.trans H2.out.2⟩
end Go.Proofs.Ytehnoekbdmclmaa
