/-
  The walks of frame's Push and Wrong, and of bytes.Clone.
-/
import Derived.Test.YthlmjadknklafaaDoorFr2
import Derived.Laws.Cover3
namespace Go.Proofs.YthlmjadknklafaaDoor
open Go.RowKit CrcM FrM

theorem Row8.slice {w : World} {b : Nat} {v : Value} {l : List Nat} (h : Row8 w b v l) : ∃ a n cap, v = .slice a n cap := by
  rcases h with ⟨rfl, rfl⟩ | ⟨off, cap, cur, rfl, _⟩
  · exact ⟨none, 0, 0, rfl⟩
  · exact ⟨_, _, cap, rfl⟩
theorem Row8.own {w : World} {b gd : Nat} {v : Value} {l : List Nat} (h : Row8 w b v l) (hne : v = .slice none 0 0 ∨ b ≠ gd) : ¬ some gd = v.ownBlock := by
  rcases h with ⟨rfl, rfl⟩ | ⟨off, cap, cur, rfl, _⟩
  · simp [Value.ownBlock]
  · rcases hne with e | e
    · cases e
    · simp [Value.ownBlock]; exact fun h => e h.symm
theorem Row8.lt {w : World} {b : Nat} {v : Value} {l : List Nat} (h : Row8 w b v l) : v = .slice none 0 0 ∨ b < w.heap.size := by
  rcases h with ⟨rfl, rfl⟩ | ⟨off, cap, cur, rfl, hb, _⟩
  · exact .inl rfl
  · exact .inr (lt_of_block hb)

def Pushed (w : World) (gd lb at_ : Nat) (l : List Nat) (e : Ending) (w' : World) : Prop :=
  e = .returned (.tuple #[]) ∧ ∃ lb', Dec w' gd lb' at_ l 0 0 ∧ But (fun k => k = gd ∨ k = lb) w w' ∧ (lb' = lb ∨ (w.heap.size ≤ lb' ∧ lb' < w'.heap.size))

set_option maxHeartbeats 400000 in
theorem push_good (w : World) (gd lb at_ : Nat) (l : List Nat) (a : Option Addr) (len cap : Nat) (src : List Nat) (h : Dec w gd lb at_ l 0 0) (hs : Bts w a len src) (hsz : at_ + l.length + len ≤ 1000000) :
    Calls Tryd.prog 7 #[.pointer (some ⟨gd, 0, none⟩), .slice a len cap] w (Pushed w gd lb at_ (l ++ src)) := by
  have HD := Lib.hid h
  obtain ⟨v, hh, hr, hne, hx, hb1, hb2, hb3⟩ := h
  obtain ⟨c0, c1, c2, c3, cf⟩ := cells4 hh
  have hf1 := cf 1
  have H := Lib.hid hh
  have HR := Lib.hid hr
  have HX := Lib.hid hx
  have HS := Lib.hid hs
  have HE := Lib.hid hne
  clear hh hr hx hs cf hne
  go_enter Tryd.func7, Tryd.ntmps7
  go_wp2_with (first
    | (go_at_call 17; refine (isBroken_any _ gd lb _ _ _ _ HD.out).mono ?_; rintro e w' ⟨rfl, rfl⟩)
    | (at_builtin; refine wpList_append_row8 rfl _ _ rfl lb v l a len cap src rfl HR.out rfl HS.out (by omega) ?_; intro v' w1 b' hr1 hg1 hc1; have HR1 := Lib.hid hr1; have HG1 := Lib.hid hg1; have HC1 := Lib.hid hc1; have hgd := HR.out.own HE.out; obtain ⟨a1, n1, cap1, rfl⟩ := hr1.slice; have hd1 := Lib.hid ((But.grown hg1).heap H.out hgd); have hcx := (cells4 hd1.out).2.1; have hfx := (cells4 hd1.out).2.2.2.2 1; clear hr1 hg1 hc1))
  go_end0
  have hc := HC1.out
  have hneq : Value.slice a1 n1 cap1 = .slice none 0 0 ∨ b' ≠ gd := by
    rcases hc with ⟨rfl, h2⟩ | ⟨rfl, _⟩
    · rcases HE.out with e | e
      · exact .inl (h2 e)
      · exact .inr e
    · exact .inr (fun e => by have := lt_of_block H.out; omega)
  refine ⟨rfl, b', ⟨_, heap_set hd1.out _, ?_, hneq, fun x hx => ?_, ?_, hb2, hb3⟩, ?_, ?_⟩
  · rcases HR1.out with hn | ⟨off, c, cur, e, hb, hrest⟩
    · exact .inl hn
    · refine .inr ⟨off, c, cur, e, ?_, hrest⟩
      rw [heap_setCell_other _ _ _ _ (hneq.resolve_left fun e2 => by rw [e2] at e; cases e)]
      exact hb
  · rcases List.mem_append.1 hx with h | h
    · exact HX.out x h
    · exact HS.out.2.1 x h
  · have := HS.out.1; rw [List.length_append]; omega
  · refine But.setCell (S := fun k => k = gd ∨ k = lb) (p := ⟨gd, 1, none⟩) ((But.grown HG1.out).mono fun j _ hj => ?_) (.inl rfl) _
    rcases HR.out with ⟨rfl, _⟩ | ⟨off, c, cur, rfl, _⟩
    · simp [Value.ownBlock] at hj
    · simp [Value.ownBlock] at hj; exact .inr hj
  · rcases hc with ⟨rfl, _⟩ | ⟨rfl, h2⟩
    · exact .inl rfl
    · exact .inr ⟨Nat.le_refl _, by simp [World.setCell]; exact h2⟩

theorem wrong_good (w : World) (gd lb at_ wat : Nat) (l : List Nat) (h : Dec w gd lb at_ l wat 0) :
    Calls Tryd.prog 18 #[.pointer (some ⟨gd, 0, none⟩)] w fun e w' => e = .returned .nilIface ∧ w = w' := by
  have HD := Lib.hid h
  clear h
  go_enter Tryd.func18, Tryd.ntmps18
  go_wp2_with (go_at_call 17; refine (isBroken_any _ gd lb _ _ _ _ HD.out).mono ?_; rintro e w' ⟨rfl, rfl⟩)
  go_ret
  exact ⟨rfl, rfl⟩

/-- an error of frame's: where, and which -/
def Brk (w : World) (pb : Nat) (wat werr : Nat) : Prop := w.heap[pb]? = some (.cells #[.int .i64 (wat : Int), .int .i64 (werr : Int)] 47 (0, 0))
def TellsBrk (wat werr : Nat) (w : World) (e : Ending) (w' : World) : Prop :=
  ∃ pb, e = .returned (.iface 53 (.pointer (some ⟨pb, 0, none⟩))) ∧ Brk w' pb wat werr ∧ w.heap.size ≤ pb ∧ Below w.heap.size w w'

theorem wrong_bad (w : World) (gd lb at_ wat werr : Nat) (l : List Nat) (h : Dec w gd lb at_ l wat werr) (he : 0 < werr) :
    Calls Tryd.prog 18 #[.pointer (some ⟨gd, 0, none⟩)] w (TellsBrk wat werr w) := by
  have HD := Lib.hid h
  obtain ⟨v, hh, hr, hne, hx, hb1, hb2, hb3⟩ := h
  obtain ⟨c0, c1, c2, c3, cf⟩ := cells4 hh
  have hd : decide (werr ≠ 0) = true := by simp; omega
  clear hh hr hx hne
  go_enter Tryd.func18, Tryd.ntmps18
  go_wp2_with (go_at_call 17; refine (isBroken_any _ gd lb _ _ _ _ HD.out).mono ?_; rintro e w' ⟨rfl, rfl⟩; rw [hd])
  go_ret
  exact ⟨_, rfl, heap_alloc_new _ _, Nat.le_refl _, (Below.refl _ _).alloc (Nat.le_refl _) _⟩

/-- it answers these bytes, as a slice of its own -/
def TellsOwn (src : List Nat) (w : World) (e : Ending) (w' : World) : Prop := ∃ v b, e = .returned v ∧ Row8 w' b v src ∧ w.heap.size ≤ b ∧ Below w.heap.size w w'

theorem eql_slice_nil (w : World) (a : Option Addr) (l c : Nat) : (binOp .eql 22 (.slice a l c) (.slice none 0 0)).run Tryd.prog w = .ok (.bool a.isNone) w := by
  simp only [binOp]
  simp [run_equal_slice_nil w 22 5 a l c Tryd.underlying22]

set_option maxRecDepth 100000 in
set_option maxHeartbeats 400000 in
theorem clone_any (w : World) (x : Addr) (len cap : Nat) (src : List Nat) (hs : Bts w (some x) len src) (hsz : len ≤ 1000000) :
    Calls Tryd.prog 25 #[.slice (some x) len cap] w (TellsOwn src w) := by
  have HS := Lib.hid hs
  have he := eql_slice_nil w (some x) len cap
  rw [show (some x).isNone = false from rfl] at he
  clear hs
  go_enter Tryd.func25, Tryd.ntmps25
  go_wp2_with (at_builtin; refine wpList_append_row8 rfl _ _ rfl w.heap.size _ [] (some x) len cap src rfl (.inr ⟨0, 0, #[], rfl, heap_alloc_new _ _, by simp, by simp, by simp, by simp⟩) rfl (HS.out.below ((Below.refl _ _).alloc (Nat.le_refl _) _)) (by simp; omega) ?_; intro v' w1 b' hr1 hg1 hc1; have HR1 := Lib.hid hr1; have HG1 := Lib.hid hg1; have HC1 := Lib.hid hc1; clear hr1 hg1 hc1)
  go_ret
  refine ⟨v', b', rfl, HR1.out, ?_, ((Below.refl _ _).alloc (Nat.le_refl _) _).grown HG1.out (by simp) (fun k hk => by cases hk; exact Nat.le_refl _)⟩
  rcases HC1.out with ⟨rfl, _⟩ | ⟨rfl, _⟩
  · exact Nat.le_refl _
  · simp
end Go.Proofs.YthlmjadknklafaaDoor
