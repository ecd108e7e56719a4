/-
  The walk of the document's DecodeRequest: the ways.
-/
import Derived.Test.YtnafeppljnjbeaaXA
import Derived.Test.YtnafeppljnjbeaaXM1
import Derived.Test.YtnafeppljnjbeaaXM2
import Derived.Test.YtnafeppljnjbeaaXC
import Derived.Test.YtnafeppljnjbeaaXR
import Derived.Test.YtnafeppljnjbeaaXH
import Derived.Test.YtnafeppljnjbeaaW19
import Derived.Deep.CutRange
import Derived.Deep.DeepCutAuto
import Derived.Deep.CutBlock
namespace Go.Proofs.Ytnafeppljnjbeaa
open Go Go.RowKit Go.Sort Go.Proofs

def bytesQ (q : Rq) : List UInt8 := byteI q.kind :: askQ q
theorem own_row (w : World) (k : Int) (B : Nat) (hB : B ≤ w.heap.size) : CB.Own 5 B (w.alloc (.cells #[.int .u8 (k % 256)] 5)) (.slice (some ⟨w.heap.size, 0, none⟩) 1 1) [byteI k] := by
  refine CB_own (l := [byteI k]) hB ?_ rfl (by decide)
  rw [show (cellsB [byteI k]).toArray = #[.int .u8 (k % 256)] by simp [byteI_val]]
  exact heap_alloc_new _ _
set_option maxHeartbeats 4000000 in
set_option maxRecDepth 100000 in
theorem rEncode_any (w : World) (q : Rq) (a : Option Addr) (cap : Nat) (h : Wf q) (ha : CB.At w a q.model.length q.model) (hnil : a = none → cap = 0) (hlen : q.model.length ≤ 5000) : Calls Try.prog 14 #[.agg (RqC q (.slice a q.model.length cap))] w (CloneTo (bytesQ q) w) := by
  have HE : Hid (∀ W, Below w.heap.size w W → Calls Try.prog 34 #[.agg (RqC q (.slice a q.model.length cap))] W (CloneTo (askQ q) W)) := fun W hW => Ask_any W q a cap h (ha.below hW) hnil hlen
  have HLN := Lib.hid (askQ_len q hlen)
  obtain ⟨mv, hmv⟩ : ∃ mv, mv = Value.slice a q.model.length cap := ⟨_, rfl⟩
  rw [← hmv] at HE ⊢
  obtain ⟨k, hk⟩ : ∃ k, k = q.kind := ⟨_, rfl⟩
  obtain ⟨l, hl⟩ : ∃ l, l = askQ q := ⟨_, rfl⟩
  have HBQ : Hid (bytesQ q = [byteI k] ++ l) := by rw [Lib.hid_eq, hk, hl]; rfl
  rw [HBQ.out]
  rw [← hl] at HE HLN
  obtain ⟨m, hm⟩ : ∃ m, m = l.length := ⟨_, rfl⟩
  have HM := Lib.hid (And.intro hm HLN.out)
  clear hmv h ha hnil hlen hl hm HLN
  go_enter Try.func14, Try.ntmps14
  go_wp2_with fail
  generalize hw1 : World.alloc _ _ = w1
  have hb1 : Below w.heap.size w w1 := by rw [← hw1]; exact (Below.refl _ _).alloc (Nat.le_refl _) _
  have hx1 : w1.heap[w.heap.size]? = some (.cells (RqC q mv) 32 (0, 0)) := by rw [← hw1]; exact heap_alloc_new _ _
  have dk : w1.cell? ⟨w.heap.size, 0, none⟩ = some (.int .i64 k) := by rw [hk]; exact (RqC_cells hx1).1
  have H1 := Lib.hid (And.intro hb1 hx1)
  clear hb1 hx1 hw1 hk
  refine wp_region_any (by kernel_rfl) ?_
  change wpAny _ _ _ _ _ _ _ (World.drew _)
  obtain ⟨wd, hwd⟩ : ∃ wd, wd = w1.drew := ⟨_, rfl⟩
  rw [← hwd]
  have H0 : Hid (Below w.heap.size w wd ∧ wd.heap[w.heap.size]? = some (.cells (RqC q mv) 32 (0, 0))) := by rw [hwd]; exact ⟨H1.out.1.drew, H1.out.2⟩
  replace dk : wd.cell? ⟨w.heap.size, 0, none⟩ = some (.int .i64 k) := by rw [hwd]; exact dk
  clear hwd
  refine wpAny_take (i := 0) (v := .pointer (some ⟨w.heap.size, 0, none⟩)) rfl (by kernel_rfl) (by kernel_rfl) (by kernel_rfl) (fun _ _ _ h => h) (Or.inl ⟨by rfl, fun w => by go_simp⟩) ?_
  refine wpAny_ready (rs := [1, 4]) (by kernel_rfl) (by simp) ?_
  refine AllReady.cons rfl (fun K hK => ?_) (AllReady.cons rfl (fun K hK => ?_) AllReady.nil)
  · go_simp
    refine hK _ _ ?_
    clear hK K
    refine wpAny_take (i := 2) (v := .int .u8 (k % 256)) rfl (by kernel_rfl) (by kernel_rfl) (by kernel_rfl) (fun _ _ _ h => h) (Or.inl ⟨by rfl, fun w => by go_simp; simp [IntKind.wrap, IntKind.signed, IntKind.bits]⟩) ?_
    refine wpAny_ready (rs := [3, 4]) (by kernel_rfl) (by simp) ?_
    refine AllReady.cons rfl (fun K hK => ?_) (AllReady.cons rfl (fun K hK => ?_) AllReady.nil)
    · go_simp
      refine hK _ _ ?_
      clear hK K
      have hor := own_row wd k w.heap.size H0.out.1.size
      have hbr : Below wd.heap.size wd (wd.alloc (.cells #[.int .u8 (k % 256)] 5)) := (Below.refl _ _).alloc (Nat.le_refl _) _
      revert hor hbr
      generalize World.alloc wd _ = wb
      intro hor hbr
      skip
      have H3 := Lib.hid hor
      replace H0 : Hid (Below w.heap.size w wb ∧ wb.heap[w.heap.size]? = some (.cells (RqC q mv) 32 (0, 0))) := ⟨H0.out.1.trans (hbr.mono H0.out.1.size), (hbr.block _ (Array.getElem?_eq_some_iff.1 H0.out.2).1).trans H0.out.2⟩
      replace dk := cell_below dk hbr
      clear hor hbr
      refine wpAny_ready (rs := [4]) (by kernel_rfl) (by simp) ?_
      refine AllReady.cons rfl (fun K hK => ?_) AllReady.nil
      · refine step_load_row rfl 32 (.tmp 1) rfl w.heap.size rfl 32 (RqC q mv) (0, 0) _ H0.out.2 Try.underlying32 rfl (infoQ _ _) ?_
        refine hK _ _ ?_
        clear hK K
        refine wpAny_ready (rs := [5]) (by kernel_rfl) (by simp) ?_
        refine AllReady.cons rfl (fun K hK => ?_) AllReady.nil
        · go_simp
          go_at_call 34
          refine (HE.out _ H0.out.1).mono ?_
          rintro e wa ⟨va, rfl, hoa, hba⟩
          obtain ⟨a5, n5, c5, rfl⟩ := hoa.shape
          dsimp only
          refine hK _ _ ?_
          clear hK K
          replace H3 := Lib.hid (H3.out.below hba)
          have H5 : Hid (CB.Own 5 w.heap.size wa (.slice a5 n5 c5) l) := hoa.mono H0.out.1.size
          replace H0 : Hid (Below w.heap.size w wa ∧ wa.heap[w.heap.size]? = some (.cells (RqC q mv) 32 (0, 0))) := ⟨H0.out.1.trans (hba.mono H0.out.1.size), (hba.block _ (Array.getElem?_eq_some_iff.1 H0.out.2).1).trans H0.out.2⟩
          replace dk := cell_below dk hba
          clear hoa hba
          refine wpAny_ready (rs := [6]) (by kernel_rfl) (by simp) ?_
          refine AllReady.cons rfl (fun K hK => ?_) AllReady.nil
          · obtain ⟨ad, c', e5, -, hat, -, hsh⟩ := H5.out.at_ (by have := HM.out.2; omega)
            injection e5 with e51 e52 e53
            cases ad with
            | none =>
              have hl0 : l = [] := by rcases hsh with ⟨_, h, _⟩ | ⟨g, h⟩; exact h; cases h
              have hc0 : c5 = 0 := by rcases hsh with ⟨_, _, h⟩ | ⟨g, h⟩; omega; cases h
              subst e51
              subst hl0
              obtain rfl : n5 = 0 := e52
              subst hc0
              clear e53 hat hsh
              refine rowB.step_none rfl (.tmp 6) (.tmp 8) rfl w.heap.size _ [byteI k] rfl H3.out rfl ?_
              refine hK _ _ ?_
              clear hK K
              have H6 : Hid (CB.Own 5 w.heap.size wa (.slice (some ⟨wd.heap.size, 0, none⟩) 1 1) ([byteI k] ++ []) ∧ Below w.heap.size w wa) := ⟨by rw [List.append_nil]; exact H3.out, H0.out.1⟩
              refine wpAny_take (i := 7) (v := .slice (some ⟨wd.heap.size, 0, none⟩) 1 1) rfl (by kernel_rfl) (by kernel_rfl) (by kernel_rfl) (fun _ _ _ h => h) (Or.inl ⟨by rfl, fun w => by go_simp⟩) ?_
              refine wpAny_done (by kernel_rfl) ?_ _
              go_wp2
              go_ret
              exact ⟨_, rfl, H6.out.1, H6.out.2⟩
            | some ad =>
              subst e51
              clear e53 hsh
              refine rowB.step rfl (.tmp 6) (.tmp 8) rfl w.heap.size _ [byteI k] rfl H3.out ad n5 c5 l rfl e52 hat.news (by have := HM.out.2; simp; omega) (by have := HM.out.2; simp; omega) H0.out.1.size ?_
              intro v6 w6 hown6 hgrow6 _
              obtain ⟨a6, n6, c6, rfl⟩ := hown6.shape
              refine hK _ _ ?_
              clear hK K
              have H6 : Hid (CB.Own 5 w.heap.size w6 (.slice a6 n6 c6) ([byteI k] ++ l) ∧ Below w.heap.size w w6) := ⟨hown6, H0.out.1.trans ((But.grown hgrow6).below H0.out.1.size fun i e => (H3.out.lt i e.symm).1)⟩
              clear hown6 hgrow6
              refine wpAny_take (i := 7) (v := .slice a6 n6 c6) rfl (by kernel_rfl) (by kernel_rfl) (by kernel_rfl) (fun _ _ _ h => h) (Or.inl ⟨by rfl, fun w => by go_simp⟩) ?_
              refine wpAny_done (by kernel_rfl) ?_ _
              go_wp2
              go_ret
              exact ⟨_, rfl, H6.out.1, H6.out.2⟩
    · refine step_load_row rfl 32 (.tmp 1) rfl w.heap.size rfl 32 (RqC q mv) (0, 0) _ H0.out.2 Try.underlying32 rfl (infoQ _ _) ?_
      refine hK _ _ ?_
      clear hK K
      refine wpAny_ready (rs := [3, 5]) (by kernel_rfl) (by simp) ?_
      refine AllReady.cons rfl (fun K hK => ?_) (AllReady.cons rfl (fun K hK => ?_) AllReady.nil)
      · go_simp
        refine hK _ _ ?_
        clear hK K
        have hor := own_row wd k w.heap.size H0.out.1.size
        have hbr : Below wd.heap.size wd (wd.alloc (.cells #[.int .u8 (k % 256)] 5)) := (Below.refl _ _).alloc (Nat.le_refl _) _
        revert hor hbr
        generalize World.alloc wd _ = wb
        intro hor hbr
        skip
        have H3 := Lib.hid hor
        replace H0 : Hid (Below w.heap.size w wb ∧ wb.heap[w.heap.size]? = some (.cells (RqC q mv) 32 (0, 0))) := ⟨H0.out.1.trans (hbr.mono H0.out.1.size), (hbr.block _ (Array.getElem?_eq_some_iff.1 H0.out.2).1).trans H0.out.2⟩
        replace dk := cell_below dk hbr
        clear hor hbr
        refine wpAny_ready (rs := [5]) (by kernel_rfl) (by simp) ?_
        refine AllReady.cons rfl (fun K hK => ?_) AllReady.nil
        · go_simp
          go_at_call 34
          refine (HE.out _ H0.out.1).mono ?_
          rintro e wa ⟨va, rfl, hoa, hba⟩
          obtain ⟨a5, n5, c5, rfl⟩ := hoa.shape
          dsimp only
          refine hK _ _ ?_
          clear hK K
          replace H3 := Lib.hid (H3.out.below hba)
          have H5 : Hid (CB.Own 5 w.heap.size wa (.slice a5 n5 c5) l) := hoa.mono H0.out.1.size
          replace H0 : Hid (Below w.heap.size w wa ∧ wa.heap[w.heap.size]? = some (.cells (RqC q mv) 32 (0, 0))) := ⟨H0.out.1.trans (hba.mono H0.out.1.size), (hba.block _ (Array.getElem?_eq_some_iff.1 H0.out.2).1).trans H0.out.2⟩
          replace dk := cell_below dk hba
          clear hoa hba
          refine wpAny_ready (rs := [6]) (by kernel_rfl) (by simp) ?_
          refine AllReady.cons rfl (fun K hK => ?_) AllReady.nil
          · obtain ⟨ad, c', e5, -, hat, -, hsh⟩ := H5.out.at_ (by have := HM.out.2; omega)
            injection e5 with e51 e52 e53
            cases ad with
            | none =>
              have hl0 : l = [] := by rcases hsh with ⟨_, h, _⟩ | ⟨g, h⟩; exact h; cases h
              have hc0 : c5 = 0 := by rcases hsh with ⟨_, _, h⟩ | ⟨g, h⟩; omega; cases h
              subst e51
              subst hl0
              obtain rfl : n5 = 0 := e52
              subst hc0
              clear e53 hat hsh
              refine rowB.step_none rfl (.tmp 6) (.tmp 8) rfl w.heap.size _ [byteI k] rfl H3.out rfl ?_
              refine hK _ _ ?_
              clear hK K
              have H6 : Hid (CB.Own 5 w.heap.size wa (.slice (some ⟨wd.heap.size, 0, none⟩) 1 1) ([byteI k] ++ []) ∧ Below w.heap.size w wa) := ⟨by rw [List.append_nil]; exact H3.out, H0.out.1⟩
              refine wpAny_take (i := 7) (v := .slice (some ⟨wd.heap.size, 0, none⟩) 1 1) rfl (by kernel_rfl) (by kernel_rfl) (by kernel_rfl) (fun _ _ _ h => h) (Or.inl ⟨by rfl, fun w => by go_simp⟩) ?_
              refine wpAny_done (by kernel_rfl) ?_ _
              go_wp2
              go_ret
              exact ⟨_, rfl, H6.out.1, H6.out.2⟩
            | some ad =>
              subst e51
              clear e53 hsh
              refine rowB.step rfl (.tmp 6) (.tmp 8) rfl w.heap.size _ [byteI k] rfl H3.out ad n5 c5 l rfl e52 hat.news (by have := HM.out.2; simp; omega) (by have := HM.out.2; simp; omega) H0.out.1.size ?_
              intro v6 w6 hown6 hgrow6 _
              obtain ⟨a6, n6, c6, rfl⟩ := hown6.shape
              refine hK _ _ ?_
              clear hK K
              have H6 : Hid (CB.Own 5 w.heap.size w6 (.slice a6 n6 c6) ([byteI k] ++ l) ∧ Below w.heap.size w w6) := ⟨hown6, H0.out.1.trans ((But.grown hgrow6).below H0.out.1.size fun i e => (H3.out.lt i e.symm).1)⟩
              clear hown6 hgrow6
              refine wpAny_take (i := 7) (v := .slice a6 n6 c6) rfl (by kernel_rfl) (by kernel_rfl) (by kernel_rfl) (fun _ _ _ h => h) (Or.inl ⟨by rfl, fun w => by go_simp⟩) ?_
              refine wpAny_done (by kernel_rfl) ?_ _
              go_wp2
              go_ret
              exact ⟨_, rfl, H6.out.1, H6.out.2⟩
      · go_simp
        go_at_call 34
        refine (HE.out _ H0.out.1).mono ?_
        rintro e wa ⟨va, rfl, hoa, hba⟩
        obtain ⟨a5, n5, c5, rfl⟩ := hoa.shape
        dsimp only
        refine hK _ _ ?_
        clear hK K
        skip
        have H5 : Hid (CB.Own 5 w.heap.size wa (.slice a5 n5 c5) l) := hoa.mono H0.out.1.size
        replace H0 : Hid (Below w.heap.size w wa ∧ wa.heap[w.heap.size]? = some (.cells (RqC q mv) 32 (0, 0))) := ⟨H0.out.1.trans (hba.mono H0.out.1.size), (hba.block _ (Array.getElem?_eq_some_iff.1 H0.out.2).1).trans H0.out.2⟩
        replace dk := cell_below dk hba
        clear hoa hba
        refine wpAny_ready (rs := [3]) (by kernel_rfl) (by simp) ?_
        refine AllReady.cons rfl (fun K hK => ?_) AllReady.nil
        · go_simp
          refine hK _ _ ?_
          clear hK K
          have hor := own_row wa k w.heap.size H0.out.1.size
          have hbr : Below wa.heap.size wa (wa.alloc (.cells #[.int .u8 (k % 256)] 5)) := (Below.refl _ _).alloc (Nat.le_refl _) _
          revert hor hbr
          generalize World.alloc wa _ = wb
          intro hor hbr
          replace H5 := Lib.hid (H5.out.below hbr)
          have H3 := Lib.hid hor
          replace H0 : Hid (Below w.heap.size w wb ∧ wb.heap[w.heap.size]? = some (.cells (RqC q mv) 32 (0, 0))) := ⟨H0.out.1.trans (hbr.mono H0.out.1.size), (hbr.block _ (Array.getElem?_eq_some_iff.1 H0.out.2).1).trans H0.out.2⟩
          replace dk := cell_below dk hbr
          clear hor hbr
          refine wpAny_ready (rs := [6]) (by kernel_rfl) (by simp) ?_
          refine AllReady.cons rfl (fun K hK => ?_) AllReady.nil
          · obtain ⟨ad, c', e5, -, hat, -, hsh⟩ := H5.out.at_ (by have := HM.out.2; omega)
            injection e5 with e51 e52 e53
            cases ad with
            | none =>
              have hl0 : l = [] := by rcases hsh with ⟨_, h, _⟩ | ⟨g, h⟩; exact h; cases h
              have hc0 : c5 = 0 := by rcases hsh with ⟨_, _, h⟩ | ⟨g, h⟩; omega; cases h
              subst e51
              subst hl0
              obtain rfl : n5 = 0 := e52
              subst hc0
              clear e53 hat hsh
              refine rowB.step_none rfl (.tmp 6) (.tmp 8) rfl w.heap.size _ [byteI k] rfl H3.out rfl ?_
              refine hK _ _ ?_
              clear hK K
              have H6 : Hid (CB.Own 5 w.heap.size wb (.slice (some ⟨wa.heap.size, 0, none⟩) 1 1) ([byteI k] ++ []) ∧ Below w.heap.size w wb) := ⟨by rw [List.append_nil]; exact H3.out, H0.out.1⟩
              refine wpAny_take (i := 7) (v := .slice (some ⟨wa.heap.size, 0, none⟩) 1 1) rfl (by kernel_rfl) (by kernel_rfl) (by kernel_rfl) (fun _ _ _ h => h) (Or.inl ⟨by rfl, fun w => by go_simp⟩) ?_
              refine wpAny_done (by kernel_rfl) ?_ _
              go_wp2
              go_ret
              exact ⟨_, rfl, H6.out.1, H6.out.2⟩
            | some ad =>
              subst e51
              clear e53 hsh
              refine rowB.step rfl (.tmp 6) (.tmp 8) rfl w.heap.size _ [byteI k] rfl H3.out ad n5 c5 l rfl e52 hat.news (by have := HM.out.2; simp; omega) (by have := HM.out.2; simp; omega) H0.out.1.size ?_
              intro v6 w6 hown6 hgrow6 _
              obtain ⟨a6, n6, c6, rfl⟩ := hown6.shape
              refine hK _ _ ?_
              clear hK K
              have H6 : Hid (CB.Own 5 w.heap.size w6 (.slice a6 n6 c6) ([byteI k] ++ l) ∧ Below w.heap.size w w6) := ⟨hown6, H0.out.1.trans ((But.grown hgrow6).below H0.out.1.size fun i e => (H3.out.lt i e.symm).1)⟩
              clear hown6 hgrow6
              refine wpAny_take (i := 7) (v := .slice a6 n6 c6) rfl (by kernel_rfl) (by kernel_rfl) (by kernel_rfl) (fun _ _ _ h => h) (Or.inl ⟨by rfl, fun w => by go_simp⟩) ?_
              refine wpAny_done (by kernel_rfl) ?_ _
              go_wp2
              go_ret
              exact ⟨_, rfl, H6.out.1, H6.out.2⟩
  · refine step_load_row rfl 32 (.tmp 1) rfl w.heap.size rfl 32 (RqC q mv) (0, 0) _ H0.out.2 Try.underlying32 rfl (infoQ _ _) ?_
    refine hK _ _ ?_
    clear hK K
    refine wpAny_ready (rs := [1, 5]) (by kernel_rfl) (by simp) ?_
    refine AllReady.cons rfl (fun K hK => ?_) (AllReady.cons rfl (fun K hK => ?_) AllReady.nil)
    · go_simp
      refine hK _ _ ?_
      clear hK K
      refine wpAny_take (i := 2) (v := .int .u8 (k % 256)) rfl (by kernel_rfl) (by kernel_rfl) (by kernel_rfl) (fun _ _ _ h => h) (Or.inl ⟨by rfl, fun w => by go_simp; simp [IntKind.wrap, IntKind.signed, IntKind.bits]⟩) ?_
      refine wpAny_ready (rs := [3, 5]) (by kernel_rfl) (by simp) ?_
      refine AllReady.cons rfl (fun K hK => ?_) (AllReady.cons rfl (fun K hK => ?_) AllReady.nil)
      · go_simp
        refine hK _ _ ?_
        clear hK K
        have hor := own_row wd k w.heap.size H0.out.1.size
        have hbr : Below wd.heap.size wd (wd.alloc (.cells #[.int .u8 (k % 256)] 5)) := (Below.refl _ _).alloc (Nat.le_refl _) _
        revert hor hbr
        generalize World.alloc wd _ = wb
        intro hor hbr
        skip
        have H3 := Lib.hid hor
        replace H0 : Hid (Below w.heap.size w wb ∧ wb.heap[w.heap.size]? = some (.cells (RqC q mv) 32 (0, 0))) := ⟨H0.out.1.trans (hbr.mono H0.out.1.size), (hbr.block _ (Array.getElem?_eq_some_iff.1 H0.out.2).1).trans H0.out.2⟩
        replace dk := cell_below dk hbr
        clear hor hbr
        refine wpAny_ready (rs := [5]) (by kernel_rfl) (by simp) ?_
        refine AllReady.cons rfl (fun K hK => ?_) AllReady.nil
        · go_simp
          go_at_call 34
          refine (HE.out _ H0.out.1).mono ?_
          rintro e wa ⟨va, rfl, hoa, hba⟩
          obtain ⟨a5, n5, c5, rfl⟩ := hoa.shape
          dsimp only
          refine hK _ _ ?_
          clear hK K
          replace H3 := Lib.hid (H3.out.below hba)
          have H5 : Hid (CB.Own 5 w.heap.size wa (.slice a5 n5 c5) l) := hoa.mono H0.out.1.size
          replace H0 : Hid (Below w.heap.size w wa ∧ wa.heap[w.heap.size]? = some (.cells (RqC q mv) 32 (0, 0))) := ⟨H0.out.1.trans (hba.mono H0.out.1.size), (hba.block _ (Array.getElem?_eq_some_iff.1 H0.out.2).1).trans H0.out.2⟩
          replace dk := cell_below dk hba
          clear hoa hba
          refine wpAny_ready (rs := [6]) (by kernel_rfl) (by simp) ?_
          refine AllReady.cons rfl (fun K hK => ?_) AllReady.nil
          · obtain ⟨ad, c', e5, -, hat, -, hsh⟩ := H5.out.at_ (by have := HM.out.2; omega)
            injection e5 with e51 e52 e53
            cases ad with
            | none =>
              have hl0 : l = [] := by rcases hsh with ⟨_, h, _⟩ | ⟨g, h⟩; exact h; cases h
              have hc0 : c5 = 0 := by rcases hsh with ⟨_, _, h⟩ | ⟨g, h⟩; omega; cases h
              subst e51
              subst hl0
              obtain rfl : n5 = 0 := e52
              subst hc0
              clear e53 hat hsh
              refine rowB.step_none rfl (.tmp 6) (.tmp 8) rfl w.heap.size _ [byteI k] rfl H3.out rfl ?_
              refine hK _ _ ?_
              clear hK K
              have H6 : Hid (CB.Own 5 w.heap.size wa (.slice (some ⟨wd.heap.size, 0, none⟩) 1 1) ([byteI k] ++ []) ∧ Below w.heap.size w wa) := ⟨by rw [List.append_nil]; exact H3.out, H0.out.1⟩
              refine wpAny_take (i := 7) (v := .slice (some ⟨wd.heap.size, 0, none⟩) 1 1) rfl (by kernel_rfl) (by kernel_rfl) (by kernel_rfl) (fun _ _ _ h => h) (Or.inl ⟨by rfl, fun w => by go_simp⟩) ?_
              refine wpAny_done (by kernel_rfl) ?_ _
              go_wp2
              go_ret
              exact ⟨_, rfl, H6.out.1, H6.out.2⟩
            | some ad =>
              subst e51
              clear e53 hsh
              refine rowB.step rfl (.tmp 6) (.tmp 8) rfl w.heap.size _ [byteI k] rfl H3.out ad n5 c5 l rfl e52 hat.news (by have := HM.out.2; simp; omega) (by have := HM.out.2; simp; omega) H0.out.1.size ?_
              intro v6 w6 hown6 hgrow6 _
              obtain ⟨a6, n6, c6, rfl⟩ := hown6.shape
              refine hK _ _ ?_
              clear hK K
              have H6 : Hid (CB.Own 5 w.heap.size w6 (.slice a6 n6 c6) ([byteI k] ++ l) ∧ Below w.heap.size w w6) := ⟨hown6, H0.out.1.trans ((But.grown hgrow6).below H0.out.1.size fun i e => (H3.out.lt i e.symm).1)⟩
              clear hown6 hgrow6
              refine wpAny_take (i := 7) (v := .slice a6 n6 c6) rfl (by kernel_rfl) (by kernel_rfl) (by kernel_rfl) (fun _ _ _ h => h) (Or.inl ⟨by rfl, fun w => by go_simp⟩) ?_
              refine wpAny_done (by kernel_rfl) ?_ _
              go_wp2
              go_ret
              exact ⟨_, rfl, H6.out.1, H6.out.2⟩
      · go_simp
        go_at_call 34
        refine (HE.out _ H0.out.1).mono ?_
        rintro e wa ⟨va, rfl, hoa, hba⟩
        obtain ⟨a5, n5, c5, rfl⟩ := hoa.shape
        dsimp only
        refine hK _ _ ?_
        clear hK K
        skip
        have H5 : Hid (CB.Own 5 w.heap.size wa (.slice a5 n5 c5) l) := hoa.mono H0.out.1.size
        replace H0 : Hid (Below w.heap.size w wa ∧ wa.heap[w.heap.size]? = some (.cells (RqC q mv) 32 (0, 0))) := ⟨H0.out.1.trans (hba.mono H0.out.1.size), (hba.block _ (Array.getElem?_eq_some_iff.1 H0.out.2).1).trans H0.out.2⟩
        replace dk := cell_below dk hba
        clear hoa hba
        refine wpAny_ready (rs := [3]) (by kernel_rfl) (by simp) ?_
        refine AllReady.cons rfl (fun K hK => ?_) AllReady.nil
        · go_simp
          refine hK _ _ ?_
          clear hK K
          have hor := own_row wa k w.heap.size H0.out.1.size
          have hbr : Below wa.heap.size wa (wa.alloc (.cells #[.int .u8 (k % 256)] 5)) := (Below.refl _ _).alloc (Nat.le_refl _) _
          revert hor hbr
          generalize World.alloc wa _ = wb
          intro hor hbr
          replace H5 := Lib.hid (H5.out.below hbr)
          have H3 := Lib.hid hor
          replace H0 : Hid (Below w.heap.size w wb ∧ wb.heap[w.heap.size]? = some (.cells (RqC q mv) 32 (0, 0))) := ⟨H0.out.1.trans (hbr.mono H0.out.1.size), (hbr.block _ (Array.getElem?_eq_some_iff.1 H0.out.2).1).trans H0.out.2⟩
          replace dk := cell_below dk hbr
          clear hor hbr
          refine wpAny_ready (rs := [6]) (by kernel_rfl) (by simp) ?_
          refine AllReady.cons rfl (fun K hK => ?_) AllReady.nil
          · obtain ⟨ad, c', e5, -, hat, -, hsh⟩ := H5.out.at_ (by have := HM.out.2; omega)
            injection e5 with e51 e52 e53
            cases ad with
            | none =>
              have hl0 : l = [] := by rcases hsh with ⟨_, h, _⟩ | ⟨g, h⟩; exact h; cases h
              have hc0 : c5 = 0 := by rcases hsh with ⟨_, _, h⟩ | ⟨g, h⟩; omega; cases h
              subst e51
              subst hl0
              obtain rfl : n5 = 0 := e52
              subst hc0
              clear e53 hat hsh
              refine rowB.step_none rfl (.tmp 6) (.tmp 8) rfl w.heap.size _ [byteI k] rfl H3.out rfl ?_
              refine hK _ _ ?_
              clear hK K
              have H6 : Hid (CB.Own 5 w.heap.size wb (.slice (some ⟨wa.heap.size, 0, none⟩) 1 1) ([byteI k] ++ []) ∧ Below w.heap.size w wb) := ⟨by rw [List.append_nil]; exact H3.out, H0.out.1⟩
              refine wpAny_take (i := 7) (v := .slice (some ⟨wa.heap.size, 0, none⟩) 1 1) rfl (by kernel_rfl) (by kernel_rfl) (by kernel_rfl) (fun _ _ _ h => h) (Or.inl ⟨by rfl, fun w => by go_simp⟩) ?_
              refine wpAny_done (by kernel_rfl) ?_ _
              go_wp2
              go_ret
              exact ⟨_, rfl, H6.out.1, H6.out.2⟩
            | some ad =>
              subst e51
              clear e53 hsh
              refine rowB.step rfl (.tmp 6) (.tmp 8) rfl w.heap.size _ [byteI k] rfl H3.out ad n5 c5 l rfl e52 hat.news (by have := HM.out.2; simp; omega) (by have := HM.out.2; simp; omega) H0.out.1.size ?_
              intro v6 w6 hown6 hgrow6 _
              obtain ⟨a6, n6, c6, rfl⟩ := hown6.shape
              refine hK _ _ ?_
              clear hK K
              have H6 : Hid (CB.Own 5 w.heap.size w6 (.slice a6 n6 c6) ([byteI k] ++ l) ∧ Below w.heap.size w w6) := ⟨hown6, H0.out.1.trans ((But.grown hgrow6).below H0.out.1.size fun i e => (H3.out.lt i e.symm).1)⟩
              clear hown6 hgrow6
              refine wpAny_take (i := 7) (v := .slice a6 n6 c6) rfl (by kernel_rfl) (by kernel_rfl) (by kernel_rfl) (fun _ _ _ h => h) (Or.inl ⟨by rfl, fun w => by go_simp⟩) ?_
              refine wpAny_done (by kernel_rfl) ?_ _
              go_wp2
              go_ret
              exact ⟨_, rfl, H6.out.1, H6.out.2⟩
    · go_simp
      go_at_call 34
      refine (HE.out _ H0.out.1).mono ?_
      rintro e wa ⟨va, rfl, hoa, hba⟩
      obtain ⟨a5, n5, c5, rfl⟩ := hoa.shape
      dsimp only
      refine hK _ _ ?_
      clear hK K
      skip
      have H5 : Hid (CB.Own 5 w.heap.size wa (.slice a5 n5 c5) l) := hoa.mono H0.out.1.size
      replace H0 : Hid (Below w.heap.size w wa ∧ wa.heap[w.heap.size]? = some (.cells (RqC q mv) 32 (0, 0))) := ⟨H0.out.1.trans (hba.mono H0.out.1.size), (hba.block _ (Array.getElem?_eq_some_iff.1 H0.out.2).1).trans H0.out.2⟩
      replace dk := cell_below dk hba
      clear hoa hba
      refine wpAny_ready (rs := [1]) (by kernel_rfl) (by simp) ?_
      refine AllReady.cons rfl (fun K hK => ?_) AllReady.nil
      · go_simp
        refine hK _ _ ?_
        clear hK K
        refine wpAny_take (i := 2) (v := .int .u8 (k % 256)) rfl (by kernel_rfl) (by kernel_rfl) (by kernel_rfl) (fun _ _ _ h => h) (Or.inl ⟨by rfl, fun w => by go_simp; simp [IntKind.wrap, IntKind.signed, IntKind.bits]⟩) ?_
        refine wpAny_ready (rs := [3]) (by kernel_rfl) (by simp) ?_
        refine AllReady.cons rfl (fun K hK => ?_) AllReady.nil
        · go_simp
          refine hK _ _ ?_
          clear hK K
          have hor := own_row wa k w.heap.size H0.out.1.size
          have hbr : Below wa.heap.size wa (wa.alloc (.cells #[.int .u8 (k % 256)] 5)) := (Below.refl _ _).alloc (Nat.le_refl _) _
          revert hor hbr
          generalize World.alloc wa _ = wb
          intro hor hbr
          replace H5 := Lib.hid (H5.out.below hbr)
          have H3 := Lib.hid hor
          replace H0 : Hid (Below w.heap.size w wb ∧ wb.heap[w.heap.size]? = some (.cells (RqC q mv) 32 (0, 0))) := ⟨H0.out.1.trans (hbr.mono H0.out.1.size), (hbr.block _ (Array.getElem?_eq_some_iff.1 H0.out.2).1).trans H0.out.2⟩
          replace dk := cell_below dk hbr
          clear hor hbr
          refine wpAny_ready (rs := [6]) (by kernel_rfl) (by simp) ?_
          refine AllReady.cons rfl (fun K hK => ?_) AllReady.nil
          · obtain ⟨ad, c', e5, -, hat, -, hsh⟩ := H5.out.at_ (by have := HM.out.2; omega)
            injection e5 with e51 e52 e53
            cases ad with
            | none =>
              have hl0 : l = [] := by rcases hsh with ⟨_, h, _⟩ | ⟨g, h⟩; exact h; cases h
              have hc0 : c5 = 0 := by rcases hsh with ⟨_, _, h⟩ | ⟨g, h⟩; omega; cases h
              subst e51
              subst hl0
              obtain rfl : n5 = 0 := e52
              subst hc0
              clear e53 hat hsh
              refine rowB.step_none rfl (.tmp 6) (.tmp 8) rfl w.heap.size _ [byteI k] rfl H3.out rfl ?_
              refine hK _ _ ?_
              clear hK K
              have H6 : Hid (CB.Own 5 w.heap.size wb (.slice (some ⟨wa.heap.size, 0, none⟩) 1 1) ([byteI k] ++ []) ∧ Below w.heap.size w wb) := ⟨by rw [List.append_nil]; exact H3.out, H0.out.1⟩
              refine wpAny_take (i := 7) (v := .slice (some ⟨wa.heap.size, 0, none⟩) 1 1) rfl (by kernel_rfl) (by kernel_rfl) (by kernel_rfl) (fun _ _ _ h => h) (Or.inl ⟨by rfl, fun w => by go_simp⟩) ?_
              refine wpAny_done (by kernel_rfl) ?_ _
              go_wp2
              go_ret
              exact ⟨_, rfl, H6.out.1, H6.out.2⟩
            | some ad =>
              subst e51
              clear e53 hsh
              refine rowB.step rfl (.tmp 6) (.tmp 8) rfl w.heap.size _ [byteI k] rfl H3.out ad n5 c5 l rfl e52 hat.news (by have := HM.out.2; simp; omega) (by have := HM.out.2; simp; omega) H0.out.1.size ?_
              intro v6 w6 hown6 hgrow6 _
              obtain ⟨a6, n6, c6, rfl⟩ := hown6.shape
              refine hK _ _ ?_
              clear hK K
              have H6 : Hid (CB.Own 5 w.heap.size w6 (.slice a6 n6 c6) ([byteI k] ++ l) ∧ Below w.heap.size w w6) := ⟨hown6, H0.out.1.trans ((But.grown hgrow6).below H0.out.1.size fun i e => (H3.out.lt i e.symm).1)⟩
              clear hown6 hgrow6
              refine wpAny_take (i := 7) (v := .slice a6 n6 c6) rfl (by kernel_rfl) (by kernel_rfl) (by kernel_rfl) (fun _ _ _ h => h) (Or.inl ⟨by rfl, fun w => by go_simp⟩) ?_
              refine wpAny_done (by kernel_rfl) ?_ _
              go_wp2
              go_ret
              exact ⟨_, rfl, H6.out.1, H6.out.2⟩
end Go.Proofs.Ytnafeppljnjbeaa
namespace Go.Proofs.Ytnafeppljnjbeaa
open Go Go.RowKit

def lenOk (q : Rq) : Bool := decide (q.kind = 2 → 1 ≤ q.model.length ∧ q.model.length ≤ 4091)
theorem lenOk_iff (q : Rq) : lenOk q = true ↔ (q.kind = 2 → 1 ≤ q.model.length ∧ q.model.length ≤ 4091) := by unfold lenOk; rw [decide_eq_true_eq]
theorem Lims.iff (q : Rq) : Lims q ↔ (1 ≤ q.kind ∧ q.kind ≤ 12 ∧ in8 q.ver = true ∧ in8 q.pr = true ∧ in8 q.pt = true ∧ in8 q.ek = true ∧ q.org = 0 ∧ q.seq = 0 ∧ in8 q.bp = true ∧ -1 ≤ q.bk ∧ q.bk ≤ 254) :=
  ⟨fun h => ⟨h.k0, h.k1, h.ver, h.pr, h.pt, h.ek, h.org, h.seq, h.bp, h.b0, h.b1⟩, fun ⟨a, b, c, d, e, f, g, h, i, j, k⟩ => ⟨a, b, c, d, e, f, g, h, i, j, k⟩⟩
theorem may_iff_1 (q : Rq) (hk : q.kind = 1) : mayQ q = true ↔ Lims q ∧ lenOk q = true ∧ onlyQ q = q := by
  rw [Lims.iff, lenOk_iff]
  unfold mayQ
  rw [Bool.and_eq_true, Bool.and_eq_true, decide_eq_true_eq, sameQ_iff]
  unfold backQ onlyQ
  obtain ⟨k, i, ve, mo, ti, og, sq, pt, ek, da, nu, bp, bk, bt, pr, nm, dn⟩ := q
  dsimp only at hk ⊢
  subst hk
  simp [tabM, oks, sets, mID, mVer, zeroQ, in8_iff]
  intros
  omega
theorem may_iff_2 (q : Rq) (hk : q.kind = 2) : mayQ q = true ↔ Lims q ∧ lenOk q = true ∧ onlyQ q = q := by
  rw [Lims.iff, lenOk_iff]
  unfold mayQ
  rw [Bool.and_eq_true, Bool.and_eq_true, decide_eq_true_eq, sameQ_iff]
  unfold backQ onlyQ
  obtain ⟨k, i, ve, mo, ti, og, sq, pt, ek, da, nu, bp, bk, bt, pr, nm, dn⟩ := q
  dsimp only at hk ⊢
  subst hk
  simp [tabM, oks, sets, mID, mModel, zeroQ, in8_iff]
  intros
  omega
theorem may_iff_3 (q : Rq) (hk : q.kind = 3) : mayQ q = true ↔ Lims q ∧ lenOk q = true ∧ onlyQ q = q := by
  rw [Lims.iff, lenOk_iff]
  unfold mayQ
  rw [Bool.and_eq_true, Bool.and_eq_true, decide_eq_true_eq, sameQ_iff]
  unfold backQ onlyQ
  obtain ⟨k, i, ve, mo, ti, og, sq, pt, ek, da, nu, bp, bk, bt, pr, nm, dn⟩ := q
  dsimp only at hk ⊢
  subst hk
  simp [tabM, oks, sets, mID, mEvent, zeroQ, in8_iff]
  constructor
  · intro h
    refine ⟨by omega, ?_⟩
    first | (simp_all; done) | (simp_all; omega)
  · intro h
    first | (simp_all; done) | (simp_all; omega)
theorem may_iff_4 (q : Rq) (hk : q.kind = 4) : mayQ q = true ↔ Lims q ∧ lenOk q = true ∧ onlyQ q = q := by
  rw [Lims.iff, lenOk_iff]
  unfold mayQ
  rw [Bool.and_eq_true, Bool.and_eq_true, decide_eq_true_eq, sameQ_iff]
  unfold backQ onlyQ
  obtain ⟨k, i, ve, mo, ti, og, sq, pt, ek, da, nu, bp, bk, bt, pr, nm, dn⟩ := q
  dsimp only at hk ⊢
  subst hk
  simp [tabM, oks, sets, mID, mNum, mBreak, zeroQ, in8_iff]
  intros
  omega
theorem may_iff_5 (q : Rq) (hk : q.kind = 5) : mayQ q = true ↔ Lims q ∧ lenOk q = true ∧ onlyQ q = q := by
  rw [Lims.iff, lenOk_iff]
  unfold mayQ
  rw [Bool.and_eq_true, Bool.and_eq_true, decide_eq_true_eq, sameQ_iff]
  unfold backQ onlyQ
  obtain ⟨k, i, ve, mo, ti, og, sq, pt, ek, da, nu, bp, bk, bt, pr, nm, dn⟩ := q
  dsimp only at hk ⊢
  subst hk
  simp [tabM, oks, sets, mID, mNum, zeroQ, in8_iff]
  intros
  omega
theorem may_iff_6 (q : Rq) (hk : q.kind = 6) : mayQ q = true ↔ Lims q ∧ lenOk q = true ∧ onlyQ q = q := by
  rw [Lims.iff, lenOk_iff]
  unfold mayQ
  rw [Bool.and_eq_true, Bool.and_eq_true, decide_eq_true_eq, sameQ_iff]
  unfold backQ onlyQ
  obtain ⟨k, i, ve, mo, ti, og, sq, pt, ek, da, nu, bp, bk, bt, pr, nm, dn⟩ := q
  dsimp only at hk ⊢
  subst hk
  simp [tabM, oks, sets, mID, mProc, zeroQ, in8_iff]
  intros
  omega
theorem may_iff_10 (q : Rq) (hk : q.kind = 10) : mayQ q = true ↔ Lims q ∧ lenOk q = true ∧ onlyQ q = q := by
  rw [Lims.iff, lenOk_iff]
  unfold mayQ
  rw [Bool.and_eq_true, Bool.and_eq_true, decide_eq_true_eq, sameQ_iff]
  unfold backQ onlyQ
  obtain ⟨k, i, ve, mo, ti, og, sq, pt, ek, da, nu, bp, bk, bt, pr, nm, dn⟩ := q
  dsimp only at hk ⊢
  subst hk
  simp [tabM, oks, sets, mID, mRate, zeroQ, in8_iff]
  intros
  omega
theorem may_iff_0 (q : Rq) (hk : q.kind ≠ 1 ∧ q.kind ≠ 2 ∧ q.kind ≠ 3 ∧ q.kind ≠ 4 ∧ q.kind ≠ 5 ∧ q.kind ≠ 6 ∧ q.kind ≠ 10) : mayQ q = true ↔ Lims q ∧ lenOk q = true ∧ onlyQ q = q := by
  rw [Lims.iff, lenOk_iff]
  unfold mayQ
  rw [Bool.and_eq_true, Bool.and_eq_true, decide_eq_true_eq, sameQ_iff]
  unfold backQ onlyQ
  obtain ⟨k, i, ve, mo, ti, og, sq, pt, ek, da, nu, bp, bk, bt, pr, nm, dn⟩ := q
  dsimp only at hk ⊢
  obtain ⟨k1, k2, k3, k4, k5, k6, k7⟩ := hk
  simp [tabM, oks, sets, mID, zeroQ, in8_iff, k1, k2, k3, k4, k5, k6, k7]
  intros
  omega
theorem mayQ_iff (q : Rq) : mayQ q = true ↔ Lims q ∧ lenOk q = true ∧ onlyQ q = q := by
  by_cases k1 : q.kind = 1
  · exact may_iff_1 q k1
  by_cases k2 : q.kind = 2
  · exact may_iff_2 q k2
  by_cases k3 : q.kind = 3
  · exact may_iff_3 q k3
  by_cases k4 : q.kind = 4
  · exact may_iff_4 q k4
  by_cases k5 : q.kind = 5
  · exact may_iff_5 q k5
  by_cases k6 : q.kind = 6
  · exact may_iff_6 q k6
  by_cases k7 : q.kind = 10
  · exact may_iff_10 q k7
  exact may_iff_0 q ⟨k1, k2, k3, k4, k5, k6, k7⟩
theorem mayQ_no {q : Rq} (h : ¬ (Lims q ∧ lenOk q = true)) : mayQ q = false := by
  cases e : mayQ q with
  | false => rfl
  | true =>
    have := (mayQ_iff q).1 e
    exact absurd ⟨this.1, this.2.1⟩ h
theorem mayQ_same {q : Rq} (L : Lims q) (hl : lenOk q = true) : sameQ (onlyQ q) q = mayQ q := by
  cases e : mayQ q with
  | true => exact (sameQ_iff _ _).2 ((mayQ_iff q).1 e).2.2
  | false =>
    cases e2 : sameQ (onlyQ q) q with
    | false => rfl
    | true => rw [(mayQ_iff q).2 ⟨L, hl, (sameQ_iff _ _).1 e2⟩] at e; cases e
end Go.Proofs.Ytnafeppljnjbeaa
namespace Go.Proofs.Ytnafeppljnjbeaa
open Go Go.RowKit

theorem rMayRequest_any (w : World) (q : Rq) (a : Option Addr) (cap : Nat) (ha : CB.At w a q.model.length q.model) : Calls Try.prog 10 #[.agg (RqC q (.slice a q.model.length cap))] w (TellsB (mayQ q) w) := by
  by_cases h_k0 : 1 ≤ q.kind
  case neg =>
    rw [mayQ_no fun e => h_k0 e.1.k0]
    exact may_no_k0 w q a cap ha h_k0
  by_cases h_k1 : q.kind ≤ 12
  case neg =>
    rw [mayQ_no fun e => h_k1 e.1.k1]
    exact may_no_k1 w q a cap ha h_k0 h_k1
  cases h_ver : in8 q.ver
  case false =>
    rw [mayQ_no fun e => by rw [e.1.ver] at h_ver; cases h_ver]
    exact may_no_ver w q a cap ha h_k0 h_k1 h_ver
  cases h_pr : in8 q.pr
  case false =>
    rw [mayQ_no fun e => by rw [e.1.pr] at h_pr; cases h_pr]
    exact may_no_pr w q a cap ha h_k0 h_k1 h_ver h_pr
  cases h_pt : in8 q.pt
  case false =>
    rw [mayQ_no fun e => by rw [e.1.pt] at h_pt; cases h_pt]
    exact may_no_pt w q a cap ha h_k0 h_k1 h_ver h_pr h_pt
  cases h_ek : in8 q.ek
  case false =>
    rw [mayQ_no fun e => by rw [e.1.ek] at h_ek; cases h_ek]
    exact may_no_ek w q a cap ha h_k0 h_k1 h_ver h_pr h_pt h_ek
  by_cases h_org : q.org = 0
  case neg =>
    rw [mayQ_no fun e => h_org e.1.org]
    exact may_no_org w q a cap ha h_k0 h_k1 h_ver h_pr h_pt h_ek h_org
  by_cases h_seq : q.seq = 0
  case neg =>
    rw [mayQ_no fun e => h_seq e.1.seq]
    exact may_no_seq w q a cap ha h_k0 h_k1 h_ver h_pr h_pt h_ek h_org h_seq
  cases h_bp : in8 q.bp
  case false =>
    rw [mayQ_no fun e => by rw [e.1.bp] at h_bp; cases h_bp]
    exact may_no_bp w q a cap ha h_k0 h_k1 h_ver h_pr h_pt h_ek h_org h_seq h_bp
  by_cases h_b0 : -1 ≤ q.bk
  case neg =>
    rw [mayQ_no fun e => h_b0 e.1.b0]
    exact may_no_b0 w q a cap ha h_k0 h_k1 h_ver h_pr h_pt h_ek h_org h_seq h_bp h_b0
  by_cases h_b1 : q.bk ≤ 254
  case neg =>
    rw [mayQ_no fun e => h_b1 e.1.b1]
    exact may_no_b1 w q a cap ha h_k0 h_k1 h_ver h_pr h_pt h_ek h_org h_seq h_bp h_b0 h_b1
  have L : Lims q := ⟨h_k0, h_k1, h_ver, h_pr, h_pt, h_ek, h_org, h_seq, h_bp, h_b0, h_b1⟩
  by_cases hl : lenOk q = true
  case neg =>
    rw [mayQ_no fun e => hl e.2]
    have h2 : q.kind = 2 := Classical.byContradiction fun e => hl ((lenOk_iff q).2 fun e2 => absurd e2 e)
    exact may_two_no w q a cap ha L h2 fun e => hl ((lenOk_iff q).2 fun _ => e)
  rw [← mayQ_same L hl]
  have ho := L.org
  have hs := L.seq
  by_cases k1 : q.kind = 1
  · have h := may_k1 w q a cap ha L k1
    unfold onlyQ
    simp only [k1, ho, hs] at h ⊢
    exact h
  by_cases k2 : q.kind = 2
  · have h := may_k2 w q a cap ha L k2 ((lenOk_iff q).1 hl k2)
    unfold onlyQ
    simp only [k2, ho, hs] at h ⊢
    exact h
  by_cases k3 : q.kind = 3
  · have h := may_k3 w q a cap ha L k3
    unfold onlyQ
    simp only [k3, ho, hs] at h ⊢
    exact h
  by_cases k4 : q.kind = 4
  · have h := may_k4 w q a cap ha L k4
    unfold onlyQ
    simp only [k4, ho, hs] at h ⊢
    exact h
  by_cases k5 : q.kind = 5
  · have h := may_k5 w q a cap ha L k5
    unfold onlyQ
    simp only [k5, ho, hs] at h ⊢
    exact h
  by_cases k6 : q.kind = 6
  · have h := may_k6 w q a cap ha L k6
    unfold onlyQ
    simp only [k6, ho, hs] at h ⊢
    exact h
  by_cases k10 : q.kind = 10
  · have h := may_k10 w q a cap ha L k10
    unfold onlyQ
    simp only [k10, ho, hs] at h ⊢
    exact h
  have h := may_k0 w q a cap ha L ⟨k1, k2, k3, k4, k5, k6, k10⟩
  unfold onlyQ
  rw [if_neg k1, if_neg k2, if_neg k3, if_neg k4, if_neg k5, if_neg k6, if_neg k10]
  exact h
end Go.Proofs.Ytnafeppljnjbeaa
namespace Go.Proofs.Ytnafeppljnjbeaa
open Go Go.RowKit Go.Sort Go.Proofs

set_option maxHeartbeats 8000000 in
set_option maxRecDepth 100000 in
theorem rdq_nil (w : World) (a : Option Addr) (c : Nat) : Calls Try.prog 21 #[.slice a 0 c] w (DecTo w (zeroQ 0, 12)) := by
  go_enter Try.func21, Try.ntmps21
  go_upto_region 1 with fail
  generalize hw1 : World.alloc _ _ = w1
  have hb1 : Below w.heap.size w w1 := by rw [← hw1]; exact (Below.refl _ _).alloc (Nat.le_refl _) _
  have hx1 : w1.heap[w.heap.size]? = some (.cells (RqC (zeroQ 0) (.slice none 0 0)) 32 (0, 0)) := by rw [← hw1]; exact heap_alloc_new _ _
  have H1 := Lib.hid (And.intro hb1 (And.intro hx1 (Array.getElem?_eq_some_iff.1 hx1).1))
  clear hb1 hx1 hw1
  go_upto_region 2 with (first
    | (show wpList _ _ _ (Oper.mk _ (.store _ (.tmp 4) (.tmp 7)) _ _ _ _ :: _) _ _; refine wpList_store_row rfl 32 (.tmp 4) (.tmp 7) rfl w1.heap.size (RqC (zeroQ 0) (.slice none 0 0)) rfl rfl 32 (RqC (zeroQ 0) (.slice none 0 0)) (heap_alloc_new _ _) (infoQ _ _) rfl (RqC_one _ _ _ _) ?_; generalize hw2 : World.setRow _ _ _ = w2; have g1 : Below w1.heap.size w1 w2 := (by rw [← hw2]; exact (grow_row w1 _ _ _).1); have g2 : w2.heap[w1.heap.size]? = some (.cells (RqC (zeroQ 0) (.slice none 0 0)) 32 (0, 0)) := (by rw [← hw2]; exact (grow_row w1 _ _ _).2); have H2 : Hid (Below w.heap.size w w2 ∧ w2.heap[w.heap.size]? = some (.cells (RqC (zeroQ 0) (.slice none 0 0)) 32 (0, 0)) ∧ w2.heap[w1.heap.size]? = some (.cells (RqC (zeroQ 0) (.slice none 0 0)) 32 (0, 0)) ∧ w1.heap.size < w2.heap.size ∧ w.heap.size < w1.heap.size) := Lib.hid ⟨H1.out.1.trans (g1.mono H1.out.1.size), (g1.block _ H1.out.2.2).trans H1.out.2.1, g2, (Array.getElem?_eq_some_iff.1 g2).1, H1.out.2.2⟩; clear hw2 g1 g2)
    | fail)
  have HN := H2
  go_wp2_with (first
    | (show wpList _ _ _ (Oper.mk _ (.load _ (.tmp 4)) _ _ _ _ :: _) _ _; refine wpList_load_row rfl 32 (.tmp 4) rfl w1.heap.size rfl 32 (RqC (zeroQ 0) (.slice none 0 0)) (0, 0) _ HN.out.2.2.1 Try.underlying32 rfl (infoQ _ _) ?_)
    | (show wpList _ _ _ (Oper.mk _ (.store _ (.tmp 2) (.tmp 23)) _ _ _ _ :: _) _ _; refine wpList_store_row rfl 32 (.tmp 2) (.tmp 23) rfl w.heap.size (RqC (zeroQ 0) (.slice none 0 0)) rfl rfl 32 _ HN.out.2.1 (infoQ _ _) rfl (RqC_one _ _ _ _) ?_)
    | fail)
  exact ⟨rfl, _, results_two rfl _ _ (w.heap.size) 32 (RqC (zeroQ 0) (.slice none 0 0)) (0, 0) _ rfl (setRow_heap _ _ _ _ _ _ HN.out.2.1) Try.underlying32 rfl (infoQ _ _), none, 0, rfl, Nat.le_refl _, CB_nil _ _, fun p e => (by cases e), ⟨by decide, by decide⟩, ⟨by decide, by decide⟩, below_setRow HN.out.1 (Nat.le_refl _) _⟩
set_option maxHeartbeats 8000000 in
set_option maxRecDepth 100000 in
theorem rdq_low (w : World) (B off n c : Nat) (x : UInt8) (l : List UInt8) (hb : CB.At w (some ⟨B, off, none⟩) n (x :: l)) (hx : (x.toNat : Int) < 1) : Calls Try.prog 21 #[.slice (some ⟨B, off, none⟩) n c] w (DecTo w (zeroQ 0, 12)) := by
  have hn0 : 0 < n := by have := hb.1; simp at this; omega
  have hnz : ((n : Int) == 0) = false := by simp; omega
  obtain ⟨B', off', e, y, hy, hc0⟩ := CB_cell hb (i := 0) hn0
  cases e
  cases hy
  rw [Nat.add_zero] at hc0
  obtain ⟨z, hz⟩ : ∃ z : Int, z = (x.toNat : Int) := ⟨_, rfl⟩
  rw [← hz] at hc0 hx
  have bx0 : decide (z < 1) = true := decide_eq_true (by omega)
  clear hx hz
  go_enter Try.func21, Try.ntmps21
  go_upto_region 1 with fail
  generalize hw1 : World.alloc _ _ = w1
  have hb1 : Below w.heap.size w w1 := by rw [← hw1]; exact (Below.refl _ _).alloc (Nat.le_refl _) _
  have hx1 : w1.heap[w.heap.size]? = some (.cells (RqC (zeroQ 0) (.slice none 0 0)) 32 (0, 0)) := by rw [← hw1]; exact heap_alloc_new _ _
  have H1 := Lib.hid (And.intro hb1 (And.intro hx1 (Array.getElem?_eq_some_iff.1 hx1).1))
  clear hb1 hx1 hw1
  go_upto_region 2 with (first
    | (show wpList _ _ _ (Oper.mk _ (.store _ (.tmp 4) (.tmp 7)) _ _ _ _ :: _) _ _; refine wpList_store_row rfl 32 (.tmp 4) (.tmp 7) rfl w1.heap.size (RqC (zeroQ 0) (.slice none 0 0)) rfl rfl 32 (RqC (zeroQ 0) (.slice none 0 0)) (heap_alloc_new _ _) (infoQ _ _) rfl (RqC_one _ _ _ _) ?_; generalize hw2 : World.setRow _ _ _ = w2; have g1 : Below w1.heap.size w1 w2 := (by rw [← hw2]; exact (grow_row w1 _ _ _).1); have g2 : w2.heap[w1.heap.size]? = some (.cells (RqC (zeroQ 0) (.slice none 0 0)) 32 (0, 0)) := (by rw [← hw2]; exact (grow_row w1 _ _ _).2); have H2 : Hid (Below w.heap.size w w2 ∧ w2.heap[w.heap.size]? = some (.cells (RqC (zeroQ 0) (.slice none 0 0)) 32 (0, 0)) ∧ w2.heap[w1.heap.size]? = some (.cells (RqC (zeroQ 0) (.slice none 0 0)) 32 (0, 0)) ∧ w1.heap.size < w2.heap.size ∧ w.heap.size < w1.heap.size) := Lib.hid ⟨H1.out.1.trans (g1.mono H1.out.1.size), (g1.block _ H1.out.2.2).trans H1.out.2.1, g2, (Array.getElem?_eq_some_iff.1 g2).1, H1.out.2.2⟩; clear hw2 g1 g2)
    | fail)
  have HN := H2
  have hc2 := cell_below hc0 H2.out.1
  go_wp2_with (first
    | (show wpList _ _ _ (Oper.mk _ (.load _ (.tmp 4)) _ _ _ _ :: _) _ _; refine wpList_load_row rfl 32 (.tmp 4) rfl w1.heap.size rfl 32 (RqC (zeroQ 0) (.slice none 0 0)) (0, 0) _ HN.out.2.2.1 Try.underlying32 rfl (infoQ _ _) ?_)
    | (show wpList _ _ _ (Oper.mk _ (.store _ (.tmp 2) (.tmp 23)) _ _ _ _ :: _) _ _; refine wpList_store_row rfl 32 (.tmp 2) (.tmp 23) rfl w.heap.size (RqC (zeroQ 0) (.slice none 0 0)) rfl rfl 32 _ HN.out.2.1 (infoQ _ _) rfl (RqC_one _ _ _ _) ?_)
    | fail)
  exact ⟨rfl, _, results_two rfl _ _ (w.heap.size) 32 (RqC (zeroQ 0) (.slice none 0 0)) (0, 0) _ rfl (setRow_heap _ _ _ _ _ _ HN.out.2.1) Try.underlying32 rfl (infoQ _ _), none, 0, rfl, Nat.le_refl _, CB_nil _ _, fun p e => (by cases e), ⟨by decide, by decide⟩, ⟨by decide, by decide⟩, below_setRow HN.out.1 (Nat.le_refl _) _⟩
set_option maxHeartbeats 8000000 in
set_option maxRecDepth 100000 in
theorem rdq_high (w : World) (B off n c : Nat) (x : UInt8) (l : List UInt8) (hb : CB.At w (some ⟨B, off, none⟩) n (x :: l)) (hx : 12 < (x.toNat : Int)) : Calls Try.prog 21 #[.slice (some ⟨B, off, none⟩) n c] w (DecTo w (zeroQ 0, 12)) := by
  have hn0 : 0 < n := by have := hb.1; simp at this; omega
  have hnz : ((n : Int) == 0) = false := by simp; omega
  obtain ⟨B', off', e, y, hy, hc0⟩ := CB_cell hb (i := 0) hn0
  cases e
  cases hy
  rw [Nat.add_zero] at hc0
  obtain ⟨z, hz⟩ : ∃ z : Int, z = (x.toNat : Int) := ⟨_, rfl⟩
  rw [← hz] at hc0 hx
  have bx0 : decide (z < 1) = false := decide_eq_false (by omega)
  have bx1 : decide (12 < z) = true := decide_eq_true (by omega)
  clear hx hz
  go_enter Try.func21, Try.ntmps21
  go_upto_region 1 with fail
  generalize hw1 : World.alloc _ _ = w1
  have hb1 : Below w.heap.size w w1 := by rw [← hw1]; exact (Below.refl _ _).alloc (Nat.le_refl _) _
  have hx1 : w1.heap[w.heap.size]? = some (.cells (RqC (zeroQ 0) (.slice none 0 0)) 32 (0, 0)) := by rw [← hw1]; exact heap_alloc_new _ _
  have H1 := Lib.hid (And.intro hb1 (And.intro hx1 (Array.getElem?_eq_some_iff.1 hx1).1))
  clear hb1 hx1 hw1
  go_upto_region 2 with (first
    | (show wpList _ _ _ (Oper.mk _ (.store _ (.tmp 4) (.tmp 7)) _ _ _ _ :: _) _ _; refine wpList_store_row rfl 32 (.tmp 4) (.tmp 7) rfl w1.heap.size (RqC (zeroQ 0) (.slice none 0 0)) rfl rfl 32 (RqC (zeroQ 0) (.slice none 0 0)) (heap_alloc_new _ _) (infoQ _ _) rfl (RqC_one _ _ _ _) ?_; generalize hw2 : World.setRow _ _ _ = w2; have g1 : Below w1.heap.size w1 w2 := (by rw [← hw2]; exact (grow_row w1 _ _ _).1); have g2 : w2.heap[w1.heap.size]? = some (.cells (RqC (zeroQ 0) (.slice none 0 0)) 32 (0, 0)) := (by rw [← hw2]; exact (grow_row w1 _ _ _).2); have H2 : Hid (Below w.heap.size w w2 ∧ w2.heap[w.heap.size]? = some (.cells (RqC (zeroQ 0) (.slice none 0 0)) 32 (0, 0)) ∧ w2.heap[w1.heap.size]? = some (.cells (RqC (zeroQ 0) (.slice none 0 0)) 32 (0, 0)) ∧ w1.heap.size < w2.heap.size ∧ w.heap.size < w1.heap.size) := Lib.hid ⟨H1.out.1.trans (g1.mono H1.out.1.size), (g1.block _ H1.out.2.2).trans H1.out.2.1, g2, (Array.getElem?_eq_some_iff.1 g2).1, H1.out.2.2⟩; clear hw2 g1 g2)
    | fail)
  have HN := H2
  have hc2 := cell_below hc0 H2.out.1
  go_wp2_with (first
    | (show wpList _ _ _ (Oper.mk _ (.load _ (.tmp 4)) _ _ _ _ :: _) _ _; refine wpList_load_row rfl 32 (.tmp 4) rfl w1.heap.size rfl 32 (RqC (zeroQ 0) (.slice none 0 0)) (0, 0) _ HN.out.2.2.1 Try.underlying32 rfl (infoQ _ _) ?_)
    | (show wpList _ _ _ (Oper.mk _ (.store _ (.tmp 2) (.tmp 23)) _ _ _ _ :: _) _ _; refine wpList_store_row rfl 32 (.tmp 2) (.tmp 23) rfl w.heap.size (RqC (zeroQ 0) (.slice none 0 0)) rfl rfl 32 _ HN.out.2.1 (infoQ _ _) rfl (RqC_one _ _ _ _) ?_)
    | fail)
  exact ⟨rfl, _, results_two rfl _ _ (w.heap.size) 32 (RqC (zeroQ 0) (.slice none 0 0)) (0, 0) _ rfl (setRow_heap _ _ _ _ _ _ HN.out.2.1) Try.underlying32 rfl (infoQ _ _), none, 0, rfl, Nat.le_refl _, CB_nil _ _, fun p e => (by cases e), ⟨by decide, by decide⟩, ⟨by decide, by decide⟩, below_setRow HN.out.1 (Nat.le_refl _) _⟩
set_option maxHeartbeats 8000000 in
set_option maxRecDepth 100000 in
theorem rdq_short (w : World) (B off n c : Nat) (x : UInt8) (l : List UInt8) (hb : CB.At w (some ⟨B, off, none⟩) n (x :: l)) (hx : 1 ≤ (x.toNat : Int) ∧ (x.toNat : Int) ≤ 12) (hn : n < 5) : Calls Try.prog 21 #[.slice (some ⟨B, off, none⟩) n c] w (DecTo w (zeroQ 0, 14)) := by
  have hn0 : 0 < n := by have := hb.1; simp at this; omega
  have hnz : ((n : Int) == 0) = false := by simp; omega
  obtain ⟨B', off', e, y, hy, hc0⟩ := CB_cell hb (i := 0) hn0
  cases e
  cases hy
  rw [Nat.add_zero] at hc0
  obtain ⟨z, hz⟩ : ∃ z : Int, z = (x.toNat : Int) := ⟨_, rfl⟩
  rw [← hz] at hc0 hx
  have bx0 : decide (z < 1) = false := decide_eq_false (by omega)
  have bx1 : decide (12 < z) = false := decide_eq_false (by omega)
  have hwz : IntKind.i64.wrap z = z := by rw [wrapI]; exact wrap64_id (by unfold I64; omega)
  have hn5 : (n : Int) < 5 := by omega
  clear hx hz
  go_enter Try.func21, Try.ntmps21
  go_upto_region 1 with fail
  generalize hw1 : World.alloc _ _ = w1
  have hb1 : Below w.heap.size w w1 := by rw [← hw1]; exact (Below.refl _ _).alloc (Nat.le_refl _) _
  have hx1 : w1.heap[w.heap.size]? = some (.cells (RqC (zeroQ 0) (.slice none 0 0)) 32 (0, 0)) := by rw [← hw1]; exact heap_alloc_new _ _
  have H1 := Lib.hid (And.intro hb1 (And.intro hx1 (Array.getElem?_eq_some_iff.1 hx1).1))
  clear hb1 hx1 hw1
  go_upto_region 2 with (first
    | (show wpList _ _ _ (Oper.mk _ (.store _ (.tmp 4) (.tmp 7)) _ _ _ _ :: _) _ _; refine wpList_store_row rfl 32 (.tmp 4) (.tmp 7) rfl w1.heap.size (RqC (zeroQ 0) (.slice none 0 0)) rfl rfl 32 (RqC (zeroQ 0) (.slice none 0 0)) (heap_alloc_new _ _) (infoQ _ _) rfl (RqC_one _ _ _ _) ?_; generalize hw2 : World.setRow _ _ _ = w2; have g1 : Below w1.heap.size w1 w2 := (by rw [← hw2]; exact (grow_row w1 _ _ _).1); have g2 : w2.heap[w1.heap.size]? = some (.cells (RqC (zeroQ 0) (.slice none 0 0)) 32 (0, 0)) := (by rw [← hw2]; exact (grow_row w1 _ _ _).2); have H2 : Hid (Below w.heap.size w w2 ∧ w2.heap[w.heap.size]? = some (.cells (RqC (zeroQ 0) (.slice none 0 0)) 32 (0, 0)) ∧ w2.heap[w1.heap.size]? = some (.cells (RqC (zeroQ 0) (.slice none 0 0)) 32 (0, 0)) ∧ w1.heap.size < w2.heap.size ∧ w.heap.size < w1.heap.size) := Lib.hid ⟨H1.out.1.trans (g1.mono H1.out.1.size), (g1.block _ H1.out.2.2).trans H1.out.2.1, g2, (Array.getElem?_eq_some_iff.1 g2).1, H1.out.2.2⟩; clear hw2 g1 g2)
    | fail)
  have hc2 := cell_below hc0 H2.out.1
  go_upto_region 5 with (first
    | (show wpList _ _ _ (Oper.mk _ (.store _ (.tmp 5) (.tmp 28)) _ _ _ _ :: _) _ _; refine wpList_store_row rfl 32 (.tmp 5) (.tmp 28) rfl w2.heap.size (RqC (zeroQ z) (.slice none 0 0)) rfl rfl 32 (RqC (zeroQ 0) (.slice none 0 0)) (heap_alloc_new _ _) (infoQ _ _) rfl (RqC_one _ _ _ _) ?_; generalize hw3 : World.setRow _ _ _ = w3; have g1 : Below w2.heap.size w2 w3 := (by rw [← hw3]; exact (grow_row w2 _ _ _).1); have g2 : w3.heap[w2.heap.size]? = some (.cells (RqC (zeroQ z) (.slice none 0 0)) 32 (0, 0)) := (by rw [← hw3]; exact (grow_row w2 _ _ _).2); have H3 : Hid (Below w.heap.size w w3 ∧ w3.heap[w.heap.size]? = some (.cells (RqC (zeroQ 0) (.slice none 0 0)) 32 (0, 0)) ∧ w3.heap[w1.heap.size]? = some (.cells (RqC (zeroQ 0) (.slice none 0 0)) 32 (0, 0)) ∧ w3.heap[w2.heap.size]? = some (.cells (RqC (zeroQ z) (.slice none 0 0)) 32 (0, 0))) := Lib.hid ⟨H2.out.1.trans (g1.mono H2.out.1.size), (g1.block _ (Nat.lt_trans H2.out.2.2.2.2 H2.out.2.2.2.1)).trans H2.out.2.1, (g1.block _ H2.out.2.2.2.1).trans H2.out.2.2.1, g2⟩; clear hw3 g1 g2)
    | fail)
  have HN := Lib.hid (And.intro H3.out.1 (And.intro H3.out.2.1 (And.intro H3.out.2.2.1 True.intro)))
  go_wp2_with (first
    | (show wpList _ _ _ (Oper.mk _ (.load _ (.tmp 4)) _ _ _ _ :: _) _ _; refine wpList_load_row rfl 32 (.tmp 4) rfl w1.heap.size rfl 32 (RqC (zeroQ 0) (.slice none 0 0)) (0, 0) _ HN.out.2.2.1 Try.underlying32 rfl (infoQ _ _) ?_)
    | (show wpList _ _ _ (Oper.mk _ (.store _ (.tmp 2) (.tmp 32)) _ _ _ _ :: _) _ _; refine wpList_store_row rfl 32 (.tmp 2) (.tmp 32) rfl w.heap.size (RqC (zeroQ 0) (.slice none 0 0)) rfl rfl 32 _ HN.out.2.1 (infoQ _ _) rfl (RqC_one _ _ _ _) ?_)
    | fail)
  exact ⟨rfl, _, results_two rfl _ _ (w.heap.size) 32 (RqC (zeroQ 0) (.slice none 0 0)) (0, 0) _ rfl (setRow_heap _ _ _ _ _ _ HN.out.2.1) Try.underlying32 rfl (infoQ _ _), none, 0, rfl, Nat.le_refl _, CB_nil _ _, fun p e => (by cases e), ⟨by decide, by decide⟩, ⟨by decide, by decide⟩, below_setRow HN.out.1 (Nat.le_refl _) _⟩
end Go.Proofs.Ytnafeppljnjbeaa
namespace Go.Proofs.Ytnafeppljnjbeaa
open Go Go.RowKit Go.Sort Go.Proofs

theorem wpList_run_appendB {P : Program} {ops : Array Oper} {rest : List Oper} {o : Oper} {a : Act} {w : World} {X : Exit → Act → World → Prop} (hgd : o.guard = none) (s x : Operand) (S : TypeId)
    (ho : o.op = .call { callee := .builtin .append, args := #[s, x], argTypes := #[S, S] }) (v1 v2 v3 : Value) (w3 : World) (hs : a.eval s = v1) (hx : a.eval x = v2) (hr : (Builtin.append_ #[S, S] o.type #[v1, v2]).run P w = .ok v3 w3) (h : wpList P ops X rest (a.put o.dst v3) w3) : wpList P ops X (o :: rest) a w :=
  wpList_plain hgd fun _ hK => by
    unfold Oper.wp execOp
    simp only [ho, resolve, invoke, builtin, Sem.run_bind, Sem.run_pure, Result.andThen_ok, List.map_toArray, List.map_cons, List.map_nil, hs, hx, hr]
    exact hK _ _ h
theorem own_copyB (w : World) (a : Option Addr) (m cap : Nat) (l : List UInt8) (ty : TypeId) (hat : CB.At w a m l) (hnil : a = none → cap = 0) : ∃ a3 c3 w3, (Builtin.append_ #[24, 24] ty #[.slice none 0 0, .slice a m cap]).run Try.prog w = .ok (.slice a3 m c3) w3 ∧ CB.At w3 a3 m l ∧ m ≤ c3 ∧ (∀ p, a3 = some p → w.heap.size ≤ p.block) ∧ (a3 = none → c3 = 0) ∧ Below w.heap.size w w3 := by
  have hm := hat.1
  have hl := hat.2.1
  cases a with
  | none =>
    obtain rfl := hnil rfl
    have h0 : l = [] := by
      rcases hat.2.2 with h | ⟨_, _, h, _⟩
      · exact List.length_eq_zero_iff.1 (by omega)
      · cases h
    subst h0
    obtain rfl : m = 0 := hm.symm
    exact ⟨none, 0, w, rowB.run_none w ty w.heap.size _ [] (Cod.Own.nil _ _), hat, Nat.le_refl _, fun p e => (by cases e), fun _ => rfl, Below.refl _ _⟩
  | some ad =>
    obtain ⟨v', w', hr, ho, hg, hn⟩ := rowB.run w ty w.heap.size _ [] (Cod.Own.nil _ _) ad m cap l hm.symm hat.news (by simp; omega) (by simp; omega) (Nat.le_refl _)
    obtain ⟨a3, c3, rfl, hle, hat3, hb3, hsh⟩ := ho.at_ (by simp; omega)
    simp only [List.nil_append] at hr hle hat3 hsh
    rw [hm] at hr hle hat3
    refine ⟨a3, c3, w', hr, hat3, hle, fun p e => ?_, fun e => ?_, (But.grown hg).below (Nat.le_refl _) fun i e => by cases e⟩
    · subst e
      exact (hb3 p.block rfl).2
    · rcases hsh with ⟨_, _, h⟩ | ⟨g, h⟩
      · exact h
      · rw [h] at e; cases e
theorem sx_set {w W : World} {b5 B p : Nat} {v : Value} (h : W.cell? ⟨B, p, none⟩ = some v) (hB : B < w.heap.size) (h5 : w.heap.size < b5) (o : Nat) (u : Value) : (W.setCell ⟨b5, o, none⟩ u).cell? ⟨B, p, none⟩ = some v := by
  rw [← h]
  exact World.cell?_of_block (((But.refl (fun k => k = b5) W).setCell (p := ⟨b5, o, none⟩) rfl u).block B (World.block_lt_of_cell? W _ h) (by omega))
abbrev SX (B p1 p2 : Nat) (y1 y2 : Int) (w : World) (b5 : Nat) (W : World) : Prop := W.cell? ⟨B, p1, none⟩ = some (.int .u8 y1) ∧ W.cell? ⟨B, p2, none⟩ = some (.int .u8 y2) ∧ Hid (B < w.heap.size ∧ w.heap.size < b5)
theorem SX.eq {B p1 p2 : Nat} {y1 y2 : Int} {w : World} {b5 : Nat} {W W' : World} (h : SX B p1 p2 y1 y2 w b5 W) (e : W = W') : SX B p1 p2 y1 y2 w b5 W' := by subst e; exact h
theorem SX.set {B p1 p2 : Nat} {y1 y2 : Int} {w : World} {b5 : Nat} {W : World} (h : SX B p1 p2 y1 y2 w b5 W) (o : Nat) (u : Value) : SX B p1 p2 y1 y2 w b5 (W.setCell ⟨b5, o, none⟩ u) :=
  ⟨sx_set h.1 h.2.2.out.1 h.2.2.out.2 o u, sx_set h.2.1 h.2.2.out.1 h.2.2.out.2 o u, h.2.2⟩
/-- the request that is read, among the others -/
theorem candQ_len (k : Int) (l : List UInt8) : (candQ k l).model.length ≤ (l.drop 4).length := by
  unfold candQ
  repeat' split
  all_goals first | exact Nat.le_refl _ | exact Nat.zero_le _
theorem docQ_no {x : UInt8} {l : List UInt8} (hx : 1 ≤ (x.toNat : Int) ∧ (x.toNat : Int) ≤ 12) (h : ¬ (mayQ (candQ x.toNat l) = true ∧ bytesQ (candQ x.toNat l) = x :: l)) : docQ (x :: l) = (zeroQ 0, 14) := by
  rw [docQ, if_pos hx, if_neg fun e => h e.2]
theorem docQ_yes {x : UInt8} {l : List UInt8} (hx : 1 ≤ (x.toNat : Int) ∧ (x.toNat : Int) ≤ 12) (h4 : 4 ≤ l.length) (h : mayQ (candQ x.toNat l) = true ∧ bytesQ (candQ x.toNat l) = x :: l) : docQ (x :: l) = (candQ x.toNat l, 0) := by
  rw [docQ, if_pos hx, if_pos ⟨h4, h⟩]
structure DW (w : World) (b4 b5 : Nat) (W : World) (q : Rq) (mv : Value) : Prop where
  below : Below w.heap.size w W
  r2 : W.heap[w.heap.size]? = some (.cells (RqC (zeroQ 0) (.slice none 0 0)) 32 (0, 0))
  r4 : W.heap[b4]? = some (.cells (RqC (zeroQ 0) (.slice none 0 0)) 32 (0, 0))
  r5 : W.heap[b5]? = some (.cells (RqC q mv) 32 (0, 0))
  l4 : w.heap.size < b4
  l5 : b4 < b5
section
variable {w W : World} {b4 b5 : Nat} {q : Rq} {mv : Value}
theorem DW.set (h : DW w b4 b5 W q mv) (o : Nat) (v : Value) (q' : Rq) (mv' : Value) (e : (RqC q mv).setIfInBounds o v = RqC q' mv') : DW w b4 b5 (W.setCell ⟨b5, o, none⟩ v) q' mv' := by
  have hbs : But (fun k => k = b5) W (W.setCell ⟨b5, o, none⟩ v) := (But.refl (fun k => k = b5) _).setCell (p := ⟨b5, o, none⟩) rfl _
  have h4 := h.l4
  have h5 := h.l5
  refine ⟨h.below.trans (hbs.below h.below.size fun k e => by omega), (hbs.block _ (Array.getElem?_eq_some_iff.1 h.r2).1 (by omega)).trans h.r2, (hbs.block _ (Array.getElem?_eq_some_iff.1 h.r4).1 (by omega)).trans h.r4, ?_, h4, h5⟩
  rw [heap_setCell_same _ _ _ _ _ _ h.r5, e]
theorem DW.next {W' : World} (h : DW w b4 b5 W q mv) (hb : Below W.heap.size W W') : DW w b4 b5 W' q mv :=
  ⟨h.below.trans (hb.mono h.below.size), (hb.block _ (Array.getElem?_eq_some_iff.1 h.r2).1).trans h.r2, (hb.block _ (Array.getElem?_eq_some_iff.1 h.r4).1).trans h.r4, (hb.block _ (Array.getElem?_eq_some_iff.1 h.r5).1).trans h.r5, h.l4, h.l5⟩
theorem DW.drew (h : DW w b4 b5 W q mv) : DW w b4 b5 W.drew q mv := h.next (Below.refl _ _).drew
theorem DW.eq {W' : World} (h : DW w b4 b5 W q mv) (e : W = W') : DW w b4 b5 W' q mv := by subst e; exact h
theorem DW.fz (h : DW w b4 b5 W q mv) (o : Nat) : W.frozen? ⟨b5, o, none⟩ = false := frozen_of_row _ _ _ _ _ h.r5
end
/-- what is read behind the ways -/
def DQR (w : World) (b4 b5 : Nat) (q : Rq) (wx : World) : Prop := ∃ a c, DW w b4 b5 wx q (.slice a q.model.length c) ∧ CB.At wx a q.model.length q.model ∧ q.model.length ≤ c ∧ (a = none → c = 0) ∧ (∀ p, a = some p → w.heap.size ≤ p.block)
theorem DQR.of {w W : World} {b4 b5 : Nat} {q : Rq} (h : DW w b4 b5 W q (.slice none 0 0)) (hm : q.model = []) : DQR w b4 b5 q W := by
  have e : q.model.length = 0 := by rw [hm]; rfl
  refine ⟨none, 0, by rw [e]; exact h, by rw [hm]; exact CB_nil _ _, by rw [e]; exact Nat.le_refl _, fun _ => rfl, fun p e => by cases e⟩
set_option maxHeartbeats 8000000 in
set_option maxRecDepth 100000 in
theorem rdq_main (w : World) (B off m d : Nat) (x : UInt8) (l : List UInt8) (hb : CB.At w (some ⟨B, off, none⟩) (m + 5) (x :: l)) (hx : 1 ≤ (x.toNat : Int) ∧ (x.toNat : Int) ≤ 12) (hn : m ≤ 5000) (hd : m ≤ d) (hdm : d + 5 ≤ 9223372036854775807) : Calls Try.prog 21 #[.slice (some ⟨B, off, none⟩) (m + 5) (d + 5)] w (DecTo w (docQ (x :: l))) := by
  have hn0 : 0 < m + 5 := by omega
  have hnz : ((m : Int) + 5 == 0) = false := by simp; omega
  obtain ⟨B', off', e, y, hy, hc0⟩ := CB_cell (n := m + 5) hb (i := 0) hn0
  cases e
  cases hy
  rw [Nat.add_zero] at hc0
  have hBw : B < w.heap.size := World.block_lt_of_cell? w _ hc0
  have mixed : Try.prog.follows .mixedOrders = true := by kernel_rfl
  have hl4 : CB.At w (some ⟨B, off + 1, none⟩) 4 (l.take 4) := by
    have := hb.part 1 5 (by omega) (by omega) B off rfl
    rw [show 1 * CB.k = 1 from rfl, List.drop_take] at this
    exact this
  have hlr : CB.At w (some ⟨B, off + 5, none⟩) m (l.drop 4) := by
    have := hb.part 5 (m + 5) (by omega) (by omega) B off rfl
    rw [show 5 * CB.k = 5 from rfl, List.take_of_length_le (by rw [hb.1]; exact Nat.le_refl _), Nat.add_sub_cancel] at this
    exact this
  obtain ⟨o5, hp5, hlr⟩ : ∃ o5, (if d = 0 then some (⟨B, off, none⟩ : Addr) else some ⟨B, off + 5, none⟩) = some ⟨B, o5, none⟩ ∧ CB.At w (some ⟨B, o5, none⟩) m (l.drop 4) := by
    by_cases hd0 : d = 0
    · obtain rfl : m = 0 := by omega
      have h0 : l.drop 4 = [] := List.length_eq_zero_iff.1 hlr.1
      exact ⟨off, by rw [if_pos hd0], by rw [h0]; exact CB_nil _ _⟩
    · exact ⟨off + 5, by rw [if_neg hd0], hlr⟩
  have HP5 := Lib.hid hp5
  clear hp5
  obtain ⟨i, hi⟩ : ∃ i, i = numOf (l.take 4) := ⟨_, rfl⟩
  have hI : U32 i := by rw [hi]; exact num4_bd l
  have hI0 := hI.1
  have hI1 := hI.2
  have hwi : i % 4294967296 = i := by omega
  have HNUM : Hid (∀ W c', Below w.heap.size w W → Calls Try.prog 44 #[.slice (some ⟨B, off + 1, none⟩) 4 c'] W (fun e w' => e = .returned (.int .u64 i) ∧ W = w')) := by
    rw [hi]
    exact fun W c' hW => dnum_eq W _ 4 c' _ (hl4.below hW) (by decide)
  obtain ⟨z, hz⟩ : ∃ z : Int, z = (x.toNat : Int) := ⟨_, rfl⟩
  rw [← hz] at hc0 hx
  have bx0 : decide (z < 1) = false := decide_eq_false (by omega)
  have bx1 : decide (12 < z) = false := decide_eq_false (by omega)
  have hwz : IntKind.i64.wrap z = z := by rw [wrapI]; exact wrap64_id (by unfold I64; omega)
  obtain ⟨R, hR⟩ : ∃ R, R = docQ (x :: l) := ⟨_, rfl⟩
  rw [← hR]
  obtain ⟨Q, hQ⟩ : ∃ Q, Q = candQ z l := ⟨_, rfl⟩
  have HQ := Lib.hid hQ
  have HH := Lib.hid (And.intro hx (And.intro hz (And.intro hR (And.intro hb hI))))
  have HLR := Lib.hid hlr
  have HI := Lib.hid hi
  have f1 : ((m : Int) + 5 < 5) = False := by simp; omega
  have f2 : (5 : Int) ≤ (d : Int) + 5 := by omega
  have f3 : (m : Int) ≤ (d : Int) := by omega
  clear hx hz hi hI hlr hR hl4 hb hI0 hI1 hQ
  go_enter Try.func21, Try.ntmps21
  go_upto_region 1 with fail
  generalize hw1 : World.alloc _ _ = w1
  have hb1 : Below w.heap.size w w1 := by rw [← hw1]; exact (Below.refl _ _).alloc (Nat.le_refl _) _
  have hx1 : w1.heap[w.heap.size]? = some (.cells (RqC (zeroQ 0) (.slice none 0 0)) 32 (0, 0)) := by rw [← hw1]; exact heap_alloc_new _ _
  have H1 := Lib.hid (And.intro hb1 (And.intro hx1 (Array.getElem?_eq_some_iff.1 hx1).1))
  clear hb1 hx1 hw1
  go_upto_region 2 with (first
    | (show wpList _ _ _ (Oper.mk _ (.store _ (.tmp 4) (.tmp 7)) _ _ _ _ :: _) _ _; refine wpList_store_row rfl 32 (.tmp 4) (.tmp 7) rfl w1.heap.size (RqC (zeroQ 0) (.slice none 0 0)) rfl rfl 32 (RqC (zeroQ 0) (.slice none 0 0)) (heap_alloc_new _ _) (infoQ _ _) rfl (RqC_one _ _ _ _) ?_; generalize hw2 : World.setRow _ _ _ = w2; have g1 : Below w1.heap.size w1 w2 := (by rw [← hw2]; exact (grow_row w1 _ _ _).1); have g2 : w2.heap[w1.heap.size]? = some (.cells (RqC (zeroQ 0) (.slice none 0 0)) 32 (0, 0)) := (by rw [← hw2]; exact (grow_row w1 _ _ _).2); have H2 : Hid (Below w.heap.size w w2 ∧ w2.heap[w.heap.size]? = some (.cells (RqC (zeroQ 0) (.slice none 0 0)) 32 (0, 0)) ∧ w2.heap[w1.heap.size]? = some (.cells (RqC (zeroQ 0) (.slice none 0 0)) 32 (0, 0)) ∧ w1.heap.size < w2.heap.size ∧ w.heap.size < w1.heap.size) := Lib.hid ⟨H1.out.1.trans (g1.mono H1.out.1.size), (g1.block _ H1.out.2.2).trans H1.out.2.1, g2, (Array.getElem?_eq_some_iff.1 g2).1, H1.out.2.2⟩; clear hw2 g1 g2)
    | fail)
  have hc2 := cell_below hc0 H2.out.1
  go_upto_region 5 with (first
    | (show wpList _ _ _ (Oper.mk _ (.store _ (.tmp 5) (.tmp 28)) _ _ _ _ :: _) _ _; refine wpList_store_row rfl 32 (.tmp 5) (.tmp 28) rfl w2.heap.size (RqC (zeroQ z) (.slice none 0 0)) rfl rfl 32 (RqC (zeroQ 0) (.slice none 0 0)) (heap_alloc_new _ _) (infoQ _ _) rfl (RqC_one _ _ _ _) ?_; generalize hw3 : World.setRow _ _ _ = w3; have g1 : Below w2.heap.size w2 w3 := (by rw [← hw3]; exact (grow_row w2 _ _ _).1); have g2 : w3.heap[w2.heap.size]? = some (.cells (RqC (zeroQ z) (.slice none 0 0)) 32 (0, 0)) := (by rw [← hw3]; exact (grow_row w2 _ _ _).2); have H3 : Hid (Below w.heap.size w w3 ∧ w3.heap[w.heap.size]? = some (.cells (RqC (zeroQ 0) (.slice none 0 0)) 32 (0, 0)) ∧ w3.heap[w1.heap.size]? = some (.cells (RqC (zeroQ 0) (.slice none 0 0)) 32 (0, 0)) ∧ w3.heap[w2.heap.size]? = some (.cells (RqC (zeroQ z) (.slice none 0 0)) 32 (0, 0))) := Lib.hid ⟨H2.out.1.trans (g1.mono H2.out.1.size), (g1.block _ (Nat.lt_trans H2.out.2.2.2.2 H2.out.2.2.2.1)).trans H2.out.2.1, (g1.block _ H2.out.2.2.2.1).trans H2.out.2.2.1, g2⟩; clear hw3 g1 g2)
    | fail)
  have D3 : DW w w1.heap.size w2.heap.size w3 (zeroQ z) (.slice none 0 0) := ⟨H3.out.1, H3.out.2.1, H3.out.2.2.1, H3.out.2.2.2, H2.out.2.2.2.2, H2.out.2.2.2.1⟩
  have fz3 := D3.fz 1
  have c31 := (RqC_cells D3.r5).2.1
  have HD3 := Lib.hid D3
  clear D3
  go_upto_block 0 with (first
    | (go_at_call 44; refine (HNUM.out w3 _ H3.out.1).mono ?_; rintro e w4 ⟨rfl, rfl⟩)
    | fail)
  generalize hw5 : World.setCell _ _ _ = w5
  have D5 : DW w w1.heap.size w2.heap.size w5 { zeroQ z with id := i } (.slice none 0 0) := by rw [← hw5]; exact HD3.out.set 1 _ _ _ rfl
  simp only [HP5.out]
  obtain ⟨g0, g1, g2, g3, g4, g5, g6, g7, g8, g9, g10, g11, g12, g13, g14, g15, g16⟩ := RqC_cells D5.r5
  have fz5 := D5.fz
  dsimp only [zeroQ] at g0 g2 g3 g10 g14 g15 g16
  clear g1 g4 g5 g6 g7 g8 g9 g11 g12 g13
  have HD5 := Lib.hid D5
  clear D5 hw5 fz3 c31 hc0 hc2
  go_cut [] from 40 to 168 (fun wx => DQR w w1.heap.size w2.heap.size Q wx)
  case first =>
    have hlen : (l.drop 4).length = m := HLR.out.1
    by_cases k1 : z = 1
    · skip
      by_cases km : m = 1
      · skip
        obtain ⟨B1, o1, e1, y1, hy1, hc1⟩ := CB_cell (HLR.out.below HD5.out.below) (i := 0) (by omega)
        cases e1
        rw [Nat.add_zero] at hc1
        obtain ⟨v, hv⟩ : ∃ v : Int, v = octA (l.drop 4) 0 := ⟨_, rfl⟩
        have hNb : 0 ≤ v ∧ v ≤ 255 := by rw [hv]; exact octA_bd _ _
        have hN2 : (y1.toNat : Int) = v := by rw [hv]; unfold octA; rw [List.getD, hy1]; rfl
        rw [hN2] at hc1
        have hwv : IntKind.i64.wrap v = v := by rw [wrapI]; exact wrap64_id (by unfold I64; omega)
        have cv := hc1
        have Hv := Lib.hid (And.intro hv hNb)
        clear hc1 hy1 hN2 hv hNb
        have hq : candQ z l = { zeroQ z with id := i, ver := v } := by unfold candQ; rw [hlen, ← HI.out, if_pos (by omega), ← Hv.out.1]
        have q0 : (0 : Int) < (m : Int) := by omega
        have q1 : ((m : Int) == 1) = true := by simp; omega
        have bk1 : (z == 1) = true := by simp; omega
        have bk2 : (z == 2) = false := by simp; omega
        have bk3 : (z == 3) = false := by simp; omega
        have bk4 : (z == 4) = false := by simp; omega
        have bk5 : (z == 5) = false := by simp; omega
        have bk6 : (z == 6) = false := by simp; omega
        have bk10 : (z == 10) = false := by simp; omega
        have HKZ := Lib.hid k1
        have HMK := Lib.hid km
        clear k1 km
        go_wp2_with fail
        go_meet
        case rel =>
          rw [HQ.out, hq]
          exact DQR.of (HD5.out.set 2 _ _ _ rfl) rfl
      · skip
        have hq : candQ z l = { zeroQ z with id := i } := by unfold candQ; rw [hlen, ← HI.out, if_neg (by omega), if_neg (by omega), if_neg (by omega), if_neg (by omega), if_neg (by omega), if_neg (by omega), if_neg (by omega)]
        have bm : ((m : Int) == 1) = false := by simp; omega
        have bk1 : (z == 1) = true := by simp; omega
        have bk2 : (z == 2) = false := by simp; omega
        have bk3 : (z == 3) = false := by simp; omega
        have bk4 : (z == 4) = false := by simp; omega
        have bk5 : (z == 5) = false := by simp; omega
        have bk6 : (z == 6) = false := by simp; omega
        have bk10 : (z == 10) = false := by simp; omega
        have HKZ := Lib.hid k1
        have HMK := Lib.hid km
        clear k1 km
        go_wp2_with fail
        go_meet
        case rel =>
          rw [HQ.out, hq]
          exact DQR.of HD5.out rfl
    by_cases k2 : z = 2
    · skip
      have hq : candQ z l = { zeroQ z with id := i, model := l.drop 4 } := by unfold candQ; rw [← HI.out, if_neg (by omega), if_pos (by omega)]
      have HLW := Lib.hid (HLR.out.below HD5.out.below)
      have bk1 : (z == 1) = false := by simp; omega
      have bk2 : (z == 2) = true := by simp; omega
      have bk3 : (z == 3) = false := by simp; omega
      have bk4 : (z == 4) = false := by simp; omega
      have bk5 : (z == 5) = false := by simp; omega
      have bk6 : (z == 6) = false := by simp; omega
      have bk10 : (z == 10) = false := by simp; omega
      have HKZ := Lib.hid k2
      clear k2
      go_wp2_with (first
        | (at_builtin; obtain ⟨a3, c3, w6, hr3, hat3, hle3, hfr3, hnl3, hb3⟩ := own_copyB w5 _ m d (l.drop 4) _ HLW.out (fun e => by cases e); refine wpList_run_appendB rfl _ _ 24 rfl _ _ _ _ rfl rfl hr3 ?_; have D6 := HD5.out.next hb3; have fz6 := D6.fz 3; have c63 := (RqC_cells D6.r5).2.2.2.1; have HD6 := Lib.hid (And.intro D6 (And.intro hat3 (And.intro hle3 (And.intro hfr3 (And.intro HD5.out.below.size hnl3))))); clear hr3 hat3 hle3 hfr3 hnl3 hb3 D6)
        | fail)
      go_meet
      case rel =>
        rw [HQ.out, hq]
        have hbs : But (fun k => k = w2.heap.size) w6 (w6.setCell ⟨w2.heap.size, 3, none⟩ (.slice a3 m c3)) := (But.refl (fun k => k = w2.heap.size) _).setCell (p := ⟨w2.heap.size, 3, none⟩) rfl _
        have hz5 : w2.heap.size < w5.heap.size := (Array.getElem?_eq_some_iff.1 HD5.out.r5).1
        refine ⟨a3, c3, ?_, ?_, ?_, HD6.out.2.2.2.2.2, fun p e => Nat.le_trans HD6.out.2.2.2.2.1 (HD6.out.2.2.2.1 p e)⟩
        · dsimp only
          rw [hlen]
          exact HD6.out.1.set 3 _ _ _ rfl
        · dsimp only
          rw [hlen]
          exact HD6.out.2.1.but hbs fun p e e2 => by have := HD6.out.2.2.2.1 p e; omega
        · dsimp only
          rw [hlen]
          exact HD6.out.2.2.1
    by_cases k3 : z = 3
    · skip
      by_cases km : m = 18
      · skip
        obtain ⟨B1, o1, e1, y1, hy1, hc1⟩ := CB_cell HLR.out (i := 8) (by omega)
        cases e1
        obtain ⟨v1, hv1⟩ : ∃ v : Int, v = octA (l.drop 4) 8 := ⟨_, rfl⟩
        have hNb : 0 ≤ v1 ∧ v1 ≤ 255 := by rw [hv1]; exact octA_bd _ _
        have hN2 : (y1.toNat : Int) = v1 := by rw [hv1]; unfold octA; rw [List.getD, hy1]; rfl
        rw [hN2] at hc1
        have hwv1 : IntKind.i64.wrap v1 = v1 := by rw [wrapI]; exact wrap64_id (by unfold I64; omega)
        have cv1 := hc1
        have Hv1 := Lib.hid (And.intro hv1 hNb)
        clear hc1 hy1 hN2 hv1 hNb
        obtain ⟨B1, o1, e1, y1, hy1, hc1⟩ := CB_cell HLR.out (i := 9) (by omega)
        cases e1
        obtain ⟨v2, hv2⟩ : ∃ v : Int, v = octA (l.drop 4) 9 := ⟨_, rfl⟩
        have hNb : 0 ≤ v2 ∧ v2 ≤ 255 := by rw [hv2]; exact octA_bd _ _
        have hN2 : (y1.toNat : Int) = v2 := by rw [hv2]; unfold octA; rw [List.getD, hy1]; rfl
        rw [hN2] at hc1
        have hwv2 : IntKind.i64.wrap v2 = v2 := by rw [wrapI]; exact wrap64_id (by unfold I64; omega)
        have cv2 := hc1
        have Hv2 := Lib.hid (And.intro hv2 hNb)
        clear hc1 hy1 hN2 hv2 hNb
        obtain ⟨u1, hu1⟩ : ∃ u, u = numOf ((l.drop 4).take 8) := ⟨_, rfl⟩
        have hAt : CB.At w (some ⟨B, o5, none⟩) 8 ((l.drop 4).take 8) := by
          have := HLR.out.part 0 (0 + 8) (by omega) (by omega) B o5 rfl
          rw [show 0 * CB.k = 0 from rfl] at this
          rw [show 0 + 8 = 8 from rfl, List.drop_zero] at this
          exact this
        have HCu1 : Hid (∀ W n' c', n' = 8 → Below w.heap.size w W → Calls Try.prog 44 #[.slice (some ⟨B, o5, none⟩) n' c'] W (fun e w' => e = .returned (.int .u64 u1) ∧ W = w')) := by
          rw [hu1]
          rintro W n' c' rfl hW
          exact dnum_eq W _ 8 c' _ (hAt.below hW) (by decide)
        have hwu1 : IntKind.i64.wrap u1 = wrap64 u1 := wrapI u1
        have Hu1 := Lib.hid hu1
        clear hu1 hAt
        obtain ⟨u2, hu2⟩ : ∃ u, u = numOf ((l.drop 4).drop 10) := ⟨_, rfl⟩
        have hAt : CB.At w (some ⟨B, o5 + 10, none⟩) 8 ((l.drop 4).drop 10) := by
          have := HLR.out.part 10 (10 + 8) (by omega) (by omega) B o5 rfl
          rw [show 10 * CB.k = 10 from rfl] at this
          rw [List.take_of_length_le (by rw [hlen]; omega)] at this
          exact this
        have HCu2 : Hid (∀ W n' c', n' = 8 → Below w.heap.size w W → Calls Try.prog 44 #[.slice (some ⟨B, o5 + 10, none⟩) n' c'] W (fun e w' => e = .returned (.int .u64 u2) ∧ W = w')) := by
          rw [hu2]
          rintro W n' c' rfl hW
          exact dnum_eq W _ 8 c' _ (hAt.below hW) (by decide)
        have hwu2 : IntKind.i64.wrap u2 = wrap64 u2 := wrapI u2
        have Hu2 := Lib.hid hu2
        clear hu2 hAt
        have hq : candQ z l = { zeroQ z with id := i, time := wrap64 u1, pt := v1, ek := v2, dat := wrap64 u2 } := by unfold candQ longA; rw [hlen, ← HI.out, if_neg (by omega), if_neg (by omega), if_pos (by omega), ← Hu1.out, ← Hu2.out, ← Hv1.out.1, ← Hv2.out.1]
        have q0 : (8 : Int) ≤ (d : Int) := by omega
        have q1 : (8 : Int) < (m : Int) := by omega
        have q2 : (9 : Int) < (m : Int) := by omega
        have q3 : (10 : Int) ≤ (m : Int) := by omega
        have q4 : ((m : Int) == 18) = true := by simp; omega
        have q5 : ¬ d = 10 := by omega
        have bk1 : (z == 1) = false := by simp; omega
        have bk2 : (z == 2) = false := by simp; omega
        have bk3 : (z == 3) = true := by simp; omega
        have bk4 : (z == 4) = false := by simp; omega
        have bk5 : (z == 5) = false := by simp; omega
        have bk6 : (z == 6) = false := by simp; omega
        have bk10 : (z == 10) = false := by simp; omega
        have HKZ := Lib.hid k3
        have HMK := Lib.hid km
        clear k3 km
        go_upto_region 14 with fail
        refine wp_last fun K9 hK9 => ?_
        go_cut [] from 70 to 88 (fun wx => DW w w1.heap.size w2.heap.size wx { zeroQ z with id := i, time := IntKind.i64.wrap u1, pt := IntKind.i64.wrap v1, ek := IntKind.i64.wrap v2, dat := IntKind.i64.wrap u2 } (.slice none 0 0))
        rotate_left
        · have D9 := hcut
          rw [hwu1, hwu2, hwv1, hwv2] at D9
          have HD9 := Lib.hid D9
          clear D9
          clear hcut
          refine hK9 _ _ ?_
          go_wp2_with fail
          go_meet
          case rel =>
            rw [HQ.out, hq]
            exact DQR.of HD9.out rfl
        rename_i J K' hJ hK'
        refine wp_region_held (S := fun W => Hid (Below w.heap.size w W)) (by kernel_rfl) ?_
        change wpAnyH _ _ _ _ _ _ _ _ (World.drew _)
        have HDd := Lib.hid HD5.out.drew
        have hS0 : Hid (Below w.heap.size w w5.drew) := Lib.hid HDd.out.below
        refine wpAnyH_take (i := 0) (v := .slice (some ⟨B, o5, none⟩) m d) rfl (by kernel_rfl) (by kernel_rfl) (by kernel_rfl) (fun _ _ _ h => h) (y_on (by kernel_rfl) (fun W hW => by kernel_rfl)) hS0 ?_
        refine wpAnyH_take (i := 1) (v := .slice (some ⟨B, o5, none⟩) 8 d) rfl (by kernel_rfl) (by kernel_rfl) (by kernel_rfl) (fun _ _ _ h => h) (y_on (by kernel_rfl) (fun W hW => by go_simp)) hS0 ?_
        refine wpAnyH_take (i := 5) (v := .slice (some ⟨B, o5, none⟩) m d) rfl (by kernel_rfl) (by kernel_rfl) (by kernel_rfl) (fun _ _ _ h => h) (y_on (by kernel_rfl) (fun W hW => by kernel_rfl)) hS0 ?_
        refine wpAnyH_take (i := 6) (v := .pointer (some ⟨B, o5 + 8, none⟩)) rfl (by kernel_rfl) (by kernel_rfl) (by kernel_rfl) (fun _ _ _ h => h) (y_on (by kernel_rfl) (fun W hW => by go_simp)) hS0 ?_
        refine wpAnyH_take (i := 7) (v := .int .u8 v1) rfl (by kernel_rfl) (by kernel_rfl) (by kernel_rfl) (fun _ _ _ h => h) (y_on (by kernel_rfl) (fun W hW => by have hc := cell_below cv1 hW.out; go_simp)) hS0 ?_
        refine wpAnyH_take (i := 8) (v := .int .i64 (IntKind.i64.wrap v1)) rfl (by kernel_rfl) (by kernel_rfl) (by kernel_rfl) (fun _ _ _ h => h) (y_on (by kernel_rfl) (fun W hW => by kernel_rfl)) hS0 ?_
        refine wpAnyH_take (i := 9) (v := .slice (some ⟨B, o5, none⟩) m d) rfl (by kernel_rfl) (by kernel_rfl) (by kernel_rfl) (fun _ _ _ h => h) (y_on (by kernel_rfl) (fun W hW => by kernel_rfl)) hS0 ?_
        refine wpAnyH_take (i := 10) (v := .pointer (some ⟨B, o5 + 9, none⟩)) rfl (by kernel_rfl) (by kernel_rfl) (by kernel_rfl) (fun _ _ _ h => h) (y_on (by kernel_rfl) (fun W hW => by go_simp)) hS0 ?_
        refine wpAnyH_take (i := 11) (v := .int .u8 v2) rfl (by kernel_rfl) (by kernel_rfl) (by kernel_rfl) (fun _ _ _ h => h) (y_on (by kernel_rfl) (fun W hW => by have hc := cell_below cv2 hW.out; go_simp)) hS0 ?_
        refine wpAnyH_take (i := 12) (v := .int .i64 (IntKind.i64.wrap v2)) rfl (by kernel_rfl) (by kernel_rfl) (by kernel_rfl) (fun _ _ _ h => h) (y_on (by kernel_rfl) (fun W hW => by kernel_rfl)) hS0 ?_
        refine wpAnyH_take (i := 13) (v := .slice (some ⟨B, o5, none⟩) m d) rfl (by kernel_rfl) (by kernel_rfl) (by kernel_rfl) (fun _ _ _ h => h) (y_on (by kernel_rfl) (fun W hW => by kernel_rfl)) hS0 ?_
        refine wpAnyH_take (i := 14) (v := .slice (some ⟨B, o5 + 10, none⟩) (m - 10) (d - 10)) rfl (by kernel_rfl) (by kernel_rfl) (by kernel_rfl) (fun _ _ _ h => h) (y_on (by kernel_rfl) (fun W hW => by go_simp)) hS0 ?_
        refine held_go (i := 2) (o := { dst := some 72, op := Op.call { callee := Callee.value (Operand.func 44), args := #[Operand.tmp 71], argTypes := #[24] }, type := 85, pos := "ref.go:112", after := #[{ on := 1, ground := Ground.data }], guard := none }) #[true, true, false, false, false, true, true, true, true, true, true, true, true, true, true, false, false, false, false, false] (by kernel_rfl) (by kernel_rfl) (by kernel_rfl) (by kernel_rfl) (by kernel_rfl) (X := fun v W => v = .int .u64 u1 ∧ w5.drew = W) ((HCu1.out w5.drew 8 d rfl HDd.out.below).mono fun e w' ⟨e1, e2⟩ => ⟨_, e1, rfl, e2⟩) ?_
        rintro v w6 ⟨rfl, hw6⟩
        subst hw6
        refine ⟨hS0, ?_⟩
        refine wpAnyH_take (i := 3) (v := .int .i64 (IntKind.i64.wrap u1)) rfl (by kernel_rfl) (by kernel_rfl) (by kernel_rfl) (fun _ _ _ h => h) (y_on (by kernel_rfl) (fun W hW => by kernel_rfl)) hS0 ?_
        refine wpAnyH_take (i := 4) (v := .agg #[.int .i64 (IntKind.i64.wrap u1), .int .i64 0, .int .i64 0]) rfl (by kernel_rfl) (by kernel_rfl) (by kernel_rfl) (fun _ _ _ h => h) (y_on (by kernel_rfl) (fun W hW => by kernel_rfl)) hS0 ?_
        refine held_go (i := 15) (o := { dst := some 85, op := Op.call { callee := Callee.value (Operand.func 44), args := #[Operand.tmp 84], argTypes := #[24] }, type := 85, pos := "ref.go:112", after := #[{ on := 14, ground := Ground.data }, { on := 2, ground := Ground.chain }], guard := none }) #[true, true, true, true, true, true, true, true, true, true, true, true, true, true, true, false, false, false, false, false] (by kernel_rfl) (by kernel_rfl) (by kernel_rfl) (by kernel_rfl) (by kernel_rfl) (X := fun v W => v = .int .u64 u2 ∧ w5.drew = W) ((HCu2.out w5.drew (m - 10) (d - 10) (by have := HMK.out; omega) HDd.out.below).mono fun e w' ⟨e1, e2⟩ => ⟨_, e1, rfl, e2⟩) ?_
        rintro v w6 ⟨rfl, hw6⟩
        subst hw6
        refine ⟨hS0, ?_⟩
        refine wpAnyH_take (i := 16) (v := .int .i64 (IntKind.i64.wrap u2)) rfl (by kernel_rfl) (by kernel_rfl) (by kernel_rfl) (fun _ _ _ h => h) (y_on (by kernel_rfl) (fun W hW => by kernel_rfl)) hS0 ?_
        refine wpAnyH_take (i := 17) (v := .agg #[.int .i64 (IntKind.i64.wrap u1), .int .i64 0, .int .i64 0, .int .i64 (IntKind.i64.wrap v1), .int .i64 (IntKind.i64.wrap v2), .int .i64 (IntKind.i64.wrap u2)]) rfl (by kernel_rfl) (by kernel_rfl) (by kernel_rfl) (fun _ _ _ h => h) (y_on (by kernel_rfl) (fun W hW => by kernel_rfl)) hS0 ?_
        refine wpAnyH_take (i := 18) (v := .pointer (some ⟨w2.heap.size, 4, none⟩)) rfl (by kernel_rfl) (by kernel_rfl) (by kernel_rfl) (fun _ _ _ h => h) (y_on (by kernel_rfl) (fun W hW => by kernel_rfl)) hS0 ?_
        have D9 := ((((((HDd.out.set 4 (.int .i64 (IntKind.i64.wrap u1)) { zeroQ z with id := i, time := IntKind.i64.wrap u1 } (.slice none 0 0) rfl).set 5 (.int .i64 0) _ _ rfl).set 6 (.int .i64 0) _ _ rfl).set 7 (.int .i64 (IntKind.i64.wrap v1)) { zeroQ z with id := i, time := IntKind.i64.wrap u1, pt := IntKind.i64.wrap v1 } (.slice none 0 0) rfl).set 8 (.int .i64 (IntKind.i64.wrap v2)) { zeroQ z with id := i, time := IntKind.i64.wrap u1, pt := IntKind.i64.wrap v1, ek := IntKind.i64.wrap v2 } (.slice none 0 0) rfl).set 9 (.int .i64 (IntKind.i64.wrap u2)) { zeroQ z with id := i, time := IntKind.i64.wrap u1, pt := IntKind.i64.wrap v1, ek := IntKind.i64.wrap v2, dat := IntKind.i64.wrap u2 } (.slice none 0 0) rfl)
        have HD9 := Lib.hid D9
        clear D9
        obtain ⟨-, -, -, -, cd4, cd5, cd6, cd7, cd8, cd9, -⟩ := RqC_cells HD5.out.r5
        refine held_do (i := 19) (o := { dst := none, op := Op.store 28 (Operand.tmp 88) (Operand.tmp 87), type := 0, pos := "ref.go:112", after := #[{ on := 18, ground := Ground.data }, { on := 17, ground := Ground.data }, { on := 15, ground := Ground.chain }, { on := 0, ground := Ground.phase }, { on := 1, ground := Ground.phase }, { on := 2, ground := Ground.phase }, { on := 3, ground := Ground.phase }, { on := 4, ground := Ground.phase }, { on := 5, ground := Ground.phase }, { on := 6, ground := Ground.phase }, { on := 7, ground := Ground.phase }, { on := 8, ground := Ground.phase }, { on := 9, ground := Ground.phase }, { on := 10, ground := Ground.phase }, { on := 11, ground := Ground.phase }, { on := 12, ground := Ground.phase }, { on := 13, ground := Ground.phase }, { on := 14, ground := Ground.phase }, { on := 15, ground := Ground.phase }, { on := 16, ground := Ground.phase }, { on := 17, ground := Ground.phase }], guard := none }) #[true, true, true, true, true, true, true, true, true, true, true, true, true, true, true, true, true, true, true, false] (w' := ((((((w5.drew.setCell ⟨w2.heap.size, 4, none⟩ (.int .i64 (IntKind.i64.wrap u1))).setCell ⟨w2.heap.size, 5, none⟩ (.int .i64 0)).setCell ⟨w2.heap.size, 6, none⟩ (.int .i64 0)).setCell ⟨w2.heap.size, 7, none⟩ (.int .i64 (IntKind.i64.wrap v1))).setCell ⟨w2.heap.size, 8, none⟩ (.int .i64 (IntKind.i64.wrap v2))).setCell ⟨w2.heap.size, 9, none⟩ (.int .i64 (IntKind.i64.wrap u2)))) (by kernel_rfl) (by kernel_rfl) (by kernel_rfl) (by kernel_rfl) ?st (Lib.hid HD9.out.below) ?_
        case st =>
          go_simp
        clear cd4 cd5 cd6 cd7 cd8 cd9
        refine wpAnyH_done (by kernel_rfl) ?_ _
        exact hK' _ _ (Met.intro (hJ _ _ ⟨.slice (some ⟨B, o5, none⟩) m d, .slice (some ⟨B, o5, none⟩) 8 d, .int .u64 u1, .int .i64 (IntKind.i64.wrap u1), .agg #[.int .i64 (IntKind.i64.wrap u1), .int .i64 0, .int .i64 0], .slice (some ⟨B, o5, none⟩) m d, .pointer (some ⟨B, o5 + 8, none⟩), .int .u8 v1, .int .i64 (IntKind.i64.wrap v1), .slice (some ⟨B, o5, none⟩) m d, .pointer (some ⟨B, o5 + 9, none⟩), .int .u8 v2, .int .i64 (IntKind.i64.wrap v2), .slice (some ⟨B, o5, none⟩) m d, .slice (some ⟨B, o5 + 10, none⟩) (m - 10) (d - 10), .int .u64 u2, .int .i64 (IntKind.i64.wrap u2), .agg #[.int .i64 (IntKind.i64.wrap u1), .int .i64 0, .int .i64 0, .int .i64 (IntKind.i64.wrap v1), .int .i64 (IntKind.i64.wrap v2), .int .i64 (IntKind.i64.wrap u2)], .pointer (some ⟨w2.heap.size, 4, none⟩), HD9.out, by kernel_rfl⟩))
      · skip
        have hq : candQ z l = { zeroQ z with id := i } := by unfold candQ; rw [hlen, ← HI.out, if_neg (by omega), if_neg (by omega), if_neg (by omega), if_neg (by omega), if_neg (by omega), if_neg (by omega), if_neg (by omega)]
        have bm : ((m : Int) == 18) = false := by simp; omega
        have bk1 : (z == 1) = false := by simp; omega
        have bk2 : (z == 2) = false := by simp; omega
        have bk3 : (z == 3) = true := by simp; omega
        have bk4 : (z == 4) = false := by simp; omega
        have bk5 : (z == 5) = false := by simp; omega
        have bk6 : (z == 6) = false := by simp; omega
        have bk10 : (z == 10) = false := by simp; omega
        have HKZ := Lib.hid k3
        have HMK := Lib.hid km
        clear k3 km
        go_wp2_with fail
        go_meet
        case rel =>
          rw [HQ.out, hq]
          exact DQR.of HD5.out rfl
    by_cases k4 : z = 4
    · skip
      by_cases km : m = 14
      · skip
        obtain ⟨B1, o1, e1, y1, hy1, hc1⟩ := CB_cell (HLR.out.below HD5.out.below) (i := 4) (by omega)
        cases e1
        obtain ⟨v1, hv1⟩ : ∃ v : Int, v = octA (l.drop 4) 4 := ⟨_, rfl⟩
        have hNb : 0 ≤ v1 ∧ v1 ≤ 255 := by rw [hv1]; exact octA_bd _ _
        have hN2 : (y1.toNat : Int) = v1 := by rw [hv1]; unfold octA; rw [List.getD, hy1]; rfl
        rw [hN2] at hc1
        have hwv1 : IntKind.i64.wrap v1 = v1 := by rw [wrapI]; exact wrap64_id (by unfold I64; omega)
        have cv1 := hc1
        have Hv1 := Lib.hid (And.intro hv1 hNb)
        clear hc1 hy1 hN2 hv1 hNb
        obtain ⟨B1, o1, e1, y1, hy1, hc1⟩ := CB_cell (HLR.out.below HD5.out.below) (i := 5) (by omega)
        cases e1
        obtain ⟨v2, hv2⟩ : ∃ v : Int, v = octA (l.drop 4) 5 := ⟨_, rfl⟩
        have hNb : 0 ≤ v2 ∧ v2 ≤ 255 := by rw [hv2]; exact octA_bd _ _
        have hN2 : (y1.toNat : Int) = v2 := by rw [hv2]; unfold octA; rw [List.getD, hy1]; rfl
        rw [hN2] at hc1
        have hwv2 : IntKind.i64.wrap v2 = v2 := by rw [wrapI]; exact wrap64_id (by unfold I64; omega)
        have cv2 := hc1
        have Hv2 := Lib.hid (And.intro hv2 hNb)
        clear hc1 hy1 hN2 hv2 hNb
        obtain ⟨u, hu⟩ : ∃ u, u = numOf ((l.drop 4).take 4) := ⟨_, rfl⟩
        have hU : U32 u := by rw [hu]; exact num4_bd _
        have hU0 := hU.1
        have hU1 := hU.2
        have hwu : u % 4294967296 = u := by omega
        have HNU : Hid (∀ W c', Below w.heap.size w W → Calls Try.prog 44 #[.slice (some ⟨B, o5, none⟩) 4 c'] W (fun e w' => e = .returned (.int .u64 u) ∧ W = w')) := by
          rw [hu]
          exact fun W c' hW => dnum_eq W _ 4 c' _ ((HLR.out.front 4 (by omega)).below hW) (by decide)
        have HU := Lib.hid hu
        clear hu hU hU0 hU1
        obtain ⟨u2, hu2⟩ : ∃ u, u = numOf ((l.drop 4).drop 6) := ⟨_, rfl⟩
        have hAt : CB.At w (some ⟨B, o5 + 6, none⟩) 8 ((l.drop 4).drop 6) := by
          have := HLR.out.part 6 (6 + 8) (by omega) (by omega) B o5 rfl
          rw [show 6 * CB.k = 6 from rfl] at this
          rw [List.take_of_length_le (by rw [hlen]; omega)] at this
          exact this
        have HCu2 : Hid (∀ W n' c', n' = 8 → Below w.heap.size w W → Calls Try.prog 44 #[.slice (some ⟨B, o5 + 6, none⟩) n' c'] W (fun e w' => e = .returned (.int .u64 u2) ∧ W = w')) := by
          rw [hu2]
          rintro W n' c' rfl hW
          exact dnum_eq W _ 8 c' _ (hAt.below hW) (by decide)
        have hwu2 : IntKind.i64.wrap u2 = wrap64 u2 := wrapI u2
        have Hu2 := Lib.hid hu2
        clear hu2 hAt
        have hvb := Hv2.out.2
        have q0 : (4 : Int) ≤ (d : Int) := by omega
        have q1 : (4 : Int) < (m : Int) := by omega
        have q2 : (5 : Int) < (m : Int) := by omega
        have q3 : (6 : Int) ≤ (m : Int) := by omega
        have q4 : ((m : Int) == 14) = true := by simp; omega
        have q5 : ¬ d = 6 := by omega
        have bk1 : (z == 1) = false := by simp; omega
        have bk2 : (z == 2) = false := by simp; omega
        have bk3 : (z == 3) = false := by simp; omega
        have bk4 : (z == 4) = true := by simp; omega
        have bk5 : (z == 5) = false := by simp; omega
        have bk6 : (z == 6) = false := by simp; omega
        have bk10 : (z == 10) = false := by simp; omega
        have HKZ := Lib.hid k4
        have HMK := Lib.hid km
        clear k4 km
        go_upto_region 17 with (first
          | (go_at_call 44; refine (HNU.out w5 _ HD5.out.below).mono ?_; rintro e w6 ⟨rfl, rfl⟩)
          | fail)
        generalize hw6 : World.setCell _ _ _ = w6
        have D6 : DW w w1.heap.size w2.heap.size w6 { zeroQ z with id := i, num := u } (.slice none 0 0) := by rw [← hw6]; exact HD5.out.set 10 _ _ _ rfl
        have cx1 : w6.cell? ⟨B, o5 + 4, none⟩ = some (.int .u8 v1) := by rw [← hw6]; exact sx_set cv1 hBw (by have := HD5.out.l4; have := HD5.out.l5; omega) _ _
        have cx2 : w6.cell? ⟨B, o5 + 5, none⟩ = some (.int .u8 v2) := by rw [← hw6]; exact sx_set cv2 hBw (by have := HD5.out.l4; have := HD5.out.l5; omega) _ _
        have hst0 : SX B (o5 + 4) (o5 + 5) v1 v2 w w2.heap.size w6.drew := ⟨cell_below cx1 (Below.refl _ _).drew, cell_below cx2 (Below.refl _ _).drew, Lib.hid ⟨hBw, by have := HD5.out.l4; have := HD5.out.l5; omega⟩⟩
        have HDd := Lib.hid D6.drew
        clear D6 hw6 g0 g2 g3 g10 g14 g15 g16 fz5 cv1 cv2 cx1 cx2
        go_region_held3 (fun W => SX B (o5 + 4) (o5 + 5) v1 v2 w w2.heap.size W) (first | assumption | exact hst0 | exact hst8 | exact SX.set (SX.set (SX.set hst8 11 _) 12 _) 13 _)
          (first
          | (go_at_call 44; refine (HCu2.out _ _ _ (by have := HMK.out; omega) HDd.out.below).mono ?_; rintro e w8 ⟨rfl, hw8⟩; have hst8 := hst0.eq hw8; have D8 := HDd.out.eq hw8; have fz8 := D8.fz; obtain ⟨-, -, -, -, -, -, -, -, -, -, -, cd11, cd12, cd13, -⟩ := RqC_cells D8.r5; dsimp only [zeroQ] at cd11 cd12 cd13; have HD8 := Lib.hid D8; clear hw8 D8))
        have D7 := ((HD8.out.set 11 (.int .i64 v1) { zeroQ z with id := i, num := u, bp := v1 } (.slice none 0 0) rfl).set 12 (.int .i64 v2) { zeroQ z with id := i, num := u, bp := v1, bk := v2 } (.slice none 0 0) rfl).set 13 (.int .i64 (wrap64 u2)) { zeroQ z with id := i, num := u, bp := v1, bk := v2, bt := wrap64 u2 } (.slice none 0 0) rfl
        have hst7 := SX.set (SX.set (SX.set hst8 11 (.int .i64 v1)) 12 (.int .i64 v2)) 13 (.int .i64 (wrap64 u2))
        clear hst0 hst8 fz8 cd11 cd12 cd13
        revert D7 hst7
        generalize World.setCell (World.setCell (World.setCell _ _ _) _ _) _ _ = w7
        intro D7 hst7
        have cy := hst7.2.1
        have fz7 := D7.fz 12
        have cy2 := (RqC_cells D7.r5).2.2.2.2.2.2.2.2.2.2.2.2.1
        have HD7 := Lib.hid D7
        clear D7 hst7
        by_cases hv : v2 = 255
        · have hv9 : (v2 == 255) = true := by simp [hv]
          have hq : candQ z l = { zeroQ z with id := i, num := u, bp := v1, bk := -1, bt := wrap64 u2 } := by have hzk := HKZ.out; have hmk := HMK.out; unfold candQ longA; rw [hlen, ← HI.out, if_neg (by omega), if_neg (by omega), if_neg (by omega), if_pos (by omega), ← HU.out, ← Hu2.out, ← Hv1.out.1, ← Hv2.out.1, if_pos hv]
          have HV := Lib.hid hv
          clear hv
          go_wp2_with fail
          go_meet
          case rel =>
            rw [HQ.out, hq]
            exact DQR.of (HD7.out.set 12 _ _ _ rfl) rfl
        · have hv9 : (v2 == 255) = false := by simp [hv]
          have hq : candQ z l = { zeroQ z with id := i, num := u, bp := v1, bk := v2, bt := wrap64 u2 } := by have hzk := HKZ.out; have hmk := HMK.out; unfold candQ longA; rw [hlen, ← HI.out, if_neg (by omega), if_neg (by omega), if_neg (by omega), if_pos (by omega), ← HU.out, ← Hu2.out, ← Hv1.out.1, ← Hv2.out.1, if_neg hv]
          have HV := Lib.hid hv
          clear hv
          go_wp2_with fail
          go_meet
          case rel =>
            rw [HQ.out, hq]
            exact DQR.of HD7.out rfl
      · skip
        have hq : candQ z l = { zeroQ z with id := i } := by unfold candQ; rw [hlen, ← HI.out, if_neg (by omega), if_neg (by omega), if_neg (by omega), if_neg (by omega), if_neg (by omega), if_neg (by omega), if_neg (by omega)]
        have bm : ((m : Int) == 14) = false := by simp; omega
        have bk1 : (z == 1) = false := by simp; omega
        have bk2 : (z == 2) = false := by simp; omega
        have bk3 : (z == 3) = false := by simp; omega
        have bk4 : (z == 4) = true := by simp; omega
        have bk5 : (z == 5) = false := by simp; omega
        have bk6 : (z == 6) = false := by simp; omega
        have bk10 : (z == 10) = false := by simp; omega
        have HKZ := Lib.hid k4
        have HMK := Lib.hid km
        clear k4 km
        go_wp2_with fail
        go_meet
        case rel =>
          rw [HQ.out, hq]
          exact DQR.of HD5.out rfl
    by_cases k5 : z = 5
    · skip
      by_cases km : m = 4
      · skip
        obtain ⟨u, hu⟩ : ∃ u, u = numOf ((l.drop 4).take 4) := ⟨_, rfl⟩
        have hU : U32 u := by rw [hu]; exact num4_bd _
        have hU0 := hU.1
        have hU1 := hU.2
        have hwu : u % 4294967296 = u := by omega
        have HNU : Hid (∀ W c', Below w.heap.size w W → Calls Try.prog 44 #[.slice (some ⟨B, o5, none⟩) m c'] W (fun e w' => e = .returned (.int .u64 u) ∧ W = w')) := by
          rw [hu, List.take_of_length_le (by omega)]
          exact fun W c' hW => dnum_eq W _ m c' _ (HLR.out.below hW) (by omega)
        have HU := Lib.hid hu
        clear hu hU hU0 hU1
        have hq : candQ z l = { zeroQ z with id := i, num := u } := by unfold candQ; rw [hlen, ← HI.out, if_neg (by omega), if_neg (by omega), if_neg (by omega), if_neg (by omega), if_pos (by omega), ← HU.out]
        have q0 : ((m : Int) == 4) = true := by simp; omega
        have bk1 : (z == 1) = false := by simp; omega
        have bk2 : (z == 2) = false := by simp; omega
        have bk3 : (z == 3) = false := by simp; omega
        have bk4 : (z == 4) = false := by simp; omega
        have bk5 : (z == 5) = true := by simp; omega
        have bk6 : (z == 6) = false := by simp; omega
        have bk10 : (z == 10) = false := by simp; omega
        have HKZ := Lib.hid k5
        have HMK := Lib.hid km
        clear k5 km
        go_wp2_with (first
          | (go_at_call 44; refine (HNU.out w5 _ HD5.out.below).mono ?_; rintro e w6 ⟨rfl, rfl⟩)
          | fail)
        go_meet
        case rel =>
          rw [HQ.out, hq]
          exact DQR.of (HD5.out.set 10 _ _ _ rfl) rfl
      · skip
        have hq : candQ z l = { zeroQ z with id := i } := by unfold candQ; rw [hlen, ← HI.out, if_neg (by omega), if_neg (by omega), if_neg (by omega), if_neg (by omega), if_neg (by omega), if_neg (by omega), if_neg (by omega)]
        have bm : ((m : Int) == 4) = false := by simp; omega
        have bk1 : (z == 1) = false := by simp; omega
        have bk2 : (z == 2) = false := by simp; omega
        have bk3 : (z == 3) = false := by simp; omega
        have bk4 : (z == 4) = false := by simp; omega
        have bk5 : (z == 5) = true := by simp; omega
        have bk6 : (z == 6) = false := by simp; omega
        have bk10 : (z == 10) = false := by simp; omega
        have HKZ := Lib.hid k5
        have HMK := Lib.hid km
        clear k5 km
        go_wp2_with fail
        go_meet
        case rel =>
          rw [HQ.out, hq]
          exact DQR.of HD5.out rfl
    by_cases k6 : z = 6
    · skip
      by_cases km : m = 1
      · skip
        obtain ⟨B1, o1, e1, y1, hy1, hc1⟩ := CB_cell (HLR.out.below HD5.out.below) (i := 0) (by omega)
        cases e1
        rw [Nat.add_zero] at hc1
        obtain ⟨v, hv⟩ : ∃ v : Int, v = octA (l.drop 4) 0 := ⟨_, rfl⟩
        have hNb : 0 ≤ v ∧ v ≤ 255 := by rw [hv]; exact octA_bd _ _
        have hN2 : (y1.toNat : Int) = v := by rw [hv]; unfold octA; rw [List.getD, hy1]; rfl
        rw [hN2] at hc1
        have hwv : IntKind.i64.wrap v = v := by rw [wrapI]; exact wrap64_id (by unfold I64; omega)
        have cv := hc1
        have Hv := Lib.hid (And.intro hv hNb)
        clear hc1 hy1 hN2 hv hNb
        have hq : candQ z l = { zeroQ z with id := i, pr := v } := by unfold candQ; rw [hlen, ← HI.out, if_neg (by omega), if_neg (by omega), if_neg (by omega), if_neg (by omega), if_neg (by omega), if_pos (by omega), ← Hv.out.1]
        have q0 : (0 : Int) < (m : Int) := by omega
        have q1 : ((m : Int) == 1) = true := by simp; omega
        have bk1 : (z == 1) = false := by simp; omega
        have bk2 : (z == 2) = false := by simp; omega
        have bk3 : (z == 3) = false := by simp; omega
        have bk4 : (z == 4) = false := by simp; omega
        have bk5 : (z == 5) = false := by simp; omega
        have bk6 : (z == 6) = true := by simp; omega
        have bk10 : (z == 10) = false := by simp; omega
        have HKZ := Lib.hid k6
        have HMK := Lib.hid km
        clear k6 km
        go_wp2_with fail
        go_meet
        case rel =>
          rw [HQ.out, hq]
          exact DQR.of (HD5.out.set 14 _ _ _ rfl) rfl
      · skip
        have hq : candQ z l = { zeroQ z with id := i } := by unfold candQ; rw [hlen, ← HI.out, if_neg (by omega), if_neg (by omega), if_neg (by omega), if_neg (by omega), if_neg (by omega), if_neg (by omega), if_neg (by omega)]
        have bm : ((m : Int) == 1) = false := by simp; omega
        have bk1 : (z == 1) = false := by simp; omega
        have bk2 : (z == 2) = false := by simp; omega
        have bk3 : (z == 3) = false := by simp; omega
        have bk4 : (z == 4) = false := by simp; omega
        have bk5 : (z == 5) = false := by simp; omega
        have bk6 : (z == 6) = true := by simp; omega
        have bk10 : (z == 10) = false := by simp; omega
        have HKZ := Lib.hid k6
        have HMK := Lib.hid km
        clear k6 km
        go_wp2_with fail
        go_meet
        case rel =>
          rw [HQ.out, hq]
          exact DQR.of HD5.out rfl
    by_cases k10 : z = 10
    · skip
      by_cases km : m = 16
      · skip
        obtain ⟨u1, hu1⟩ : ∃ u, u = numOf ((l.drop 4).take 8) := ⟨_, rfl⟩
        have hAt : CB.At w (some ⟨B, o5, none⟩) 8 ((l.drop 4).take 8) := by
          have := HLR.out.part 0 (0 + 8) (by omega) (by omega) B o5 rfl
          rw [show 0 * CB.k = 0 from rfl] at this
          rw [show 0 + 8 = 8 from rfl, List.drop_zero] at this
          exact this
        have HCu1 : Hid (∀ W n' c', n' = 8 → Below w.heap.size w W → Calls Try.prog 44 #[.slice (some ⟨B, o5, none⟩) n' c'] W (fun e w' => e = .returned (.int .u64 u1) ∧ W = w')) := by
          rw [hu1]
          rintro W n' c' rfl hW
          exact dnum_eq W _ 8 c' _ (hAt.below hW) (by decide)
        have hwu1 : IntKind.i64.wrap u1 = wrap64 u1 := wrapI u1
        have Hu1 := Lib.hid hu1
        clear hu1 hAt
        obtain ⟨u2, hu2⟩ : ∃ u, u = numOf ((l.drop 4).drop 8) := ⟨_, rfl⟩
        have hAt : CB.At w (some ⟨B, o5 + 8, none⟩) 8 ((l.drop 4).drop 8) := by
          have := HLR.out.part 8 (8 + 8) (by omega) (by omega) B o5 rfl
          rw [show 8 * CB.k = 8 from rfl] at this
          rw [List.take_of_length_le (by rw [hlen]; omega)] at this
          exact this
        have HCu2 : Hid (∀ W n' c', n' = 8 → Below w.heap.size w W → Calls Try.prog 44 #[.slice (some ⟨B, o5 + 8, none⟩) n' c'] W (fun e w' => e = .returned (.int .u64 u2) ∧ W = w')) := by
          rw [hu2]
          rintro W n' c' rfl hW
          exact dnum_eq W _ 8 c' _ (hAt.below hW) (by decide)
        have hwu2 : IntKind.i64.wrap u2 = wrap64 u2 := wrapI u2
        have Hu2 := Lib.hid hu2
        clear hu2 hAt
        have hq : candQ z l = { zeroQ z with id := i, nm := wrap64 u1, dn := wrap64 u2 } := by unfold candQ longA; rw [hlen, ← HI.out, if_neg (by omega), if_neg (by omega), if_neg (by omega), if_neg (by omega), if_neg (by omega), if_neg (by omega), if_pos (by omega), ← Hu1.out, ← Hu2.out]
        have q0 : (8 : Int) ≤ (d : Int) := by omega
        have q1 : (8 : Int) ≤ (m : Int) := by omega
        have q2 : ((m : Int) == 16) = true := by simp; omega
        have q3 : ¬ d = 8 := by omega
        have bk1 : (z == 1) = false := by simp; omega
        have bk2 : (z == 2) = false := by simp; omega
        have bk3 : (z == 3) = false := by simp; omega
        have bk4 : (z == 4) = false := by simp; omega
        have bk5 : (z == 5) = false := by simp; omega
        have bk6 : (z == 6) = false := by simp; omega
        have bk10 : (z == 10) = true := by simp; omega
        have HKZ := Lib.hid k10
        have HMK := Lib.hid km
        clear k10 km
        go_wp2_with (first
          | (go_at_call_of 44 (Value.slice (some (⟨B, o5, none⟩ : Addr)) 8 d); refine (HCu1.out _ _ _ rfl HD5.out.below).mono ?_; rintro e w6 ⟨rfl, rfl⟩)
          | (go_at_call 44; refine (HCu2.out _ _ _ (by have := HMK.out; omega) (HD5.out.set 15 _ { zeroQ z with id := i, nm := wrap64 u1 } (.slice none 0 0) rfl).below).mono ?_; rintro e w6 ⟨rfl, rfl⟩)
          | fail)
        go_meet
        case rel =>
          rw [HQ.out, hq]
          exact DQR.of ((HD5.out.set 15 _ { zeroQ z with id := i, nm := wrap64 u1 } (.slice none 0 0) rfl).set 16 _ _ _ rfl) rfl
      · skip
        have hq : candQ z l = { zeroQ z with id := i } := by unfold candQ; rw [hlen, ← HI.out, if_neg (by omega), if_neg (by omega), if_neg (by omega), if_neg (by omega), if_neg (by omega), if_neg (by omega), if_neg (by omega)]
        have bm : ((m : Int) == 16) = false := by simp; omega
        have bk1 : (z == 1) = false := by simp; omega
        have bk2 : (z == 2) = false := by simp; omega
        have bk3 : (z == 3) = false := by simp; omega
        have bk4 : (z == 4) = false := by simp; omega
        have bk5 : (z == 5) = false := by simp; omega
        have bk6 : (z == 6) = false := by simp; omega
        have bk10 : (z == 10) = true := by simp; omega
        have HKZ := Lib.hid k10
        have HMK := Lib.hid km
        clear k10 km
        go_wp2_with fail
        go_meet
        case rel =>
          rw [HQ.out, hq]
          exact DQR.of HD5.out rfl
    have bk1 : (z == 1) = false := by simp; omega
    have bk2 : (z == 2) = false := by simp; omega
    have bk3 : (z == 3) = false := by simp; omega
    have bk4 : (z == 4) = false := by simp; omega
    have bk5 : (z == 5) = false := by simp; omega
    have bk6 : (z == 6) = false := by simp; omega
    have bk10 : (z == 10) = false := by simp; omega
    have hq : candQ z l = { zeroQ z with id := i } := by unfold candQ; rw [hlen, ← HI.out, if_neg (by omega), if_neg (by omega), if_neg (by omega), if_neg (by omega), if_neg (by omega), if_neg (by omega), if_neg (by omega)]
    have HKZ := Lib.hid (And.intro k1 (And.intro k2 (And.intro k3 (And.intro k4 (And.intro k5 (And.intro k6 k10))))))
    clear k1 k2 k3 k4 k5 k6 k10
    go_wp2_with fail
    go_meet
    case rel =>
      rw [HQ.out, hq]
      exact DQR.of HD5.out rfl
  case rest =>
    obtain ⟨wb, rfl⟩ : ∃ wb, wb = wc := ⟨_, rfl⟩
    obtain ⟨a5, c5, D, hat5, hle5, hnl5, hfr5⟩ := hcut
    have hwf : Wf Q := by rw [HQ.out]; exact candQ_wf z HH.out.1 l
    have hml : Q.model.length ≤ 5000 := by rw [HQ.out]; exact Nat.le_trans (candQ_len z l) (by rw [HLR.out.1]; exact hn)
    have HMM : Hid (∀ W, Below wb.heap.size wb W → Calls Try.prog 10 #[.agg (RqC Q (.slice a5 Q.model.length c5))] W (TellsB (mayQ Q) W)) := fun W hW => rMayRequest_any W Q a5 c5 (hat5.below hW)
    have HEN : Hid (∀ W, Below wb.heap.size wb W → Calls Try.prog 14 #[.agg (RqC Q (.slice a5 Q.model.length c5))] W (CloneTo (bytesQ Q) W)) := fun W hW => rEncode_any W Q a5 c5 hwf (hat5.below hW) hnl5 hml
    have HN : Hid (Below w.heap.size w wb ∧ wb.heap[w.heap.size]? = some (.cells (RqC (zeroQ 0) (.slice none 0 0)) 32 (0, 0)) ∧ wb.heap[w1.heap.size]? = some (.cells (RqC (zeroQ 0) (.slice none 0 0)) 32 (0, 0)) ∧ True) := Lib.hid ⟨D.below, D.r2, D.r4, True.intro⟩
    have HST : Hid (Stand wb w2.heap.size (RqC Q (.slice a5 Q.model.length c5)) 32) := Lib.hid ⟨D.r5⟩
    have HA := Lib.hid (And.intro hat5 (And.intro hle5 (And.intro hfr5 (And.intro hwf.id hwf.num))))
    have HZ : Hid (1 ≤ (x.toNat : Int) ∧ (x.toNat : Int) ≤ 12) := by rw [← HH.out.2.1]; exact Lib.hid HH.out.1
    have HQ2 : Hid (Q = candQ x.toNat l) := by rw [← HH.out.2.1]; exact HQ
    have hb10 : (bytesQ Q).length ≤ 10001 := by have := askQ_len Q hml; unfold bytesQ; simp only [List.length_cons]; omega
    clear D hat5 hle5 hnl5 hfr5 hwf hml bx0 bx1 hwz f1 f2 f3 hwi hlr g0 g2 g3 g10 g14 g15 g16 fz5
    obtain ⟨ok, hok⟩ : ∃ ok, ok = (mayQ Q && decide (bytesQ Q = x :: l)) := ⟨_, rfl⟩
    have HOK := Lib.hid hok
    clear hok
    go_upto_region 27 with fail
    go_cut [179] from 169 to 179 (fun c wx => c = .bool (!ok) ∧ Hid (Below wb.heap.size wb wx))
    case first =>
      rename_i J K' hJ hK'
      cases hmay : mayQ Q with
      | false =>
        have hok : ok = false := by rw [HOK.out, hmay]; rfl
        subst hok
        have HMY : Hid (∀ W, Below wb.heap.size wb W → Calls Try.prog 10 #[.agg (RqC Q (.slice a5 Q.model.length c5))] W (TellsB false W)) := by rw [← hmay]; exact HMM
        clear hmay
        refine wp_region_held (S := fun W => Hid (Below wb.heap.size wb W)) (by kernel_rfl) ?_
        change wpAnyH _ _ _ _ _ _ _ _ (World.drew _)
        have hS0 : Hid (Below wb.heap.size wb wb.drew) := Lib.hid (Below.refl _ _).drew
        refine wpAnyH_take (i := 0) (v := .agg (RqC Q (.slice a5 Q.model.length c5))) rfl (by kernel_rfl) (by kernel_rfl) (by kernel_rfl) (fun _ _ _ h => h) (y_load (by kernel_rfl) 32 (.tmp 5) rfl (w2.heap.size) (by kernel_rfl) 32 (RqC Q (.slice a5 Q.model.length c5)) _ (fun W hW => HST.out.at_ hW) Try.underlying32 rfl (infoQ _ _)) hS0 ?_
        refine held_go (i := 1) (o := { dst := some 170, op := Op.call { callee := Callee.value (Operand.func 10), args := #[Operand.tmp 169], argTypes := #[32] }, type := 4, pos := "ref.go:127", after := #[{ on := 0, ground := Ground.data }], guard := none }) #[true, false, false, false, false, false, false, false, false, false, false] (by kernel_rfl) (by kernel_rfl) (by kernel_rfl) (by kernel_rfl) (by kernel_rfl) (X := fun v W => v = .bool false ∧ Below wb.drew.heap.size wb.drew W) ((HMY.out _ hS0.out).mono fun e w' ⟨e1, e2⟩ => ⟨_, e1, rfl, e2⟩) ?_
        rintro v w12 ⟨rfl, hx2⟩
        have hS1 : Hid (Below wb.heap.size wb w12) := Lib.hid (hS0.out.trans (hx2.mono hS0.out.size))
        clear hx2
        refine ⟨hS1, ?_⟩
        refine wpAnyH_take (i := 2) (v := .bool true) rfl (by kernel_rfl) (by kernel_rfl) (by kernel_rfl) (fun _ _ _ h => h) (y_on (by kernel_rfl) (fun W hW => by kernel_rfl)) hS1 ?_
        refine wpAnyH_take (i := 3) (v := .bool true) rfl (by kernel_rfl) (by kernel_rfl) (by kernel_rfl) (fun _ _ _ h => h) (y_on (by kernel_rfl) (fun W hW => by kernel_rfl)) hS1 ?_
        refine wpAnyH_take (i := 4) (v := undef) rfl (by kernel_rfl) (by kernel_rfl) (by kernel_rfl) (fun _ _ _ h => h) (Or.inr ⟨by kernel_rfl, rfl⟩) hS1 ?_
        refine wpAnyH_take (i := 5) (v := undef) rfl (by kernel_rfl) (by kernel_rfl) (by kernel_rfl) (fun _ _ _ h => h) (Or.inr ⟨by kernel_rfl, rfl⟩) hS1 ?_
        refine wpAnyH_take (i := 6) (v := undef) rfl (by kernel_rfl) (by kernel_rfl) (by kernel_rfl) (fun _ _ _ h => h) (Or.inr ⟨by kernel_rfl, rfl⟩) hS1 ?_
        refine wpAnyH_take (i := 7) (v := undef) rfl (by kernel_rfl) (by kernel_rfl) (by kernel_rfl) (fun _ _ _ h => h) (Or.inr ⟨by kernel_rfl, rfl⟩) hS1 ?_
        refine wpAnyH_take (i := 8) (v := undef) rfl (by kernel_rfl) (by kernel_rfl) (by kernel_rfl) (fun _ _ _ h => h) (Or.inr ⟨by kernel_rfl, rfl⟩) hS1 ?_
        refine wpAnyH_take (i := 9) (v := undef) rfl (by kernel_rfl) (by kernel_rfl) (by kernel_rfl) (fun _ _ _ h => h) (Or.inr ⟨by kernel_rfl, rfl⟩) hS1 ?_
        refine wpAnyH_take (i := 10) (v := .bool true) rfl (by kernel_rfl) (by kernel_rfl) (by kernel_rfl) (fun _ _ _ h => h) (y_on (by kernel_rfl) (fun W hW => by kernel_rfl)) hS1 ?_
        refine wpAnyH_done (by kernel_rfl) ?_ _
        exact hK' _ _ (Met.intro (hJ _ _ ⟨.agg (RqC Q (.slice a5 Q.model.length c5)), .bool false, .bool true, .bool true, undef, undef, undef, undef, undef, undef, .bool true, ⟨rfl, hS1⟩, by kernel_rfl⟩))
      | true =>
        have HMY : Hid (∀ W, Below wb.heap.size wb W → Calls Try.prog 10 #[.agg (RqC Q (.slice a5 Q.model.length c5))] W (TellsB true W)) := by rw [← hmay]; exact HMM
        have hok : ok = decide (bytesQ Q = x :: l) := by rw [HOK.out, hmay, Bool.true_and]
        clear hmay
        obtain ⟨b, hbQ⟩ : ∃ b, b = bytesQ Q := ⟨_, rfl⟩
        rw [← hbQ] at HEN hb10 hok
        clear hbQ
        obtain ⟨t1, ht1⟩ : ∃ t, t = strB b := ⟨_, rfl⟩
        obtain ⟨t2, ht2⟩ : ∃ t, t = strB (x :: l) := ⟨_, rfl⟩
        have HT1 := Lib.hid ht1
        have hcv : ∀ W, Hid (Below wb.heap.size wb W) → (convert 24 9 (.slice (some ⟨B, off, none⟩) (m + 5) (d + 5))).run Try.prog W = .ok (.string t2) W := fun W hW => by rw [ht2]; exact (HH.out.2.2.2.1.below (HN.out.1.trans (hW.out.mono HN.out.1.size))).str _
        have HCV := Lib.hid hcv
        have hcmp : (t1.toList == t2.toList) = ok := by rw [ht1, ht2, strB_beq, hok]
        clear ht1 ht2 hcv hok
        refine wp_region_held (S := fun W => Hid (Below wb.heap.size wb W)) (by kernel_rfl) ?_
        change wpAnyH _ _ _ _ _ _ _ _ (World.drew _)
        have hS0 : Hid (Below wb.heap.size wb wb.drew) := Lib.hid (Below.refl _ _).drew
        refine wpAnyH_take (i := 0) (v := .agg (RqC Q (.slice a5 Q.model.length c5))) rfl (by kernel_rfl) (by kernel_rfl) (by kernel_rfl) (fun _ _ _ h => h) (y_load (by kernel_rfl) 32 (.tmp 5) rfl (w2.heap.size) (by kernel_rfl) 32 (RqC Q (.slice a5 Q.model.length c5)) _ (fun W hW => HST.out.at_ hW) Try.underlying32 rfl (infoQ _ _)) hS0 ?_
        refine held_go (i := 1) (o := { dst := some 170, op := Op.call { callee := Callee.value (Operand.func 10), args := #[Operand.tmp 169], argTypes := #[32] }, type := 4, pos := "ref.go:127", after := #[{ on := 0, ground := Ground.data }], guard := none }) #[true, false, false, false, false, false, false, false, false, false, false] (by kernel_rfl) (by kernel_rfl) (by kernel_rfl) (by kernel_rfl) (by kernel_rfl) (X := fun v W => v = .bool true ∧ Below wb.drew.heap.size wb.drew W) ((HMY.out _ hS0.out).mono fun e w' ⟨e1, e2⟩ => ⟨_, e1, rfl, e2⟩) ?_
        rintro v w12 ⟨rfl, hx2⟩
        have hS1 : Hid (Below wb.heap.size wb w12) := Lib.hid (hS0.out.trans (hx2.mono hS0.out.size))
        clear hx2
        refine ⟨hS1, ?_⟩
        refine wpAnyH_take (i := 2) (v := .bool false) rfl (by kernel_rfl) (by kernel_rfl) (by kernel_rfl) (fun _ _ _ h => h) (y_on (by kernel_rfl) (fun W hW => by kernel_rfl)) hS1 ?_
        refine wpAnyH_take (i := 3) (v := .bool false) rfl (by kernel_rfl) (by kernel_rfl) (by kernel_rfl) (fun _ _ _ h => h) (y_on (by kernel_rfl) (fun W hW => by kernel_rfl)) hS1 ?_
        refine wpAnyH_take (i := 4) (v := .agg (RqC Q (.slice a5 Q.model.length c5))) rfl (by kernel_rfl) (by kernel_rfl) (by kernel_rfl) (fun _ _ _ h => h) (y_load (by kernel_rfl) 32 (.tmp 5) rfl (w2.heap.size) (by kernel_rfl) 32 (RqC Q (.slice a5 Q.model.length c5)) _ (fun W hW => HST.out.at_ hW) Try.underlying32 rfl (infoQ _ _)) hS1 ?_
        refine wpAnyH_take (i := 7) (v := .slice (some ⟨B, off, none⟩) (m + 5) (d + 5)) rfl (by kernel_rfl) (by kernel_rfl) (by kernel_rfl) (fun _ _ _ h => h) (y_on (by kernel_rfl) (fun W hW => by kernel_rfl)) hS1 ?_
        refine wpAnyH_take (i := 8) (v := .string t2) rfl (by kernel_rfl) (by kernel_rfl) (by kernel_rfl) (fun _ _ _ h => h) (y_conv (by kernel_rfl) 24 9 (.tmp 176) rfl (by kernel_rfl) HCV.out) hS1 ?_
        refine held_go (i := 5) (o := { dst := some 174, op := Op.call { callee := Callee.value (Operand.func 14), args := #[Operand.tmp 173], argTypes := #[32] }, type := 24, pos := "ref.go:127", after := #[{ on := 4, ground := Ground.data }, { on := 3, ground := Ground.chain }, { on := 3, ground := Ground.guard }], guard := some (3, false) }) #[true, true, true, true, true, false, false, true, true, false, false] (by kernel_rfl) (by kernel_rfl) (by kernel_rfl) (by kernel_rfl) (by kernel_rfl) (X := fun v W => CB.Own 5 w12.heap.size W v b ∧ Below w12.heap.size w12 W) ((HEN.out _ hS1.out).mono fun e w' ⟨v, e1, e2, e3⟩ => ⟨v, e1, e2, e3⟩) ?_
        rintro v w13 hx
        obtain ⟨a6, c6, rfl, -, hat6, -⟩ := hx.1.at_ (by omega)
        have hS2 : Hid (Below wb.heap.size wb w13) := Lib.hid (hS1.out.trans (hx.2.mono hS1.out.size))
        have hc6 : (convert 24 9 (.slice a6 b.length c6)).run Try.prog w13 = .ok (.string t1) w13 := by rw [HT1.out]; exact hat6.str c6
        clear hx hat6
        refine ⟨hS2, ?_⟩
        refine held_val (i := 6) (o := { dst := some 175, op := Op.convert 24 9 (Operand.tmp 174), type := 9, pos := "ref.go:127", after := #[{ on := 5, ground := Ground.data }, { on := 3, ground := Ground.guard }], guard := some (3, false) }) (v := .string t1) #[true, true, true, true, true, true, false, true, true, false, false] (by kernel_rfl) (by kernel_rfl) (by kernel_rfl) (by kernel_rfl) (exec_conv 24 9 (.tmp 174) rfl (by kernel_rfl) hc6) hS2 ?_
        clear hc6
        refine wpAnyH_take (i := 9) (v := .bool (!ok)) rfl (by kernel_rfl) (by kernel_rfl) (by kernel_rfl) (fun _ _ _ h => h) (y_on (by kernel_rfl) (fun W hW => by go_simp)) hS2 ?_
        refine wpAnyH_take (i := 10) (v := .bool (!ok)) rfl (by kernel_rfl) (by kernel_rfl) (by kernel_rfl) (fun _ _ _ h => h) (y_on (by kernel_rfl) (fun W hW => by kernel_rfl)) hS2 ?_
        refine wpAnyH_done (by kernel_rfl) ?_ _
        exact hK' _ _ (Met.intro (hJ _ _ ⟨.agg (RqC Q (.slice a5 Q.model.length c5)), .bool true, .bool false, .bool false, .agg (RqC Q (.slice a5 Q.model.length c5)), .slice a6 b.length c6, .string t1, .slice (some ⟨B, off, none⟩) (m + 5) (d + 5), .string t2, .bool (!ok), .bool (!ok), ⟨rfl, hS2⟩, by kernel_rfl⟩))
    case rest =>
      obtain ⟨rfl, hS⟩ := hcut
      have HM := Lib.hid HMM.out
      clear HMM HEN hb10
      replace HN : Hid (Below w.heap.size w wc ∧ wc.heap[w.heap.size]? = some (.cells (RqC (zeroQ 0) (.slice none 0 0)) 32 (0, 0)) ∧ wc.heap[w1.heap.size]? = some (.cells (RqC (zeroQ 0) (.slice none 0 0)) 32 (0, 0)) ∧ True) := Lib.hid ⟨HN.out.1.trans (hS.out.mono HN.out.1.size), (hS.out.block _ (Array.getElem?_eq_some_iff.1 HN.out.2.1).1).trans HN.out.2.1, (hS.out.block _ (Array.getElem?_eq_some_iff.1 HN.out.2.2.1).1).trans HN.out.2.2.1, True.intro⟩
      cases ok with
      | false =>
        have hR := HH.out.2.2.1
        rw [docQ_no HZ.out (by rw [← HQ2.out]; exact fun e => by have := HOK.out; rw [e.1, decide_eq_true e.2] at this; cases this)] at hR
        subst hR
        go_wp2_with (first
          | (show wpList _ _ _ (Oper.mk _ (.load _ (.tmp 4)) _ _ _ _ :: _) _ _; refine wpList_load_row rfl 32 (.tmp 4) rfl w1.heap.size rfl 32 (RqC (zeroQ 0) (.slice none 0 0)) (0, 0) _ HN.out.2.2.1 Try.underlying32 rfl (infoQ _ _) ?_)
          | (show wpList _ _ _ (Oper.mk _ (.store _ (.tmp 2) (.tmp 180)) _ _ _ _ :: _) _ _; refine wpList_store_row rfl 32 (.tmp 2) (.tmp 180) rfl w.heap.size (RqC (zeroQ 0) (.slice none 0 0)) rfl rfl 32 _ HN.out.2.1 (infoQ _ _) rfl (RqC_one _ _ _ _) ?_)
          | fail)
        exact ⟨rfl, _, results_two rfl _ _ (w.heap.size) 32 (RqC (zeroQ 0) (.slice none 0 0)) (0, 0) _ rfl (setRow_heap _ _ _ _ _ _ HN.out.2.1) Try.underlying32 rfl (infoQ _ _), none, 0, rfl, Nat.le_refl _, CB_nil _ _, fun p e => (by cases e), ⟨by decide, by decide⟩, ⟨by decide, by decide⟩, below_setRow HN.out.1 (Nat.le_refl _) _⟩
      | true =>
        have h4 : 4 ≤ l.length := by have := HH.out.2.2.2.1.1; simp at this; omega
        have hR := HH.out.2.2.1
        have hmb : mayQ Q = true ∧ bytesQ Q = x :: l := by have := HOK.out; simp at this; exact this
        rw [docQ_yes HZ.out h4 (by rw [← HQ2.out]; exact hmb), ← HQ2.out] at hR
        subst hR
        clear h4 hmb
        have HA2 := Lib.hid (HA.out.1.below hS.out)
        have HR5 := Lib.hid (HST.out.at_ hS)
        go_wp2_with (first
          | (show wpList _ _ _ (Oper.mk _ (.load _ (.tmp 5)) _ _ _ _ :: _) _ _; refine wpList_load_row rfl 32 (.tmp 5) rfl w2.heap.size rfl 32 (RqC Q (.slice a5 Q.model.length c5)) (0, 0) _ HR5.out Try.underlying32 rfl (infoQ _ _) ?_)
          | (show wpList _ _ _ (Oper.mk _ (.store _ (.tmp 2) (.tmp 181)) _ _ _ _ :: _) _ _; refine wpList_store_row rfl 32 (.tmp 2) (.tmp 181) rfl w.heap.size (RqC Q (.slice a5 Q.model.length c5)) rfl rfl 32 _ HN.out.2.1 (infoQ _ _) rfl (RqC_one _ _ _ _) ?_)
          | fail)
        have hbs := below_setRow (w := wc) HN.out.1 (Nat.le_refl _) (RqC Q (.slice a5 Q.model.length c5))
        have hat9 : CB.At (wc.setRow w.heap.size (RqC Q (.slice a5 Q.model.length c5))) a5 Q.model.length Q.model := cat_keep HA2.out HN.out.2.1 _
        exact ⟨rfl, _, results_two rfl _ _ (w.heap.size) 32 (RqC Q (.slice a5 Q.model.length c5)) (0, 0) _ rfl (setRow_heap _ _ _ _ _ _ HN.out.2.1) Try.underlying32 rfl (infoQ _ _), a5, c5, rfl, HA.out.2.1, hat9, fun p e _ => HA.out.2.2.1 p e, HA.out.2.2.2.1, HA.out.2.2.2.2, hbs⟩
end Go.Proofs.Ytnafeppljnjbeaa
