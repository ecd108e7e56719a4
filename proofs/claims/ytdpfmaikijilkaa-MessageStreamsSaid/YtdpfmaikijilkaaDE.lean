/-
  The walk of the document's EncodeRequest.
-/
import Derived.Test.YtdpfmaikijilkaaDB
namespace Go.Proofs.Ytdpfmaikijilkaa
open Go Go.RowKit Go.Sort Go.Proofs

def bytesQ (q : Rq) : List UInt8 := byteI q.kind :: askQ q
theorem own_row (w : World) (k : Int) (B : Nat) (hB : B ≤ w.heap.size) : CB.Own 5 B (w.alloc (.cells #[.int .u8 (k % 256)] 5)) (.slice (some ⟨w.heap.size, 0, none⟩) 1 1) [byteI k] := by
  refine CB_own (l := [byteI k]) hB ?_ rfl (by decide)
  rw [show (cellsB [byteI k]).toArray = #[.int .u8 (k % 256)] by simp [byteI_val]]
  exact heap_alloc_new _ _
set_option maxHeartbeats 4000000 in
set_option maxRecDepth 100000 in
theorem rEncode_any (w : World) (q : Rq) (a : Option Addr) (cap : Nat) (h : Wf q) (ha : CB.At w a q.model.length q.model) (hnil : a = none → cap = 0) (hlen : q.model.length ≤ 5000) : Calls Try.prog 14 #[.agg (RqC q (.slice a q.model.length cap))] w (CloneTo (bytesQ q) w) := by
  have HE : Hid (∀ W, Below w.heap.size w W → Calls Try.prog 34 #[.agg (RqC q (.slice a q.model.length cap))] W (CloneTo (askQ q) W)) := fun W hW => Ask_any W q a cap h (ha.below hW) hnil hlen
  have HLN := Lib.hid (askQ_len q hlen)
  obtain ⟨mv, hmv⟩ : ∃ mv, mv = Value.slice a q.model.length cap := ⟨_, rfl⟩
  rw [← hmv] at HE ⊢
  obtain ⟨k, hk⟩ : ∃ k, k = q.kind := ⟨_, rfl⟩
  obtain ⟨l, hl⟩ : ∃ l, l = askQ q := ⟨_, rfl⟩
  have HBQ : Hid (bytesQ q = [byteI k] ++ l) := by rw [Lib.hid_eq, hk, hl]; rfl
  rw [HBQ.out]
  rw [← hl] at HE HLN
  obtain ⟨m, hm⟩ : ∃ m, m = l.length := ⟨_, rfl⟩
  have HM := Lib.hid (And.intro hm HLN.out)
  clear hmv h ha hnil hlen hl hm HLN
  go_enter Try.func14, Try.ntmps14
  go_wp2_with fail
  generalize hw1 : World.alloc _ _ = w1
  have hb1 : Below w.heap.size w w1 := by rw [← hw1]; exact (Below.refl _ _).alloc (Nat.le_refl _) _
  have hx1 : w1.heap[w.heap.size]? = some (.cells (RqC q mv) 32 (0, 0)) := by rw [← hw1]; exact heap_alloc_new _ _
  have dk : w1.cell? ⟨w.heap.size, 0, none⟩ = some (.int .i64 k) := by rw [hk]; exact (RqC_cells hx1).1
  have H1 := Lib.hid (And.intro hb1 hx1)
  clear hb1 hx1 hw1 hk
  refine wp_region_any (by kernel_rfl) ?_
  change wpAny _ _ _ _ _ _ _ (World.drew _)
  obtain ⟨wd, hwd⟩ : ∃ wd, wd = w1.drew := ⟨_, rfl⟩
  rw [← hwd]
  have H0 : Hid (Below w.heap.size w wd ∧ wd.heap[w.heap.size]? = some (.cells (RqC q mv) 32 (0, 0))) := by rw [hwd]; exact ⟨H1.out.1.drew, H1.out.2⟩
  replace dk : wd.cell? ⟨w.heap.size, 0, none⟩ = some (.int .i64 k) := by rw [hwd]; exact dk
  clear hwd
  refine wpAny_take (i := 0) (v := .pointer (some ⟨w.heap.size, 0, none⟩)) rfl (by kernel_rfl) (by kernel_rfl) (by kernel_rfl) (fun _ _ _ h => h) (Or.inl ⟨by rfl, fun w => by go_simp⟩) ?_
  refine wpAny_ready (rs := [1, 4]) (by kernel_rfl) (by simp) ?_
  refine AllReady.cons rfl (fun K hK => ?_) (AllReady.cons rfl (fun K hK => ?_) AllReady.nil)
  · go_simp
    refine hK _ _ ?_
    clear hK K
    refine wpAny_take (i := 2) (v := .int .u8 (k % 256)) rfl (by kernel_rfl) (by kernel_rfl) (by kernel_rfl) (fun _ _ _ h => h) (Or.inl ⟨by rfl, fun w => by go_simp; simp [IntKind.wrap, IntKind.signed, IntKind.bits]⟩) ?_
    refine wpAny_ready (rs := [3, 4]) (by kernel_rfl) (by simp) ?_
    refine AllReady.cons rfl (fun K hK => ?_) (AllReady.cons rfl (fun K hK => ?_) AllReady.nil)
    · go_simp
      refine hK _ _ ?_
      clear hK K
      have hor := own_row wd k w.heap.size H0.out.1.size
      have hbr : Below wd.heap.size wd (wd.alloc (.cells #[.int .u8 (k % 256)] 5)) := (Below.refl _ _).alloc (Nat.le_refl _) _
      revert hor hbr
      generalize World.alloc wd _ = wb
      intro hor hbr
      skip
      have H3 := Lib.hid hor
      replace H0 : Hid (Below w.heap.size w wb ∧ wb.heap[w.heap.size]? = some (.cells (RqC q mv) 32 (0, 0))) := ⟨H0.out.1.trans (hbr.mono H0.out.1.size), (hbr.block _ (Array.getElem?_eq_some_iff.1 H0.out.2).1).trans H0.out.2⟩
      replace dk := cell_below dk hbr
      clear hor hbr
      refine wpAny_ready (rs := [4]) (by kernel_rfl) (by simp) ?_
      refine AllReady.cons rfl (fun K hK => ?_) AllReady.nil
      · refine step_load_row rfl 32 (.tmp 1) rfl w.heap.size rfl 32 (RqC q mv) (0, 0) _ H0.out.2 Try.underlying32 rfl (infoQ _ _) ?_
        refine hK _ _ ?_
        clear hK K
        refine wpAny_ready (rs := [5]) (by kernel_rfl) (by simp) ?_
        refine AllReady.cons rfl (fun K hK => ?_) AllReady.nil
        · go_simp
          go_at_call 34
          refine (HE.out _ H0.out.1).mono ?_
          rintro e wa ⟨va, rfl, hoa, hba⟩
          obtain ⟨a5, n5, c5, rfl⟩ := hoa.shape
          dsimp only
          refine hK _ _ ?_
          clear hK K
          replace H3 := Lib.hid (H3.out.below hba)
          have H5 : Hid (CB.Own 5 w.heap.size wa (.slice a5 n5 c5) l) := hoa.mono H0.out.1.size
          replace H0 : Hid (Below w.heap.size w wa ∧ wa.heap[w.heap.size]? = some (.cells (RqC q mv) 32 (0, 0))) := ⟨H0.out.1.trans (hba.mono H0.out.1.size), (hba.block _ (Array.getElem?_eq_some_iff.1 H0.out.2).1).trans H0.out.2⟩
          replace dk := cell_below dk hba
          clear hoa hba
          refine wpAny_ready (rs := [6]) (by kernel_rfl) (by simp) ?_
          refine AllReady.cons rfl (fun K hK => ?_) AllReady.nil
          · obtain ⟨ad, c', e5, -, hat, -, hsh⟩ := H5.out.at_ (by have := HM.out.2; omega)
            injection e5 with e51 e52 e53
            cases ad with
            | none =>
              have hl0 : l = [] := by rcases hsh with ⟨_, h, _⟩ | ⟨g, h⟩; exact h; cases h
              have hc0 : c5 = 0 := by rcases hsh with ⟨_, _, h⟩ | ⟨g, h⟩; omega; cases h
              subst e51
              subst hl0
              obtain rfl : n5 = 0 := e52
              subst hc0
              clear e53 hat hsh
              refine rowB.step_none rfl (.tmp 6) (.tmp 8) rfl w.heap.size _ [byteI k] rfl H3.out rfl ?_
              refine hK _ _ ?_
              clear hK K
              have H6 : Hid (CB.Own 5 w.heap.size wa (.slice (some ⟨wd.heap.size, 0, none⟩) 1 1) ([byteI k] ++ []) ∧ Below w.heap.size w wa) := ⟨by rw [List.append_nil]; exact H3.out, H0.out.1⟩
              refine wpAny_take (i := 7) (v := .slice (some ⟨wd.heap.size, 0, none⟩) 1 1) rfl (by kernel_rfl) (by kernel_rfl) (by kernel_rfl) (fun _ _ _ h => h) (Or.inl ⟨by rfl, fun w => by go_simp⟩) ?_
              refine wpAny_done (by kernel_rfl) ?_ _
              go_wp2
              go_ret
              exact ⟨_, rfl, H6.out.1, H6.out.2⟩
            | some ad =>
              subst e51
              clear e53 hsh
              refine rowB.step rfl (.tmp 6) (.tmp 8) rfl w.heap.size _ [byteI k] rfl H3.out ad n5 c5 l rfl e52 hat.news (by have := HM.out.2; simp; omega) (by have := HM.out.2; simp; omega) H0.out.1.size ?_
              intro v6 w6 hown6 hgrow6 _
              obtain ⟨a6, n6, c6, rfl⟩ := hown6.shape
              refine hK _ _ ?_
              clear hK K
              have H6 : Hid (CB.Own 5 w.heap.size w6 (.slice a6 n6 c6) ([byteI k] ++ l) ∧ Below w.heap.size w w6) := ⟨hown6, H0.out.1.trans ((But.grown hgrow6).below H0.out.1.size fun i e => (H3.out.lt i e.symm).1)⟩
              clear hown6 hgrow6
              refine wpAny_take (i := 7) (v := .slice a6 n6 c6) rfl (by kernel_rfl) (by kernel_rfl) (by kernel_rfl) (fun _ _ _ h => h) (Or.inl ⟨by rfl, fun w => by go_simp⟩) ?_
              refine wpAny_done (by kernel_rfl) ?_ _
              go_wp2
              go_ret
              exact ⟨_, rfl, H6.out.1, H6.out.2⟩
    · refine step_load_row rfl 32 (.tmp 1) rfl w.heap.size rfl 32 (RqC q mv) (0, 0) _ H0.out.2 Try.underlying32 rfl (infoQ _ _) ?_
      refine hK _ _ ?_
      clear hK K
      refine wpAny_ready (rs := [3, 5]) (by kernel_rfl) (by simp) ?_
      refine AllReady.cons rfl (fun K hK => ?_) (AllReady.cons rfl (fun K hK => ?_) AllReady.nil)
      · go_simp
        refine hK _ _ ?_
        clear hK K
        have hor := own_row wd k w.heap.size H0.out.1.size
        have hbr : Below wd.heap.size wd (wd.alloc (.cells #[.int .u8 (k % 256)] 5)) := (Below.refl _ _).alloc (Nat.le_refl _) _
        revert hor hbr
        generalize World.alloc wd _ = wb
        intro hor hbr
        skip
        have H3 := Lib.hid hor
        replace H0 : Hid (Below w.heap.size w wb ∧ wb.heap[w.heap.size]? = some (.cells (RqC q mv) 32 (0, 0))) := ⟨H0.out.1.trans (hbr.mono H0.out.1.size), (hbr.block _ (Array.getElem?_eq_some_iff.1 H0.out.2).1).trans H0.out.2⟩
        replace dk := cell_below dk hbr
        clear hor hbr
        refine wpAny_ready (rs := [5]) (by kernel_rfl) (by simp) ?_
        refine AllReady.cons rfl (fun K hK => ?_) AllReady.nil
        · go_simp
          go_at_call 34
          refine (HE.out _ H0.out.1).mono ?_
          rintro e wa ⟨va, rfl, hoa, hba⟩
          obtain ⟨a5, n5, c5, rfl⟩ := hoa.shape
          dsimp only
          refine hK _ _ ?_
          clear hK K
          replace H3 := Lib.hid (H3.out.below hba)
          have H5 : Hid (CB.Own 5 w.heap.size wa (.slice a5 n5 c5) l) := hoa.mono H0.out.1.size
          replace H0 : Hid (Below w.heap.size w wa ∧ wa.heap[w.heap.size]? = some (.cells (RqC q mv) 32 (0, 0))) := ⟨H0.out.1.trans (hba.mono H0.out.1.size), (hba.block _ (Array.getElem?_eq_some_iff.1 H0.out.2).1).trans H0.out.2⟩
          replace dk := cell_below dk hba
          clear hoa hba
          refine wpAny_ready (rs := [6]) (by kernel_rfl) (by simp) ?_
          refine AllReady.cons rfl (fun K hK => ?_) AllReady.nil
          · obtain ⟨ad, c', e5, -, hat, -, hsh⟩ := H5.out.at_ (by have := HM.out.2; omega)
            injection e5 with e51 e52 e53
            cases ad with
            | none =>
              have hl0 : l = [] := by rcases hsh with ⟨_, h, _⟩ | ⟨g, h⟩; exact h; cases h
              have hc0 : c5 = 0 := by rcases hsh with ⟨_, _, h⟩ | ⟨g, h⟩; omega; cases h
              subst e51
              subst hl0
              obtain rfl : n5 = 0 := e52
              subst hc0
              clear e53 hat hsh
              refine rowB.step_none rfl (.tmp 6) (.tmp 8) rfl w.heap.size _ [byteI k] rfl H3.out rfl ?_
              refine hK _ _ ?_
              clear hK K
              have H6 : Hid (CB.Own 5 w.heap.size wa (.slice (some ⟨wd.heap.size, 0, none⟩) 1 1) ([byteI k] ++ []) ∧ Below w.heap.size w wa) := ⟨by rw [List.append_nil]; exact H3.out, H0.out.1⟩
              refine wpAny_take (i := 7) (v := .slice (some ⟨wd.heap.size, 0, none⟩) 1 1) rfl (by kernel_rfl) (by kernel_rfl) (by kernel_rfl) (fun _ _ _ h => h) (Or.inl ⟨by rfl, fun w => by go_simp⟩) ?_
              refine wpAny_done (by kernel_rfl) ?_ _
              go_wp2
              go_ret
              exact ⟨_, rfl, H6.out.1, H6.out.2⟩
            | some ad =>
              subst e51
              clear e53 hsh
              refine rowB.step rfl (.tmp 6) (.tmp 8) rfl w.heap.size _ [byteI k] rfl H3.out ad n5 c5 l rfl e52 hat.news (by have := HM.out.2; simp; omega) (by have := HM.out.2; simp; omega) H0.out.1.size ?_
              intro v6 w6 hown6 hgrow6 _
              obtain ⟨a6, n6, c6, rfl⟩ := hown6.shape
              refine hK _ _ ?_
              clear hK K
              have H6 : Hid (CB.Own 5 w.heap.size w6 (.slice a6 n6 c6) ([byteI k] ++ l) ∧ Below w.heap.size w w6) := ⟨hown6, H0.out.1.trans ((But.grown hgrow6).below H0.out.1.size fun i e => (H3.out.lt i e.symm).1)⟩
              clear hown6 hgrow6
              refine wpAny_take (i := 7) (v := .slice a6 n6 c6) rfl (by kernel_rfl) (by kernel_rfl) (by kernel_rfl) (fun _ _ _ h => h) (Or.inl ⟨by rfl, fun w => by go_simp⟩) ?_
              refine wpAny_done (by kernel_rfl) ?_ _
              go_wp2
              go_ret
              exact ⟨_, rfl, H6.out.1, H6.out.2⟩
      · go_simp
        go_at_call 34
        refine (HE.out _ H0.out.1).mono ?_
        rintro e wa ⟨va, rfl, hoa, hba⟩
        obtain ⟨a5, n5, c5, rfl⟩ := hoa.shape
        dsimp only
        refine hK _ _ ?_
        clear hK K
        skip
        have H5 : Hid (CB.Own 5 w.heap.size wa (.slice a5 n5 c5) l) := hoa.mono H0.out.1.size
        replace H0 : Hid (Below w.heap.size w wa ∧ wa.heap[w.heap.size]? = some (.cells (RqC q mv) 32 (0, 0))) := ⟨H0.out.1.trans (hba.mono H0.out.1.size), (hba.block _ (Array.getElem?_eq_some_iff.1 H0.out.2).1).trans H0.out.2⟩
        replace dk := cell_below dk hba
        clear hoa hba
        refine wpAny_ready (rs := [3]) (by kernel_rfl) (by simp) ?_
        refine AllReady.cons rfl (fun K hK => ?_) AllReady.nil
        · go_simp
          refine hK _ _ ?_
          clear hK K
          have hor := own_row wa k w.heap.size H0.out.1.size
          have hbr : Below wa.heap.size wa (wa.alloc (.cells #[.int .u8 (k % 256)] 5)) := (Below.refl _ _).alloc (Nat.le_refl _) _
          revert hor hbr
          generalize World.alloc wa _ = wb
          intro hor hbr
          replace H5 := Lib.hid (H5.out.below hbr)
          have H3 := Lib.hid hor
          replace H0 : Hid (Below w.heap.size w wb ∧ wb.heap[w.heap.size]? = some (.cells (RqC q mv) 32 (0, 0))) := ⟨H0.out.1.trans (hbr.mono H0.out.1.size), (hbr.block _ (Array.getElem?_eq_some_iff.1 H0.out.2).1).trans H0.out.2⟩
          replace dk := cell_below dk hbr
          clear hor hbr
          refine wpAny_ready (rs := [6]) (by kernel_rfl) (by simp) ?_
          refine AllReady.cons rfl (fun K hK => ?_) AllReady.nil
          · obtain ⟨ad, c', e5, -, hat, -, hsh⟩ := H5.out.at_ (by have := HM.out.2; omega)
            injection e5 with e51 e52 e53
            cases ad with
            | none =>
              have hl0 : l = [] := by rcases hsh with ⟨_, h, _⟩ | ⟨g, h⟩; exact h; cases h
              have hc0 : c5 = 0 := by rcases hsh with ⟨_, _, h⟩ | ⟨g, h⟩; omega; cases h
              subst e51
              subst hl0
              obtain rfl : n5 = 0 := e52
              subst hc0
              clear e53 hat hsh
              refine rowB.step_none rfl (.tmp 6) (.tmp 8) rfl w.heap.size _ [byteI k] rfl H3.out rfl ?_
              refine hK _ _ ?_
              clear hK K
              have H6 : Hid (CB.Own 5 w.heap.size wb (.slice (some ⟨wa.heap.size, 0, none⟩) 1 1) ([byteI k] ++ []) ∧ Below w.heap.size w wb) := ⟨by rw [List.append_nil]; exact H3.out, H0.out.1⟩
              refine wpAny_take (i := 7) (v := .slice (some ⟨wa.heap.size, 0, none⟩) 1 1) rfl (by kernel_rfl) (by kernel_rfl) (by kernel_rfl) (fun _ _ _ h => h) (Or.inl ⟨by rfl, fun w => by go_simp⟩) ?_
              refine wpAny_done (by kernel_rfl) ?_ _
              go_wp2
              go_ret
              exact ⟨_, rfl, H6.out.1, H6.out.2⟩
            | some ad =>
              subst e51
              clear e53 hsh
              refine rowB.step rfl (.tmp 6) (.tmp 8) rfl w.heap.size _ [byteI k] rfl H3.out ad n5 c5 l rfl e52 hat.news (by have := HM.out.2; simp; omega) (by have := HM.out.2; simp; omega) H0.out.1.size ?_
              intro v6 w6 hown6 hgrow6 _
              obtain ⟨a6, n6, c6, rfl⟩ := hown6.shape
              refine hK _ _ ?_
              clear hK K
              have H6 : Hid (CB.Own 5 w.heap.size w6 (.slice a6 n6 c6) ([byteI k] ++ l) ∧ Below w.heap.size w w6) := ⟨hown6, H0.out.1.trans ((But.grown hgrow6).below H0.out.1.size fun i e => (H3.out.lt i e.symm).1)⟩
              clear hown6 hgrow6
              refine wpAny_take (i := 7) (v := .slice a6 n6 c6) rfl (by kernel_rfl) (by kernel_rfl) (by kernel_rfl) (fun _ _ _ h => h) (Or.inl ⟨by rfl, fun w => by go_simp⟩) ?_
              refine wpAny_done (by kernel_rfl) ?_ _
              go_wp2
              go_ret
              exact ⟨_, rfl, H6.out.1, H6.out.2⟩
  · refine step_load_row rfl 32 (.tmp 1) rfl w.heap.size rfl 32 (RqC q mv) (0, 0) _ H0.out.2 Try.underlying32 rfl (infoQ _ _) ?_
    refine hK _ _ ?_
    clear hK K
    refine wpAny_ready (rs := [1, 5]) (by kernel_rfl) (by simp) ?_
    refine AllReady.cons rfl (fun K hK => ?_) (AllReady.cons rfl (fun K hK => ?_) AllReady.nil)
    · go_simp
      refine hK _ _ ?_
      clear hK K
      refine wpAny_take (i := 2) (v := .int .u8 (k % 256)) rfl (by kernel_rfl) (by kernel_rfl) (by kernel_rfl) (fun _ _ _ h => h) (Or.inl ⟨by rfl, fun w => by go_simp; simp [IntKind.wrap, IntKind.signed, IntKind.bits]⟩) ?_
      refine wpAny_ready (rs := [3, 5]) (by kernel_rfl) (by simp) ?_
      refine AllReady.cons rfl (fun K hK => ?_) (AllReady.cons rfl (fun K hK => ?_) AllReady.nil)
      · go_simp
        refine hK _ _ ?_
        clear hK K
        have hor := own_row wd k w.heap.size H0.out.1.size
        have hbr : Below wd.heap.size wd (wd.alloc (.cells #[.int .u8 (k % 256)] 5)) := (Below.refl _ _).alloc (Nat.le_refl _) _
        revert hor hbr
        generalize World.alloc wd _ = wb
        intro hor hbr
        skip
        have H3 := Lib.hid hor
        replace H0 : Hid (Below w.heap.size w wb ∧ wb.heap[w.heap.size]? = some (.cells (RqC q mv) 32 (0, 0))) := ⟨H0.out.1.trans (hbr.mono H0.out.1.size), (hbr.block _ (Array.getElem?_eq_some_iff.1 H0.out.2).1).trans H0.out.2⟩
        replace dk := cell_below dk hbr
        clear hor hbr
        refine wpAny_ready (rs := [5]) (by kernel_rfl) (by simp) ?_
        refine AllReady.cons rfl (fun K hK => ?_) AllReady.nil
        · go_simp
          go_at_call 34
          refine (HE.out _ H0.out.1).mono ?_
          rintro e wa ⟨va, rfl, hoa, hba⟩
          obtain ⟨a5, n5, c5, rfl⟩ := hoa.shape
          dsimp only
          refine hK _ _ ?_
          clear hK K
          replace H3 := Lib.hid (H3.out.below hba)
          have H5 : Hid (CB.Own 5 w.heap.size wa (.slice a5 n5 c5) l) := hoa.mono H0.out.1.size
          replace H0 : Hid (Below w.heap.size w wa ∧ wa.heap[w.heap.size]? = some (.cells (RqC q mv) 32 (0, 0))) := ⟨H0.out.1.trans (hba.mono H0.out.1.size), (hba.block _ (Array.getElem?_eq_some_iff.1 H0.out.2).1).trans H0.out.2⟩
          replace dk := cell_below dk hba
          clear hoa hba
          refine wpAny_ready (rs := [6]) (by kernel_rfl) (by simp) ?_
          refine AllReady.cons rfl (fun K hK => ?_) AllReady.nil
          · obtain ⟨ad, c', e5, -, hat, -, hsh⟩ := H5.out.at_ (by have := HM.out.2; omega)
            injection e5 with e51 e52 e53
            cases ad with
            | none =>
              have hl0 : l = [] := by rcases hsh with ⟨_, h, _⟩ | ⟨g, h⟩; exact h; cases h
              have hc0 : c5 = 0 := by rcases hsh with ⟨_, _, h⟩ | ⟨g, h⟩; omega; cases h
              subst e51
              subst hl0
              obtain rfl : n5 = 0 := e52
              subst hc0
              clear e53 hat hsh
              refine rowB.step_none rfl (.tmp 6) (.tmp 8) rfl w.heap.size _ [byteI k] rfl H3.out rfl ?_
              refine hK _ _ ?_
              clear hK K
              have H6 : Hid (CB.Own 5 w.heap.size wa (.slice (some ⟨wd.heap.size, 0, none⟩) 1 1) ([byteI k] ++ []) ∧ Below w.heap.size w wa) := ⟨by rw [List.append_nil]; exact H3.out, H0.out.1⟩
              refine wpAny_take (i := 7) (v := .slice (some ⟨wd.heap.size, 0, none⟩) 1 1) rfl (by kernel_rfl) (by kernel_rfl) (by kernel_rfl) (fun _ _ _ h => h) (Or.inl ⟨by rfl, fun w => by go_simp⟩) ?_
              refine wpAny_done (by kernel_rfl) ?_ _
              go_wp2
              go_ret
              exact ⟨_, rfl, H6.out.1, H6.out.2⟩
            | some ad =>
              subst e51
              clear e53 hsh
              refine rowB.step rfl (.tmp 6) (.tmp 8) rfl w.heap.size _ [byteI k] rfl H3.out ad n5 c5 l rfl e52 hat.news (by have := HM.out.2; simp; omega) (by have := HM.out.2; simp; omega) H0.out.1.size ?_
              intro v6 w6 hown6 hgrow6 _
              obtain ⟨a6, n6, c6, rfl⟩ := hown6.shape
              refine hK _ _ ?_
              clear hK K
              have H6 : Hid (CB.Own 5 w.heap.size w6 (.slice a6 n6 c6) ([byteI k] ++ l) ∧ Below w.heap.size w w6) := ⟨hown6, H0.out.1.trans ((But.grown hgrow6).below H0.out.1.size fun i e => (H3.out.lt i e.symm).1)⟩
              clear hown6 hgrow6
              refine wpAny_take (i := 7) (v := .slice a6 n6 c6) rfl (by kernel_rfl) (by kernel_rfl) (by kernel_rfl) (fun _ _ _ h => h) (Or.inl ⟨by rfl, fun w => by go_simp⟩) ?_
              refine wpAny_done (by kernel_rfl) ?_ _
              go_wp2
              go_ret
              exact ⟨_, rfl, H6.out.1, H6.out.2⟩
      · go_simp
        go_at_call 34
        refine (HE.out _ H0.out.1).mono ?_
        rintro e wa ⟨va, rfl, hoa, hba⟩
        obtain ⟨a5, n5, c5, rfl⟩ := hoa.shape
        dsimp only
        refine hK _ _ ?_
        clear hK K
        skip
        have H5 : Hid (CB.Own 5 w.heap.size wa (.slice a5 n5 c5) l) := hoa.mono H0.out.1.size
        replace H0 : Hid (Below w.heap.size w wa ∧ wa.heap[w.heap.size]? = some (.cells (RqC q mv) 32 (0, 0))) := ⟨H0.out.1.trans (hba.mono H0.out.1.size), (hba.block _ (Array.getElem?_eq_some_iff.1 H0.out.2).1).trans H0.out.2⟩
        replace dk := cell_below dk hba
        clear hoa hba
        refine wpAny_ready (rs := [3]) (by kernel_rfl) (by simp) ?_
        refine AllReady.cons rfl (fun K hK => ?_) AllReady.nil
        · go_simp
          refine hK _ _ ?_
          clear hK K
          have hor := own_row wa k w.heap.size H0.out.1.size
          have hbr : Below wa.heap.size wa (wa.alloc (.cells #[.int .u8 (k % 256)] 5)) := (Below.refl _ _).alloc (Nat.le_refl _) _
          revert hor hbr
          generalize World.alloc wa _ = wb
          intro hor hbr
          replace H5 := Lib.hid (H5.out.below hbr)
          have H3 := Lib.hid hor
          replace H0 : Hid (Below w.heap.size w wb ∧ wb.heap[w.heap.size]? = some (.cells (RqC q mv) 32 (0, 0))) := ⟨H0.out.1.trans (hbr.mono H0.out.1.size), (hbr.block _ (Array.getElem?_eq_some_iff.1 H0.out.2).1).trans H0.out.2⟩
          replace dk := cell_below dk hbr
          clear hor hbr
          refine wpAny_ready (rs := [6]) (by kernel_rfl) (by simp) ?_
          refine AllReady.cons rfl (fun K hK => ?_) AllReady.nil
          · obtain ⟨ad, c', e5, -, hat, -, hsh⟩ := H5.out.at_ (by have := HM.out.2; omega)
            injection e5 with e51 e52 e53
            cases ad with
            | none =>
              have hl0 : l = [] := by rcases hsh with ⟨_, h, _⟩ | ⟨g, h⟩; exact h; cases h
              have hc0 : c5 = 0 := by rcases hsh with ⟨_, _, h⟩ | ⟨g, h⟩; omega; cases h
              subst e51
              subst hl0
              obtain rfl : n5 = 0 := e52
              subst hc0
              clear e53 hat hsh
              refine rowB.step_none rfl (.tmp 6) (.tmp 8) rfl w.heap.size _ [byteI k] rfl H3.out rfl ?_
              refine hK _ _ ?_
              clear hK K
              have H6 : Hid (CB.Own 5 w.heap.size wb (.slice (some ⟨wa.heap.size, 0, none⟩) 1 1) ([byteI k] ++ []) ∧ Below w.heap.size w wb) := ⟨by rw [List.append_nil]; exact H3.out, H0.out.1⟩
              refine wpAny_take (i := 7) (v := .slice (some ⟨wa.heap.size, 0, none⟩) 1 1) rfl (by kernel_rfl) (by kernel_rfl) (by kernel_rfl) (fun _ _ _ h => h) (Or.inl ⟨by rfl, fun w => by go_simp⟩) ?_
              refine wpAny_done (by kernel_rfl) ?_ _
              go_wp2
              go_ret
              exact ⟨_, rfl, H6.out.1, H6.out.2⟩
            | some ad =>
              subst e51
              clear e53 hsh
              refine rowB.step rfl (.tmp 6) (.tmp 8) rfl w.heap.size _ [byteI k] rfl H3.out ad n5 c5 l rfl e52 hat.news (by have := HM.out.2; simp; omega) (by have := HM.out.2; simp; omega) H0.out.1.size ?_
              intro v6 w6 hown6 hgrow6 _
              obtain ⟨a6, n6, c6, rfl⟩ := hown6.shape
              refine hK _ _ ?_
              clear hK K
              have H6 : Hid (CB.Own 5 w.heap.size w6 (.slice a6 n6 c6) ([byteI k] ++ l) ∧ Below w.heap.size w w6) := ⟨hown6, H0.out.1.trans ((But.grown hgrow6).below H0.out.1.size fun i e => (H3.out.lt i e.symm).1)⟩
              clear hown6 hgrow6
              refine wpAny_take (i := 7) (v := .slice a6 n6 c6) rfl (by kernel_rfl) (by kernel_rfl) (by kernel_rfl) (fun _ _ _ h => h) (Or.inl ⟨by rfl, fun w => by go_simp⟩) ?_
              refine wpAny_done (by kernel_rfl) ?_ _
              go_wp2
              go_ret
              exact ⟨_, rfl, H6.out.1, H6.out.2⟩
    · go_simp
      go_at_call 34
      refine (HE.out _ H0.out.1).mono ?_
      rintro e wa ⟨va, rfl, hoa, hba⟩
      obtain ⟨a5, n5, c5, rfl⟩ := hoa.shape
      dsimp only
      refine hK _ _ ?_
      clear hK K
      skip
      have H5 : Hid (CB.Own 5 w.heap.size wa (.slice a5 n5 c5) l) := hoa.mono H0.out.1.size
      replace H0 : Hid (Below w.heap.size w wa ∧ wa.heap[w.heap.size]? = some (.cells (RqC q mv) 32 (0, 0))) := ⟨H0.out.1.trans (hba.mono H0.out.1.size), (hba.block _ (Array.getElem?_eq_some_iff.1 H0.out.2).1).trans H0.out.2⟩
      replace dk := cell_below dk hba
      clear hoa hba
      refine wpAny_ready (rs := [1]) (by kernel_rfl) (by simp) ?_
      refine AllReady.cons rfl (fun K hK => ?_) AllReady.nil
      · go_simp
        refine hK _ _ ?_
        clear hK K
        refine wpAny_take (i := 2) (v := .int .u8 (k % 256)) rfl (by kernel_rfl) (by kernel_rfl) (by kernel_rfl) (fun _ _ _ h => h) (Or.inl ⟨by rfl, fun w => by go_simp; simp [IntKind.wrap, IntKind.signed, IntKind.bits]⟩) ?_
        refine wpAny_ready (rs := [3]) (by kernel_rfl) (by simp) ?_
        refine AllReady.cons rfl (fun K hK => ?_) AllReady.nil
        · go_simp
          refine hK _ _ ?_
          clear hK K
          have hor := own_row wa k w.heap.size H0.out.1.size
          have hbr : Below wa.heap.size wa (wa.alloc (.cells #[.int .u8 (k % 256)] 5)) := (Below.refl _ _).alloc (Nat.le_refl _) _
          revert hor hbr
          generalize World.alloc wa _ = wb
          intro hor hbr
          replace H5 := Lib.hid (H5.out.below hbr)
          have H3 := Lib.hid hor
          replace H0 : Hid (Below w.heap.size w wb ∧ wb.heap[w.heap.size]? = some (.cells (RqC q mv) 32 (0, 0))) := ⟨H0.out.1.trans (hbr.mono H0.out.1.size), (hbr.block _ (Array.getElem?_eq_some_iff.1 H0.out.2).1).trans H0.out.2⟩
          replace dk := cell_below dk hbr
          clear hor hbr
          refine wpAny_ready (rs := [6]) (by kernel_rfl) (by simp) ?_
          refine AllReady.cons rfl (fun K hK => ?_) AllReady.nil
          · obtain ⟨ad, c', e5, -, hat, -, hsh⟩ := H5.out.at_ (by have := HM.out.2; omega)
            injection e5 with e51 e52 e53
            cases ad with
            | none =>
              have hl0 : l = [] := by rcases hsh with ⟨_, h, _⟩ | ⟨g, h⟩; exact h; cases h
              have hc0 : c5 = 0 := by rcases hsh with ⟨_, _, h⟩ | ⟨g, h⟩; omega; cases h
              subst e51
              subst hl0
              obtain rfl : n5 = 0 := e52
              subst hc0
              clear e53 hat hsh
              refine rowB.step_none rfl (.tmp 6) (.tmp 8) rfl w.heap.size _ [byteI k] rfl H3.out rfl ?_
              refine hK _ _ ?_
              clear hK K
              have H6 : Hid (CB.Own 5 w.heap.size wb (.slice (some ⟨wa.heap.size, 0, none⟩) 1 1) ([byteI k] ++ []) ∧ Below w.heap.size w wb) := ⟨by rw [List.append_nil]; exact H3.out, H0.out.1⟩
              refine wpAny_take (i := 7) (v := .slice (some ⟨wa.heap.size, 0, none⟩) 1 1) rfl (by kernel_rfl) (by kernel_rfl) (by kernel_rfl) (fun _ _ _ h => h) (Or.inl ⟨by rfl, fun w => by go_simp⟩) ?_
              refine wpAny_done (by kernel_rfl) ?_ _
              go_wp2
              go_ret
              exact ⟨_, rfl, H6.out.1, H6.out.2⟩
            | some ad =>
              subst e51
              clear e53 hsh
              refine rowB.step rfl (.tmp 6) (.tmp 8) rfl w.heap.size _ [byteI k] rfl H3.out ad n5 c5 l rfl e52 hat.news (by have := HM.out.2; simp; omega) (by have := HM.out.2; simp; omega) H0.out.1.size ?_
              intro v6 w6 hown6 hgrow6 _
              obtain ⟨a6, n6, c6, rfl⟩ := hown6.shape
              refine hK _ _ ?_
              clear hK K
              have H6 : Hid (CB.Own 5 w.heap.size w6 (.slice a6 n6 c6) ([byteI k] ++ l) ∧ Below w.heap.size w w6) := ⟨hown6, H0.out.1.trans ((But.grown hgrow6).below H0.out.1.size fun i e => (H3.out.lt i e.symm).1)⟩
              clear hown6 hgrow6
              refine wpAny_take (i := 7) (v := .slice a6 n6 c6) rfl (by kernel_rfl) (by kernel_rfl) (by kernel_rfl) (fun _ _ _ h => h) (Or.inl ⟨by rfl, fun w => by go_simp⟩) ?_
              refine wpAny_done (by kernel_rfl) ?_ _
              go_wp2
              go_ret
              exact ⟨_, rfl, H6.out.1, H6.out.2⟩
end Go.Proofs.Ytdpfmaikijilkaa
