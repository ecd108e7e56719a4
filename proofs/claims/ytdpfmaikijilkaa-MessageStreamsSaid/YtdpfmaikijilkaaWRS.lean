/-
  The walks of EncodeResponse, MayResponse, DecodeResponse.
-/
import Derived.Test.YtdpfmaikijilkaaENS2
import Derived.Test.YtdpfmaikijilkaaWR
namespace Go.Proofs.Ytdpfmaikijilkaa
open Go Go.RowKit Go.Sort Go.Proofs Go.MapKept

theorem scat_keep {W : World} {B N : Nat} {q : Rs} {a : Option Addr} (h : CV.At W a q.vars.length q.vars) (hfr : ∀ p, a = some p → q.vars ≠ [] → N ≤ p.block) (hB : B < N) (cs : Array Value) : CV.At (W.setRow B cs) a q.vars.length q.vars := by
  by_cases h0 : q.vars = []
  · rw [h0] at h ⊢
    exact CV_nil _ _
  · exact h.same (by simp) fun p e _ => setRow_other _ _ _ _ (by have := hfr p e h0; omega)
set_option maxHeartbeats 4000000 in
set_option maxRecDepth 100000 in
theorem EncodeResponse_any (w : World) (q : Rs) (a : Option Addr) (cap : Nat) (ha : CV.At w a q.vars.length q.vars) (hc : q.vars.length ≤ cap) (u1 : U32 q.id) (u2 : U32 q.num) :
    Calls Try.prog 15 #[.agg (RsC q (.slice a q.vars.length cap))] w (EncTo w (encS q)) := by
  obtain ⟨r, hr⟩ : ∃ r, r = encS q := ⟨_, rfl⟩
  rw [← hr]
  have HE : Hid (∀ W base Mp, Below w.heap.size w W → GMap 108 base Mp tabRes W → Calls Try.prog 36 #[gS Mp, .agg (RsC q (.slice a q.vars.length cap))] W (EncTo W r)) := fun W base Mp h1 h2 => by
    rw [hr]
    exact sencode_any W base Mp h2 q a cap (ha.below h1) hc u1 u2
  obtain ⟨mv, hmv⟩ : ∃ mv, mv = Value.slice a q.vars.length cap := ⟨_, rfl⟩
  rw [← hmv] at HE ⊢
  clear hmv ha hc u1 u2 hr
  all_goals
    go_enter Try.func15, Try.ntmps15
    go_wp2_with fail
    generalize hw1 : World.alloc _ _ = w1
    have hb1 : Below w.heap.size w w1 := by rw [← hw1]; exact (Below.refl _ _).alloc (Nat.le_refl _) _
    have hx1 : w1.heap[w.heap.size]? = some (.cells (RsC q mv) 47 (0, 0)) := by rw [← hw1]; exact heap_alloc_new _ _
    have H1 := Lib.hid (And.intro hb1 hx1)
    clear hb1 hx1 hw1
    refine wp_region_any (by kernel_rfl) ?_
    change wpAny _ _ _ _ _ _ _ (World.drew _)
    refine wpAny_ready (rs := [0, 1]) (by kernel_rfl) (by simp) ?_
    refine AllReady.cons rfl (fun K hK => ?_) (AllReady.cons rfl (fun K hK => ?_) AllReady.nil)
    · go_simp
      go_at_call 35
      refine (responses_any _).mono ?_
      rintro e w3 ⟨Mp, rfl, hb3, hg3⟩
      have hb3' : Below w1.heap.size w1 w3 := (Below.refl _ w1).drew.trans hb3
      have H3 := Lib.hid (And.intro (H1.out.1.trans (hb3'.mono H1.out.1.size)) (And.intro hg3 ((hb3'.block _ (Array.getElem?_eq_some_iff.1 H1.out.2).1).trans H1.out.2)))
      clear hb3 hb3' hg3
      dsimp only
      refine hK _ _ ?_
      clear hK K
      refine wpAny_ready (rs := [1]) (by kernel_rfl) (by simp) (AllReady.cons rfl (fun K hK => ?_) AllReady.nil)
      refine step_load_row rfl 47 (.tmp 1) rfl w.heap.size rfl 47 (RsC q mv) (0, 0) _ H3.out.2.2 Try.underlying47 rfl (infoS _ _) ?_
      refine hK _ _ ?_
      clear hK K
      refine wpAny_ready (rs := [2]) (by kernel_rfl) (by simp) (AllReady.cons rfl (fun K hK => ?_) AllReady.nil)
      go_simp
      go_at_call 36
      refine (EncTo.tuple (HE.out _ _ _ H3.out.1 H3.out.2.1)).mono ?_
      rintro e w4 ⟨v4, r4, rfl, ho4⟩
      have H4 := Lib.hid (EncTo.up H3.out.1 ho4)
      clear ho4
      dsimp only
      refine hK _ _ ?_
      clear hK K
      refine wpAny_take (i := 3) (v := v4) rfl (by kernel_rfl) (by kernel_rfl) (by kernel_rfl) (fun _ _ _ h => h) (Or.inl ⟨by rfl, fun w => by go_simp⟩) ?_
      refine wpAny_take (i := 4) (v := .int .i64 r4) rfl (by kernel_rfl) (by kernel_rfl) (by kernel_rfl) (fun _ _ _ h => h) (Or.inl ⟨by rfl, fun w => by go_simp⟩) ?_
      refine wpAny_take (i := 5) (v := v4) rfl (by kernel_rfl) (by kernel_rfl) (by kernel_rfl) (fun _ _ _ h => h) (Or.inl ⟨by rfl, fun w => by go_simp⟩) ?_
      refine wpAny_take (i := 6) (v := .int .i64 r4) rfl (by kernel_rfl) (by kernel_rfl) (by kernel_rfl) (fun _ _ _ h => h) (Or.inl ⟨by rfl, fun w => by go_simp⟩) ?_
      refine wpAny_done (by kernel_rfl) ?_ _
      go_wp2
      go_ret2
      exact H4.out
    · refine step_load_row rfl 47 (.tmp 1) rfl w.heap.size rfl 47 (RsC q mv) (0, 0) _ H1.out.2 Try.underlying47 rfl (infoS _ _) ?_
      refine hK _ _ ?_
      clear hK K
      refine wpAny_ready (rs := [0]) (by kernel_rfl) (by simp) (AllReady.cons rfl (fun K hK => ?_) AllReady.nil)
      go_simp
      go_at_call 35
      refine (responses_any _).mono ?_
      rintro e w3 ⟨Mp, rfl, hb3, hg3⟩
      have hb3' : Below w1.heap.size w1 w3 := (Below.refl _ w1).drew.trans hb3
      have H3 := Lib.hid (And.intro (H1.out.1.trans (hb3'.mono H1.out.1.size)) (And.intro hg3 ((hb3'.block _ (Array.getElem?_eq_some_iff.1 H1.out.2).1).trans H1.out.2)))
      clear hb3 hb3' hg3
      dsimp only
      refine hK _ _ ?_
      clear hK K
      refine wpAny_ready (rs := [2]) (by kernel_rfl) (by simp) (AllReady.cons rfl (fun K hK => ?_) AllReady.nil)
      go_simp
      go_at_call 36
      refine (EncTo.tuple (HE.out _ _ _ H3.out.1 H3.out.2.1)).mono ?_
      rintro e w4 ⟨v4, r4, rfl, ho4⟩
      have H4 := Lib.hid (EncTo.up H3.out.1 ho4)
      clear ho4
      dsimp only
      refine hK _ _ ?_
      clear hK K
      refine wpAny_take (i := 3) (v := v4) rfl (by kernel_rfl) (by kernel_rfl) (by kernel_rfl) (fun _ _ _ h => h) (Or.inl ⟨by rfl, fun w => by go_simp⟩) ?_
      refine wpAny_take (i := 4) (v := .int .i64 r4) rfl (by kernel_rfl) (by kernel_rfl) (by kernel_rfl) (fun _ _ _ h => h) (Or.inl ⟨by rfl, fun w => by go_simp⟩) ?_
      refine wpAny_take (i := 5) (v := v4) rfl (by kernel_rfl) (by kernel_rfl) (by kernel_rfl) (fun _ _ _ h => h) (Or.inl ⟨by rfl, fun w => by go_simp⟩) ?_
      refine wpAny_take (i := 6) (v := .int .i64 r4) rfl (by kernel_rfl) (by kernel_rfl) (by kernel_rfl) (fun _ _ _ h => h) (Or.inl ⟨by rfl, fun w => by go_simp⟩) ?_
      refine wpAny_done (by kernel_rfl) ?_ _
      go_wp2
      go_ret2
      exact H4.out
set_option maxHeartbeats 4000000 in
set_option maxRecDepth 100000 in
theorem smay_any (w : World) (base Mp : Nat) (hG : GMap 108 base Mp tabRes w) (q : Rs) (a : Option Addr) (cap : Nat) (ha : CV.At w a q.vars.length q.vars) (hc : q.vars.length ≤ cap) (u1 : U32 q.id) (u2 : U32 q.num) :
    Calls Try.prog 37 #[gS Mp, .agg (RsC q (.slice a q.vars.length cap))] w (MayTo w (encS q)) := by
  obtain ⟨r, hr⟩ : ∃ r, r = encS q := ⟨_, rfl⟩
  rw [← hr]
  have HE : Hid (∀ W, Below w.heap.size w W → Calls Try.prog 36 #[gS Mp, .agg (RsC q (.slice a q.vars.length cap))] W (EncTo W r)) := fun W h1 => by
    rw [hr]
    exact sencode_any W base Mp (hG.below h1) q a cap (ha.below h1) hc u1 u2
  obtain ⟨cs, hcs⟩ : ∃ cs, cs = RsC q (.slice a q.vars.length cap) := ⟨_, rfl⟩
  have HI : Hid ((Try.prog.info? 47).map (·.size) = some cs.size) := by rw [Lib.hid_eq, hcs]; exact infoS _ _
  have hE0 : Hid (∀ W, (w.alloc (.cells #[.func (.func 63) #[] #[], .map (some Mp), .func (.func 28) #[] #[]] 78)).alloc (.cells cs 47) = W → Sn0 w W Mp q (.slice a q.vars.length cap)) := fun W h => (Sn0.of (by rw [hcs] at h; exact h)).1
  have HB1 : Hid (∀ W, Sn0 w W Mp q (.slice a q.vars.length cap) → W.heap[w.heap.size + 1]? = some (.cells cs 47 (0, 0))) := fun W h => by rw [hcs]; exact h.b1
  rw [← hcs] at HE ⊢
  clear hcs hG ha hc u1 u2 hr
  rcases r with _ | b
  all_goals
    go_enter Try.func37, Try.ntmps37
    go_wp2_with (first
      | (show wpList _ _ _ (Oper.mk _ (.load _ (.tmp 2)) _ _ _ _ :: _) _ _; refine wpList_load_row rfl 78 (.tmp 2) rfl (w.heap.size) rfl 78 #[.func (.func 63) #[] #[], .map (some Mp), .func (.func 28) #[] #[]] (0, 0) _ (hE0.out _ rfl).b0 Try.underlying78 rfl (infoGS _ _ _) ?_)
      | (show wpList _ _ _ (Oper.mk _ (.load _ (.tmp 3)) _ _ _ _ :: _) _ _; refine wpList_load_row rfl 47 (.tmp 3) rfl (w.heap.size + 1) rfl 47 cs (0, 0) _ (HB1.out _ (hE0.out _ rfl)) Try.underlying47 rfl HI.out ?_)
      | (go_at_call 36; refine (HE.out _ (hE0.out _ rfl).below).mono ?_; rintro e w4 ⟨hb4, rfl⟩; have H4 := Lib.hid ((hE0.out _ rfl).below.trans (hb4.mono (hE0.out _ rfl).below.size)); clear hb4)
      | (go_at_call 36; refine (HE.out _ (hE0.out _ rfl).below).mono ?_; rintro e w4 ⟨hb4, hl4, v4, rfl, ho4⟩; have H4 := Lib.hid ((hE0.out _ rfl).below.trans (hb4.mono (hE0.out _ rfl).below.size)); clear hb4 hl4 ho4))
    go_ret
    exact ⟨rfl, H4.out⟩
set_option maxHeartbeats 4000000 in
set_option maxRecDepth 100000 in
theorem MayResponse_any (w : World) (q : Rs) (a : Option Addr) (cap : Nat) (ha : CV.At w a q.vars.length q.vars) (hc : q.vars.length ≤ cap) (u1 : U32 q.id) (u2 : U32 q.num) :
    Calls Try.prog 17 #[.agg (RsC q (.slice a q.vars.length cap))] w (MayTo w (encS q)) := by
  obtain ⟨r, hr⟩ : ∃ r, r = encS q := ⟨_, rfl⟩
  rw [← hr]
  have HE : Hid (∀ W base Mp, Below w.heap.size w W → GMap 108 base Mp tabRes W → Calls Try.prog 37 #[gS Mp, .agg (RsC q (.slice a q.vars.length cap))] W (MayTo W r)) := fun W base Mp h1 h2 => by
    rw [hr]
    exact smay_any W base Mp h2 q a cap (ha.below h1) hc u1 u2
  obtain ⟨mv, hmv⟩ : ∃ mv, mv = Value.slice a q.vars.length cap := ⟨_, rfl⟩
  rw [← hmv] at HE ⊢
  clear hmv ha hc u1 u2 hr
  all_goals
    go_enter Try.func17, Try.ntmps17
    go_wp2_with fail
    generalize hw1 : World.alloc _ _ = w1
    have hb1 : Below w.heap.size w w1 := by rw [← hw1]; exact (Below.refl _ _).alloc (Nat.le_refl _) _
    have hx1 : w1.heap[w.heap.size]? = some (.cells (RsC q mv) 47 (0, 0)) := by rw [← hw1]; exact heap_alloc_new _ _
    have H1 := Lib.hid (And.intro hb1 hx1)
    clear hb1 hx1 hw1
    refine wp_region_any (by kernel_rfl) ?_
    change wpAny _ _ _ _ _ _ _ (World.drew _)
    refine wpAny_ready (rs := [0, 1]) (by kernel_rfl) (by simp) ?_
    refine AllReady.cons rfl (fun K hK => ?_) (AllReady.cons rfl (fun K hK => ?_) AllReady.nil)
    · go_simp
      go_at_call 35
      refine (responses_any _).mono ?_
      rintro e w3 ⟨Mp, rfl, hb3, hg3⟩
      have hb3' : Below w1.heap.size w1 w3 := (Below.refl _ w1).drew.trans hb3
      have H3 := Lib.hid (And.intro (H1.out.1.trans (hb3'.mono H1.out.1.size)) (And.intro hg3 ((hb3'.block _ (Array.getElem?_eq_some_iff.1 H1.out.2).1).trans H1.out.2)))
      clear hb3 hb3' hg3
      dsimp only
      refine hK _ _ ?_
      clear hK K
      refine wpAny_ready (rs := [1]) (by kernel_rfl) (by simp) (AllReady.cons rfl (fun K hK => ?_) AllReady.nil)
      refine step_load_row rfl 47 (.tmp 1) rfl w.heap.size rfl 47 (RsC q mv) (0, 0) _ H3.out.2.2 Try.underlying47 rfl (infoS _ _) ?_
      refine hK _ _ ?_
      clear hK K
      refine wpAny_ready (rs := [2]) (by kernel_rfl) (by simp) (AllReady.cons rfl (fun K hK => ?_) AllReady.nil)
      go_simp
      go_at_call 37
      refine (HE.out _ _ _ H3.out.1 H3.out.2.1).mono ?_
      rintro e w4 ⟨rfl, hb4⟩
      have H4 := Lib.hid (H3.out.1.trans (hb4.mono H3.out.1.size))
      clear hb4
      dsimp only
      refine hK _ _ ?_
      clear hK K
      refine wpAny_take (i := 3) (v := .bool r.isSome) rfl (by kernel_rfl) (by kernel_rfl) (by kernel_rfl) (fun _ _ _ h => h) (Or.inl ⟨by rfl, fun w => by go_simp⟩) ?_
      refine wpAny_done (by kernel_rfl) ?_ _
      go_wp2
      go_ret
      exact ⟨rfl, H4.out⟩
    · refine step_load_row rfl 47 (.tmp 1) rfl w.heap.size rfl 47 (RsC q mv) (0, 0) _ H1.out.2 Try.underlying47 rfl (infoS _ _) ?_
      refine hK _ _ ?_
      clear hK K
      refine wpAny_ready (rs := [0]) (by kernel_rfl) (by simp) (AllReady.cons rfl (fun K hK => ?_) AllReady.nil)
      go_simp
      go_at_call 35
      refine (responses_any _).mono ?_
      rintro e w3 ⟨Mp, rfl, hb3, hg3⟩
      have hb3' : Below w1.heap.size w1 w3 := (Below.refl _ w1).drew.trans hb3
      have H3 := Lib.hid (And.intro (H1.out.1.trans (hb3'.mono H1.out.1.size)) (And.intro hg3 ((hb3'.block _ (Array.getElem?_eq_some_iff.1 H1.out.2).1).trans H1.out.2)))
      clear hb3 hb3' hg3
      dsimp only
      refine hK _ _ ?_
      clear hK K
      refine wpAny_ready (rs := [2]) (by kernel_rfl) (by simp) (AllReady.cons rfl (fun K hK => ?_) AllReady.nil)
      go_simp
      go_at_call 37
      refine (HE.out _ _ _ H3.out.1 H3.out.2.1).mono ?_
      rintro e w4 ⟨rfl, hb4⟩
      have H4 := Lib.hid (H3.out.1.trans (hb4.mono H3.out.1.size))
      clear hb4
      dsimp only
      refine hK _ _ ?_
      clear hK K
      refine wpAny_take (i := 3) (v := .bool r.isSome) rfl (by kernel_rfl) (by kernel_rfl) (by kernel_rfl) (fun _ _ _ h => h) (Or.inl ⟨by rfl, fun w => by go_simp⟩) ?_
      refine wpAny_done (by kernel_rfl) ?_ _
      go_wp2
      go_ret
      exact ⟨rfl, H4.out⟩
set_option maxHeartbeats 4000000 in
set_option maxRecDepth 100000 in
theorem DecodeResponse_any (w : World) (a : Option Addr) (c : Nat) (b : List UInt8) (hb : CB.At w a b.length b) (hc : b.length ≤ c) (hcm : c ≤ 9223372036854775807) (hn : b.length ≤ 900000) :
    Calls Try.prog 19 #[.slice a b.length c] w (DecToS w (decS b)) := by
  obtain ⟨q, er, hd⟩ : ∃ q er, decS b = (q, er) := ⟨_, _, rfl⟩
  rw [hd]
  have HE : Hid (∀ W base Mp, Below w.heap.size w W → GMap 108 base Mp tabRes W → Calls Try.prog 38 #[gS Mp, .slice a b.length c] W (DecToS W (q, er))) := fun W base Mp h1 h2 => by
    rw [← hd]
    exact sdecode_any W base Mp h2 a c b (hb.below h1) hc hcm hn
  obtain ⟨n, hn2⟩ : ∃ n, n = b.length := ⟨_, rfl⟩
  rw [← hn2] at HE ⊢
  clear hb hc hcm hn hd hn2
  obtain ⟨z, hz⟩ : ∃ z, z = RsC (zeroS 0) (.slice none 0 0) := ⟨_, rfl⟩
  go_enter Try.func19, Try.ntmps19
  go_wp2_with (first
    | (go_at_call 35; generalize hw1 : World.alloc _ _ = w1; have hb1 : Below w.heap.size w w1 := (by rw [← hw1]; exact (Below.refl _ _).alloc (Nat.le_refl _) _); have hx1 : w1.heap[w.heap.size]? = some (.cells (RsC (zeroS 0) (.slice none 0 0)) 47 (0, 0)) := (by rw [← hw1]; exact heap_alloc_new _ _); clear hw1; refine (responses_any _).mono ?_; rintro e w3 ⟨Mp, rfl, hb3, hg3⟩; have H3 := Lib.hid (And.intro (hb1.trans (hb3.mono hb1.size)) (And.intro hg3 ((hb3.block _ (Array.getElem?_eq_some_iff.1 hx1).1).trans hx1))); clear hb1 hx1 hb3 hg3)
    | (go_at_call 38; refine (HE.out _ _ _ H3.out.1 H3.out.2.1).mono ?_; rintro e w4 ⟨a4, c4, rfl, hle, hat, hfr, hu1, hu2, hb4⟩; have H4 := Lib.hid (And.intro (H3.out.1.trans (hb4.mono H3.out.1.size)) (And.intro ((hb4.block _ (Array.getElem?_eq_some_iff.1 H3.out.2.2).1).trans H3.out.2.2) (And.intro hle (And.intro hat (And.intro hfr (And.intro hu1 (And.intro hu2 H3.out.1))))))); clear hle hat hfr hu1 hu2 hb4)
    | (show wpList _ _ _ (Oper.mk _ (.store _ (.tmp 2) (.tmp 7)) _ _ _ _ :: _) _ _; refine wpList_store_row rfl 47 (.tmp 2) (.tmp 7) rfl w.heap.size (RsC q (.slice a4 q.vars.length c4)) rfl rfl 47 (RsC (zeroS 0) (.slice none 0 0)) H4.out.2.1 (infoS _ _) rfl (RsC_one _ _ _ _) ?_))
  exact ⟨rfl, _, results_two rfl _ _ w.heap.size 47 (RsC q (.slice a4 q.vars.length c4)) (0, 0) _ rfl (setRow_heap _ _ _ _ _ _ H4.out.2.1) Try.underlying47 rfl (infoS _ _), a4, c4, rfl, H4.out.2.2.1, scat_keep H4.out.2.2.2.1 H4.out.2.2.2.2.1 (Array.getElem?_eq_some_iff.1 H3.out.2.2).1 _, fun p e e2 => Nat.le_trans H4.out.2.2.2.2.2.2.2.size (H4.out.2.2.2.2.1 p e e2), H4.out.2.2.2.2.2.1, H4.out.2.2.2.2.2.2.1, below_setRow H4.out.1 (Nat.le_refl _) _⟩
end Go.Proofs.Ytdpfmaikijilkaa
