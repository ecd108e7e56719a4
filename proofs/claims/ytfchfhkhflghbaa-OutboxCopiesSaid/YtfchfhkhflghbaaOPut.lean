/-
  The walk of Put.
-/
import Derived.Test.YtfchfhkhflghbaaORow
import Derived.Deep.RegionHeld3
namespace Go.Proofs.Ytfchfhkhflghbaa
open Go Go.RowKit Go.Lib Go.Sort Go.Proofs

theorem put_arg {w : World} {G : Nat} (a : Option Addr) (c : Nat) : Calls Try.prog 16 #[.pointer (some ⟨G, 0, none⟩), .slice a 0 c] w (Tells (.int .i64 2) w) := by
  go_enter Try.func16, Try.ntmps16
  go_wp2
  go_ret
  exact ⟨rfl, Below.refl _ _⟩
theorem put_full {w : World} {G : Nat} {F : Nat → Prop} {x : St} (h : Ob w G F x) (a : Option Addr) (n c : Nat) (hn : n ≠ 0) (hf : x.1 = (x.2.1.length : Nat)) : Calls Try.prog 16 #[.pointer (some ⟨G, 0, none⟩), .slice a n c] w (Tells (.int .i64 5) w) := by
  have H := Lib.hid h
  have HF : Hid (x.1 - (x.2.1.length : Nat) = 0) := by show _ = _; omega
  have hz : (n == 0) = false := by simpa using hn
  have hz2 : ((n : Int) == 0) = false := by simpa using hn
  clear h hf hn
  go_enter Try.func16, Try.ntmps16
  go_wp2_with (go_at_call 20; refine (room_any H.out).mono ?_; rintro e w1 ⟨rfl, hb⟩; rw [HF.out]; have HB := Lib.hid hb; clear hb)
  go_ret
  exact ⟨rfl, HB.out.below⟩
theorem clone_n {w : World} (p : Addr) (c n : Nat) (l : List UInt8) (hn : n = l.length) (hl : CB.At w (some p) l.length l) (h0 : 1 ≤ l.length) : Calls Try.prog 26 #[.slice (some p) n c] w (CloneTo l w) := hn ▸ clone_any w p c l hl h0
/-- what a row of one's own is -/
theorem own_text {B : Nat} {w : World} {v : Value} {l : By} (h : CB.Own 5 B w v l) (h0 : l ≠ []) (hl : l.length ≤ 1000000) : ∃ g c, v = .slice (some ⟨g, 0, none⟩) l.length c ∧ B ≤ g ∧ g < w.heap.size ∧ l.length ≤ c ∧ c ≤ maxLen ∧ CB.At w (some ⟨g, 0, none⟩) l.length l := by
  obtain ⟨a, c, rfl, hc, hA, hb, h3⟩ := h.at_ hl
  rcases h3 with ⟨_, h3, _⟩ | ⟨g, rfl⟩
  · exact absurd h3 h0
  · obtain ⟨_, ⟨e, _⟩ | ⟨g', cap, cur, e, hg, hh, hnc, hm, _⟩⟩ := h
    · cases e
    · cases e
      exact ⟨g, c, rfl, hg, heap_lt hh, hc, hm, hA⟩
/-- behind the copy of what is put -/
theorem put_mid {w w2 : World} {G : Nat} {F FT : Nat → Prop} {a : Option Addr} {c : Nat} {L : List By} {b : By} {g2 k2 : Nat} (hR : Rw w FT (fun b => F b ∧ b ≠ G) a c L) (hF : ∀ b, F b → b < w.heap.size) (hT : ∀ b, FT b → F b) (hb : Below w.heap.size w w2)
    (hg : w.heap.size ≤ g2) (hg2 : g2 < w2.heap.size) (hk : b.length ≤ k2) (hk2 : k2 ≤ maxLen) (hA : CB.At w2 (some ⟨g2, 0, none⟩) b.length b) (m : Nat) (hm : m = b.length) (o : Obj) :
    Rw (w2.alloc o) (fun b => FT b ∨ b = g2) (fun b => F b ∧ b ≠ G) a c L ∧ Tx (w2.alloc o) (fun b => FT b ∨ b = g2) (SlV (some ⟨g2, 0, none⟩, m, k2)) b ∧ ∀ b, (FT b ∨ b = g2) → b < (w2.alloc o).heap.size := by
  subst hm
  have hba : Below w2.heap.size w2 (w2.alloc o) := (Below.refl _ _).alloc (Nat.le_refl _) _
  have hs : (w2.alloc o).heap.size = w2.heap.size + 1 := by simp
  have hsz := hb.size
  have hbw := hb.trans (hba.mono hsz)
  refine ⟨hR.keep (by omega) (fun b _ hl => hbw.block b hl) (fun _ e => .inl e) (fun _ e => e) (fun b e hn hx => ?_), ⟨g2, 0, k2, rfl, hk, hk2, .inr rfl, hA.below hba⟩, fun b e => ?_⟩
  · rcases hx with hx | hx
    · exact hn hx
    · have := hF b e.1
      omega
  · rcases e with e | e
    · have := hF b (hT b e)
      omega
    · omega
theorem put_end {w w2 w5 : World} {G : Nat} {F FT : Nat → Prop} {x : St} {a a' : Option Addr} {c c' : Nat} {b : By} {g2 : Nat} {N M : Nat} (hG : w.heap[G]? = some (OO x.1 (.slice a x.2.1.length c) x.2.1.flatten.length x.2.2)) (hFG : F G) (hTG : ¬ FT G) (hT : ∀ b, FT b → F b) (hF : ∀ b, F b → b < w.heap.size) (hR : Rw w FT (fun b => F b ∧ b ≠ G) a c x.2.1)
    (hb : Below w.heap.size w w2) (hg : w.heap.size ≤ g2) (hg2 : g2 < w2.heap.size) (hN : N = x.2.1.length + 1) (hM : M = x.2.1.flatten.length + b.length)
    (h5 : But (blk a) w2 w5) (hR5 : Rw w5 (fun b => FT b ∨ b = g2) (fun b => (F b ∧ b ≠ G) ∨ (w2.heap.size ≤ b ∧ b < w5.heap.size)) a' c' (x.2.1 ++ [b]))
    (h0 : 0 ≤ x.1) (h1 : x.1 ≤ 9223372036854775807) (h2 : ((x.2.1.length + 1 : Nat) : Int) ≤ x.1) (h3 : x.2.1.flatten.length + b.length ≤ 100000) (h4 : x.2.1.length + 1 ≤ 100000) (h6 : x.2.2 ≤ 100000) :
    obT.at_ ((w5.setCell ⟨G, 1, none⟩ (.slice a' N c')).setCell ⟨G, 2, none⟩ (.int .i64 (M : Nat))) G (Ext F w ((w5.setCell ⟨G, 1, none⟩ (.slice a' N c')).setCell ⟨G, 2, none⟩ (.int .i64 (M : Nat)))) (x.1, x.2.1 ++ [b], x.2.2) ∧
      But F w ((w5.setCell ⟨G, 1, none⟩ (.slice a' N c')).setCell ⟨G, 2, none⟩ (.int .i64 (M : Nat))) := by
  subst hN hM
  have hGl := hF _ hFG
  have hblk : ∀ b, blk a b → F b ∧ b ≠ G := fun b ⟨p, e, e2⟩ => by
    rcases hR with ⟨rfl, _⟩ | ⟨B, off, cur, rfl, hB, _⟩
    · cases e
    · cases e; exact e2 ▸ hB
  have hGn : ¬ blk a G := fun e => (hblk G e).2 rfl
  have g2' : w2.heap[G]? = _ := (hb.block G hGl).trans hG
  have g5 : w5.heap[G]? = _ := (h5.block G (Nat.lt_of_lt_of_le hGl hb.size) hGn).trans g2'
  obtain ⟨w6, hw6⟩ : ∃ w6, w6 = w5.setCell ⟨G, 1, none⟩ (.slice a' (x.2.1.length + 1) c') := ⟨_, rfl⟩
  rw [← hw6]
  have g6 : w6.heap[G]? = some (OO x.1 (.slice a' (x.2.1.length + 1) c') x.2.1.flatten.length x.2.2) := by
    rw [hw6, heap_setCell_same w5 G 1 _ _ _ g5]
    rfl
  obtain ⟨w7, hw7⟩ : ∃ w7, w7 = w6.setCell ⟨G, 2, none⟩ (.int .i64 ((x.2.1.flatten.length + b.length : Nat) : Int)) := ⟨_, rfl⟩
  rw [← hw7]
  have g7 : w7.heap[G]? = some (OO x.1 (.slice a' (x.2.1.length + 1) c') (x.2.1.flatten.length + b.length) x.2.2) := by
    rw [hw7, heap_setCell_same w6 G 2 _ _ _ g6]
    rfl
  have hb6 : But (fun b => b = G) w5 w6 := by rw [hw6]; exact (But.refl (fun b => b = G) _).setCell (p := ⟨G, 1, none⟩) rfl _
  have hb7 : But (fun b => b = G) w5 w7 := by rw [hw7]; exact hb6.setCell (p := ⟨G, 2, none⟩) rfl _
  have hbw : But F w w7 := ((But.of hb).next h5 fun j _ e => (hblk j e).1).next hb7 fun j _ e => e ▸ hFG
  have hz5 : w2.heap.size ≤ w5.heap.size := h5.size
  have hz7 : w5.heap.size ≤ w7.heap.size := hb7.size
  have hz2 := hb.size
  refine ⟨⟨fun b => FT b ∨ b = g2, a', c', ?_, .inl hFG, fun e => ?_, fun b e => ?_, fun b e => ?_, hR5.keep hz7 (fun k e hl => hb7.block k hl fun e2 => ?_) (fun _ e => e) (fun k e => ?_) (fun k e hn => hn), h0, h1, ?_, ?_, ?_, h6⟩, hbw⟩
  · rw [g7]
    simp only [List.length_append, List.length_singleton, List.flatten_append, List.flatten_singleton]
  · rcases e with e | e
    · exact hTG e
    · omega
  · rcases e with e | e
    · exact .inl (hT b e)
    · exact .inr ⟨by omega, by omega⟩
  · rcases e with e | e
    · exact Nat.lt_of_lt_of_le (hF b e) hbw.size
    · exact e.2
  · subst e2
    rcases e with e | e
    · rcases e with e | e
      · exact hTG e
      · omega
    · rcases e with e | e
      · exact e.2 rfl
      · omega
  · rcases e with e | e
    · exact ⟨.inl e.1, e.2⟩
    · exact ⟨.inr ⟨by omega, by omega⟩, by omega⟩
  · simpa using h2
  · simpa using h3
  · simpa using h4
set_option maxHeartbeats 4000000 in
set_option maxRecDepth 100000 in
theorem put_there {w : World} {G : Nat} {F : Nat → Prop} {x : St} (h : Ob w G F x) (p : Addr) (c : Nat) (b : By) (hb : CB.At w (some p) b.length b) (h0 : b ≠ []) (hr : (x.2.1.length : Int) < x.1) (hs : x.2.1.flatten.length + b.length ≤ 100000) (hs2 : x.2.1.length + 1 ≤ 100000) :
    Calls Try.prog 16 #[.pointer (some ⟨G, 0, none⟩), .slice (some p) b.length c] w (obT.To (.int .i64 0) G F (x.1, x.2.1 ++ [b], x.2.2) w) := by
  have mixed : Try.prog.follows .mixedOrders = true := by kernel_rfl
  have H := Lib.hid h
  obtain ⟨FT, a, k, hG, hFG, hTG, hT, hF, hR, i0, i1, i2, i3, i4, i5⟩ := h
  obtain ⟨q, hq⟩ : ∃ q : Int, q = x.1 - (x.2.1.length : Nat) := ⟨_, rfl⟩
  have HQ := Lib.hid hq
  have hq0 : (q == 0) = false := by simp; omega
  obtain ⟨m, hm⟩ : ∃ m, m = b.length := ⟨_, rfl⟩
  obtain ⟨N, hN⟩ : ∃ N, N = x.2.1.length := ⟨_, rfl⟩
  obtain ⟨M, hM⟩ : ∃ M, M = x.2.1.flatten.length := ⟨_, rfl⟩
  have HN := Lib.hid hN
  have HM := Lib.hid hM
  have HMM := Lib.hid hm
  have hm0 : 0 < m := by rw [hm]; exact List.length_pos_iff.2 h0
  have hz : (m == 0) = false := by simp; omega
  have hz2 : ((m : Int) == 0) = false := by simp; omega
  have hw1 : IntKind.i64.wrap ((M : Int) + (m : Int)) = ((M + m : Nat) : Int) := by rw [IntKind.wrap_i64]; omega
  have HB0 := Lib.hid hb
  have HZ0 := Lib.hid h0
  have HS := Lib.hid (And.intro hr (And.intro hs hs2))
  have HI := Lib.hid (And.intro i0 (And.intro i1 (And.intro i3 i5)))
  have HGG := Lib.hid hG
  have HFF := Lib.hid (And.intro hFG (And.intro hTG (And.intro hT hF)))
  have HRR := Lib.hid hR
  have HNB : Hid (¬ blk a G) := fun ⟨p, e, e2⟩ => by
    rcases hR with ⟨rfl, _⟩ | ⟨B, off, cur, rfl, hB, _⟩
    · cases e
    · cases e; exact hB.2 e2
  rw [← hm]
  clear hb h0 hr hs hs2 i0 i1 i2 i3 i4 i5 hG hFG hTG hT hF hR hq hm hN hM hm0
  go_enter Try.func16, Try.ntmps16
  go_wp2_with (go_at_call 20; refine (room_any H.out).mono ?_; rintro e w1 ⟨rfl, hb⟩; rw [← HQ.out]; have HB := Lib.hid hb; clear hb)
  have hbd : Below w.heap.size w w1.drew := HB.out.below.drew
  have HBD := Lib.hid hbd
  have hst : ∀ W, Below w.heap.size w W → W.cell? ⟨G, 1, none⟩ = some (.slice a N k) ∧ W.heap[G]? = some (OO x.1 (.slice a N k) M x.2.2) := fun W hW => by
    have := (hW.block _ (heap_lt HGG.out)).trans HGG.out
    rw [← HN.out, ← HM.out] at this
    exact ⟨(oo_cells this).2.1, this⟩
  have HST := Lib.hid hst
  have d1 := (hst _ hbd).1
  clear hbd hst
  go_region_law (first
    | (refine Rw.step rfl _ _ rfl N HN.out HP.out.1 HP.out.2.2 (by have := HS.out; omega) b _ HP.out.2.1 ⟨w2.heap.size, 0, none⟩ 1 HO.out rfl rfl ?_; intro a5 c5' w5 hb5 hr5; have H5 := Lib.hid (And.intro hb5 hr5); have g5 := (hb5.block _ (heap_lt (HST.out _ (HBW.out.alloc HBW.out.size (.cells #[.slice (some ⟨g2, 0, none⟩) m k2] 30))).2) HNB.out).trans (HST.out _ (HBW.out.alloc HBW.out.size (.cells #[.slice (some ⟨g2, 0, none⟩) m k2] 30))).2; have c5 := (oo_cells g5).2.1; have f5 := oo_frozen g5 1; have HG5 := Lib.hid g5; clear hb5 hr5 g5)
    | (go_simp; go_at_call 26; refine (clone_n p c m b HMM.out (HB0.out.below HBD.out) (List.length_pos_iff.2 HZ0.out)).mono ?_; rintro e w2 ⟨v2, rfl, ho2, hb2⟩; obtain ⟨g2, k2, rfl, hg2, hgl, hk, hk2, hA2⟩ := own_text ho2 HZ0.out HB0.out.2.1; have hbw := HBD.out.trans (hb2.mono HBD.out.size); rw [← HMM.out] at hk hA2 ⊢; have HP := Lib.hid (put_mid HRR.out HFF.out.2.2.2 HFF.out.2.2.1 hbw (Nat.le_trans HBD.out.size hg2) hgl (HMM.out ▸ hk) hk2 (HMM.out ▸ hA2) m HMM.out (.cells #[.slice (some ⟨g2, 0, none⟩) m k2] 30)); have HBW := Lib.hid hbw; have HO : Hid ((w2.alloc (.cells #[.slice (some ⟨g2, 0, none⟩) m k2] 30)).cell? ⟨w2.heap.size, 0, none⟩ = some (.slice (some ⟨g2, 0, none⟩) m k2)) := (cell_of_row _ _ _ _ _ _ (heap_alloc_new _ _)).trans rfl; have HG2 := Lib.hid (And.intro (Nat.le_trans HBD.out.size hg2) hgl); have d2 := (HST.out _ hbw).1; have d3 := (HST.out _ (hbw.alloc hbw.size (.cells #[.slice (some ⟨g2, 0, none⟩) m k2] 30))).1; clear ho2 hb2 hg2 hgl hk hk2 hA2 hbw; dsimp only))
  all_goals
    obtain ⟨w6, hw6⟩ : ∃ w6, w6 = w5.setCell ⟨G, 1, none⟩ (.slice a5 (N + 1) c5') := ⟨_, rfl⟩
    rw [← hw6]
    have g6 : w6.heap[G]? = some (OO x.1 (.slice a5 (N + 1) c5') M x.2.2) := by
      rw [hw6, heap_setCell_same w5 G 1 _ _ _ HG5.out]
      rfl
    have e2 := (oo_cells g6).2.2.1
    have f2 := oo_frozen g6 2
    have HW6 := Lib.hid hw6
    clear hw6 g6 c5 f5 d1 d2 d3
    go_wp2
    go_ret
    rw [HW6.out]
    have he := put_end (N := N + 1) (M := M + m) HGG.out HFF.out.1 HFF.out.2.1 HFF.out.2.2.1 HFF.out.2.2.2 HRR.out (HBW.out.alloc HBW.out.size (.cells #[.slice (some ⟨g2, 0, none⟩) m k2] 30)) HG2.out.1 (by have := HG2.out.2; simp; omega) (by rw [HN.out]) (by rw [HM.out, HMM.out]) H5.out.1 H5.out.2 HI.out.1 HI.out.2.1 (by have := HS.out.1; omega) HS.out.2.1 HS.out.2.2 HI.out.2.2.2
    exact ⟨rfl, he⟩
end Go.Proofs.Ytfchfhkhflghbaa
