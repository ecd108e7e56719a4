/-
  The walk of fill.
-/
import Derived.Test.YtfchfhkhflghbaaOFill
namespace Go.Proofs.Ytfchfhkhflghbaa
open Go Go.RowKit Go.Lib Go.Sort Go.Proofs

/-- behind fill: the row's rest, the bytes -/
def FillTo (w : World) (G TB K : Nat) (F FT : Nat → Prop) (x : St) (e : Ending) (w' : World) : Prop :=
  e = .returned (.tuple #[]) ∧ ∃ a' c', w'.heap[G]? = some (OO x.1 (.slice a' (cutT K x.2.1).length c') x.2.1.flatten.length x.2.2) ∧ Rw w' FT (fun b => F b ∧ b ≠ G) a' c' (cutT K x.2.1) ∧
    w'.heap[TB]? = some (.cells (CB.cells (x.2.1.flatten.take K)).toArray 5 (0, 0)) ∧ But (fun b => F b ∨ b = TB) w w'
theorem Fil.drew {w : World} {FT : Nat → Prop} {TB B off K SZ : Nat} {L : List By} {wr : World} {j q : Nat} (h : Fil w FT TB B off K SZ L wr j q) : Fil w FT TB B off K SZ L wr.drew j q := by
  obtain ⟨h1, h2, h3, ⟨cur, h4, h5, h6⟩, h7⟩ := h
  refine ⟨h1, h2, h3, ⟨cur, h4, h5, fun i hi => ?_⟩, h7.drew⟩
  obtain ⟨v, k1, k2⟩ := h6 i hi
  exact ⟨v, k1, k2.keep (Nat.le_refl _) (fun _ _ _ => rfl) fun _ e => e⟩
set_option maxHeartbeats 4000000 in
set_option maxRecDepth 100000 in
theorem fill_any {w : World} {G : Nat} {F FT : Nat → Prop} {x : St} {a : Option Addr} {c : Nat} (hG : w.heap[G]? = some (OO x.1 (.slice a x.2.1.length c) x.2.1.flatten.length x.2.2)) (hFG : F G) (hTG : ¬ FT G) (hT : ∀ b, FT b → F b) (_hF : ∀ b, F b → b < w.heap.size) (hR : Rw w FT (fun b => F b ∧ b ≠ G) a c x.2.1) (hl : x.2.1.length ≤ 100000)
    (TB K : Nat) (cur0 : Array Value) (htb : w.heap[TB]? = some (.cells cur0 5 (0, 0))) (hts : cur0.size = K) (hnF : ¬ F TB) (hK0 : 0 < K) (hK : K ≤ x.2.1.flatten.length) (hK2 : K ≤ 100000) (hne : ∀ t ∈ x.2.1, t ≠ []) :
    Calls Try.prog 29 #[.pointer (some ⟨G, 0, none⟩), .slice (some ⟨TB, 0, none⟩) K K] w (FillTo w G TB K F FT x) := by
  have mixed : Try.prog.follows .mixedOrders = true := by kernel_rfl
  obtain ⟨B, off, cur, rfl, hFB, hTB, hh, hoc, hlc, hcm, hall⟩ := hR.resolve_left fun ⟨_, _, e⟩ => by
    rw [e] at hK
    simp at hK
    omega
  obtain ⟨L, hL⟩ : ∃ L, L = x.2.1 := ⟨_, rfl⟩
  obtain ⟨N, hN⟩ : ∃ N, N = L.length := ⟨_, rfl⟩
  obtain ⟨M, hM⟩ : ∃ M, M = L.flatten.length := ⟨_, rfl⟩
  rw [← hL] at hG hK hne hlc hall hl
  rw [← hN, ← hM] at hG
  have hne2 : ∀ t ∈ L, t ≠ [] := hne
  have hf0 : Fil w FT TB B off K cur.size L w 0 0 := ⟨Nat.zero_le _, ⟨cur0, htb, hts, by simp [Cod.cells]⟩, by rw [cutT_zero L hne2, Nat.zero_add], ⟨cur, hh, rfl, fun i hi => by simp only [cutT_zero L hne2] at hi ⊢; exact hall i hi⟩, But.refl _ _⟩
  have HF0 := Lib.hid hf0
  have HGG := Lib.hid hG
  have HFB := Lib.hid hFB
  have HNE := Lib.hid (And.intro hne2 hK)
  have hTBB : TB ≠ B := fun e => hnF (e ▸ hFB.1)
  have hnT : ¬ FT TB := fun e => hnF (hT _ e)
  have hGT : G ≠ TB := fun e => hnF (e ▸ hFG)
  have HD := Lib.hid (And.intro hTBB (And.intro hnT (And.intro hTB hGT)))
  have HOC := Lib.hid (And.intro hoc hlc)
  have HL := Lib.hid hL
  have HN := Lib.hid hN
  have HM := Lib.hid hM
  have HFG := Lib.hid hFG
  have HCM := Lib.hid hcm
  have HTG := Lib.hid hTG
  clear hG hFG hTG hT _hF hR htb hts hnF hK hne hFB hTB hh hoc hlc hall hne2 hf0 hTBB hnT hGT hL hN hM hcm
  go_enter Try.func29, Try.ntmps29
  go_wp2_with fail
  go_loopg [1, 4] K (fun kx s1 s4 wr => ∃ j q r j' : Nat, s1 = .slice (some ⟨TB, j', none⟩) r r ∧ (0 < r → j' = j) ∧ s4 = .int .i64 q ∧ j + r = K ∧ r ≤ kx ∧ Aside (Fil w FT TB B off K cur.size L wr j q))
  case atStart => exact ⟨0, 0, K, 0, rfl, fun _ => rfl, by go_num, by omega, Nat.le_refl _, HF0.out⟩
  case round =>
    obtain ⟨j, q, r, j', rfl, hj', rfl, hjr, hkx, A⟩ := hrel
    have hgr : wr.heap[G]? = some (OO x.1 (.slice (some ⟨B, off, none⟩) N c) M x.2.2) := (A.out.but.block _ (heap_lt HGG.out) fun e => e.elim (fun e => HD.out.2.2.2 e) fun e => HFB.out.2 e.symm).trans HGG.out
    have HGR := Lib.hid hgr
    have c1 := (oo_cells hgr).2.1
    clear hgr
    have hrb : r ≤ 100000 := by omega
    by_cases h0 : 0 < r
    · obtain rfl := hj' h0
      clear hj'
      obtain ⟨t, ts, X, o, ct, hcut, ht0, hts0, d0, d1, hct, hcm, hX, hA, hq⟩ := A.out.open_ (by omega) HNE.out.2 HNE.out.1
      obtain ⟨tl, htl2⟩ : ∃ tl, tl = t.length := ⟨_, rfl⟩
      obtain ⟨n, hn⟩ : ∃ n, n = min r tl := ⟨_, rfl⟩
      obtain ⟨w2, hrun, htb2, hb2⟩ := A.out.copy (ct := ct) hcut hA n r r tl (by omega) htl2 hn
      have HT2 := Lib.hid htb2
      have HB2 := Lib.hid hb2
      have hg2 := (hb2.block _ (heap_lt HGR.out) HD.out.2.2.2).trans HGR.out
      have c2 : w2.drew.cell? ⟨G, 1, none⟩ = some (.slice (some ⟨B, off, none⟩) N c) := (oo_cells hg2).2.1
      have e0 : wr.cell? ⟨B, off + q, none⟩ = some (.slice (some ⟨X, o, none⟩) tl ct) := by rw [htl2]; exact d0
      have dB : w2.drew.cell? ⟨B, off + q, none⟩ = some (.slice (some ⟨X, o, none⟩) tl ct) := (World.cell?_of_block (w := wr) (hb2.block B (World.block_lt_of_cell? wr _ d0) fun e => HD.out.1 e.symm)).trans e0
      have fB : w2.drew.frozen? ⟨B, off + q, none⟩ = false := (World.frozen?_of_block (w := wr) (a := ⟨B, off + q, none⟩) (hb2.block B (World.block_lt_of_cell? wr _ d0) fun e => HD.out.1 e.symm)).trans d1
      have HX := Lib.hid (And.intro hcut (And.intro hts0 (And.intro hA (And.intro hct (And.intro hcm hX)))))
      have HNN := Lib.hid hn
      have hn1 : n ≤ tl := by omega
      have hn2 : n ≤ r := by omega
      have hn3 : 0 < n := by omega
      have hqN : q < N := by rw [HN.out]; exact hq
      have hqb : q < 100000 := by have := HN.out; omega
      have htl : tl ≤ 1000000 := by rw [htl2]; exact hA.2.1
      have hct2 : tl ≤ ct := by rw [htl2]; exact hct
      have HTL := Lib.hid htl2
      have HN1 := Lib.hid (And.intro hn1 (And.intro hn2 hn3))
      have hdr : decide (0 < r) = true := by simpa using h0
      have hgt : decide ((r : Int) > 0) = true := by simp; omega
      clear hcut hts0 hA hX htb2 hb2 hg2 hcm d0 hct ht0 hq htl2 hn
      go_wp2
      go_region
      all_goals
        have hst := fun q' (hq' : q' = if n = t.length then q + 1 else q) => A.out.store (q' := q') HX.out.1 HX.out.2.1 HX.out.2.2.1 HX.out.2.2.2.1 HX.out.2.2.2.2.1 HX.out.2.2.2.2.2 HD.out.2.1 HD.out.2.2.1 HD.out.1 (w2 := w2) (by have := HTL.out; omega) (by omega) HT2.out HB2.out hq' (v := .slice (if ct = n then some ⟨X, o, none⟩ else some ⟨X, o + n, none⟩) (tl - n) (ct - n)) (fun hne => by have := HTL.out; rw [if_neg (by omega), this])
        rw [← HTL.out] at hst
        obtain ⟨w3, hw3⟩ : ∃ w3, w3 = w2.setCell ⟨B, off + q, none⟩ (.slice (if ct = n then some ⟨X, o, none⟩ else some ⟨X, o + n, none⟩) (tl - n) (ct - n)) := ⟨_, rfl⟩
        rw [← hw3] at hst ⊢
        obtain ⟨j2, hj2, hj3⟩ : ∃ j2, (if r = n then some (⟨TB, j', none⟩ : Addr) else some ⟨TB, j' + n, none⟩) = some ⟨TB, j2, none⟩ ∧ (0 < r - n → j2 = j' + n) := by
          by_cases hrn : r = n
          · exact ⟨j', if_pos hrn, fun h => by omega⟩
          · exact ⟨j' + n, if_neg hrn, fun _ => rfl⟩
        rw [hj2]
        by_cases hnt : n = tl
        · have HF3 := Lib.hid (hst (q + 1) (if_pos hnt).symm)
          have hb1 : (n == tl) = true := by simpa using hnt
          have hb3 : ((n : Int) == (tl : Int)) = true := by simp; omega
          have hb4 : decide (n = tl) = true := by simpa using hnt
          clear hst hw3 hnt A c1 c2 dB fB d1 e0 hrun hj2
          have HJ3 := Lib.hid hj3
          clear hj3
          have HJR : Hid (j' + n + (r - n) = K) := by show _ = _; omega
          have HMS : Hid (r - n < r) := by show _ < _; omega
          go_wp2
          all_goals
            go_roundg (r - n)
            case measure => have := HMS.out; omega
            case rel => exact ⟨j' + n, q + 1, r - n, j2, rfl, HJ3.out, by go_num, HJR.out, Nat.le_refl _, HF3.out.drew⟩
        · have HF3 := Lib.hid (hst q (if_neg hnt).symm)
          have hb1 : (n == tl) = false := by simpa using hnt
          have hb3 : ((n : Int) == (tl : Int)) = false := by simp; omega
          have hb4 : decide (n = tl) = false := by simpa using hnt
          clear hst hw3 hnt A c1 c2 dB fB d1 e0 hrun hj2
          have HJ3 := Lib.hid hj3
          clear hj3
          have HJR : Hid (j' + n + (r - n) = K) := by show _ = _; omega
          have HMS : Hid (r - n < r) := by show _ < _; omega
          go_wp2
          all_goals
            go_roundg (r - n)
            case measure => have := HMS.out; omega
            case rel => exact ⟨j' + n, q, r - n, j2, rfl, HJ3.out, by go_num, HJR.out, Nat.le_refl _, HF3.out.drew⟩
    · obtain rfl : r = 0 := by omega
      obtain rfl : K = j := by omega
      obtain ⟨w2, hrun, hf2, hb2⟩ := A.out.clear HD.out.2.2.1 HD.out.1 (by have := HOC.out; omega) c
      have hg2 := (hb2.block _ (heap_lt HGR.out) fun e => HFB.out.2 e.symm).trans HGR.out
      have c2 := (oo_cells hg2).2.1
      have f2 := oo_frozen hg2 1
      have HG2 := Lib.hid hg2
      have HF2 := Lib.hid hf2
      have hqc : q ≤ c := by have := HOC.out; have := hf2.cnt; omega
      have hqN : q ≤ N := by rw [HN.out]; have := hf2.cnt; omega
      have hNc : N ≤ c := by rw [HN.out]; exact HOC.out.2
      clear hg2 hf2 hb2 A
      have hend : ∀ a', (a' = some ⟨B, off + q, none⟩ ∨ (a' = some ⟨B, off, none⟩ ∧ c = q)) → FillTo w G TB K F FT x (.returned (.tuple #[])) (w2.setCell ⟨G, 1, none⟩ (.slice a' (N - q) (c - q))) := fun a' ha' => by
        have hs := heap_setCell_same w2 G 1 _ _ (.slice a' (N - q) (c - q)) HG2.out
        have hbG : But (fun b => b = G) w2 (w2.setCell ⟨G, 1, none⟩ (.slice a' (N - q) (c - q))) := (But.refl (fun b => b = G) _).setCell (p := ⟨G, 1, none⟩) rfl _
        have hcnt := HF2.out.cnt
        obtain ⟨cu, hcu, hsz, hall⟩ := HF2.out.row
        obtain ⟨ct, htb, hts, htk⟩ := HF2.out.tb
        have hoc := HOC.out
        obtain ⟨o', rfl, ho'⟩ : ∃ o', a' = some ⟨B, o', none⟩ ∧ (o' = off + q ∨ (o' = off ∧ c = q)) := by
          rcases ha' with rfl | ⟨rfl, e⟩
          · exact ⟨_, rfl, .inl rfl⟩
          · exact ⟨_, rfl, .inr ⟨rfl, e⟩⟩
        unfold FillTo
        rw [← HL.out]
        refine ⟨rfl, _, c - q, ?_, .inr ⟨B, o', cu, rfl, HFB.out, HD.out.2.2.1, (hbG.block _ (heap_lt hcu) HFB.out.2).trans hcu, ?_, by omega, by have := HCM.out; omega, fun i hi => ?_⟩, ?_, ?_⟩
        · rw [hs, ← HM.out, show (cutT K L).length = N - q by have := HN.out; omega]
          rfl
        · omega
        · obtain ⟨u, k1, k2⟩ := hall i hi
          refine ⟨u, ?_, k2.keep hbG.size (fun b e hl => hbG.block b hl fun e2 => ?_) fun _ e => e⟩
          · rw [show o' = off + q by have := HN.out; omega]
            exact k1
          · subst e2
            exact HTG.out e
        · rw [hbG.block _ (heap_lt htb) (fun e => HD.out.2.2.2 e.symm), htb, ← htk, ← hts, ← Array.length_toList, List.take_length]
        · refine (HF2.out.but.mono fun b _ e => ?_).next hbG fun b _ e => .inl (e ▸ HFG.out)
          rcases e with e | e
          · exact .inr e
          · exact .inl (e ▸ HFB.out.1)
      have HEND := Lib.hid hend
      clear hend
      go_wp2
      all_goals
        go_end0
        first
          | exact HEND.out _ (.inl rfl)
          | (have := HEND.out _ (.inr ⟨rfl, h⟩); rwa [show c - q = 0 by omega] at this)
end Go.Proofs.Ytfchfhkhflghbaa
