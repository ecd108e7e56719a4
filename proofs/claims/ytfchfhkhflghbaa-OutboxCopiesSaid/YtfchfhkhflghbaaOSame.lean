/-
  The walks of slices.EqualFunc at texts, Same.
-/
import Derived.Test.YtfchfhkhflghbaaOCopy
namespace Go.Proofs.Ytfchfhkhflghbaa
open Go Go.RowKit Go.Lib Go.Sort Go.Proofs

theorem take_snoc {α : Type} (l r : List α) (k : Nat) (x : α) (h1 : l[k]? = some x) (h2 : r[k]? = some x) (h : l.take k = r.take k) : l.take (k + 1) = r.take (k + 1) := by
  rw [List.take_add_one, List.take_add_one, h1, h2, h]
theorem ne_at {α : Type} (l r : List α) (k : Nat) (x y : α) (h1 : l[k]? = some x) (h2 : r[k]? = some y) (h : x ≠ y) : l ≠ r := fun e => by
  rw [e, h2] at h1
  exact h (Option.some.inj h1).symm
set_option maxHeartbeats 2000000 in
theorem equalF_any (w : World) (FT FT' : Nat → Prop) (a b : Option Addr) (n m c d : Nat) (l r : List By) (sl sr : List Sl) (hn : n = l.length) (hm : m = r.length) (hsl : sl.length = l.length) (hsr : sr.length = r.length) (hl : CS.At w a n sl) (hr : CS.At w b m sr) (hn2 : n ≤ 100000) (hxl : ∀ (i : Nat) (s : Sl) (t : By), sl[i]? = some s → l[i]? = some t → Tx w FT (SlV s) t) (hxr : ∀ (i : Nat) (s : Sl) (t : By), sr[i]? = some s → r[i]? = some t → Tx w FT' (SlV s) t) :
    Calls Try.prog 27 #[.slice a n c, .slice b m d, .func (.func 28) #[] #[]] w (fun e w' => e = .returned (.bool (decide (l = r))) ∧ w' = w) := by
  by_cases hnm : n = m
  · subst hnm
    obtain ⟨t, ht⟩ : ∃ t, t = decide (l = r) := ⟨_, rfl⟩
    rw [← ht]
    have HT := Lib.hid ht
    have HL := Lib.hid hl
    have HR := Lib.hid hr
    have HNN := Lib.hid (And.intro hn (And.intro hm (And.intro hsl hsr)))
    have HXX := Lib.hid (And.intro hxl hxr)
    clear ht hl hr hn hm hsl hsr hxl hxr
    go_enter Try.func27, Try.ntmps27
    go_wp2
    go_loopg [17] n (fun kx s17 wr => ∃ k : Nat, s17 = .int .i64 k ∧ k ≤ n ∧ n - k ≤ kx ∧ Aside (l.take k = r.take k ∧ wr = w))
    case atStart => exact ⟨0, by go_num, Nat.zero_le _, Nat.le_refl _, rfl, rfl⟩
    case round =>
      obtain ⟨k, rfl, hk, hkx, A⟩ := hrel
      have HTK := Lib.hid A.out.1
      obtain rfl := A.out.2
      clear A
      by_cases hlt : k < n
      · have hlz : decide (k < n) = true := by simpa using hlt
        obtain ⟨B1, o1, rfl, hB1, x, hx, hc1⟩ := HL.out.cell hlt
        obtain ⟨B2, o2, rfl, hB2, y, hy, hc2⟩ := HR.out.cell hlt
        have p0 : wr.cell? ⟨B1, o1 + k, none⟩ = some (SlV x) := by have := hc1 0 (by decide); rw [show CS.k = 1 from rfl, Nat.mul_one] at this; exact this
        have s0 : wr.cell? ⟨B2, o2 + k, none⟩ = some (SlV y) := by have := hc2 0 (by decide); rw [show CS.k = 1 from rfl, Nat.mul_one] at this; exact this
        obtain ⟨u, hu⟩ : ∃ u, l[k]? = some u := ⟨_, List.getElem?_eq_getElem (by have := HNN.out.1; omega)⟩
        obtain ⟨v, hv⟩ : ∃ v, r[k]? = some v := ⟨_, List.getElem?_eq_getElem (by have := HNN.out.2.1; omega)⟩
        obtain ⟨X, o, ct, e1, _, _, _, hA⟩ := HXX.out.1 k x u hx hu
        obtain ⟨Y, o', ct', e2, _, _, _, hA'⟩ := HXX.out.2 k y v hy hv
        rw [e1] at p0
        rw [e2] at s0
        have HU := Lib.hid (And.intro hu (And.intro hv (And.intro hA hA')))
        have hkb : k < 100000 := by omega
        clear hx hy hc1 hc2 hB1 hB2 hu hv hA hA' e1 e2
        by_cases he : u = v
        · have HE := Lib.hid he
          have HEQ : Hid (Calls Try.prog 28 #[.slice (some ⟨X, o, none⟩) u.length ct, .slice (some ⟨Y, o', none⟩) v.length ct'] wr (fun e w' => e = .returned (.bool true) ∧ w' = wr)) := by
            have := equal_any wr _ _ _ _ ct ct' _ _ HU.out.2.2.1 HU.out.2.2.2
            rw [decide_eq_true he] at this
            exact this
          clear he
          go_wp2_with (go_at_call 28; ((with_reducible refine HEQ.out.mono ?_)); rintro e w1 ⟨rfl, rfl⟩)
          go_roundg (n - (k + 1))
          case measure => omega
          case rel => exact ⟨k + 1, by go_num, by omega, Nat.le_refl _, take_snoc l r k u HU.out.1 (by rw [HE.out]; exact HU.out.2.1) HTK.out, rfl⟩
        · have HE := Lib.hid he
          have HEQ : Hid (Calls Try.prog 28 #[.slice (some ⟨X, o, none⟩) u.length ct, .slice (some ⟨Y, o', none⟩) v.length ct'] wr (fun e w' => e = .returned (.bool false) ∧ w' = wr)) := by
            have := equal_any wr _ _ _ _ ct ct' _ _ HU.out.2.2.1 HU.out.2.2.2
            rw [decide_eq_false he] at this
            exact this
          clear he
          go_wp2_with (go_at_call 28; ((with_reducible refine HEQ.out.mono ?_)); rintro e w1 ⟨rfl, rfl⟩)
          go_ret
          exact ⟨by rw [HT.out, decide_eq_false (ne_at l r k u v HU.out.1 HU.out.2.1 HE.out)]; rfl, rfl⟩
      · have hkn : k = n := by omega
        have hd : decide (k < n) = false := decide_eq_false hlt
        have HF : Hid (l = r) := by
          have h := HTK.out
          have h1 := HNN.out.1
          have h2 := HNN.out.2.1
          rw [List.take_of_length_le (by omega), List.take_of_length_le (by omega)] at h
          exact h
        clear hkn
        go_wp2
        go_ret
        exact ⟨by rw [HT.out, decide_eq_true HF.out]; rfl, rfl⟩
  · have HT : Hid (decide (l = r) = false) := Lib.hid (decide_eq_false fun e => hnm (by rw [hn, hm, e]))
    rw [HT.out]
    have hd2 : (n == m) = false := by simpa using hnm
    have hd3 : (n != m) = true := by simpa using hnm
    have hd4 : ((n : Int) != (m : Int)) = true := by simp; omega
    clear hl hr hn hm hsl hsr HT hxl hxr
    go_enter Try.func27, Try.ntmps27
    go_wp2
    go_ret
    exact ⟨rfl, rfl⟩
/-- the same room, the same texts left, as much taken -/
def alike (x y : St) : Bool := decide (x.1 = y.1) && (decide (x.2.2 = y.2.2) && decide (x.2.1 = y.2.1))
set_option maxHeartbeats 4000000 in
set_option maxRecDepth 100000 in
theorem same_any {w : World} {G G2 : Nat} {F F2 : Nat → Prop} {x y : St} (h : Ob w G F x) (k : Ob w G2 F2 y) : Calls Try.prog 14 #[.pointer (some ⟨G, 0, none⟩), .pointer (some ⟨G2, 0, none⟩)] w (GwV (.bool (alike x y)) w) := by
  have mixed : Try.prog.follows .mixedOrders = true := by kernel_rfl
  obtain ⟨FT, a, c, hG, _, _, _, _, hR, _, _, _, _, i4, _⟩ := h
  obtain ⟨FT2, a2, c2, hG2, _, _, _, _, hR2, _, _, _, _, j4, _⟩ := k
  obtain ⟨most, L, sent⟩ := x
  obtain ⟨most2, L2, sent2⟩ := y
  simp only at hG hG2 hR hR2 i4 j4
  obtain ⟨sl, hsl, hsA, hnil, htx⟩ := hR.sl (by omega)
  obtain ⟨sl2, hsl2, hsA2, hnil2, htx2⟩ := hR2.sl (by omega)
  obtain ⟨b0, b1, b2, b3⟩ := oo_cells hG
  obtain ⟨d0, d1, d2, d3⟩ := oo_cells hG2
  obtain ⟨N, hN⟩ : ∃ N, N = L.length := ⟨_, rfl⟩
  obtain ⟨N2, hN2⟩ : ∃ N2, N2 = L2.length := ⟨_, rfl⟩
  rw [← hN] at b1 hsA i4
  rw [← hN2] at d1 hsA2
  have HE : Hid (∀ nq os, Calls Try.prog 27 #[.slice a N c, .slice a2 N2 c2, .func (.func 28) #[] #[]] (grow (w.drewN nq) os) (fun e w'' => e = .returned (.bool (decide (L = L2))) ∧ ∃ p : GrownBy, w'' = grow (w.drewN p.n) p.os)) := fun nq os => by
    have hb := (Gw.of w nq os).below
    refine GwV.calls ((equalF_any (grow (w.drewN nq) os) FT FT2 a a2 N N2 c c2 L L2 sl sl2 hN hN2 hsl hsl2 (hsA.below hb) (hsA2.below hb) i4 (fun i s t h1 h2 => (htx i s t h1 h2).keep hb.size (fun b _ hl => hb.block b hl) fun _ e => e) (fun i s t h1 h2 => (htx2 i s t h1 h2).keep hb.size (fun b _ hl => hb.block b hl) fun _ e => e)).mono fun _ _ ⟨he, hw⟩ => ⟨he, hw ▸ Gw.refl _⟩)
  have g0 := fun nq os => (Gw.of w nq os).cell b0
  have g1 := fun nq os => (Gw.of w nq os).cell b1
  have g3 := fun nq os => (Gw.of w nq os).cell b3
  have k0 := fun nq os => (Gw.of w nq os).cell d0
  have k1 := fun nq os => (Gw.of w nq os).cell d1
  have k3 := fun nq os => (Gw.of w nq os).cell d3
  obtain ⟨t, ht⟩ : ∃ t, t = decide (L = L2) := ⟨_, rfl⟩
  have HA : Hid (alike (most, L, sent) (most2, L2, sent2) = (decide (most = most2) && (decide (sent = sent2) && t))) := by rw [ht]; rfl
  rw [← ht] at HE
  rw [HA.out]
  clear hG hG2 hR hR2 i4 j4 hsl hsA hnil htx hsl2 hsA2 hnil2 htx2 b0 b1 b2 b3 d0 d1 d2 d3 hN hN2 ht HA
  cases e0 : decide (most = most2)
  case' true => cases e1 : decide (sent = sent2)
  all_goals
    have f0 : (most == most2) = decide (most = most2) := by by_cases h : most = most2 <;> simp [h]
    have f1 : ((sent : Int) == (sent2 : Int)) = decide (sent = sent2) := by by_cases h : sent = sent2 <;> simp [h] <;> omega
    rw [e0] at f0
    first
      | rw [e1] at f1
      | clear f1
    go_enter Try.func14, Try.ntmps14
    go_wp2_with fail
    refine wp_region_gw mixed (by kernel_rfl) ?_
    iterate 32 (refine WQ.step (fun K hK => ?_); go_simp; first | (refine hK _ ?_; clear hK K) | (apply Exists.intro; refine ⟨fun _ => ?_, hK _ ?_⟩; (go_at_call 27; exact HE.out _ _); clear hK K))
    refine WQ.nil ?_
    intro _ hw'
    obtain ⟨⟨nq, osq⟩, hw''⟩ := hw'
    subst hw''
    have G2 : Hid (Gw w (grow (w.drewN nq) osq)) := Gw.of w nq osq
    clear g0 g1 g3 k0 k1 k3
    generalize grow (w.drewN nq) osq = w2 at G2 ⊢
    go_wp2
    go_ret
    exact ⟨rfl, G2.out⟩
end Go.Proofs.Ytfchfhkhflghbaa
