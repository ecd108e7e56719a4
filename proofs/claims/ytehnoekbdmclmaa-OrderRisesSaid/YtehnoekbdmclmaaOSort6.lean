/-
  The walks of symMerge, whole, and of stable.
-/
import Derived.Test.YtehnoekbdmclmaaOSort3
import Derived.Test.YtehnoekbdmclmaaOSort4
import Derived.Test.YtehnoekbdmclmaaOSort5
namespace Go.Proofs.Ytehnoekbdmclmaa
open Go Go.Shelf Go.RowKit Go.Lib Go.Sort Go.Proofs StM

section
variable {P : Program} {α : Type} [Inhabited α]

theorem symMerge_all {k : Nat} (L : SP P k) (enc : α → List Value) (cf : α → α → Int) (g : Nat) (cb : Array Value) (hO : SWO (ltOf cf)) (blk off cap sz : Nat) (d0 : Array α) (w0 : World)
    (eg : ∀ args w, (callFunc g args).run P w = .ok (.enter g args) w) (hcmp : CmpLays P g cb enc k cf blk off sz w0) (R : RowK enc k w0 blk off d0) (hs : d0.size = sz) (hsz : sz < 2305843009213693952) :
    ∀ (N a m b : Nat) (d : Array α) (w : World), b - a < N → d.size = sz → SWK enc k w0 blk off d w → a < m → m < b → b ≤ sz → SortedIn (ltOf cf) a m d → SortedIn (ltOf cf) m b d →
    Calls P 26 #[.slice (some ⟨blk, off, none⟩) sz cap, .int .i64 a, .int .i64 m, .int .i64 b, .func (.func g) #[] cb] w (Srt enc k w0 blk off (SymTo (ltOf cf) a b d)) := by
  intro N
  induction N with
  | zero => intro _ _ _ _ _ h; exact absurd h (Nat.not_lt_zero _)
  | succ N ih =>
    intro a m b d w hN hz S ham hmb hb hl hr
    by_cases h1 : m = a + 1
    · exact symMerge_l L enc cf g cb hO blk off cap sz d0 w0 eg hcmp R hs hsz a m b d w hz S ham hmb hb hl hr h1
    · by_cases h2 : b = m + 1
      · exact symMerge_r L enc cf g cb hO blk off cap sz d0 w0 eg hcmp R hs hsz a m b d w hz S ham hmb hb hl hr h1 h2
      · exact symMerge_g L enc cf g cb hO blk off cap sz d0 w0 eg hcmp R hs hsz a m b d w hz S ham hmb hb hl hr h1 h2 fun a' m' b' d' w' hlt => ih a' m' b' d' w' (by omega)

set_option maxHeartbeats 8000000 in
set_option maxRecDepth 1000000 in
theorem stable_w {k : Nat} (L : SP P k) (enc : α → List Value) (cf : α → α → Int) (g : Nat) (cb : Array Value) (hO : SWO (ltOf cf)) (blk off cap n : Nat) (d : Array α) (w0 w : World)
    (eg : ∀ args w, (callFunc g args).run P w = .ok (.enter g args) w) (hcmp : CmpLays P g cb enc k cf blk off n w0) (R : RowK enc k w0 blk off d) (hs : d.size = n) (hsz : n < 576460752303423488) (S : SWK enc k w0 blk off d w)
    (eI : ∀ args w, (callFunc 25 args).run P w = .ok (.enter 25 args) w)
    (hins : ∀ (a b : Nat) (d' : Array α) (w' : World), d'.size = n → SWK enc k w0 blk off d' w' → a ≤ b → b ≤ n →
      Calls P 25 #[.slice (some ⟨blk, off, none⟩) n cap, .int .i64 a, .int .i64 b, .func (.func g) #[] cb] w' (Srt enc k w0 blk off (SymTo (ltOf cf) a b d'))) :
    Calls P 24 #[.slice (some ⟨blk, off, none⟩) n cap, .int .i64 n, .func (.func g) #[] cb] w (Srt enc k w0 blk off (SymTo (ltOf cf) 0 n d)) := by
  have mixed := L.mixed; have t0 := L.t0; have a0 := L.a0; have z0 := L.z0; have v0 := L.v0; have t3 := L.t3; have a3 := L.a3; have z3 := L.z3; have v3 := L.v3; have t4 := L.t4; have a4 := L.a4; have z4 := L.z4; have v4 := L.v4; have t22 := L.t22; have a22 := L.a22; have z22 := L.z22; have v22 := L.v22; have t25 := L.t25; have a25 := L.a25; have z25 := L.z25; have v25 := L.v25; have aE := L.aE; have zE := L.zE
  have FG := L.fStab
  have eY : ∀ args w, (callFunc 26 args).run P w = .ok (.enter 26 args) w := enters_of L.fSym (by kernel_rfl) rfl
  have HI : Aside _ := hins
  have HSY : Aside _ := symMerge_all L enc cf g cb hO blk off cap n d w0 eg hcmp R hs (by omega)
  have HO : Aside _ := hO
  have HS := Lib.hid hs
  have S0 : Aside (SWK enc k w0 blk off d w) := S
  clear hins hO hs S hcmp
  go_enter FG, Try.ntmps24
  go_wp2
  go_loopg [7, 8] n (fun kx s7 s8 wr => ∃ (a b : Nat) (dk : Array α), s7 = .int .i64 a ∧ s8 = .int .i64 b ∧ a ≤ n ∧ b ≤ a + 20 ∧ a + 20 ≤ b ∧ n - a ≤ kx ∧ Aside (20 ∣ a ∧ dk.size = n ∧ SWK enc k w0 blk off dk wr ∧ Kept (ltOf cf) 0 n d dk ∧ Blk (ltOf cf) 20 n a dk))
  case atStart => exact ⟨0, 20, d, rfl, rfl, Nat.zero_le _, Nat.le_refl _, Nat.le_refl _, Nat.le_refl _, ⟨⟨0, rfl⟩, HS.out, S0.out, Kept.refl _ _ _ _, Blk.none _ _ _ _⟩⟩
  case round =>
    clear S0
    obtain ⟨a, b, dk, rfl, rfl, han, hb1, hb2, hkx, A⟩ := hrel
    by_cases hlt : b ≤ n
    · go_wp2_with (go_at_fn 25; refine (HI.out a b dk _ A.out.2.1 A.out.2.2.1 (by omega) hlt).mono ?_; rintro e w1 ⟨rfl, d', S1', hR⟩; have H1 := Lib.hid (And.intro S1' hR); clear S1' hR)
      go_roundg (n - b)
      case measure => omega
      case rel => exact ⟨b, b + 20, d', rfl, by go_num, hlt, Nat.le_refl _, Nat.le_refl _, Nat.le_refl _, ⟨by rw [show b = a + 20 by omega]; exact Nat.dvd_add A.out.1 ⟨1, rfl⟩, H1.out.2.kept.size.trans A.out.2.1, H1.out.1, A.out.2.2.2.1.trans (H1.out.2.kept.wide (Nat.zero_le _) (by omega) hlt), by
          have h := A.out.2.2.2.2.next A.out.1 (e := b) (by omega) H1.out.2
          rwa [show a + 20 = b by omega] at h⟩⟩
    · go_wp2_with (go_at_fn 25; refine (HI.out a n dk _ A.out.2.1 A.out.2.2.1 han (Nat.le_refl _)).mono ?_; rintro e w1 ⟨rfl, d', S1', hR⟩; have H1 := Lib.hid (And.intro S1' hR); clear S1' hR)
      have A1 : Aside (d'.size = n ∧ SWK enc k w0 blk off d' w1 ∧ Kept (ltOf cf) 0 n d d' ∧ Blk (ltOf cf) 20 n n d') := ⟨H1.out.2.kept.size.trans A.out.2.1, H1.out.1, A.out.2.2.2.1.trans (H1.out.2.kept.wide (Nat.zero_le _) han (Nat.le_refl _)), (A.out.2.2.2.2.next A.out.1 (e := n) (by omega) H1.out.2).all (by omega)⟩
      clear H1 A hkx hb1 hb2 han hlt
      go_loopg [6] n (fun kx s6 wr => ∃ (bs : Nat) (dk : Array α), s6 = .int .i64 bs ∧ 0 < bs ∧ bs ≤ 2 * n + 20 ∧ n - bs ≤ kx ∧ Aside (dk.size = n ∧ SWK enc k w0 blk off dk wr ∧ Kept (ltOf cf) 0 n d dk ∧ Blk (ltOf cf) bs n n dk))
      case atStart => exact ⟨20, d', rfl, by omega, by omega, by omega, A1⟩
      case round =>
        clear A1
        obtain ⟨bs, dk, rfl, hbs, hbn, hkx, A⟩ := hrel
        by_cases hlt : bs < n
        · go_wp2
          go_loopg [7, 8] n (fun kx s7 s8 wr => ∃ (a b : Nat) (dk : Array α), s7 = .int .i64 a ∧ s8 = .int .i64 b ∧ a ≤ n ∧ b ≤ a + 2 * bs ∧ a + 2 * bs ≤ b ∧ n - a ≤ kx ∧ Aside (2 * bs ∣ a ∧ dk.size = n ∧ SWK enc k w0 blk off dk wr ∧ Kept (ltOf cf) 0 n d dk ∧ Blk (ltOf cf) (2 * bs) n a dk ∧ StM.Rest (ltOf cf) bs n a dk))
          case atStart => exact ⟨0, 2 * bs, dk, rfl, by go_num, Nat.zero_le _, by omega, by omega, Nat.le_refl _, ⟨⟨0, rfl⟩, A.out.1, A.out.2.1, A.out.2.2.1, Blk.none _ _ _ _, A.out.2.2.2.rest⟩⟩
          case round =>
            clear A
            obtain ⟨a, b, dk, rfl, rfl, han, hb1, hb2, hkx2, A⟩ := hrel
            obtain ⟨mm, hmm⟩ : ∃ q, q = a + bs := ⟨_, rfl⟩
            have em : (a : Int) + (bs : Int) = (mm : Int) := by omega
            have hm1 : a < mm := by omega
            have HM := Lib.hid hmm
            by_cases hlb : b ≤ n
            · have hm2 : mm < b := by omega
              clear hmm
              go_wp2_with (go_at_fn 26; refine (HSY.out (b - a + 1) a mm b dk _ (by omega) A.out.2.1 A.out.2.2.1 hm1 hm2 hlb (by have h := HM.out; rw [h]; exact A.out.2.2.2.2.2.left A.out.1 (by omega) hbs) (by have h := HM.out; rw [h]; exact A.out.2.2.2.2.2.right A.out.1 (by omega) (by omega))).mono ?_; rintro e w1 ⟨rfl, d', S1', hR⟩; have H1 := Lib.hid (And.intro S1' hR); clear S1' hR)
              go_roundg (n - b)
              case measure => omega
              case rel => exact ⟨b, b + 2 * bs, d', rfl, by go_num, hlb, Nat.le_refl _, Nat.le_refl _, Nat.le_refl _, ⟨by rw [show b = a + 2 * bs by omega]; exact Nat.dvd_add A.out.1 (Nat.dvd_refl _), H1.out.2.kept.size.trans A.out.2.1, H1.out.1, A.out.2.2.2.1.trans (H1.out.2.kept.wide (Nat.zero_le _) (by omega) hlb), by
                  have h := A.out.2.2.2.2.1.next A.out.1 (e := b) (by omega) H1.out.2
                  rwa [show a + 2 * bs = b by omega] at h, by
                  have h := A.out.2.2.2.2.2.next (e := b) (by omega) H1.out.2
                  rwa [show a + 2 * bs = b by omega] at h⟩⟩
            · by_cases hmn : mm < n
              · clear hmm
                go_wp2_with (go_at_fn 26; refine (HSY.out (n - a + 1) a mm n dk _ (by omega) A.out.2.1 A.out.2.2.1 hm1 hmn (Nat.le_refl _) (by have h := HM.out; rw [h]; exact A.out.2.2.2.2.2.left A.out.1 (by omega) hbs) (by have h := HM.out; rw [h]; exact A.out.2.2.2.2.2.right A.out.1 (by omega) (by omega))).mono ?_; rintro e w1 ⟨rfl, d', S1', hR⟩; have H1 := Lib.hid (And.intro S1' hR); clear S1' hR)
                go_roundg (n - 2 * bs)
                case measure => omega
                case rel => exact ⟨2 * bs, d', by go_num, by omega, by omega, Nat.le_refl _, ⟨H1.out.2.kept.size.trans A.out.2.1, H1.out.1, A.out.2.2.2.1.trans (H1.out.2.kept.wide (Nat.zero_le _) han (Nat.le_refl _)), (A.out.2.2.2.2.1.next A.out.1 (e := n) (by omega) H1.out.2).all (by omega)⟩⟩
              · have hm3 : n ≤ a + bs := by omega
                clear hmm
                go_wp2
                go_roundg (n - 2 * bs)
                case measure => omega
                case rel => exact ⟨2 * bs, dk, by go_num, by omega, by omega, Nat.le_refl _, ⟨A.out.2.1, A.out.2.2.1, A.out.2.2.2.1, A.out.2.2.2.2.1.last A.out.2.2.2.2.2 A.out.1 hm3 hbs⟩⟩
        · go_wp2
          go_end0
          refine ⟨rfl, dk, A.out.2.1, A.out.2.2.1, fun i j hi hij hj => ?_⟩
          have h := A.out.2.2.2 0 ⟨0, rfl⟩ (by omega) (by omega)
          rw [show min (0 + bs) n = n by omega] at h
          exact h i j hi hij hj
end
end Go.Proofs.Ytehnoekbdmclmaa
