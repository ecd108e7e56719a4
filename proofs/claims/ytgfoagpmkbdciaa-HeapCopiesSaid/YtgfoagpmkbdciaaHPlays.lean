/-
  The walk of the law HeapPlays.
-/
import Derived.Test.YtgfoagpmkbdciaaActOpen
import Derived.Test.YtgfoagpmkbdciaaHDo6
import Derived.Test.YtgfoagpmkbdciaaHKnown
namespace Go.Proofs.Ytgfoagpmkbdciaa
open Go Go.Shelf Go.RowKit Go.Lib Go.Sort Go.Proofs HpM

/-- nothing of what was -/
abbrev NoB : Nat → Prop := fun _ => False
theorem TwoT.old {w W : World} {G R : Nat} {L L' : List It} {X : List (Nat × Obj)} (h : TwoT NoB w W G R L L' X) : Below w.heap.size w W := h.but.below (Nat.le_refl _) fun _ e => e.elim
theorem TwoT.new {w W : World} {G : Nat} {F : Nat → Prop} (h1 : ∀ b, F b → w.heap.size ≤ b) (h4 : Hp W G F []) (h6 : Below w.heap.size w W) : TwoT NoB w (W.alloc (.cells #[.slice none 0 0] 29)) G W.heap.size [] [] [] := by
  have hb : Below W.heap.size W (W.alloc (.cells #[.slice none 0 0] 29)) := (Below.refl _ _).alloc (Nat.le_refl _) _
  refine ⟨F, fun b => b = W.heap.size, fun b e => .inr (h1 b e), fun b e => .inr (e ▸ h6.size), fun b hf e => ?_, h4.below hb, ⟨.slice none 0 0, heap_alloc_new _ _, World.ownsRow_nil _ _ _ _, rfl, fun b e => by subst e; simp, fun b e => by cases e⟩, (But.of h6).alloc _, fun _ h => absurd h (List.not_mem_nil)⟩
  have := h4.lt b hf
  omega
/-- do, then same -/
def SameTT (T : Nat → Prop) (w : World) (G R : Nat) (L : List It) (e : Ending) (W' : World) : Prop := e = .returned (.bool true) ∧ TwoT T w W' G R L L []
theorem same_two {T : Nat → Prop} {w W : World} {G R : Nat} {L : List It} (h : TwoT T w W G R L L []) (hl : L.length ≤ 1000) : Calls Try.prog 10 #[.pointer (some ⟨G, 0, none⟩), .pointer (some ⟨R, 0, none⟩)] W (SameTT T w G R L) := by
  obtain ⟨F, hF⟩ := h.hp
  obtain ⟨S, hS⟩ := h.rs
  exact (same_any W G R F S L hF hS hl).mono fun _ _ ⟨he, hb⟩ => ⟨he, h.below hb⟩
set_option maxHeartbeats 4000000 in
set_option maxRecDepth 100000 in
theorem plays_law (hput : RPutNew) (W : World) (a : Option Addr) (n c : Nat) (l : List Ac) (hln : l.length = n) (hl : n ≤ 1000000 → AcAt W a n l) (hn : n ≤ maxLen) :
    Calls Try.prog 3 #[.slice a n c] W (fun e w' => e = .returned (.bool true) ∧ Below W.heap.size W w') := by
  have hn' : n ≤ 9223372036854775807 := hn
  clear hn
  go_enter Try.func3, Try.ntmps3
  go_wp2_with (first
    | (go_at_call 7; refine (known_any _).mono ?_; rintro e w1 ⟨rfl, h1⟩)
    | (go_at_call 8; refine (hp_new _).mono ?_; rintro e w1 ⟨G, rfl, h1, h2, h3⟩; have H1 := Lib.hid (TwoT.new (w := W) (fun b e => e.1) h2 h3); clear h1 h2 h3))
  all_goals first
    | (go_ret; exact ⟨rfl, h1⟩)
    | skip
  have hA := hl (by omega)
  have hn1 : n ≤ 80 := by omega
  obtain ⟨R, hR⟩ : ∃ R, R = w1.heap.size := ⟨_, rfl⟩
  rw [← hR] at H1 ⊢
  obtain ⟨w2, hw2⟩ : ∃ w2, w2 = w1.alloc (.cells #[.slice none 0 0] 29) := ⟨_, rfl⟩
  rw [← hw2] at H1 ⊢
  have HA := Lib.hid hA
  have HN1 := Lib.hid hn1
  clear hA hl hR hw2 hn1 hln
  go_loopg [5] n (fun kx s5 wr => ∃ (i : Nat) (L : List It), s5 = .int .i64 i ∧ i ≤ n ∧ n - i ≤ kx ∧ Aside (TwoT NoB W wr G R L L [] ∧ L.length ≤ i))
  case atStart => exact ⟨0, [], by go_num, Nat.zero_le _, Nat.le_refl _, ⟨H1.out, Nat.le_refl _⟩⟩
  case round =>
    obtain ⟨i, L, rfl, hin, hkx, A⟩ := hrel
    by_cases hlt : i < n
    · have hlz : decide ((i : Int) < (n : Int)) = true := by simpa using hlt
      have hiz : (i : Int) < (n : Int) := by omega
      have hbig : i < 1000000 := by have := HN1.out; omega
      obtain ⟨B, off, rfl, hB, ⟨k, x, m⟩, hc⟩ := HA.out.cell hlt
      obtain ⟨x0, x1, x2, x3, x4, x5, x6, x7, x8⟩ := (hc.below A.out.1.old hB).nine
      have HLL : Hid (L.length ≤ 80) := by show _ ≤ _; have := A.out.2; have := HN1.out; omega
      clear hc hB
      go_wp2_with (first
        | (go_at_call 10; refine (same_two H3.out (by have := H3L.out; have := HLL.out; omega)).mono ?_; rintro e w4 ⟨rfl, h4⟩; have H4 := Lib.hid h4; clear h4)
        | (go_at_call 9; refine (do_any hput NoB W wr G R L A.out.1 (by have := HLL.out; omega) k x m).mono ?_; rintro e w3 ⟨L2, hl2, rfl, h3⟩; have H3 := Lib.hid h3; have H3L := Lib.hid hl2; clear h3 hl2))
      go_roundg (n - (i + 1))
      case measure => omega
      case rel => exact ⟨i + 1, L2, by go_num, by omega, Nat.le_refl _, ⟨H4.out, by have := A.out.2; have := H3L.out; omega⟩⟩
    · have hlz : decide ((i : Int) < (n : Int)) = false := by simp; omega
      go_wp2_with (go_at_call 7; refine (known_any _).mono ?_; rintro e w4 ⟨rfl, h4⟩; have H4 := Lib.hid (A.out.1.below h4); clear h4)
      go_ret
      exact ⟨rfl, H4.out.old⟩
end Go.Proofs.Ytgfoagpmkbdciaa
