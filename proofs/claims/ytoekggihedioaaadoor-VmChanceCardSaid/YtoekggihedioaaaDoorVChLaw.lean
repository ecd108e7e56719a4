/-
  The law VmChance, walked.
-/
import Derived.Test.YtoekggihedioaaaDoorVKnown
namespace Go.Proofs.YtoekggihedioaaaDoor
open Go Go.RowKit Go.Sort Go.Proofs CodM VmM

theorem chance_law (seed drawn : Int) (w : World) (hW : Wds w) : Calls Tryd.prog 5 #[.int .i64 seed, .int .i64 drawn] w (TellsBB true w) := by
  obtain ⟨x, hx⟩ : ∃ x, x = chance seed drawn := ⟨_, rfl⟩
  have hx0 : 0 ≤ x := by rw [hx]; exact chance_nn seed drawn
  have H1 : Hid (∀ W, Calls Tryd.prog 17 #[.int .i64 seed, .int .i64 drawn] W (fun e w' => e = .returned (.int .i64 x) ∧ W = w')) := by
    rw [Lib.hid_eq, hx]
    exact fun W => chance_any seed drawn W
  have H2 : Hid (∀ W, Calls Tryd.prog 18 #[.int .i64 seed, .int .i64 drawn] W (fun e w' => e = .returned (.int .i64 x) ∧ W = w')) := by
    rw [Lib.hid_eq, hx]
    exact fun W => rchance_any seed drawn W
  have HW := Lib.hid hW
  clear hx hW
  go_enter Tryd.func5, Tryd.ntmps5
  go_wp2_with (first
    | (go_at_call 17; refine (H1.out _).mono ?_; rintro e w1 ⟨rfl, rfl⟩)
    | (go_at_call 18; refine (H2.out _).mono ?_; rintro e w1 ⟨rfl, rfl⟩)
    | (go_at_call 7; refine (known_any _ HW.out).mono ?_; rintro e w2 ⟨rfl, hb⟩; have H3 := Lib.hid hb; clear hb))
  go_ret
  exact ⟨rfl, H3.out⟩
end Go.Proofs.YtoekggihedioaaaDoor
