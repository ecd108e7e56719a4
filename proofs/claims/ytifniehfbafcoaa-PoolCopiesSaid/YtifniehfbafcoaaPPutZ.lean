/-
  Put, in a pool with room.
-/
import Derived.Test.YtifniehfbafcoaaPPutA
import Derived.Test.YtifniehfbafcoaaPPutB
import Derived.Test.YtifniehfbafcoaaPPutC
namespace Go.Proofs.Ytifniehfbafcoaa
open Go Go.RowKit Go.Lib Go.Sort Go.Proofs
theorem pl_put {w : World} {G : Nat} {F : Nat → Prop} {x : List Ms × Nat} (h : Pl w G F x) (y : Ms) (hn : x.2 < 1000000) (hf : x.1.length < 131072) : Calls Try.prog 15 #[.pointer (some ⟨G, 0, none⟩), MsV y] w (plT.To (.tuple #[.int .i64 x.2, .int .i64 0]) G F (x.1 ++ [y], x.2 + 1) w) := by
  obtain ⟨L, n⟩ := x
  obtain ⟨v, vs, bs, hx, hL, h1, h2, h3⟩ := h
  by_cases hz : bs.length = 0
  · exact put_first hx hL h1 h2 hn hf y hz
  · obtain ⟨q, hq⟩ : ∃ q, q + 1 = bs.length := ⟨bs.length - 1, by omega⟩
    have hl : bs[q]? = some (bs[q]'(by omega)) := List.getElem?_eq_getElem (by omega)
    have hle := hx.le _ (List.mem_of_getElem? hl)
    rcases Nat.lt_or_ge (bs[q]'(by omega)).length 128 with h4 | h4
    · exact put_room hx hL h1 h2 hn hf y q _ hq hl h4
    · exact put_next hx hL h1 h2 hn hf y q (q + 1) _ hl rfl hq (by omega)
end Go.Proofs.Ytifniehfbafcoaa
