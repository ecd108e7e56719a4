/-
  The walk of the document's Put, of a name that is not there.
-/
import Derived.Test.YtgfoagpmkbdciaaHRPutA
import Derived.Test.YtgfoagpmkbdciaaHRPutB
import Derived.Test.YtgfoagpmkbdciaaHRPutC
import Derived.Test.YtgfoagpmkbdciaaHRPutD
namespace Go.Proofs.Ytgfoagpmkbdciaa
open Go Go.Shelf Go.RowKit Go.Lib Go.Sort Go.Proofs HpM

theorem rput_new (w : World) (R : Nat) (S : Nat → Prop) (L : List It) (x : It) (h : RfS w R S L) (hn : ∀ y ∈ L, nm y ≠ nm x) (hs : L.length < 1024) : Calls Try.prog 16 #[.pointer (some ⟨R, 0, none⟩), ItV x] w (RfTo (.int .i64 0) R S (ins iLt L x) w) := by
  obtain ⟨a, n, c, hR, hn0, hnc, hA, ⟨rfl, h1, h2⟩ | ⟨B, rfl, hSB, hBR⟩⟩ := h.open (by omega)
  · exact rput_a w R S L x h hn hs n c hR hn0 hnc ⟨h1, h2⟩
  by_cases hp : ∀ y ∈ L, iLt y x = true
  · by_cases hck : c = n
    · exact rput_c w R S L x h hn hs B n c hR hn0 hnc hA hSB hBR hck hp
    · exact rput_d w R S L x h hn hs B n c hR hn0 hnc hA hSB hBR hck hp
  · refine rput_b w R S L x h hn hs B n c hR hn0 hnc hA hSB hBR ?_
    obtain ⟨y, hp⟩ := Classical.not_forall.1 hp
    obtain ⟨hy, hp⟩ := Classical.not_imp.1 hp
    obtain ⟨k, hk, e⟩ := List.getElem_of_mem hy
    exact ⟨k, y, by rw [List.getElem?_eq_getElem hk, e], by simpa using hp⟩
end Go.Proofs.Ytgfoagpmkbdciaa
