/-
  The walk of the document's Set, where it sets.
-/
import Derived.Test.YtfonbompglddaaaDSetA
import Derived.Test.YtfonbompglddaaaDSetB
import Derived.Test.YtfonbompglddaaaDSetC
import Derived.Test.YtfonbompglddaaaDSetD
namespace Go.Proofs.Ytfonbompglddaaa
open Go Go.RowKit Go.Lib Go.Sort Go.Proofs

theorem rset_put {w : World} {R : Nat} {S : Nat → Prop} {L : List On} (h : Rf w R S L) (x : On) (hi : x.1 < 4294967296) (hm : bmay x.2 = true) (hg : lget L x.1 = none) (hl : L.length < 16) : Calls Try.prog 20 #[.pointer (some ⟨R, 0, none⟩), .int .u32 (x.1 : Nat), BkV x.2] w (rfT.To (.int .i64 0) R S (ins x L) w) := by
  obtain ⟨a, n, c, hR, hn0, hnc, hA, ⟨rfl, h1, h2⟩ | ⟨B, rfl, hSB, hBR⟩⟩ := h.open
  · exact rset_a h x hi hm hg hl hR hn0 hnc hA ⟨h1, h2⟩
  by_cases hp : ∀ y ∈ L, y.1 < x.1
  · by_cases hck : c = n
    · exact rset_c h x hi hm hg hl hR hn0 hnc hA hp hck
    · exact rset_d h x hi hm hg hl hR hn0 hnc hA hp hck
  · refine rset_b h x hi hm hg hl hR hn0 hnc hA ?_
    obtain ⟨y, hp⟩ := Classical.not_forall.1 hp
    obtain ⟨hy, hp⟩ := Classical.not_imp.1 hp
    obtain ⟨k, hk, e⟩ := List.getElem_of_mem hy
    exact ⟨k, y, by rw [List.getElem?_eq_getElem hk, e], hp⟩
end Go.Proofs.Ytfonbompglddaaa
