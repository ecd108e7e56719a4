/-
  What the listed variable holds when a call begins, and a world in which they hold it.
-/
import Derived.Test.YthhpoihfaggafaaDoorC1
import Derived.ChangeSame
import Derived.ChangeVars
import Derived.JoinedOf
import Derived.RowKit
import Derived.RowKitTokens
import Derived.LaidLaws
import Derived.LaidHandle
import Derived.Stop.Joined
import Derived.Stop.LaidErr
import Derived.Stop.Texts
import Derived.Lib.LaidTab
namespace Go.Proofs.YthhpoihfaggafaaDoor
open Go.ChangeShapes Go.WideShapes Go.RowKit Go.Stop Go.Extern Go.Extern.Stop CodM

theorem cells_of_strs {H : Type} {enc : TypeId × Value → H} {P : Program} {w : World} {base : Nat} {sp : Nat → Bool} {held : Bool} {fuel : Nat} {t e : TypeId} {n : Nat} {cs : List Value} {zs : List (List UInt8)} {p : List MemPlace}
    (ht : P.underlying t = some (.array n e)) (he : P.underlying e = some .string) (hce : P.cellsOf e = 1) (hct : P.cellsOf t = n)
    (h : DataW.trod enc P w base sp held fuel t cs = some (.agg (zs.map fun z => .lit (.string z)), p)) : cs = zs.map fun z => Value.string (strU z) := by
  cases fuel with
  | zero => simp [DataW.trod] at h
  | succ fuel =>
    simp only [DataW.trod, ht, hce, hct, Nat.mul_one] at h
    split at h
    · rename_i hl
      obtain ⟨xs, hm, hx⟩ := Option.map_eq_some_iff.1 h
      have hxs : xs.map (·.1) = zs.map fun z => (DataW.lit (.string z) : DataW H) := by
        have := congrArg Prod.fst hx
        simpa using this
      have hxl : xs.length = n := by simpa using Lib.mapM_length hm
      have hzl : zs.length = n := by
        have := congrArg List.length hxs
        simp at this
        omega
      apply List.ext_getElem?
      intro i
      by_cases hi : i < n
      · obtain ⟨b, hb, hf⟩ := Lib.mapM_at hm i i (by simp [hi])
        obtain ⟨s, hc, rfl, _⟩ := DataW.trod_string he hf
        have h1 : cs[i]? = some (.string s) := by
          have := congrArg (·[0]?) hc
          simpa [List.getElem?_take, List.getElem?_drop] using this
        have h2 : (xs.map (·.1))[i]? = some (DataW.lit (.string s.data.toList) : DataW H) := by simp [hb]
        rw [hxs] at h2
        simp only [List.getElem?_map, Option.map_eq_some_iff, DataW.lit.injEq, Lit.string.injEq] at h2
        obtain ⟨z', hz', rfl⟩ := h2
        simp [h1, hz', strU]
      · rw [List.getElem?_eq_none (by omega), List.getElem?_eq_none (by simp; omega)]
    · cases h

theorem Tryd.own : ownKnob Tryd.prog.godebug = none := by kernel_rfl
theorem Tryd.laidOut : laidOutB Tryd.prog = true := by kernel_rfl
theorem Tryd.gW : Tryd.prog.globalNamed "riffle/code.words" = some 1 := by kernel_rfl
theorem Tryd.tW : (Tryd.prog.globals[1]?).map (·.type) = some 214 := by kernel_rfl
/-- the rows' list -/
abbrev laid1 : List (String × DataW Unit) := [("riffle/code.words", Rows.laid_riffle_code_words)]
theorem words_of_laid {W : World} {rest : List (String × DataW Unit)} (h : laidMet Tryd.prog (("riffle/code.words", Rows.laid_riffle_code_words) :: rest) W) : Wds W := by
  obtain ⟨ps, ⟨g', t', cs, fuel, p, q, hg', ht', hvar, hd, _, _⟩, _⟩ := h
  obtain rfl := Option.some.inj (Tryd.gW.symm.trans hg')
  obtain rfl := Option.some.inj (Tryd.tW.symm.trans ht')
  have hd' : DataW.trod (fun _ => ()) Tryd.prog W 0 (fun _ => true) false fuel 214 cs.toList = some (.agg (wordsL.map fun z => .lit (.string z)), p) := hd
  have hc := cells_of_strs Tryd.underlying214 Tryd.underlying9 (by kernel_rfl) (by kernel_rfl) hd'
  intro k hk
  have h1 := World.var?_cell Tryd.gW hvar k
  rw [show cs = (wordsL.map fun z => Value.string (strU z)).toArray from by rw [← hc]] at h1
  have hl : k < wordsL.length := hk
  simpa [wordAt, List.getD, hl] using h1
theorem wds_of_laid {W : World} (h : laidMetH Tryd.prog laid1 W) : Wds W := words_of_laid (rest := []) h
noncomputable def laidWorld (os : Os) : World :=
  let w0 := World.holding Tryd.prog os ⟨#[], #[], []⟩
  { w0 with heap := w0.heap.modify 1 fun
      | .cells _ t frozen => .cells (wordsL.map fun z => Value.string (strU z)).toArray t frozen
      | o => o }
theorem laid1_met (os : Os) (args : Array Value) : laidMetH Tryd.prog laid1 ((laidWorld os).forCall (fun _ _ => 0) ⟨#[], args, []⟩).memory :=
  (laidMet_of_run' 8 (by kernel_rfl) (by kernel_rfl) : laidMet Tryd.prog laid1 _)
end Go.Proofs.YthhpoihfaggafaaDoor
