/-
  The text reader: what holds of the variables it reads while it writes into itself alone; instructionOf, by what its line says.
-/
import Derived.Test.YtlgbkbmjfmomkaaDoorI5
import Derived.Test.YtlgbkbmjfmomkaaDoorM2
import Derived.Test.YtlgbkbmjfmomkaaDoorJ2
namespace Go.Proofs.YtlgbkbmjfmomkaaDoor
open Go.RowKit CodM

theorem var_block {P : Program} {W W' : World} {n : String} {g : Nat} (hg : P.globalNamed n = some g) (h : W'.heap[g]? = W.heap[g]?) : W'.var? P n = W.var? P n := by
  unfold World.var?
  rw [hg]
  simp only [Option.bind_some]
  rw [h]
theorem var_lt {P : Program} {W : World} {n : String} {g : Nat} {cs : Array Value} (hg : P.globalNamed n = some g) (h : W.var? P n = some cs) : g < W.heap.size := by
  unfold World.var? at h
  rw [hg] at h
  simp only [Option.bind_some] at h
  rcases Nat.lt_or_ge g W.heap.size with h' | h'
  · exact h'
  · rw [Array.getElem?_eq_none h'] at h; cases h
theorem GloT.but {S : Nat → Prop} {w w' : World} (h : GloT w) (hb : But S w w') (hs : ∀ k, S k → 5 ≤ k) : GloT w' := by
  obtain ⟨m, hm⟩ := h.max
  obtain ⟨tp, pv, hr⟩ := h.range
  obtain ⟨tq, qv, hq⟩ := h.synt
  have no : ∀ k, k < 5 → ¬ S k := fun k hk s => by have := hs k s; omega
  have gR : Tryd.prog.globalNamed "strconv.ErrRange" = some 4 := by kernel_rfl
  have gS : Tryd.prog.globalNamed "strconv.ErrSyntax" = some 3 := by kernel_rfl
  have gP : Tryd.prog.globalNamed "internal/strconv.uint64pow10" = some 1 := by kernel_rfl
  refine ⟨h.words.but hb (no _ (by decide)), ?_, ⟨m, hb.cell hm (no _ (by decide))⟩, ⟨tp, pv, ?_⟩, ⟨tq, qv, ?_⟩⟩
  · have hp : w.var? Tryd.prog "internal/strconv.uint64pow10" = some _ := h.pow
    show w'.var? Tryd.prog "internal/strconv.uint64pow10" = _
    rw [var_block gP (hb.block _ (var_lt gP hp) (no _ (by decide)))]
    exact hp
  · rw [var_block gR (hb.block _ (var_lt gR hr) (no _ (by decide)))]; exact hr
  · rw [var_block gS (hb.block _ (var_lt gS hq) (no _ (by decide)))]; exact hq

theorem strU_ne {x y : List UInt8} (h : x ≠ y) : strU x ≠ strU y := fun e => h (by rw [← strU_toList x, e, strU_toList])
theorem strU_data (l : List UInt8) : (strU l).data.toList = l := by unfold strU; simp
theorem instructionOf_no (s : List UInt8) (w : World) (hG : GloT w) (hs : s.length < 4294967281) (h : rdI s = none) : Calls Tryd.prog 62 #[.string (strU s)] w (NumberNo w) := by
  have hsz : (strU s).size < 4294967281 := by rw [strU_size]; exact hs
  unfold rdI at h
  split at h
  · rename_i hc
    have hcut : Lib.cut (strU s).data.toList [32] = (s, [], false) := by rw [strU_data]; exact lib_cut_none hc
    rcases ho : opOf s with _ | o
    · exact instructionOf_none (strU s) s [] false w hG hsz hcut (fun j hj => strU_ne (opOf_none ho j hj))
    · rw [ho] at h
      simp only [Option.bind_some] at h
      split at h
      · rename_i hn
        obtain ⟨j, hj, rfl, rfl⟩ := opOf_some ho
        exact instructionOf_bare (strU (wordAt j)) j hj [] w hG hsz hcut hn
      · cases h
  · rename_i x d hc
    have hcut : Lib.cut (strU s).data.toList [32] = (x, d, true) := by rw [strU_data]; exact lib_cut_some hc
    have hdl : d.length ≤ 281474976710656 := by
      have := congrArg List.length (cutAt_some hc).1
      simp at this
      omega
    rcases ho : opOf x with _ | o
    · exact instructionOf_none (strU s) x d true w hG hsz hcut (fun j hj => strU_ne (opOf_none ho j hj))
    · rw [ho] at h
      simp only [Option.bind_some] at h
      obtain ⟨j, hj, rfl, rfl⟩ := opOf_some ho
      split at h
      · rename_i hn
        rw [Option.map_eq_none_iff] at h
        exact instructionOf_wrong (strU s) j hj d w hG hsz hcut hn h hdl
      · rename_i hn
        exact instructionOf_odd (strU s) j hj d w hG hsz hcut (by simpa using hn)
theorem instructionOf_ok (s : List UInt8) (i : Ins) (w : World) (hG : GloT w) (hs : s.length < 4294967281) (h : rdI s = some i) : Calls Tryd.prog 62 #[.string (strU s)] w (InstrTo i w) := by
  have hsz : (strU s).size < 4294967281 := by rw [strU_size]; exact hs
  unfold rdI at h
  split at h
  · rename_i hc
    have hcut : Lib.cut (strU s).data.toList [32] = (s, [], false) := by rw [strU_data]; exact lib_cut_none hc
    obtain ⟨o, ho, h⟩ := Option.bind_eq_some_iff.1 h
    obtain ⟨j, hj, rfl, rfl⟩ := opOf_some ho
    split at h
    · cases h
    · rename_i hn
      cases h
      exact instructionOf_plain (strU (wordAt j)) j hj [] w hG hsz hcut (by simpa using hn)
  · rename_i x d hc
    have hcut : Lib.cut (strU s).data.toList [32] = (x, d, true) := by rw [strU_data]; exact lib_cut_some hc
    have hdl : d.length ≤ 281474976710656 := by
      have := congrArg List.length (cutAt_some hc).1
      simp at this
      omega
    obtain ⟨o, ho, h⟩ := Option.bind_eq_some_iff.1 h
    obtain ⟨j, hj, rfl, rfl⟩ := opOf_some ho
    split at h
    · rename_i hn
      obtain ⟨v, hv, rfl⟩ := Option.map_eq_some_iff.1 h
      exact instructionOf_yes (strU s) j hj d v w hG hsz hcut hn hv hdl
    · cases h
theorem rdI_wf {s : List UInt8} {i : Ins} (h : rdI s = some i) : I64 i.1 ∧ I64 i.2 := by
  have hb : ∀ (d : List UInt8) (v : Int), numRd d = some v → I64 v := by
    intro d v hv
    unfold CodM.numRd at hv
    split at hv
    · rename_i v' he
      have := Lib.parseIntB_bounds he
      split at hv
      · cases hv
        have h1 := this.1
        have h2 := this.2
        simp at h1 h2
        exact ⟨by omega, by omega⟩
      · cases hv
    · cases hv
  have hj : ∀ j : Nat, j < 17 → I64 ((j : Int) + 1) := fun j hj => by unfold I64; omega
  unfold rdI at h
  split at h
  · obtain ⟨o, ho, h⟩ := Option.bind_eq_some_iff.1 h
    obtain ⟨j, hj', _, rfl⟩ := opOf_some ho
    split at h
    · cases h
    · cases h; exact ⟨hj j hj', by unfold I64; omega⟩
  · obtain ⟨o, ho, h⟩ := Option.bind_eq_some_iff.1 h
    obtain ⟨j, hj', _, rfl⟩ := opOf_some ho
    split at h
    · obtain ⟨v, hv, rfl⟩ := Option.map_eq_some_iff.1 h; exact ⟨hj j hj', hb _ _ hv⟩
    · cases h
end Go.Proofs.YtlgbkbmjfmomkaaDoor
