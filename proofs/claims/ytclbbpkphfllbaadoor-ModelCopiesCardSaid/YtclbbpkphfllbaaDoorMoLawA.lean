/-
  The law ModelCopies, whatever is given.
-/
import Derived.Test.YtclbbpkphfllbaaDoorMoLaw
namespace Go.Proofs.YtclbbpkphfllbaaDoor
open Go Go.RowKit Go.Sort Go.Proofs CodM VmM

theorem muchB_parts {p : Prg} (h : muchB p = false) : p.kinds.length ≤ 12 ∧ ∀ l ∈ p.kinds, l.length ≤ 200 := by
  unfold muchB at h
  rw [Bool.or_eq_false_iff] at h
  refine ⟨by simpa using h.1, fun l hl => ?_⟩
  have := List.any_eq_false.1 h.2 l hl
  simpa using this
theorem muchM_parts {m : Mo} (h : muchM m = false) : m.procs.length ≤ 20 ∧ m.first.length ≤ 80 ∧ ∀ x ∈ m.procs, (x.prog.kinds.length ≤ 12 ∧ ∀ k ∈ x.prog.kinds, k.length ≤ 200) ∧ x.vars.length ≤ 20 := by
  unfold muchM at h
  rw [Bool.or_eq_false_iff, Bool.or_eq_false_iff] at h
  refine ⟨by simpa using h.1.1, by simpa using h.1.2, fun x hx => ?_⟩
  have h2 : muchPm x = false := by simpa using List.any_eq_false.1 h.2 x hx
  unfold muchPm at h2
  rw [Bool.or_eq_false_iff] at h2
  exact ⟨muchB_parts h2.1, by simpa using h2.2⟩
theorem PmsAt.i64 {w : World} {a : Option Addr} {n : Nat} {l : List Pm} (h : PmsAt w a n l) : ∀ x ∈ l, I64 x.prog.vars := by
  intro x hx
  obtain ⟨i, hi, rfl⟩ := List.mem_iff_getElem.1 hx
  obtain ⟨h1, h2 | ⟨B, off, _, _, hc⟩⟩ := h
  · omega
  · obtain ⟨_, _, _, _, _, _, _, _, _, hp⟩ := hc i hi
    exact hp.prog.1
theorem mc_any (w : World) (hG : Glo w) (x y : Mo) (a fa b fb va vb : Option Addr) (n c fn fc m d fm fd vn vc vm vd : Nat) (s1 d1 s2 d2 : Int) (lx ly : List Int)
    (hxp : PmsAt w a n x.procs) (hn : n ≤ maxLen) (hxf : x.first.length = fn) (hfn : fn ≤ maxLen) (hxe : fn ≤ 1000000 → CEv.At w fa fn x.first) (hnil : a = none → c = 0) (hfnil : fa = none → fc = 0)
    (hyp : PmsAt w b m y.procs) (hm : m ≤ maxLen) (hyf : y.first.length = fm) (hfm : fm ≤ maxLen) (hye : fm ≤ 1000000 → CEv.At w fb fm y.first)
    (hlx : lx.length = vn) (hvn : vn ≤ maxLen) (hvx : vn ≤ 1000000 → CV.At w va vn lx) (hvnil : va = none → vc = 0)
    (hly : ly.length = vm) (hvm : vm ≤ maxLen) (hvy : vm ≤ 1000000 → CV.At w vb vm ly) :
    Calls Tryd.prog 4 #[mV a n c fa fn fc, mV b m d fb fm fd, stA va vn vc s1 d1, stA vb vm vd s2 d2] w (TellsBB true w) := by
  have H1 : ∀ W, Below w.heap.size w W → Calls Tryd.prog 10 #[mV a n c fa fn fc] W (TellsE (muchM x) W) := fun W hb => rmuchM_any W a fa n c fn fc x (hxp.below hb) hxf hn hfn
  have H2 : ∀ W, Below w.heap.size w W → Calls Tryd.prog 10 #[mV b m d fb fm fd] W (TellsE (muchM y) W) := fun W hb => rmuchM_any W b fb m d fm fd y (hyp.below hb) hyf hm hfm
  have HK : ∀ W, Below w.heap.size w W → Calls Tryd.prog 5 #[] W (TellsBB true W) := fun W hb => mKnown_any W (hG.next hb (Nat.le_refl _))
  unfold maxLen at hvn hvm
  by_cases hg : muchM x = true ∨ (muchM x = false ∧ muchM y = true) ∨ (muchM x = false ∧ muchM y = false ∧ 20 < vn) ∨ (muchM x = false ∧ muchM y = false ∧ vn ≤ 20 ∧ 20 < vm)
  · exact mc_guard w a fa b fb va vb n c fn fc m d fm fd vn vc vm vd s1 d1 s2 d2 _ _ (Lib.hid H1) (Lib.hid H2) (Lib.hid HK) (by omega) (by omega) hg
  · have hm1 : muchM x = false := by
      cases h : muchM x with
      | false => rfl
      | true => exact absurd (.inl h) hg
    have hm2 : muchM y = false := by
      cases h : muchM y with
      | false => rfl
      | true => exact absurd (.inr (.inl ⟨hm1, h⟩)) hg
    have hv1 : vn ≤ 20 := by
      rcases Nat.lt_or_ge 20 vn with h | h
      · exact absurd (.inr (.inr (.inl ⟨hm1, hm2, h⟩))) hg
      · exact h
    have hv2 : vm ≤ 20 := by
      rcases Nat.lt_or_ge 20 vm with h | h
      · exact absurd (.inr (.inr (.inr ⟨hm1, hm2, hv1, h⟩))) hg
      · exact h
    rw [hm1] at H1
    rw [hm2] at H2
    obtain ⟨x1, x2, x3⟩ := muchM_parts hm1
    obtain ⟨y1, y2, y3⟩ := muchM_parts hm2
    have hxl := hxp.1
    have hyl := hyp.1
    have hx : MoAt w x a n fa fn := ⟨hxp, hxe (by omega), by omega, fun z hz => by have := (x3 z hz).2; omega⟩
    have hy : MoAt w y b m fb fm := ⟨hyp, hye (by omega), by omega, fun z hz => by have := (y3 z hz).2; omega⟩
    have hvx := hvx (by omega)
    have hvy := hvy (by omega)
    have hi := hxp.i64
    have hcp : ∀ (W : World) (B : Nat) (a' fa' : Option Addr) (c' fc' : Nat), CopPs B W a' n x.procs → CEv.Own 55 B W (.slice fa' fn fc') x.first → MoAt W x a' n fa' fn := fun W B a' fa' c' fc' h1 h2 => by
      obtain ⟨a2, c2, e, _, h7, _⟩ := h2.at_ (by omega)
      rw [hxf] at e h7
      cases e
      exact ⟨h1.at_ fun z hz => ⟨hi z hz, (x3 z hz).1.1⟩, h7, by omega, fun z hz => by have := (x3 z hz).2; omega⟩
    have hco : ∀ (W : World) (B : Nat) (oa : Option Addr) (oc : Nat), CV.Own 2 B W (.slice oa vn oc) lx → CV.At W oa vn lx := fun W B oa oc h => by
      obtain ⟨a2, c2, e, _, h7, _⟩ := h.at_ (by omega)
      rw [hlx] at e h7
      cases e
      exact h7
    refine mc_in w x lx a fa b fb va vb n c fn fc m d fm fd vn vc vm vd s1 d1 s2 d2 (decide (x = y)) (decide (lx = ly) && (s1 == s2) && (d1 == d2)) (Lib.hid H1) (Lib.hid H2)
      (Lib.hid fun W hb => moSame_any W x y a b fa fb n c m d fn fc fm fd (hx.below hb) (hy.below hb)) (Lib.hid fun W hb => rsameM_any W x y a b fa fb n c m d fn fc fm fd (hx.below hb) (hy.below hb))
      (Lib.hid fun W hb => sameState_any W va vb vn vc vm vd s1 d1 s2 d2 lx ly (hvx.below hb) (hvy.below hb) (by omega) (by omega)) (Lib.hid fun W hb => rsameState_any W va vb vn vc vm vd s1 d1 s2 d2 lx ly (hvx.below hb) (hvy.below hb) (by omega) (by omega))
      (Lib.hid HK) (Lib.hid fun W hb => ?_) (Lib.hid fun W hb => ?_) (Lib.hid fun W B a' fa' c' fc' hb h1 h2 => ?_) (Lib.hid fun W B a' fa' c' fc' hb h1 h2 => ?_) (Lib.hid fun W B sa sc hb h1 => ?_)
      (Lib.hid fun z hz => ⟨(x3 z hz).1.1, (x3 z hz).1.2, by have := (x3 z hz).2; omega⟩) (Lib.hid fun W B oa oc hb h1 => ?_) (Lib.hid fun W hb => hvx.below hb) hvnil hlx hv1 hv2 (by omega) (by omega)
    · refine (moCopy_any W x a fa n c fn fc (hx.below hb) (by omega) (fun z hz => (x3 z hz).1) hnil hfnil).mono fun e w' h => ?_
      obtain ⟨a', c', fa', fc', rfl, _, h2, h3, h4⟩ := h.at_ (by omega) (by omega) (fun z hz => by have := (x3 z hz).2; omega) (fun z hz => ⟨hi z hz, (x3 z hz).1.1⟩)
      rw [hxl] at h2
      rw [hxf] at h3
      exact ⟨_, rfl, ⟨a', c', fa', fc', by rw [hxl, hxf], h2, h3⟩, h4⟩
    · subst hlx
      refine (copyState_any W va vc s1 d1 lx (hvx.below hb) (by omega) hvnil).mono fun e w' h => ?_
      obtain ⟨a', c', rfl, h2, h3⟩ := h
      exact ⟨_, rfl, ⟨a', c', rfl, h2⟩, h3⟩
    · have := rsameM_any W x x a' a fa' fa n c' n c fn fc' fn fc (hcp W B a' fa' c' fc' h1 h2) (hx.below hb)
      rwa [decide_eq_true rfl] at this
    · have := moSame_any W x x a' a fa' fa n c' n c fn fc' fn fc (hcp W B a' fa' c' fc' h1 h2) (hx.below hb)
      rwa [decide_eq_true rfl] at this
    · have := rsameState_any W sa va vn sc vn vc s1 d1 s1 d1 lx lx (hco W B sa sc h1) (hvx.below hb) (by omega) (by omega)
      rwa [decide_eq_true rfl, beq_self_eq_true, beq_self_eq_true] at this
    · have := sameInts_any W oa va vn vn oc vc lx lx (hco W B oa oc h1) (hvx.below hb) (by omega) (by omega)
      rwa [decide_eq_true rfl] at this
end Go.Proofs.YtclbbpkphfllbaaDoor
