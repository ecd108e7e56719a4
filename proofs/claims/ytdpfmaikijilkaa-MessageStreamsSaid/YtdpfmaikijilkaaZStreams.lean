/-
    Proved: for every two lists, of requests and of responses, the law MessageStreams of the message layer returns true and leaves its arguments as they were: the streams of their frames, or the error where one may not be, are as the document has it, and what a stream tells is what went in.
  Conditions: none beyond those of the given row.
-/
import Derived.Test.YtdpfmaikijilkaaZS
import Derived.Test.YtdpfmaikijilkaaZM2
import Derived.Test.YtdpfmaikijilkaaZN
import Derived.Test.YtdpfmaikijilkaaZV
import Derived.Test.YtdpfmaikijilkaaRows
import Derived.WalkKit
import Derived.ProofKit
import Derived.OpenShut
import Derived.ChangeOld
import Derived.Below
import Derived.Carry
namespace Go.Proofs.Ytdpfmaikijilkaa
open Go Go.RowKit Go.Sort Go.Proofs

set_option maxHeartbeats 1000000 in
set_option maxRecDepth 100000 in
theorem streams_big (w : World) (a b : Option Addr) (n c n' c' : Nat) (h : 20 < n ∨ 20 < n') : Calls Try.prog 6 #[.slice a n c, .slice b n' c'] w (TellsB true w) := by
  by_cases h1 : 20 < n
  · have h2 : (20 : Int) < (n : Int) := by omega
    clear h
    go_enter Try.func6, Try.ntmps6
    go_wp2_with (go_at_call 8; refine (known_any _).mono ?_; rintro e w4 ⟨rfl, hb4⟩; have H4 := Lib.hid hb4; clear hb4)
    go_ret
    exact ⟨rfl, H4.out⟩
  · have h2 : ¬ (20 : Int) < (n : Int) := by omega
    have h3 : (20 : Int) < (n' : Int) := by omega
    clear h
    go_enter Try.func6, Try.ntmps6
    go_wp2_with (go_at_call 8; refine (known_any _).mono ?_; rintro e w4 ⟨rfl, hb4⟩; have H4 := Lib.hid hb4; clear hb4)
    go_ret
    exact ⟨rfl, H4.out⟩
set_option maxHeartbeats 40000000 in
set_option maxRecDepth 100000 in
theorem streams_law (w : World) (l : List QI) (m : List SI) (a b : Option Addr) (n c n' c' : Nat) (hl : CQ.At w a n l) (hg : ∀ y ∈ l, QI.Good w y) (hm : CS.At w b n' m) (hs : ∀ y ∈ m, SI.Good w y) (hn : n ≤ 20) (hn' : n' ≤ 20) : Calls Try.prog 6 #[.slice a n c, .slice b n' c'] w (TellsB true w) := by
  have HQM : Hid (∀ W, Below w.heap.size w W → ∀ y ∈ l, y.1.model.length ≤ 5000 → Calls Try.prog 10 #[.agg (RqC y.1 y.mv)] W (TellsB (mayQ y.1) W)) := by
    rw [Lib.hid_eq]
    exact fun W hW y hy hy5 => rMayRequest_any W y.1 y.2.1 y.2.2 (((hg y hy).at_ (by omega)).below hW)
  have HQE : Hid (∀ W, Below w.heap.size w W → ∀ y ∈ l, y.1.model.length ≤ 5000 → Calls Try.prog 14 #[.agg (RqC y.1 y.mv)] W (CloneTo (bytesQ y.1) W)) := by
    rw [Lib.hid_eq]
    exact fun W hW y hy hy5 => rEncode_any W y.1 y.2.1 y.2.2 (hg y hy).wf (((hg y hy).at_ (by omega)).below hW) (hg y hy).nil hy5
  have HSM : Hid (∀ W, Below w.heap.size w W → ∀ y ∈ m, y.1.vars.length ≤ 100 → Calls Try.prog 16 #[.agg (RsC y.1 y.mv)] W (TellsB (mayS y.1) W)) := by
    rw [Lib.hid_eq]
    exact fun W hW y hy hy5 => rMayResponse_any W y.1 y.2.1 y.2.2 (((hs y hy).at_ (by omega)).below hW)
  have HSE : Hid (∀ W, Below w.heap.size w W → ∀ y ∈ m, y.1.vars.length ≤ 100 → Calls Try.prog 20 #[.agg (RsC y.1 y.mv)] W (CloneTo (bytesS y.1) W)) := by
    rw [Lib.hid_eq]
    exact fun W hW y hy hy5 => rEncodeResponse_any W y.1 y.2.1 y.2.2 (hs y hy).wf (((hs y hy).at_ (by omega)).below hW) hy5
  have HQS : Hid (∀ W, Below w.heap.size w W → (∀ y ∈ l, y.1.model.length ≤ 5000) → Calls Try.prog 24 #[.slice a n c] W (StreamTo W (allQ l) (accQ l))) := by
    rw [Lib.hid_eq]
    exact fun W hW h5 => QIstream_any W l a n c (hl.below hW) (fun y hy => (hg y hy).below hW) hn h5
  have HSS : Hid (∀ W, Below w.heap.size w W → (∀ y ∈ m, y.1.vars.length ≤ 100) → Calls Try.prog 25 #[.slice b n' c'] W (StreamTo W (allS m) (accS m))) := by
    rw [Lib.hid_eq]
    exact fun W hW h5 => SIstream_any W m b n' c' (hm.below hW) (fun y hy => (hs y hy).below hW) hn' h5
  have HL := Lib.hid hl
  have HM := Lib.hid hm
  have HLN := Lib.hid (show l.length ≤ 20 from by rw [hl.1]; exact hn)
  have HMN := Lib.hid (show m.length ≤ 20 from by rw [hm.1]; exact hn')
  have HLE := Lib.hid hl.1
  have HME := Lib.hid hm.1
  have hnI : ¬ (20 : Int) < (n : Int) := by omega
  have hnI' : ¬ (20 : Int) < (n' : Int) := by omega
  clear hl hm hg hs
  go_enter Try.func6, Try.ntmps6
  go_wp2
  go_loopw [5, 7, 9] (fun want tv i wr => ∃ (k : Nat) (t : Bool), i = .int .i64 (k : Int) ∧ tv = .bool t ∧ k ≤ n ∧ LpQ w wr l k want t) (fun _ _ i _ => n - (intOf i).toNat)
  case atStart => exact ⟨0, true, rfl, rfl, by omega, LpQ.first w l⟩
  case round =>
    obtain ⟨k, t, rfl, rfl, hkn, hS⟩ := hrel
    have HS := Lib.hid hS
    clear hS
    obtain ⟨want, hwant⟩ : ∃ want, want = u5 := ⟨_, rfl⟩
    subst hwant
    by_cases hlt : k < n
    · have hltI : (k : Int) < (n : Int) := by omega
      obtain ⟨B, off, rfl, hB, y0, hy0, hcell⟩ := (HL.out.below (HS.out.below)).cell hlt
      obtain ⟨hk, hyk⟩ := List.getElem?_eq_some_iff.1 hy0
      have hy0m : y0 ∈ l := hyk ▸ List.getElem_mem hk
      have HRM : Hid (y0.1.model.length ≤ 5000 → ∀ W, Below w.heap.size w W → Calls Try.prog 10 #[.agg (RqC y0.1 y0.mv)] W (TellsB (mayQ y0.1) W)) := by
        rw [Lib.hid_eq]
        exact fun hs W hW => HQM.out W hW y0 hy0m hs
      have HRE : Hid (y0.1.model.length ≤ 5000 → ∀ W, Below w.heap.size w W → Calls Try.prog 14 #[.agg (RqC y0.1 y0.mv)] W (CloneTo (bytesQ y0.1) W)) := by
        rw [Lib.hid_eq]
        exact fun hs W hW => HQE.out W hW y0 hy0m hs
      have hc3 : wr.cell? ⟨B, off + k * 17 + 3, none⟩ = some y0.mv := hcell 3 (by decide)
      have HCE : Hid (CQ.Cell wr B (off + k * 17) y0) := Lib.hid hcell
      have HG : Hid (y0.1.model.length ≤ 5000 → ∀ (W : World) (v' : Value) (t t' : Bool), LpQ w W l k v' t → True) := Lib.hid fun _ _ _ _ _ _ => trivial
      have HST : Hid (y0.1.model.length ≤ 5000 → ∀ (t' : Bool) (W : World) (v' : Value), t' = (t && mayQ y0.1) → Below w.heap.size wr W → (∃ xs, CB.Own 5 w.heap.size W v' xs ∧ xs.length ≤ 82040 ∧ (t' = true → xs = accQ (l.take (k + 1)))) → LpQ w W l (k + 1) v' t') := by
        rw [Lib.hid_eq]
        exact fun hs t' W v' ht hb ho => HS.out.grow hk (by rw [hyk]; exact hs) (by rw [hyk]; exact ht) hb ho
      have HAC : Hid (t = true → mayQ y0.1 = true → (∃ xs, CB.Own 5 w.heap.size wr want xs ∧ xs.length ≤ 82040 ∧ xs = accQ (l.take k)) ∧ accQ (l.take (k + 1)) = accQ (l.take k) ++ frB (bytesQ y0.1) ∧ (accQ (l.take (k + 1))).length ≤ 82040) := by
        rw [Lib.hid_eq]
        intro ht hm
        obtain ⟨xs, h1, h2, h3⟩ := HS.out.own
        have e1 := HS.out.may
        rw [ht] at e1
        have e2 := allQ_step hk e1.symm (by rw [hyk]; exact hm)
        exact ⟨⟨xs, h1, h2, h3 ht⟩, by rw [accQ_step hk, hyk], accQ_len' e2 (by have := hk; have := HLN.out; omega)⟩
      clear HG
      have hml : mayQ y0.1 = true → 1 ≤ (bytesQ y0.1).length ∧ (bytesQ y0.1).length ≤ 4096 := fun h => ⟨by simp [bytesQ], mayQ_len h⟩
      obtain ⟨cs, hcs⟩ : ∃ cs, cs = RqC y0.1 y0.mv := ⟨_, rfl⟩
      rw [← hcs] at HRM HRE
      have HCS : Hid (cs = (CQ.enc y0).toArray) := by rw [Lib.hid_eq, hcs]; rfl
      obtain ⟨p, hp⟩ : ∃ p, p = bytesQ y0.1 := ⟨_, rfl⟩
      rw [← hp] at HRE HAC hml
      have hmv : y0.mv = .slice y0.2.1 y0.1.model.length y0.2.2 := rfl
      rw [hmv] at hc3
      clear hmv
      obtain ⟨mb, hmb⟩ : ∃ mb, mb = mayQ y0.1 := ⟨_, rfl⟩
      rw [← hmb] at HRM HST HAC hml
      obtain ⟨ym, hym⟩ : ∃ ym, ym = y0.1.model.length := ⟨_, rfl⟩
      rw [← hym] at HRM HRE HST hc3
      obtain ⟨ya, hya⟩ : ∃ ya, ya = y0.2.1 := ⟨_, rfl⟩
      rw [← hya] at hc3
      obtain ⟨yc, hyc⟩ : ∃ yc, yc = y0.2.2 := ⟨_, rfl⟩
      rw [← hyc] at hc3
      have HB := Lib.hid hB
      clear hcell hcs hy0 hyk hp hmb hym hya hyc hy0m hB
      by_cases hsm : ym ≤ 5000
      · have hsmI : ¬ (5000 : Int) < (ym : Int) := by omega
        have HST2 := Lib.hid (HST.out hsm)
        have HRM2 := Lib.hid (HRM.out hsm)
        have HRE2 := Lib.hid (HRE.out hsm)
        clear HST HRM HRE
        cases t with
        | false =>
          clear HAC hml
          go_wp2
          go_roundw
          case rel =>
            obtain ⟨xs, h1, h2, h3⟩ := HS.out.own
            exact ⟨k + 1, false, by go_num, rfl, by omega, HST2.out false wr _ rfl (Below.refl _ _) ⟨xs, h1, h2, fun e => by cases e⟩⟩
          case measure => simp [intOf]; omega
        | true =>
          cases mb with
          | false =>
            clear HAC hml
            go_wp2_with (first
              | (show wpList _ _ _ (Oper.mk _ (.load _ (.tmp 45)) _ _ _ _ :: _) _ _; refine wpList_load_cell rfl 32 (.tmp 45) rfl B (off + k * 17) rfl y0 cs _ HCE.out HCS.out Try.underlying32 rfl (by kernel_rfl) ?_)
              | (go_at_call 10; refine (HRM2.out _ (HS.out.below)).mono ?_; rintro e w4 ⟨rfl, hb4⟩; have H4 := Lib.hid hb4; clear hb4))
            go_roundw
            case rel =>
              obtain ⟨xs, h1, h2, h3⟩ := HS.out.own
              exact ⟨k + 1, false, by go_num, rfl, by omega, HST2.out false w4 _ rfl (H4.out.mono HS.out.below.size) ⟨xs, h1.below H4.out, h2, fun e => by cases e⟩⟩
            case measure => simp [intOf]; omega
          | true =>
            obtain ⟨hp1, hp2⟩ := hml rfl
            have HA2 := Lib.hid (HAC.out rfl rfl)
            clear HAC hml
            go_wp2_with (first
              | (show wpList _ _ _ (Oper.mk _ (.load _ (.tmp 45)) _ _ _ _ :: _) _ _; refine wpList_load_cell rfl 32 (.tmp 45) rfl B (off + k * 17) rfl y0 cs _ HCE.out HCS.out Try.underlying32 rfl (by kernel_rfl) ?_)
              | (go_at_call 10; refine (HRM2.out _ (HS.out.below)).mono ?_; rintro e w4 ⟨rfl, hb4⟩; have H4 := Lib.hid (And.intro hb4 (HCE.out.below hb4 HB.out)); clear hb4)
              | (show wpList _ _ _ (Oper.mk _ (.load _ (.tmp 53)) _ _ _ _ :: _) _ _; refine wpList_load_cell rfl 32 (.tmp 53) rfl B (off + k * 17) rfl y0 cs _ H4.out.2 HCS.out Try.underlying32 rfl (by kernel_rfl) ?_)
              | (go_at_call 14; refine (HRE2.out w4 ((HS.out.below).trans (H4.out.1.mono (HS.out.below).size))).mono ?_; rintro e w5 ⟨v5, rfl, ho5, hb5⟩; obtain ⟨a5, c5, rfl, hc5, hat5, -⟩ := ho5.at_ (by omega); have H5 := Lib.hid (And.intro (H4.out.1.trans (hb5.mono H4.out.1.size)) hat5); clear hb5 ho5 hat5)
              | (go_at_call 23; refine (frame_any _ _ _ p H5.out.2 hp1 hp2).mono ?_; rintro e w6 ⟨ad6, c6, rfl, hat6, hb6⟩; have H6 := Lib.hid (And.intro (H5.out.1.trans (hb6.mono H5.out.1.size)) hat6); clear hb6 hat6)
              | (at_builtin; refine rowB.list rfl _ _ rfl w.heap.size _ (accQ (l.take k)) rfl ?_ ad6 (6 + p.length) c6 (frB p) rfl (frB_len p).symm H6.out.2.news ?_ ?_ ?_ ?_; (obtain ⟨xs, h1, h2, rfl⟩ := HA2.out.1; exact h1.below H6.out.1); (have := HA2.out.2.2; rw [HA2.out.2.1, List.length_append, frB_len] at this; omega); (have := HA2.out.2.2; rw [HA2.out.2.1, List.length_append, frB_len] at this; omega); (exact Nat.le_trans HS.out.below.size H6.out.1.size); intro v7 w7 ho7 hg7 hn7; have H7 := Lib.hid (And.intro ho7 hg7); clear ho7 hg7 hn7))
            go_roundw
            case rel =>
              have hbt : But (fun i => some i = want.ownBlock) w6 w7 := But.grown H7.out.2
              obtain ⟨xs, h1, h2, h3⟩ := HS.out.own
              have hlt6 := h1.lt
              refine ⟨k + 1, true, by go_num, rfl, by omega, HST2.out true w7 _ rfl ((H6.out.1.mono HS.out.below.size).trans (hbt.below (Nat.le_trans HS.out.below.size H6.out.1.size) fun i e => (hlt6 i e.symm).1)) ⟨_, H7.out.1, ?_, fun _ => HA2.out.2.1.symm⟩⟩
              rw [← HA2.out.2.1]
              exact HA2.out.2.2
            case measure => simp [intOf]; omega
      · have hsmI : (5000 : Int) < (ym : Int) := by omega
        clear HST HRM HRE HAC hml
        go_wp2_with (first
          | (go_at_call 8; refine (known_any _).mono ?_; rintro e w4 ⟨rfl, hb4⟩; have H4 := Lib.hid hb4; clear hb4))
        go_ret
        exact ⟨rfl, (HS.out.below).trans (H4.out.mono (HS.out.below).size)⟩
    · obtain rfl : k = n := by omega
      have hge : ¬ ((k : Int) < (k : Int)) := by omega
      have hE := HS.out.end_ (by rw [HLE.out]; exact Nat.le_refl _)
      have H1 := Lib.hid HS.out
      have HE1 := Lib.hid hE
      clear hE HS hlt hkn
      obtain ⟨w1, hw1⟩ : ∃ w1, w1 = wr := ⟨_, rfl⟩
      subst hw1
      go_wp2
      go_loopw [6, 8, 10] (fun want tv i wr => ∃ (k2 : Nat) (t2 : Bool), i = .int .i64 (k2 : Int) ∧ tv = .bool t2 ∧ k2 ≤ n' ∧ LpS w1 wr m k2 want t2) (fun _ _ i _ => n' - (intOf i).toNat)
      case atStart => exact ⟨0, true, rfl, rfl, by omega, LpS.first w1 m⟩
      case round =>
        obtain ⟨k2, t2, rfl, rfl, hkn, hS⟩ := hrel
        have HS := Lib.hid hS
        clear hS
        obtain ⟨other, hother⟩ : ∃ other, other = u6 := ⟨_, rfl⟩
        subst hother
        by_cases hlt : k2 < n'
        · have hltI : (k2 : Int) < (n' : Int) := by omega
          obtain ⟨B, off, rfl, hB, y0, hy0, hcell⟩ := (HM.out.below (H1.out.below.trans (HS.out.below.mono H1.out.below.size))).cell hlt
          obtain ⟨hk, hyk⟩ := List.getElem?_eq_some_iff.1 hy0
          have hy0m : y0 ∈ m := hyk ▸ List.getElem_mem hk
          have HRM : Hid (y0.1.vars.length ≤ 100 → ∀ W, Below w.heap.size w W → Calls Try.prog 16 #[.agg (RsC y0.1 y0.mv)] W (TellsB (mayS y0.1) W)) := by
            rw [Lib.hid_eq]
            exact fun hs W hW => HSM.out W hW y0 hy0m hs
          have HRE : Hid (y0.1.vars.length ≤ 100 → ∀ W, Below w.heap.size w W → Calls Try.prog 20 #[.agg (RsC y0.1 y0.mv)] W (CloneTo (bytesS y0.1) W)) := by
            rw [Lib.hid_eq]
            exact fun hs W hW => HSE.out W hW y0 hy0m hs
          have hc3 : wr.cell? ⟨B, off + k2 * 18 + 4, none⟩ = some y0.mv := hcell 4 (by decide)
          have HCE : Hid (CS.Cell wr B (off + k2 * 18) y0) := Lib.hid hcell
          have HG : Hid (y0.1.vars.length ≤ 100 → ∀ (W : World) (v' : Value) (t t' : Bool), LpS w1 W m k2 v' t → True) := Lib.hid fun _ _ _ _ _ _ => trivial
          have HST : Hid (y0.1.vars.length ≤ 100 → ∀ (t' : Bool) (W : World) (v' : Value), t' = (t2 && mayS y0.1) → Below w1.heap.size wr W → (∃ xs, CB.Own 5 w1.heap.size W v' xs ∧ xs.length ≤ 82040 ∧ (t' = true → xs = accS (m.take (k2 + 1)))) → LpS w1 W m (k2 + 1) v' t') := by
            rw [Lib.hid_eq]
            exact fun hs t' W v' ht hb ho => HS.out.grow hk (by rw [hyk]; exact hs) (by rw [hyk]; exact ht) hb ho
          have HAC : Hid (t2 = true → mayS y0.1 = true → (∃ xs, CB.Own 5 w1.heap.size wr other xs ∧ xs.length ≤ 82040 ∧ xs = accS (m.take k2)) ∧ accS (m.take (k2 + 1)) = accS (m.take k2) ++ frB (bytesS y0.1) ∧ (accS (m.take (k2 + 1))).length ≤ 82040) := by
            rw [Lib.hid_eq]
            intro ht hm
            obtain ⟨xs, h1, h2, h3⟩ := HS.out.own
            have e1 := HS.out.may
            rw [ht] at e1
            have e2 := allS_step hk e1.symm (by rw [hyk]; exact hm)
            exact ⟨⟨xs, h1, h2, h3 ht⟩, by rw [accS_step hk, hyk], accS_len' e2 (by have := hk; have := HMN.out; omega)⟩
          clear HG
          have hml : mayS y0.1 = true → 1 ≤ (bytesS y0.1).length ∧ (bytesS y0.1).length ≤ 4096 := fun h => ⟨by simp [bytesS], mayS_len h⟩
          obtain ⟨cs, hcs⟩ : ∃ cs, cs = RsC y0.1 y0.mv := ⟨_, rfl⟩
          rw [← hcs] at HRM HRE
          have HCS : Hid (cs = (CS.enc y0).toArray) := by rw [Lib.hid_eq, hcs]; rfl
          obtain ⟨p, hp⟩ : ∃ p, p = bytesS y0.1 := ⟨_, rfl⟩
          rw [← hp] at HRE HAC hml
          have hmv : y0.mv = .slice y0.2.1 y0.1.vars.length y0.2.2 := rfl
          rw [hmv] at hc3
          clear hmv
          obtain ⟨mb, hmb⟩ : ∃ mb, mb = mayS y0.1 := ⟨_, rfl⟩
          rw [← hmb] at HRM HST HAC hml
          obtain ⟨ym, hym⟩ : ∃ ym, ym = y0.1.vars.length := ⟨_, rfl⟩
          rw [← hym] at HRM HRE HST hc3
          obtain ⟨ya, hya⟩ : ∃ ya, ya = y0.2.1 := ⟨_, rfl⟩
          rw [← hya] at hc3
          obtain ⟨yc, hyc⟩ : ∃ yc, yc = y0.2.2 := ⟨_, rfl⟩
          rw [← hyc] at hc3
          have HB := Lib.hid hB
          clear hcell hcs hy0 hyk hp hmb hym hya hyc hy0m hB
          by_cases hsm : ym ≤ 100
          · have hsmI : ¬ (100 : Int) < (ym : Int) := by omega
            have HST2 := Lib.hid (HST.out hsm)
            have HRM2 := Lib.hid (HRM.out hsm)
            have HRE2 := Lib.hid (HRE.out hsm)
            clear HST HRM HRE
            cases t2 with
            | false =>
              clear HAC hml
              go_wp2
              go_roundw
              case rel =>
                obtain ⟨xs, h1, h2, h3⟩ := HS.out.own
                exact ⟨k2 + 1, false, by go_num, rfl, by omega, HST2.out false wr _ rfl (Below.refl _ _) ⟨xs, h1, h2, fun e => by cases e⟩⟩
              case measure => simp [intOf]; omega
            | true =>
              cases mb with
              | false =>
                clear HAC hml
                go_wp2_with (first
                  | (show wpList _ _ _ (Oper.mk _ (.load _ (.tmp 76)) _ _ _ _ :: _) _ _; refine wpList_load_cell rfl 47 (.tmp 76) rfl B (off + k2 * 18) rfl y0 cs _ HCE.out HCS.out Try.underlying47 rfl (by kernel_rfl) ?_)
                  | (go_at_call 16; refine (HRM2.out _ (H1.out.below.trans (HS.out.below.mono H1.out.below.size))).mono ?_; rintro e w4 ⟨rfl, hb4⟩; have H4 := Lib.hid hb4; clear hb4))
                go_roundw
                case rel =>
                  obtain ⟨xs, h1, h2, h3⟩ := HS.out.own
                  exact ⟨k2 + 1, false, by go_num, rfl, by omega, HST2.out false w4 _ rfl (H4.out.mono HS.out.below.size) ⟨xs, h1.below H4.out, h2, fun e => by cases e⟩⟩
                case measure => simp [intOf]; omega
              | true =>
                obtain ⟨hp1, hp2⟩ := hml rfl
                have HA2 := Lib.hid (HAC.out rfl rfl)
                clear HAC hml
                go_wp2_with (first
                  | (show wpList _ _ _ (Oper.mk _ (.load _ (.tmp 76)) _ _ _ _ :: _) _ _; refine wpList_load_cell rfl 47 (.tmp 76) rfl B (off + k2 * 18) rfl y0 cs _ HCE.out HCS.out Try.underlying47 rfl (by kernel_rfl) ?_)
                  | (go_at_call 16; refine (HRM2.out _ (H1.out.below.trans (HS.out.below.mono H1.out.below.size))).mono ?_; rintro e w4 ⟨rfl, hb4⟩; have H4 := Lib.hid (And.intro hb4 (HCE.out.below hb4 HB.out)); clear hb4)
                  | (show wpList _ _ _ (Oper.mk _ (.load _ (.tmp 84)) _ _ _ _ :: _) _ _; refine wpList_load_cell rfl 47 (.tmp 84) rfl B (off + k2 * 18) rfl y0 cs _ H4.out.2 HCS.out Try.underlying47 rfl (by kernel_rfl) ?_)
                  | (go_at_call 20; refine (HRE2.out w4 ((H1.out.below.trans (HS.out.below.mono H1.out.below.size)).trans (H4.out.1.mono (H1.out.below.trans (HS.out.below.mono H1.out.below.size)).size))).mono ?_; rintro e w5 ⟨v5, rfl, ho5, hb5⟩; obtain ⟨a5, c5, rfl, hc5, hat5, -⟩ := ho5.at_ (by omega); have H5 := Lib.hid (And.intro (H4.out.1.trans (hb5.mono H4.out.1.size)) hat5); clear hb5 ho5 hat5)
                  | (go_at_call 23; refine (frame_any _ _ _ p H5.out.2 hp1 hp2).mono ?_; rintro e w6 ⟨ad6, c6, rfl, hat6, hb6⟩; have H6 := Lib.hid (And.intro (H5.out.1.trans (hb6.mono H5.out.1.size)) hat6); clear hb6 hat6)
                  | (at_builtin; refine rowB.list rfl _ _ rfl w1.heap.size _ (accS (m.take k2)) rfl ?_ ad6 (6 + p.length) c6 (frB p) rfl (frB_len p).symm H6.out.2.news ?_ ?_ ?_ ?_; (obtain ⟨xs, h1, h2, rfl⟩ := HA2.out.1; exact h1.below H6.out.1); (have := HA2.out.2.2; rw [HA2.out.2.1, List.length_append, frB_len] at this; omega); (have := HA2.out.2.2; rw [HA2.out.2.1, List.length_append, frB_len] at this; omega); (exact Nat.le_trans HS.out.below.size H6.out.1.size); intro v7 w7 ho7 hg7 hn7; have H7 := Lib.hid (And.intro ho7 hg7); clear ho7 hg7 hn7))
                go_roundw
                case rel =>
                  have hbt : But (fun i => some i = other.ownBlock) w6 w7 := But.grown H7.out.2
                  obtain ⟨xs, h1, h2, h3⟩ := HS.out.own
                  have hlt6 := h1.lt
                  refine ⟨k2 + 1, true, by go_num, rfl, by omega, HST2.out true w7 _ rfl ((H6.out.1.mono HS.out.below.size).trans (hbt.below (Nat.le_trans HS.out.below.size H6.out.1.size) fun i e => (hlt6 i e.symm).1)) ⟨_, H7.out.1, ?_, fun _ => HA2.out.2.1.symm⟩⟩
                  rw [← HA2.out.2.1]
                  exact HA2.out.2.2
                case measure => simp [intOf]; omega
          · have hsmI : (100 : Int) < (ym : Int) := by omega
            clear HST HRM HRE HAC hml
            go_wp2_with (first
              | (go_at_call 8; refine (known_any _).mono ?_; rintro e w4 ⟨rfl, hb4⟩; have H4 := Lib.hid hb4; clear hb4))
            go_ret
            exact ⟨rfl, (H1.out.below.trans (HS.out.below.mono H1.out.below.size)).trans (H4.out.mono (H1.out.below.trans (HS.out.below.mono H1.out.below.size)).size)⟩
        · obtain rfl : k2 = n' := by omega
          have hge2 : ¬ ((k2 : Int) < (k2 : Int)) := by omega
          have hE := HS.out.end_ (by rw [HME.out]; exact Nat.le_refl _)
          obtain ⟨ht, ⟨xs, ho, hx, hxe⟩, hsm⟩ := HE1.out
          obtain ⟨ht2, ⟨ys, ho2, hy, hye⟩, hsm2⟩ := hE
          have B2 : Below w1.heap.size w1 wr := HS.out.below
          obtain ⟨aw, cw, rfl, hcw, hatw, -⟩ := ho.at_ (by omega)
          obtain ⟨ao, co, rfl, hco, hato, -⟩ := ho2.at_ (by omega)
          have HW := Lib.hid (hatw.below B2)
          have HO := Lib.hid hato
          have HB := Lib.hid (H1.out.below.trans (B2.mono H1.out.below.size))
          have HRQ := Lib.hid (HQS.out wr HB.out hsm)
          have HRS : Hid (∀ W, Below w.heap.size w W → Calls Try.prog 25 #[.slice b k2 c'] W (StreamTo W (allS m) (accS m))) := Lib.hid fun W hW => HSS.out W hW hsm2
          have HTD : Hid (allQ l = true → ∀ {ps e j}, FrM.Tld (natB (accQ l)) ps e j → ps.length = k ∧ e = 0) := Lib.hid fun h _ _ _ h2 => by
            have := told_accQ h h2
            rw [HLE.out] at this
            exact this
          rw [← ht] at HRQ HTD
          rw [← ht2] at HRS
          obtain ⟨X, hX⟩ : ∃ X, X = accQ l := ⟨_, rfl⟩
          obtain ⟨Y, hY⟩ : ∃ Y, Y = accS m := ⟨_, rfl⟩
          rw [← hX] at hxe HRQ HTD
          rw [← hY] at hye HRS
          clear HQM HQE HSM HSE HQS HSS HL HM HLN HMN HLE HME H1 HE1 HS ht ht2 ho ho2 hcw hco hatw hato hX hY hsm hsm2 B2 hlt hkn
          cases t with
          | false =>
            cases t2 with
            | false =>
              clear hxe hx HW HTD
              clear hye hy HO
              try clear hxe hye hx hy
              have TE : ∀ s : ByteArray, (s.toList == s.toList) = true := fun s => by simp
              go_wp2_with (first
                | (go_at_call 24; refine HRQ.out.mono ?_; rintro e w3 ⟨hb3, rfl⟩; have H3 := Lib.hid (And.intro hb3 trivial); clear hb3)
                | (go_at_call 25; refine (HRS.out w3 (HB.out.trans (H3.out.1.mono HB.out.size))).mono ?_; rintro e w4 ⟨hb4, rfl⟩; have H4 := Lib.hid (And.intro hb4 trivial); clear hb4)
                | (go_at_call 8; refine (known_any _).mono ?_; rintro e w9 ⟨rfl, hb9⟩; have H9 := Lib.hid hb9; clear hb9))
              go_ret
              exact ⟨rfl, (HB.out.trans ((H3.out.1.trans ((H4.out.1).mono H3.out.1.size)).mono HB.out.size)).trans (H9.out.mono (HB.out.trans ((H3.out.1.trans ((H4.out.1).mono H3.out.1.size)).mono HB.out.size)).size)⟩
            | true =>
              clear hxe hx HW HTD
              obtain rfl := hye rfl
              have HYL := Lib.hid hy
              try clear hxe hye hx hy
              have TE : ∀ s : ByteArray, (s.toList == s.toList) = true := fun s => by simp
              go_wp2_with (first
                | (go_at_call 24; refine HRQ.out.mono ?_; rintro e w3 ⟨hb3, rfl⟩; have H3 := Lib.hid (And.intro hb3 trivial); clear hb3)
                | (go_at_call 25; refine (HRS.out w3 (HB.out.trans (H3.out.1.mono HB.out.size))).mono ?_; rintro e w4 ⟨hb4, v4, rfl, ho4⟩; obtain ⟨a4, c4, rfl, -, hat4, -⟩ := ho4.at_ (by have := HYL.out; omega); have H4 := Lib.hid (And.intro hb4 (And.intro hat4 (HO.out.below (H3.out.1.trans (hb4.mono H3.out.1.size))))); clear hb4 ho4 hat4; have s3 := H4.out.2.1.str c4; have s4 := H4.out.2.2.str co)
                | (go_at_call 8; refine (known_any _).mono ?_; rintro e w9 ⟨rfl, hb9⟩; have H9 := Lib.hid hb9; clear hb9))
              go_ret
              exact ⟨rfl, (HB.out.trans ((H3.out.1.trans ((H4.out.1).mono H3.out.1.size)).mono HB.out.size)).trans (H9.out.mono (HB.out.trans ((H3.out.1.trans ((H4.out.1).mono H3.out.1.size)).mono HB.out.size)).size)⟩
          | true =>
            cases t2 with
            | false =>
              obtain rfl := hxe rfl
              have HXL := Lib.hid hx
              clear hye hy HO
              try clear hxe hye hx hy
              have TE : ∀ s : ByteArray, (s.toList == s.toList) = true := fun s => by simp
              go_wp2_with (first
                | (go_at_call 24; refine HRQ.out.mono ?_; rintro e w3 ⟨hb3, v3, rfl, ho3⟩; obtain ⟨a3, c3, rfl, hc3, hat3, -⟩ := ho3.at_ (by have := HXL.out; omega); have H3 := Lib.hid (And.intro hb3 (And.intro hat3 (HW.out.below hb3))); have HC3 := Lib.hid hc3; clear hb3 ho3 hc3 hat3)
                | (go_at_call 25; refine (HRS.out w3 (HB.out.trans (H3.out.1.mono HB.out.size))).mono ?_; rintro e w4 ⟨hb4, rfl⟩; have H4 := Lib.hid (And.intro hb4 trivial); clear hb4)
                | (go_at_call 26; refine (Fr.told_any (fun i => i < w4.heap.size) w4 (fun _ h => h) a3 xs.length c3 (natB xs) (bts_of (H3.out.2.1.below H4.out.1)) (fun x e h2 => at_block (H3.out.2.1.below H4.out.1) x e (by omega)) HC3.out (by have := HXL.out; omega)).mono ?_; rintro e w5 ⟨v5, vs5, qs5, e5, m5, rfl, htl5, hown5, -, hb5⟩; obtain ⟨hq5, rfl⟩ := HTD.out (by trivial) htl5; obtain ⟨ad5, cp5, rfl⟩ := own_shape hown5; rw [hq5]; have H5 := Lib.hid hb5; have s1 := ((H3.out.2.1.below H4.out.1).below hb5).str c3; have s2 := ((H3.out.2.2.below H4.out.1).below hb5).str cw; clear hb5 htl5 hown5 hq5)
                | (go_at_call 8; refine (known_any _).mono ?_; rintro e w9 ⟨rfl, hb9⟩; have H9 := Lib.hid hb9; clear hb9))
              go_ret
              exact ⟨rfl, (HB.out.trans ((H3.out.1.trans ((H4.out.1.trans (H5.out.mono H4.out.1.size)).mono H3.out.1.size)).mono HB.out.size)).trans (H9.out.mono (HB.out.trans ((H3.out.1.trans ((H4.out.1.trans (H5.out.mono H4.out.1.size)).mono H3.out.1.size)).mono HB.out.size)).size)⟩
            | true =>
              obtain rfl := hxe rfl
              have HXL := Lib.hid hx
              obtain rfl := hye rfl
              have HYL := Lib.hid hy
              try clear hxe hye hx hy
              have TE : ∀ s : ByteArray, (s.toList == s.toList) = true := fun s => by simp
              go_wp2_with (first
                | (go_at_call 24; refine HRQ.out.mono ?_; rintro e w3 ⟨hb3, v3, rfl, ho3⟩; obtain ⟨a3, c3, rfl, hc3, hat3, -⟩ := ho3.at_ (by have := HXL.out; omega); have H3 := Lib.hid (And.intro hb3 (And.intro hat3 (HW.out.below hb3))); have HC3 := Lib.hid hc3; clear hb3 ho3 hc3 hat3)
                | (go_at_call 25; refine (HRS.out w3 (HB.out.trans (H3.out.1.mono HB.out.size))).mono ?_; rintro e w4 ⟨hb4, v4, rfl, ho4⟩; obtain ⟨a4, c4, rfl, -, hat4, -⟩ := ho4.at_ (by have := HYL.out; omega); have H4 := Lib.hid (And.intro hb4 (And.intro hat4 (HO.out.below (H3.out.1.trans (hb4.mono H3.out.1.size))))); clear hb4 ho4 hat4)
                | (go_at_call 26; refine (Fr.told_any (fun i => i < w4.heap.size) w4 (fun _ h => h) a3 xs.length c3 (natB xs) (bts_of (H3.out.2.1.below H4.out.1)) (fun x e h2 => at_block (H3.out.2.1.below H4.out.1) x e (by omega)) HC3.out (by have := HXL.out; omega)).mono ?_; rintro e w5 ⟨v5, vs5, qs5, e5, m5, rfl, htl5, hown5, -, hb5⟩; obtain ⟨hq5, rfl⟩ := HTD.out (by trivial) htl5; obtain ⟨ad5, cp5, rfl⟩ := own_shape hown5; rw [hq5]; have H5 := Lib.hid hb5; have s1 := ((H3.out.2.1.below H4.out.1).below hb5).str c3; have s2 := ((H3.out.2.2.below H4.out.1).below hb5).str cw; have s3 := (H4.out.2.1.below hb5).str c4; have s4 := (H4.out.2.2.below hb5).str co; clear hb5 htl5 hown5 hq5)
                | (go_at_call 8; refine (known_any _).mono ?_; rintro e w9 ⟨rfl, hb9⟩; have H9 := Lib.hid hb9; clear hb9))
              go_ret
              exact ⟨rfl, (HB.out.trans ((H3.out.1.trans ((H4.out.1.trans (H5.out.mono H4.out.1.size)).mono H3.out.1.size)).mono HB.out.size)).trans (H9.out.mono (HB.out.trans ((H3.out.1.trans ((H4.out.1.trans (H5.out.mono H4.out.1.size)).mono H3.out.1.size)).mono HB.out.size)).size)⟩
theorem streams_all (w : World) (l : List QI) (m : List SI) (a b : Option Addr) (n c n' c' : Nat) (hl : n ≤ 1000000 → CQ.At w a n l) (hg : ∀ y ∈ l, QI.Good w y) (hm : n' ≤ 1000000 → CS.At w b n' m) (hs : ∀ y ∈ m, SI.Good w y) : Calls Try.prog 6 #[.slice a n c, .slice b n' c'] w (TellsB true w) := by
  by_cases h : 20 < n ∨ 20 < n'
  · exact streams_big w a b n c n' c' h
  · exact streams_law w l m a b n c n' c' (hl (by omega)) hg (hm (by omega)) hs (by omega) (by omega)
end Go.Proofs.Ytdpfmaikijilkaa
namespace Go.Proofs.Ytdpfmaikijilkaa.messageStreams
open Go.ChangeShapes Go.WideShapes Go.ChangeAt Go.RowKit

theorem own : ownKnob Try.prog.godebug = none := by kernel_rfl
theorem laidOut : laidOutB Try.prog = true := by kernel_rfl

set_option maxRecDepth 100000 in
theorem lifted (os : Os) (started : os.Started) (H : Type) (enc : TypeId × Value → H) :
    ReturnsInHanded {} Try.checked os 6 .any (Rows.messageStreamsSpec.pre6 enc Try.prog Try.f6 Rows.messageStreamsRow.domain false) (Rows.messageStreamsSpec.post enc Try.prog Try.f6 false true false false) := by
  refine returnsInHanded_of_change (C := Try.checked) own started (by kernel_rfl) Try.func6
    (ChangeSpec.witness6 (enc := enc) (C := Try.checked) false ⟨#[], #[.slice none 0 0, .slice none 0 0], []⟩ 8 (by kernel_rfl) (by kernel_rfl) (by kernel_rfl) (by kernel_rfl)) ?_
  intro W base args ds gs before hval0 hW hcnd _
  have hval : ∀ (j : Nat) t v, Try.f6.params[j]? = some t → args[j]? = some v → Value.okWide Try.prog W .any base t v := hval0
  have hW' := hW
  obtain ⟨p, q, hA0, hV, rfl, hfz, hnd⟩ := hW
  have hA : DataW.TrodAll enc Try.prog W 0 (fun _ => true) true Try.f6.params.toList args.toList ds p := hA0
  rw [Try.params6] at hA hval
  obtain ⟨v0, vs0, d0, ds0, p0, q0, hargs0, rfl, rfl, h0, r0⟩ := trodAll_cons hA
  obtain ⟨v1, vs1, d1, ds1, p1, q1, hargs1, rfl, rfl, h1, r1⟩ := trodAll_cons r0
  obtain ⟨rfl, rfl, rfl⟩ := trodAll_nil r1
  subst hargs1
  obtain rfl : args = #[v0, v1] := by cases args; simp_all
  obtain ⟨rfl, rfl⟩ := trodVars_none hV
  have k0 := h0
  have lt0 : ∀ x ∈ p0, x.block < W.heap.size := by obtain ⟨m, hm⟩ := k0; exact DataW.trod_lt m _ _ _ hm
  have k1 := h1
  have lt1 : ∀ x ∈ p1, x.block < W.heap.size := by obtain ⟨m, hm⟩ := k1; exact DataW.trod_lt m _ _ _ hm
  obtain ⟨a, n, c, l, rfl, hla, hga, hata⟩ := open_requests (hval 0 59 v0 rfl rfl) h0
  obtain ⟨b, n', c', m, rfl, hlb, hgb, hatb⟩ := open_responses (hval 1 60 v1 rfl rfl) h1
  clear hA0 hval0
  refine (streams_all W l m a b n c n' c' hata hga hatb hgb).mono fun e W' ⟨he, bel⟩ => ?_
  subst he
  exact ⟨_, rfl, _, _, _, [], _, [], hW', trodAll_mk1 (shut_bool Try.underlying4 _), (trodAll_cons_mk (Below.trod laidOut (by kernel_rfl) (of_decide_eq_true (by kernel_rfl)) k0 bel lt0) (trodAll_cons_mk (Below.trod laidOut (by kernel_rfl) (of_decide_eq_true (by kernel_rfl)) k1 bel lt1) trodAll_mk0)), rfl, bel.frame _, fun h => by cases h⟩

theorem over : Rows.messageStreamsRow.holds Try.pinned (OpenSpec.ofChange Rows.messageStreamsSpec) :=
  OpenClaim.holds_of_wide 6 Try.f6 rfl rfl rfl rfl rfl rfl rfl ⟨rfl, rfl, rfl, rfl, rfl⟩ rfl rfl rfl rfl rfl (by kernel_rfl) Try.func6 (by kernel_rfl)
    (of_decide_eq_true (by kernel_rfl)) (by unfold Func.isWrapper; first | (rw [if_pos (by decide +kernel)]; kernel_rfl) | (rw [if_neg (by decide +kernel)]; exact ⟨rfl, rfl⟩))
    (fun os started H enc _ => lifted os started H enc)

/-- the statement -/
theorem proved : Rows.MessageStreamsSaid :=
  over
#print axioms proved
end Go.Proofs.Ytdpfmaikijilkaa.messageStreams
