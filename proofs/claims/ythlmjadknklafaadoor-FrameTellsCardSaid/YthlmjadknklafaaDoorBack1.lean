/-
  The walk of the law FrameBack.
-/
import Derived.Test.YthlmjadknklafaaDoorKnown
namespace Go.Proofs.YthlmjadknklafaaDoor
open Go.RowKit CrcM FrM

theorem sz5 (w : World) : (Go.sizeOf 5).run Tryd.prog w = .ok 1 w := by
  obtain ⟨i, hi, _, hz1, _⟩ := info_parts info5
  simp [Go.sizeOf, typeInfo, hi, hz1]
theorem add_zero (x : Addr) : x.add 0 = x := by unfold Addr.add; split <;> simp_all
theorem slice_h (W : World) (a : Option Addr) (len cap m : Nat) (hm : m ≤ cap) :
    (Instr.slice 22 (.slice a len cap) none (some (.int .i64 (m : Int))) none).run Tryd.prog W = .ok (.slice a m cap) W := by
  have ht' : Tryd.prog.underlying 22 = some (.slice (Tryd.prog.elem 22)) := by simp [Program.elem, Tryd.underlying22]
  have he : Tryd.prog.elem 22 = 5 := by simp [Program.elem, Tryd.underlying22]
  rw [run_slice_h W 22 _ _ _ ht' .i64 _ (by omega) (by omega), he, sz5]
  have e2 : (m : Int).toNat = m := by omega
  rw [e2]
  cases a <;> simp [Result.andThen, sliced, add_zero]

theorem Bts.drewN {w : World} {a : Option Addr} {len : Nat} {l : List Nat} (h : Bts w a len l) (q : Nat) : Bts (w.drewN q) a len l := h

theorem flat_step (qs : List (List Nat)) (k : Nat) (h : k < qs.length) : ((qs.take (k + 1)).map enc).flatten = ((qs.take k).map enc).flatten ++ enc (qs.getD k []) := by
  rw [List.take_succ_eq_append_getElem h, List.map_append, List.flatten_append]
  congr 1
  simp [List.getD, h]

theorem flat_len {l : List Nat} {qs : List (List Nat)} {m len : Nat} (h : Got l qs m) (hb : ∀ x ∈ l, x < 256) (k : Nat) (hl : l.length = len) (h9 : len ≤ 9000) : (((qs.take k).map enc).flatten).length ≤ 9000 := by
  have e := h.enc hb
  have e2 : qs = qs.take k ++ qs.drop k := (List.take_append_drop k qs).symm
  rw [e2, List.map_append, List.flatten_append] at e
  have e3 := congrArg List.length e
  rw [List.length_append, List.length_take] at e3
  omega
theorem row8_below {w w' : World} {b : Nat} {v : Value} {l : List Nat} (h : Row8 w b v l) (hb : Below w.heap.size w w') : Row8 w' b v l := by
  rcases h with h | ⟨off, cap, cur, rfl, hh, rest⟩
  · exact .inl h
  · exact .inr ⟨off, cap, cur, rfl, (hb.block b (lt_of_block hh)).trans hh, rest⟩

set_option maxHeartbeats 400000 in
theorem back_out (w : World) (a0 : Addr) (a : Option Addr) (len cap : Nat) (hG : Glo w a0) (h : 9000 < len) :
    Calls Tryd.prog 4 #[.slice a len cap] w (TellsYes w) := by
  have HG := Lib.hid hG
  have h1 : (9000 : Int) < (len : Int) := by omega
  clear hG h
  go_enter Tryd.func4, Tryd.ntmps4
  go_wp2_with (go_at_call 5; refine (known_any _ a0 HG.out).mono ?_; rintro e w1 ⟨rfl, hbel⟩; have HW := Lib.hid hbel; clear hbel)
  go_ret
  exact ⟨rfl, HW.out⟩

set_option maxRecDepth 100000 in
set_option maxHeartbeats 4000000 in
theorem back_in (w : World) (a0 : Addr) (a : Option Addr) (len cap : Nat) (l : List Nat) (hG : Glo w a0) (h : Bts w a len l) (hcap : len ≤ cap) (hl : len ≤ 9000) :
    Calls Tryd.prog 4 #[.slice a len cap] w (TellsYes w) := by
  have HG := Lib.hid hG
  have HG2 := Lib.hid hG.lt
  have H := Lib.hid h
  have HL := Lib.hid h.1
  clear hG h
  go_enter Tryd.func4, Tryd.ntmps4
  go_wp2_with (first
    | (go_at_call 6; refine (new_any _).mono ?_; rintro e w1 ⟨rfl, hd, hbel⟩; have HD1 := Lib.hid hd; have HW1 := Lib.hid hbel; clear hd hbel)
    | (go_at_call 7; refine (push_good _ w.heap.size w.heap.size 0 [] a len cap l HD1.out (H.out.below HW1.out) (by simp; omega)).mono ?_; rintro e w2 ⟨rfl, lb, hd, hbut, hlb⟩; rw [List.nil_append] at hd; have HD2 := Lib.hid hd; have HW2 := Lib.hid (HW1.out.trans (hbut.below w.heap.size HW1.out.size (fun k hk => by omega))); have HLB := Lib.hid (show lb < w2.heap.size from by have := HD1.out.lt; have := hbut.size; omega); clear hd hbut hlb)
    | (go_at_call 9; refine (tell_good _ a0 w.heap.size lb 0 l (HG.out.below HW2.out HG2.out) HG2.out HD2.out (by rw [HL.out]; exact hl) HLB.out).mono ?_; rintro ev w3 ⟨v, vs, qs, e, m, rfl, htld, hown, htx, hdec, hbut⟩; have HT := Lib.hid htld; have HO := Lib.hid hown; have HTX := Lib.hid htx; have HD3 := Lib.hid hdec; have HW3 := Lib.hid (HW2.out.trans (hbut.below w.heap.size HW2.out.size (fun k hk => by omega))); obtain ⟨av, capv, hv, hcells⟩ := own_form hown; subst hv; have HC := Lib.hid hcells; clear htld hown htx hdec hbut hcells))
  have HQ := Lib.hid (show qs.length ≤ 9000 from by have := HT.out.1.le; have := HL.out; omega)
  go_loopw [6, 7, 8, 9] (fun out i b f wr => ∃ (k bb : Nat), i = .int .i64 (k : Int) ∧ k ≤ qs.length ∧ Row8 wr bb out (((qs.take k).map enc).flatten) ∧ w3.heap.size ≤ bb ∧ Below w3.heap.size w3 wr) (fun _ i _ _ _ => qs.length - (intOf i).toNat)
  case atStart => exact ⟨0, w3.heap.size, rfl, by omega, .inl ⟨rfl, by simp⟩, Nat.le_refl _, Below.refl _ _⟩
  case round =>
    obtain ⟨k, bb, rfl, hk, hr, hbb, hbel⟩ := hrel
    have HR := Lib.hid hr
    have HBE := Lib.hid hbel
    have hq := HQ.out
    by_cases hlt : k < qs.length
    · obtain ⟨g, hav, hg, hcell⟩ := HC.out.resolve_left (by omega)
      subst hav
      obtain ⟨pa, pc, e1, b1, _, _⟩ := HTX.out.2 k hlt
      have c1 : wr.cell? ⟨g, k, none⟩ = some (.slice pa (qs.getD k []).length pc) := (hbel.cell (p := ⟨g, k, none⟩) hg).trans (hcell k _ e1 hlt)
      have HB1 := Lib.hid (b1.below hbel)
      have hp := HT.out.1.each (qs.getD k []) (by simp [List.getD, hlt])
      have hp1 := hp.1
      have hp2 := hp.2
      have HF := Lib.hid (flat_step qs k hlt)
      have HP := Lib.hid (enc_bytes (qs.getD k []) b1.2.1 hp2)
      have HEL := Lib.hid (enc_length (qs.getD k []))
      have HFL := Lib.hid (flat_len HT.out.1 H.out.2.1 k HL.out hl)
      generalize hpn : (qs.getD k []).length = pn at c1 HB1 hp1 hp2 HEL
      generalize qs.getD k [] = p at HB1 HF HP HEL
      clear e1 b1 hp hr hbel hcell hpn
      go_wp2_with (first
        | (go_at_call 13; refine (enc_any _ _ _ _ p HB1.out hp1 hp2).mono ?_; rintro ev w4 ⟨v4, b4, rfl, hr4, hb4, hbel4⟩; have HR4 := Lib.hid hr4; have HW4 := Lib.hid hbel4; obtain ⟨a4, n4, cap4, hv4⟩ := hr4.slice; subst hv4; have HB4 := Lib.hid (hr4.bts2 HP.out); clear hr4 hb4 hbel4)
        | (at_builtin; refine wpList_append_row8 rfl _ _ rfl bb u6 (((qs.take k).map enc).flatten) a4 n4 cap4 (enc p) rfl (row8_below HR.out HW4.out) rfl HB4.out.2.1 (by rw [HB4.out.1, HEL.out]; have := HFL.out; omega) ?_; intro v5 w5 b5 hr5 hg5 hc5; have HR5 := Lib.hid hr5; have HG5 := Lib.hid hg5; have HC5 := Lib.hid hc5; clear hr5 hg5 hc5))
      go_roundw
      case rel =>
        refine ⟨k + 1, b5, by go_num, by omega, by rw [HF.out]; exact HR5.out, ?_, ?_⟩
        · have s1 := HBE.out.size
          have s4 := HW4.out.size
          rcases HC5.out with ⟨rfl, _⟩ | ⟨rfl, _⟩
          · exact hbb
          · omega
        · exact (HBE.out.trans (HW4.out.mono HBE.out.size)).grown HG5.out (by have s1 := HBE.out.size; have s4 := HW4.out.size; omega) (fun j hj => by rw [HR.out.own1 hj]; exact hbb)
      case measure => simp [intOf]; omega
    · obtain rfl : k = qs.length := by omega
      have hge : ¬ (qs.length : Int) < (qs.length : Int) := by omega
      have hr2 : Row8 wr bb u6 (l.take m) := by
        rw [List.take_length, HT.out.1.enc H.out.2.1] at hr
        exact hr
      obtain ⟨ao, no, co, hv⟩ := hr2.slice
      subst hv
      obtain ⟨hno, hbo, _, _⟩ := hr2.bts2 (fun x hx => H.out.2.1 x (List.mem_of_mem_take hx))
      have hml : m ≤ len := by have := HT.out.1.le.1; rw [HL.out] at this; exact this
      rw [List.length_take, HL.out, Nat.min_eq_left hml] at hno
      subst hno
      have hbw : Below w.heap.size w wr := HW3.out.trans (HBE.out.mono HW3.out.size)
      have hs1 := fun q : Nat => (hbo.drewN q).str co
      have hs2 := fun q : Nat => (((H.out.below hbw).take no hml).drewN q).str cap
      generalize strOf (l.take no) = Z at hs1 hs2
      have hsl := fun W : World => slice_h W a len cap no (by omega)
      have HBW := Lib.hid hbw
      clear hr hr2 hbo hbw hbel hlt
      have hd : decide ((len : Int) < (no : Int)) = false := by simp; omega
      go_wp2
      go_quiet (fail)
      clear hs1 hs2 hsl
      have HBN : Hid (Below w.heap.size w (wr.drewN nq)) := ⟨HBW.out.os, HBW.out.tape, HBW.out.output, HBW.out.size, HBW.out.block⟩
      have HGN := Lib.hid (HG.out.below HBN.out HG2.out)
      have HB3N : Hid (Below w3.heap.size w3 (wr.drewN nq)) := ⟨HBE.out.os, HBE.out.tape, HBE.out.output, HBE.out.size, HBE.out.block⟩
      rcases HD3.out with ⟨rfl, hdec⟩ | ⟨he, hdec⟩
      · have HDN := Lib.hid (hdec.below HB3N.out)
        have hrl : ((((l.drop no).length : Nat) : Int) == (len : Int) - (no : Int)) = true := by
          have := HL.out
          simp
          omega
        generalize hrn : (l.drop no).length = rn at hrl
        have HRN := Lib.hid hrn
        clear hdec hrn
        go_wp2_with (first
          | (go_at_call 11; refine (rest_any _ w.heap.size lb _ _ _ _ HDN.out).mono ?_; rintro ev w' ⟨rfl, rfl⟩; rw [HRN.out])
          | (go_at_call 5; refine (known_any _ a0 HGN.out).mono ?_; rintro ev w5 ⟨rfl, hbel5⟩; have HW5 := Lib.hid hbel5; clear hbel5))
        go_ret
        exact ⟨rfl, HBN.out.trans (HW5.out.mono HBN.out.size)⟩
      · have he0 : (((e : Nat) : Int) != 0) = true := by simp; omega
        clear hdec he
        go_wp2_with (go_at_call 5; refine (known_any _ a0 HGN.out).mono ?_; rintro ev w5 ⟨rfl, hbel5⟩; have HW5 := Lib.hid hbel5; clear hbel5)
        go_ret
        exact ⟨rfl, HBN.out.trans (HW5.out.mono HBN.out.size)⟩
end Go.Proofs.YthlmjadknklafaaDoor
