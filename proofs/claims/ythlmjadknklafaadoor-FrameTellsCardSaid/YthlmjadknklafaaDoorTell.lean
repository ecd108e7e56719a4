/-
  The walk of the law's tell: all that a decoder tells now.
-/
import Derived.Test.YthlmjadknklafaaDoorNext
import Derived.Deep.AppendLies
namespace Go.Proofs.YthlmjadknklafaaDoor
open Go.RowKit CrcM FrM

theorem Dec.bytes {w : World} {gd lb at_ wat werr : Nat} {l : List Nat} (h : Dec w gd lb at_ l wat werr) : (∀ x ∈ l, x < 256) ∧ at_ + l.length ≤ 1000000 ∧ wat ≤ 1000000 ∧ werr ≤ 1000 := by
  obtain ⟨_, _, _, _, hx, h1, h2, h3⟩ := h
  exact ⟨hx, h1, h2, h3⟩

theorem next_of_wait (w : World) (a0 : Addr) (gd lb at_ : Nat) (l : List Nat) (hG : Glo w a0) (h : Dec w gd lb at_ l 0 0) (hv : FrM.look l = .wait) :
    Calls Tryd.prog 15 #[.pointer (some ⟨gd, 0, none⟩)] w (NextWait w) := by
  refine next_wait w a0 gd hG ?_
  by_cases h1 : l.length < 2
  · exact look_short w a0 gd lb at_ l hG h h1
  · by_cases h2 : len l < 1 ∨ 4096 < len l
    · rw [look_len (by omega) h2] at hv; cases hv
    · by_cases h3 : l.length < 6 + len l
      · exact look_more w a0 gd lb at_ l hG h (by omega) h2 h3
      · by_cases h4 : num ((l.drop 2).take 4) = more 0 ((l.drop 6).take (len l))
        · rw [look_got_of (by omega) (by omega) (by omega) h4] at hv; cases hv
        · rw [look_sum h2 (by omega) h4] at hv; cases hv
theorem next_of_bad (w : World) (a0 : Addr) (gd lb at_ e : Nat) (l : List Nat) (hG : Glo w a0) (h : Dec w gd lb at_ l 0 0) (hv : FrM.look l = .bad e) :
    Calls Tryd.prog 15 #[.pointer (some ⟨gd, 0, none⟩)] w (NextBad gd lb at_ at_ e w) := by
  have hb := h.bytes
  have he := (look_bad hv).1
  refine next_bad w a0 gd lb at_ at_ e 0 0 l hG h (by omega) (by omega) ?_
  by_cases h1 : l.length < 2
  · rw [FrM.look_short h1] at hv; cases hv
  · by_cases h2 : len l < 1 ∨ 4096 < len l
    · rw [look_len (by omega) h2] at hv; cases hv
      exact look_badlen w gd lb at_ l h (by omega) h2
    · by_cases h3 : l.length < 6 + len l
      · rw [look_part (by omega) h2 h3] at hv; cases hv
      · by_cases h4 : num ((l.drop 2).take 4) = more 0 ((l.drop 6).take (len l))
        · rw [look_got_of (by omega) (by omega) (by omega) h4] at hv; cases hv
        · rw [look_sum h2 (by omega) h4] at hv; cases hv
          exact look_badsum w gd lb at_ l h h2 (by omega) h4
theorem next_of_got (w : World) (a0 : Addr) (gd lb at_ n : Nat) (l : List Nat) (hG : Glo w a0) (h : Dec w gd lb at_ l 0 0) (hv : FrM.look l = .got n) :
    Calls Tryd.prog 15 #[.pointer (some ⟨gd, 0, none⟩)] w (NextGot gd lb (at_ + (6 + n)) (l.drop (6 + n)) ((l.drop 6).take n) w) := by
  obtain ⟨rfl, h1, h2, h3, h4⟩ := look_got hv
  exact next_got w a0 gd lb at_ (len l) l _ hG h h2 h3 (look_frame w gd lb at_ l h (by omega) h3 h4)
theorem next_of_broken (w : World) (a0 : Addr) (gd lb at_ wat werr : Nat) (l : List Nat) (hG : Glo w a0) (h : Dec w gd lb at_ l wat werr) (he : 0 < werr) :
    Calls Tryd.prog 15 #[.pointer (some ⟨gd, 0, none⟩)] w (NextBad gd lb at_ wat werr w) :=
  next_bad w a0 gd lb at_ wat werr wat werr l hG h h.bytes.2.2.1 h.bytes.2.2.2 (look_broken w gd lb at_ wat werr l h he)

theorem info22 : (Tryd.prog.info? 22).map (fun i => (i.zero, i.size, i.bytes)) = some (some (.slice none 0 0), 1, 24) := by kernel_rfl

/-- blocks from lo up to hi, but the one of v -/
def Own (lo hi : Nat) (v : Value) (k : Nat) : Prop := lo ≤ k ∧ k < hi ∧ some k ≠ v.ownBlock

/-- the decoder behind all that is told -/
def DecAll (w : World) (gd lb at_ : Nat) (l : List Nat) (e m : Nat) : Prop :=
  (e = 0 ∧ Dec w gd lb (at_ + m) (l.drop m) 0 0) ∨ (e ≠ 0 ∧ Dec w gd lb (at_ + m) [] (at_ + m) e)

def TellAll (gd lb at_ : Nat) (l : List Nat) (w : World) (ev : Ending) (w' : World) : Prop :=
  ∃ v vs qs e m, ev = .returned (.tuple #[v, .int .i64 ((e : Nat) : Int)]) ∧ Tld l qs e m ∧ w'.ownsRow w.heap.size 22 1 v qs.length vs ∧ Txts w' (Own w.heap.size w'.heap.size v) vs qs ∧
    DecAll w' gd lb at_ l e m ∧ But (fun k => k = gd) w w'

theorem Row8.bts1 {w : World} {b n : Nat} {a : Option Addr} {k cap : Nat} {l : List Nat} (h : Row8 w b (.slice a k cap) l) (hb : ∀ x ∈ l, x < 256) (hn : l.length = n) (h1 : 1 ≤ n) :
    k = l.length ∧ Bts w a l.length l ∧ l.length ≤ cap ∧ b < w.heap.size ∧ ∀ x, a = some x → x.block = b := by
  have hb2 := h.bts hb
  rcases h with ⟨_, rfl⟩ | ⟨off, c, cur, e, hh, _⟩
  · simp at hn; omega
  · obtain ⟨a', c', e2, r1, r2, r3, _⟩ := hb2
    cases e2
    exact ⟨rfl, r1, r2, lt_of_block hh, r3⟩

set_option maxHeartbeats 2000000 in
set_option maxRecDepth 100000 in
theorem tell_good (w : World) (a0 : Addr) (gd lb at_ : Nat) (l : List Nat) (hG : Glo w a0) (hgd2 : 2 ≤ gd) (h : Dec w gd lb at_ l 0 0) (hl : l.length ≤ 9000) (hlb : lb < w.heap.size) :
    Calls Tryd.prog 9 #[.pointer (some ⟨gd, 0, none⟩)] w (TellAll gd lb at_ l w) := by
  have HG := Lib.hid hG
  have HD := Lib.hid h
  have hgd := h.lt
  obtain ⟨i0, hi, hz0, hz1, hz2⟩ := info_parts info22
  have HI := Lib.hid hi
  have HZ0 := Lib.hid hz0
  have HZ1 := Lib.hid hz1
  have HZ2 := Lib.hid hz2
  clear hG h hi hz0 hz1 hz2
  go_enter Tryd.func9, Tryd.ntmps9
  go_wp2
  go_loopw [4, 5, 6, 7, 8] (fun out i p is e wr => ∃ (vs : List Value) (qs : List (List Nat)) (m : Nat), i = .int .i64 (qs.length : Int) ∧ Got l qs m ∧ wr.ownsRow w.heap.size 22 1 out qs.length vs ∧ Txts wr (Own w.heap.size wr.heap.size out) vs qs ∧ Dec wr gd lb (at_ + m) (l.drop m) 0 0 ∧ But (fun k => k = gd) w wr) (fun _ i _ _ _ _ => 2000 - (intOf i).toNat)
  case atStart => exact ⟨[], [], 0, rfl, .none, World.ownsRow_nil _ _ _ _, Txts.nil _ _, HD.out, But.refl _ _⟩
  case round =>
    obtain ⟨vs, qs, m, rfl, hgot, hown, htx, hdec, hbut⟩ := hrel
    have hle := hgot.le
    have hq : (qs.length : Int) < 2000 := by omega
    have hG1 := Lib.hid (HG.out.but hbut (fun k hk => by omega))
    have HGot := Lib.hid hgot
    have HOwn := Lib.hid hown
    have HTx := Lib.hid htx
    have HDec := Lib.hid hdec
    have HBut := Lib.hid hbut
    clear hgot hown htx hdec hbut
    rcases hv : FrM.look (l.drop m) with _ | e | n
    · have HV := Lib.hid hv
      clear hv
      go_wp2_with (go_at_call 15; refine (next_of_wait _ a0 gd lb _ _ hG1.out HDec.out HV.out).mono ?_; rintro ev w1 ⟨rfl, hbel⟩; have HW := Lib.hid hbel; clear hbel)
      go_ret2
      refine ⟨u4, vs, qs, 0, m, rfl, ⟨HGot.out, .inl ⟨rfl, HV.out⟩⟩, ?_, ?_, .inl ⟨rfl, HDec.out.below HW.out⟩, HBut.out.trans (But.of HW.out)⟩
      · exact HOwn.out.kept (row := none) ⟨HW.out.os, HW.out.tape, HW.out.output, HW.out.size, fun k hk _ => HW.out.block k hk⟩ (by cases u4.ownBlock <;> simp)
      · exact (HTx.out.but (But.of (S := fun _ => False) HW.out) (fun _ _ h => h)).mono (fun k hk => ⟨hk.1, Nat.lt_of_lt_of_le hk.2.1 HW.out.size, hk.2.2⟩)
    · have HV := Lib.hid hv
      have he := (look_bad hv).1
      have he0 : (((e : Nat) : Int) != 0) = true := by rcases he with rfl | rfl <;> rfl
      have he1 : e ≠ 0 := by omega
      have HE := Lib.hid he1
      clear hv he he1
      go_wp2_with (go_at_call 15; refine (next_of_bad _ a0 gd lb _ _ _ hG1.out HDec.out HV.out).mono ?_; rintro ev w1 ⟨rfl, hd, hbut⟩; have HW := Lib.hid hbut; have HD1 := Lib.hid hd; clear hbut hd)
      go_ret2
      have hsz := HBut.out.size
      refine ⟨u4, vs, qs, e, m, rfl, ⟨HGot.out, .inr HV.out⟩, ?_, ?_, .inr ⟨HE.out, HD1.out⟩, HBut.out.trans HW.out⟩
      · refine HOwn.out.kept (row := some gd) ⟨HW.out.os, HW.out.tape, HW.out.output, HW.out.size, fun k hk hne => HW.out.block k hk (fun e => hne (by rw [e]))⟩ (.inr fun e => ?_)
        have := (HOwn.out.lt gd e).1
        omega
      · exact (HTx.out.but HW.out (fun k hk e => by have := hk.1; omega)).mono (fun k hk => ⟨hk.1, Nat.lt_of_lt_of_le hk.2.1 HW.out.size, hk.2.2⟩)
    · have HV := Lib.hid hv
      have hn := look_got hv
      have hn1 := hn.2.1
      have hn3 : 6 + n ≤ (l.drop m).length := hn.2.2.2.1
      have HP : Hid ((((l.drop m).drop 6).take n).length = n) := by
        show _ = _
        rw [List.length_take, List.length_drop]; omega
      clear hv hn hn3
      go_wp2_with (first
        | (go_at_call 15; refine (next_of_got _ a0 gd lb _ _ _ hG1.out HDec.out HV.out).mono ?_; rintro ev w1 ⟨v1, b1, rfl, hr, hb, hd, hbut⟩; have HR := Lib.hid hr; have HB := Lib.hid hb; have HD1 := Lib.hid hd; have HW := Lib.hid hbut; obtain ⟨a1, n1, cap1, rfl⟩ := hr.slice; have HO1 := Lib.hid (HOwn.out.kept (w' := w1) (row := some gd) ⟨hbut.os, hbut.tape, hbut.output, hbut.size, fun k hk hne => hbut.block k hk (fun e => hne (by rw [e]))⟩ (.inr fun e => by have := (HOwn.out.lt gd e).1; omega)); clear hr hb hd hbut)
        | (at_builtin; refine wpList_append_lies _ rfl _ _ 27 rfl w.heap.size 22 i0 (.slice none 0 0) 1 24 Tryd.underlying27 HI.out HZ0.out HZ1.out HZ2.out rfl (by decide) u4 qs.length vs rfl (HO1.out.alloc _) ⟨w1.heap.size, 0, none⟩ 1 1 [.slice a1 n1 cap1] rfl rfl (cell_one_new _ _ _) (by simp [Value.oneCell']) (by decide) (by unfold maxLen; omega) (by omega) ?_ _ rfl ?_; (have := HBut.out.size; have := HW.out.size; simp; omega); intro g cap2 w2 hown2 hgrow2 hat2 hlt2; have HO2 := Lib.hid hown2; have HG2 := Lib.hid hgrow2; have HA2 := Lib.hid hat2; have HL2 := Lib.hid hlt2; clear hown2 hgrow2 hat2 hlt2))
      go_roundw
      case rel =>
        have hown := HOwn.out
        have hlt := hown.lt
        have s0 := HBut.out.size
        have s1 := HW.out.size
        have hbyt : ∀ x ∈ ((l.drop m).drop 6).take n, x < 256 := fun x hx => HDec.out.bytes.1 x (List.mem_of_mem_drop (List.mem_of_mem_take hx))
        obtain ⟨rfl, hbts, hcap, hb1, hax⟩ := HR.out.bts1 hbyt HP.out hn1
        have hB2 : But (fun k => some k = u4.ownBlock) w1 w2 := (But.next (But.alloc (But.refl (fun k => some k = u4.ownBlock) w1) _) (But.grown HG2.out) (fun _ _ h => h))
        have hbb := HB.out
        have hg : ∀ k, k < w1.heap.size → some k ≠ u4.ownBlock → some k ≠ (Value.slice (some ⟨g, 0, none⟩) (qs.length + 1) cap2).ownBlock := by
          intro k hk hne e
          have e' : k = g := by simpa [Value.ownBlock] using e
          rcases HA2.out with h | h
          · exact hne (by rw [h, e'])
          · rw [World.size_alloc] at h; omega
        refine ⟨vs ++ [.slice a1 (((l.drop m).drop 6).take n).length cap1], qs ++ [((l.drop m).drop 6).take n], m + (6 + n), by simp, HGot.out.more HV.out, by rw [List.length_append, List.length_singleton]; exact HO2.out, ?_, ?_, ?_⟩
        · refine Txts.append ?_ ?_
          · refine ((HTx.out.but HW.out (fun k hk e => by have := hk.1; omega)).but hB2 (fun k hk e => hk.2.2 e)).mono (fun k hk => ⟨hk.1, by have := hk.2.1; have := hB2.size; omega, hg k (by have := hk.2.1; omega) hk.2.2⟩)
          · have hnb : some b1 ≠ u4.ownBlock := fun e => by have := (hlt b1 e.symm).2; omega
            refine Txts.one (hbts.but hB2 (fun x e => by rw [hax x e]; exact hnb)) hcap (fun x e => ?_)
            rw [hax x e]
            exact ⟨by omega, by have := hB2.size; omega, hg b1 hb1 hnb⟩
        · rw [← Nat.add_assoc]
          have := HD1.out.but hB2 (fun e => by have := (hlt gd e.symm).1; omega) (fun e => by have := (hlt lb e.symm).1; omega)
          rw [List.drop_drop] at this
          exact this
        · exact (HBut.out.trans HW.out).next hB2 (fun j hj e => by have := (hlt j e.symm).1; omega)
      case measure => simp [intOf]; omega

def TellBroken (gd lb at_ wat werr : Nat) (w : World) (ev : Ending) (w' : World) : Prop :=
  ev = .returned (.tuple #[.slice none 0 0, .int .i64 ((werr : Nat) : Int)]) ∧ Dec w' gd lb at_ [] wat werr ∧ But (fun k => k = gd) w w'

set_option maxHeartbeats 1000000 in
theorem tell_broken (w : World) (a0 : Addr) (gd lb at_ wat werr : Nat) (l : List Nat) (hG : Glo w a0) (h : Dec w gd lb at_ l wat werr) (he : 0 < werr) :
    Calls Tryd.prog 9 #[.pointer (some ⟨gd, 0, none⟩)] w (TellBroken gd lb at_ wat werr w) := by
  have HG := Lib.hid hG
  have HD := Lib.hid h
  have he0 : (((werr : Nat) : Int) != 0) = true := by simp; omega
  clear hG h
  go_enter Tryd.func9, Tryd.ntmps9
  go_wp2
  refine wp_loop_rounds 1 ?_
  rw [rounds_succ]
  go_wp2_with (go_at_call 15; refine (next_of_broken _ a0 gd lb _ _ _ _ HG.out HD.out he).mono ?_; rintro ev w1 ⟨rfl, hd, hbut⟩; have HW := Lib.hid hbut; have HD1 := Lib.hid hd; clear hbut hd)
  go_ret2
  exact ⟨rfl, HD1.out, HW.out⟩
end Go.Proofs.YthlmjadknklafaaDoor
