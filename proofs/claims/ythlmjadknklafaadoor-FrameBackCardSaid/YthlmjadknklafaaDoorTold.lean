/-
  The walk of the document's Told: what a stream tells.
-/
import Derived.Test.YthlmjadknklafaaDoorTell
import Derived.Test.YthlmjadknklafaaDoorEnc
import Derived.Test.YthlmjadknklafaaDoorFrMath2
import Derived.BigQuiet
namespace Go.Proofs.YthlmjadknklafaaDoor
open Go.RowKit CrcM FrM

def TellsTold (S : Nat → Prop) (l : List Nat) (w : World) (ev : Ending) (w' : World) : Prop :=
  ∃ v vs qs e m, ev = .returned (.tuple #[v, .int .i64 ((e : Nat) : Int), .int .i64 ((m : Nat) : Int)]) ∧ Tld l qs e m ∧ w'.ownsRow w.heap.size 22 1 v qs.length vs ∧ Txts w' S vs qs ∧ Below w.heap.size w w'

set_option maxHeartbeats 1000000 in
theorem told_short (S : Nat → Prop) (w : World) (a : Option Addr) (len cap : Nat) (l : List Nat) (h : l.length = len) (hl : len < 2) :
    Calls Tryd.prog 8 #[.slice a len cap] w (TellsTold S l w) := by
  have H := Lib.hid h
  clear h
  go_enter Tryd.func8, Tryd.ntmps8
  go_wp2
  refine wp_loop_rounds 1 ?_
  rw [rounds_succ]
  go_wp2
  go_ret3
  exact ⟨_, [], [], 0, 0, rfl, ⟨.none, .inl ⟨rfl, FrM.look_short (by have := H.out; simp; omega)⟩⟩, World.ownsRow_nil _ _ _ _, Txts.nil _ _, Below.refl _ _⟩

theorem own_below {w w' : World} {base : Nat} {e : TypeId} {size : Nat} {v : Value} {n : Nat} {xs : List Value} (h : w.ownsRow base e size v n xs) (hb : Below w.heap.size w w') : w'.ownsRow base e size v n xs :=
  h.kept (row := none) ⟨hb.os, hb.tape, hb.output, hb.size, fun k hk _ => hb.block k hk⟩ (by cases v.ownBlock <;> simp)

/-- the head of what is left of a stream -/
theorem at_head {w : World} {B off len m : Nat} {l : List Nat} (h : Bts w (some ⟨B, off, none⟩) len l) (hm : m + 2 ≤ len) :
    ∃ x y : Nat, x < 256 ∧ y < 256 ∧ w.cell? ⟨B, off + m, none⟩ = some (.int .u8 (x : Int)) ∧ w.cell? ⟨B, off + (m + 1), none⟩ = some (.int .u8 (y : Int)) ∧ FrM.len (l.drop m) = 256 * x + y ∧ B < w.heap.size := by
  obtain ⟨h1, h2, h3, h4⟩ := h
  rcases h4 with h4 | ⟨B', off', e, hB, hc⟩
  · omega
  · cases e
    refine ⟨l.getD m 0, l.getD (m + 1) 0, h2 _ (getD_mem l m (by omega)), h2 _ (getD_mem l (m + 1) (by omega)), hc m (by omega), hc (m + 1) (by omega), ?_, hB⟩
    simp [FrM.len, List.getD, List.getElem?_drop]

set_option maxHeartbeats 4000000 in
set_option maxRecDepth 100000 in
theorem told_long (S : Nat → Prop) (w : World) (hS : ∀ k, S k → k < w.heap.size) (B off len cap : Nat) (hBS : S B) (l : List Nat) (h : Bts w (some ⟨B, off, none⟩) len l) (hcap : len ≤ cap) (hl : len ≤ 9000) :
    Calls Tryd.prog 8 #[.slice (some ⟨B, off, none⟩) len cap] w (TellsTold S l w) := by
  have H := Lib.hid h
  have hlen := h.1
  obtain ⟨i0, hi, hz0, hz1, hz2⟩ := info_parts info22
  have HI := Lib.hid hi
  have HZ0 := Lib.hid hz0
  have HZ1 := Lib.hid hz1
  have HZ2 := Lib.hid hz2
  have HL := Lib.hid hlen
  clear h hi hz0 hz1 hz2 hlen
  go_enter Tryd.func8, Tryd.ntmps8
  go_wp2
  go_loopw [5, 6, 7, 8, 9] (fun out p n x y wr => ∃ (vs : List Value) (qs : List (List Nat)) (m : Nat), p = .int .i64 (m : Int) ∧ Got l qs m ∧ wr.ownsRow w.heap.size 22 1 out qs.length vs ∧ Txts wr S vs qs ∧ Below w.heap.size w wr) (fun _ p _ _ _ _ => len - (intOf p).toNat)
  case atStart => exact ⟨[], [], 0, rfl, .none, World.ownsRow_nil _ _ _ _, Txts.nil _ _, Below.refl _ _⟩
  case round =>
    obtain ⟨vs, qs, m, rfl, hgot, hown, htx, hbel⟩ := hrel
    have hle := hgot.le.1
    rw [HL.out] at hle
    have hq7 := hgot.le.2
    have HGot := Lib.hid hgot
    have HOwn := Lib.hid hown
    have HTx := Lib.hid htx
    have HBel := Lib.hid hbel
    have HB1 := Lib.hid (H.out.below hbel)
    clear hgot hown htx hbel
    by_cases hm : m + 2 ≤ len
    · obtain ⟨x, y, hx, hy, cx, cy, hn, hB⟩ := at_head HB1.out hm
      have HN := Lib.hid hn
      clear hn
      have HX := Lib.hid (show 2 ≤ (l.drop m).length from by have := HL.out; simp; omega)
      have HXL := Lib.hid (show (l.drop m).length = len - m from by have := HL.out; simp; omega)
      by_cases h1 : 256 * x + y < 1 ∨ 4096 < 256 * x + y
      · have HE := Lib.hid (look_len HX.out (by rw [HN.out]; exact h1))
        go_wp2
        go_region
        all_goals (try go_wp2)
        all_goals (go_ret3; exact ⟨u5, vs, qs, 10, m, rfl, ⟨HGot.out, .inr HE.out⟩, HOwn.out, HTx.out, HBel.out.drew⟩)
      · obtain ⟨n, hnn⟩ : ∃ n : Nat, n = 256 * x + y := ⟨_, rfl⟩
        have e : 256 * (x : Int) + (y : Int) = (n : Int) := by omega
        have hn1 : 1 ≤ n := by omega
        have hn2 : n ≤ 4096 := by omega
        have HN2 := Lib.hid (show FrM.len (l.drop m) = n from by rw [HN.out, hnn])
        have HEE := Lib.hid e
        clear e hnn
        go_wp2
        go_region
        rw [HEE.out]
        clear HEE h1 cx cy hx hy HN
        by_cases h2 : len < m + 6 + n
        · have HE := Lib.hid (look_part HX.out (by rw [HN2.out]; omega) (by rw [HN2.out, HXL.out]; omega))
          go_wp2
          go_ret3
          exact ⟨u5, vs, qs, 0, m, rfl, ⟨HGot.out, .inl ⟨rfl, HE.out⟩⟩, HOwn.out, HTx.out, HBel.out.drew⟩
        · have HP := Lib.hid ((HB1.out.drop (m + 6) (by omega)).take n (by omega))
          have HQ := Lib.hid ((HB1.out.drop m (by omega)).take (6 + n) (by omega))
          go_wp2_with (go_at_call 14; refine (renc_any _ _ _ _ ((l.drop (m + 6)).take n) HP.out.drew hn1 hn2).mono ?_; rintro ev w1 ⟨v1, b1, rfl, hr, hb, hbel1⟩; have HR := Lib.hid hr; have HBB := Lib.hid hb; have HW1 : Hid (Below wr.heap.size wr w1) := ⟨hbel1.os, hbel1.tape, hbel1.output, hbel1.size, hbel1.block⟩; clear hr hb hbel1)
          have HEB : Hid (∀ z ∈ enc ((l.drop (m + 6)).take n), z < 256) := enc_bytes _ HP.out.2.1 (by rw [HP.out.1]; exact hn2)
          obtain ⟨a1, n1, cap1, rfl, hs1⟩ : ∃ a1 n1 cap1, v1 = .slice a1 n1 cap1 ∧ (convert 22 9 (.slice a1 n1 cap1)).run Tryd.prog w1.drew = .ok (.string (strOf (enc ((l.drop (m + 6)).take n)))) w1.drew := by
            obtain ⟨a1, cap1, e, hbt1, _⟩ := HR.out.bts HEB.out
            exact ⟨a1, _, cap1, e, hbt1.drew.str cap1⟩
          have hs2 : (convert 22 9 (.slice (some ⟨B, off + m, none⟩) (m + 6 + n - m) (cap - m))).run Tryd.prog w1.drew = .ok (.string (strOf ((l.drop m).take (6 + n)))) w1.drew := by
            rw [show m + 6 + n - m = 6 + n from by omega]
            exact (HQ.out.below HW1.out).drew.str (cap - m)
          have HR8 := Lib.hid (show 6 + FrM.len (l.drop m) ≤ (l.drop m).length from by rw [HN2.out, HXL.out]; omega)
          have HBY := Lib.hid (show ∀ z ∈ l.drop m, z < 256 from fun z hz => HB1.out.2.1 z (List.mem_of_mem_drop hz))
          have HPE : Hid ((l.drop (m + 6)).take n = ((l.drop m).drop 6).take n) := by show _ = _; rw [List.drop_drop]
          have HEQ := Lib.hid (enc_eq (l.drop m) HBY.out HR8.out)
          by_cases h3 : enc ((l.drop (m + 6)).take n) = (l.drop m).take (6 + n)
          · rw [h3] at hs1
            have HV : Hid (FrM.look (l.drop m) = .got n) := by
              have h4 := HEQ.out.1 (by rw [HN2.out, ← HPE.out]; exact h3)
              have := look_got_of (by rw [HN2.out]; exact hn1) (by rw [HN2.out]; exact hn2) HR8.out h4
              rw [HN2.out] at this
              exact this
            generalize strOf ((l.drop m).take (6 + n)) = Z at hs1 hs2
            clear h3
            go_region
            clear hs1 hs2
            have HO1 := Lib.hid (own_below HOwn.out HW1.out.drew)
            have HBW := Lib.hid (HBel.out.trans (HW1.out.drew.mono HBel.out.size))
            have hq8 : qs.length ≤ 9000 := by omega
            go_wp2_with (at_builtin; refine wpList_append_lies _ rfl _ _ 27 rfl w.heap.size 22 i0 (.slice none 0 0) 1 24 Tryd.underlying27 HI.out HZ0.out HZ1.out HZ2.out rfl (by decide) u5 qs.length vs rfl (HO1.out.alloc _) ⟨w1.heap.size, 0, none⟩ 1 1 [.slice (some ⟨B, off + (m + 6), none⟩) n (cap - (m + 6))] rfl rfl (cell_one_new _ _ _) (by simp [Value.oneCell']) (by decide) (by unfold maxLen; omega) (by omega) ?_ _ rfl ?_; (have := HBW.out.size; simp; simp at this; omega); intro g cap2 w2 hown2 hgrow2 hat2 hlt2; have HO2 := Lib.hid hown2; have HG2 := Lib.hid hgrow2; clear hown2 hgrow2 hat2 hlt2)
            go_roundw
            case rel =>
              have hlt := HOwn.out.lt
              have hB2 : But (fun k => some k = u5.ownBlock) w1.drew w2 := (But.next (But.alloc (But.refl (fun k => some k = u5.ownBlock) w1.drew) _) (But.grown HG2.out) (fun _ _ h => h))
              have hBl : Below w.heap.size w w2 := HBW.out.trans (hB2.below w.heap.size HBW.out.size (fun k hk => (hlt k hk.symm).1))
              refine ⟨vs ++ [.slice (some ⟨B, off + (m + 6), none⟩) n (cap - (m + 6))], qs ++ [((l.drop m).drop 6).take n], m + (6 + n), by simp; omega, HGot.out.more HV.out, by rw [List.length_append, List.length_singleton]; exact HO2.out, ?_, hBl⟩
              have hlt2 : ∀ k, k < w.heap.size → ¬ some k = u5.ownBlock := fun k hk e => by have := (hlt k e.symm).1; omega
              refine Txts.append ((HTx.out.but (But.of (S := fun _ => False) HW1.out.drew) (fun _ _ h => h)).but hB2 (fun k hk => hlt2 k (hS k hk))) ?_
              have hbts := ((H.out.below hBl).drop (m + 6) (by omega)).take n (by omega)
              rw [← HPE.out]
              have hl : ((l.drop (m + 6)).take n).length = n := hbts.1
              have hone := Txts.one (S := S) (cap := cap - (m + 6)) (show Bts w2 (some ⟨B, off + (m + 6), none⟩) ((l.drop (m + 6)).take n).length ((l.drop (m + 6)).take n) from by rw [hl]; exact hbts) (by rw [hl]; omega) (fun x e => by cases e; exact hBS)
              rw [hl] at hone
              exact hone
            case measure => simp [intOf]; omega
          · have HV : Hid (FrM.look (l.drop m) = .bad 11) := by
              refine look_sum (by rw [HN2.out]; omega) HR8.out (fun h4 => h3 ?_)
              have := HEQ.out.2 h4
              rw [HN2.out, ← HPE.out] at this
              exact this
            have hne : ((strOf (enc ((l.drop (m + 6)).take n))).toList == (strOf ((l.drop m).take (6 + n))).toList) = false := by
              rw [beq_eq_false_iff_ne]
              exact fun e => h3 (strOf_inj HEB.out HQ.out.2.1 e)
            generalize strOf (enc ((l.drop (m + 6)).take n)) = S1 at hs1 hne
            generalize strOf ((l.drop m).take (6 + n)) = S2 at hs2 hne
            clear h3
            go_region
            clear hs1 hs2
            all_goals (try go_wp2)
            all_goals (go_ret3; exact ⟨u5, vs, qs, 11, m, rfl, ⟨HGot.out, .inr HV.out⟩, own_below HOwn.out HW1.out.drew, HTx.out.but (But.of (S := fun _ => False) HW1.out.drew) (fun _ _ h => h), HBel.out.trans (HW1.out.drew.mono HBel.out.size)⟩)
    · have hm2 : ¬ (m : Int) + 2 ≤ (len : Int) := by omega
      go_wp2
      go_ret3
      exact ⟨u5, vs, qs, 0, m, rfl, ⟨HGot.out, .inl ⟨rfl, FrM.look_short (by have := HL.out; simp; omega)⟩⟩, HOwn.out, HTx.out, HBel.out⟩

theorem told_any (S : Nat → Prop) (w : World) (hS : ∀ k, S k → k < w.heap.size) (a : Option Addr) (len cap : Nat) (l : List Nat) (h : Bts w a len l) (hBS : ∀ x, a = some x → 2 ≤ len → S x.block) (hcap : len ≤ cap) (hl : len ≤ 9000) :
    Calls Tryd.prog 8 #[.slice a len cap] w (TellsTold S l w) := by
  by_cases h2 : len < 2
  · exact told_short S w a len cap l h.1 h2
  · obtain ⟨B, off, rfl⟩ : ∃ B off, a = some ⟨B, off, none⟩ := by
      obtain ⟨_, _, _, h4 | ⟨B, off, e, _, _⟩⟩ := h
      · omega
      · exact ⟨B, off, e⟩
    exact told_long S w hS B off len cap (hBS _ rfl (by omega)) l h hcap hl
end Go.Proofs.YthlmjadknklafaaDoor
