/-
  The walk of encode, for requests: the ways.
-/
import Derived.Test.YtdpfmaikijilkaaEN
import Derived.Test.YtdpfmaikijilkaaE2
namespace Go.Proofs.Ytdpfmaikijilkaa
open Go Go.RowKit Go.Sort Go.Proofs Go.MapKept

theorem infoG (x y z : Value) : (Try.prog.info? 72).map (·.size) = some (#[x, y, z] : Array Value).size := by
  show _ = some 3
  kernel_rfl
theorem RqC_one' {q : Rq} {mv : Value} (h : (RqC q mv).all (·.oneCell') = true) (cs : Array Value) (e : cs = RqC q mv) : cs.all (·.oneCell') = true := by rw [e]; exact h
theorem enc_fin {w w9 W : World} {b : List UInt8} {v : Value} (ho : CB.Own 5 w.heap.size W v b) (hb : Below w.heap.size w W) (hl : b.length ≤ 60000) (h : Below W.heap.size W w9) : EncTo w (some b) (.returned (.tuple #[v, .int .i64 0])) w9 :=
  ⟨hb.trans (h.mono hb.size), hl, v, rfl, ho.below h⟩
set_option maxHeartbeats 4000000 in
set_option maxRecDepth 100000 in
theorem enc_tag (w : World) (base Mp : Nat) (hG : GMap 96 base Mp tabReq w) (q : Rq) (a : Option Addr) (cap : Nat) (ht : tabQ q.kind = none) :
    Calls Try.prog 30 #[gQ Mp, .agg (RqC q (.slice a q.model.length cap))] w (EncTo w none) := by
  have hun := Try.underlying22
  have hmn := Try.underlying70
  have hzs : ∀ W, (zeroValue 97).run Try.prog W = .ok (.slice none 0 0) W := fun W => by go_simp
  have hlk : lookF tabReq q.kind = none := by rw [tabQ_look, ht]; rfl
  have HLK : Hid (∀ W, Below w.heap.size w W → (Instr.lookup 70 (.map (some Mp)) (.int .i64 q.kind) true).run Try.prog W = .ok (.tuple #[.slice none 0 0, .bool false]) W) := fun W hW => (hG.below hW).look_none hmn hun (hzs W) hlk
  clear hlk hzs hun hmn ht hG
  obtain ⟨k, hk⟩ : ∃ k, k = q.kind := ⟨_, rfl⟩
  rw [← hk] at HLK
  obtain ⟨mv, hmv⟩ : ∃ mv, mv = Value.slice a q.model.length cap := ⟨_, rfl⟩
  have HMV : Hid ((RqC q mv).all (·.oneCell') = true) := by rw [Lib.hid_eq, hmv]; exact RqC_one q a _ cap
  have HK := Lib.hid hk
  have HMV2 := Lib.hid hmv
  rw [← hmv]
  clear hk hmv
  obtain ⟨cs, hcs⟩ : ∃ cs, cs = RqC q mv := ⟨_, rfl⟩
  rw [← hcs]
  have HCS := Lib.hid hcs
  clear hcs
  have HI : Hid ((Try.prog.info? 32).map (·.size) = some cs.size) := by rw [Lib.hid_eq, HCS.out]; exact infoQ _ _
  have HZ : Hid ((RqC (zeroQ 0) (.slice none 0 0)).size = cs.size) := by rw [Lib.hid_eq, HCS.out]; rfl
  go_enter Try.func30, Try.ntmps30
  go_wp2_with fail
  generalize hw2 : World.alloc (World.alloc _ _) _ = w2
  rw [HCS.out] at hw2
  obtain ⟨hd, hz⟩ := En0.of hw2
  obtain ⟨f2, m2, s2, k2⟩ := hd.cells
  rw [← HK.out] at k2
  have HD := Lib.hid (And.intro hd hz)
  clear hd hz hw2
  go_wp2_with (first
    | (go_at_call 51; refine (kindQ_any _ _).mono ?_; rintro e w6 ⟨rfl, rfl⟩)
    | (refine wpList_lookF rfl (.tmp 20) (.tmp 21) _ rfl _ _ _ rfl rfl (HLK.out _ HD.out.1.below) ?_)
    | (show wpList _ _ _ (Oper.mk _ (.load _ (.tmp 3)) _ _ _ _ :: _) _ _; refine wpList_load_row rfl 32 (.tmp 3) rfl (w.heap.size + 1) rfl 32 cs (0, 0) _ (by rw [HCS.out]; exact HD.out.1.b1) Try.underlying32 rfl HI.out ?_)
    | (show wpList _ _ _ (Oper.mk _ (.store _ (.tmp 9) (.tmp 25)) _ _ _ _ :: _) _ _; refine wpList_store_row rfl 32 (.tmp 9) (.tmp 25) rfl w2.heap.size cs rfl rfl 32 (RqC (zeroQ 0) (.slice none 0 0)) (heap_alloc_new _ _) HI.out HZ.out (RqC_one' HMV.out cs HCS.out) ?_; generalize hw3 : World.setRow _ _ _ = w3; rw [HCS.out, HD.out.2] at hw3; have H3 := Lib.hid (En3.of HD.out.1 HD.out.2 hw3); rw [HD.out.2]; clear hw3 f2 m2 s2 k2)
    | fail)
  go_ret2
  exact ⟨(H3.out.e0.below.alloc (by have := H3.out.size; omega) _).alloc (by have := H3.out.size; simp; omega) _, rfl⟩
set_option maxHeartbeats 4000000 in
set_option maxRecDepth 100000 in
theorem enc_bad (w : World) (base Mp : Nat) (hG : GMap 96 base Mp tabReq w) (q : Rq) (a : Option Addr) (cap : Nat) (ha : CB.At w a q.model.length q.model) (hc : q.model.length ≤ cap) (u1 : U32 q.id) (u2 : U32 q.num) (fs : List (FuncId × FldQ)) (ht : tabQ q.kind = some fs) (hp : passQ (fs.map (·.2)) q (.wr [byteI q.kind]) = none) :
    Calls Try.prog 30 #[gQ Mp, .agg (RqC q (.slice a q.model.length cap))] w (EncTo w none) := by
  have hun := Try.underlying22
  have hmn := Try.underlying70
  obtain ⟨hfl, hfs, hent⟩ := tabQ_ok ht
  have hlk : lookF tabReq q.kind = some (fs.map (·.1)) := by rw [tabQ_look, ht]; rfl
  obtain ⟨gf, hgf, hrow, hlook⟩ := hG.look_all (P := Try.prog) hmn hun hlk (by rw [List.length_map]; omega)
  rw [List.length_map] at hrow hlook
  have HLK : Hid (∀ W, Below w.heap.size w W → (Instr.lookup 70 (.map (some Mp)) (.int .i64 q.kind) true).run Try.prog W = .ok (.tuple #[.slice (some ⟨gf, 0, none⟩) fs.length fs.length, .bool true]) W) := hlook
  have HROW := Lib.hid (And.intro hgf hrow)
  have HF := Lib.hid (And.intro hfl (And.intro hfs hent))
  have HG := Lib.hid hG
  have HA := Lib.hid (And.intro ha (And.intro hc (And.intro u1 u2)))
  have HP := Lib.hid hp
  have hsz : q.model.length ≤ cap := hc
  clear hlk hlook hgf hrow hfl hfs hent hun hmn ht hG ha hc u1 u2 hp
  obtain ⟨k, hk⟩ : ∃ k, k = q.kind := ⟨_, rfl⟩
  rw [← hk] at HLK
  obtain ⟨mv, hmv⟩ : ∃ mv, mv = Value.slice a q.model.length cap := ⟨_, rfl⟩
  have HMV : Hid ((RqC q mv).all (·.oneCell') = true) := by rw [Lib.hid_eq, hmv]; exact RqC_one q a _ cap
  have HK := Lib.hid hk
  have HMV2 := Lib.hid hmv
  rw [← hmv]
  clear hk hmv
  obtain ⟨cs, hcs⟩ : ∃ cs, cs = RqC q mv := ⟨_, rfl⟩
  rw [← hcs]
  have HCS := Lib.hid hcs
  clear hcs
  have HI : Hid ((Try.prog.info? 32).map (·.size) = some cs.size) := by rw [Lib.hid_eq, HCS.out]; exact infoQ _ _
  have HZ : Hid ((RqC (zeroQ 0) (.slice none 0 0)).size = cs.size) := by rw [Lib.hid_eq, HCS.out]; rfl
  go_enter Try.func30, Try.ntmps30
  go_wp2_with fail
  generalize hw2 : World.alloc (World.alloc _ _) _ = w2
  rw [HCS.out] at hw2
  obtain ⟨hd, hz⟩ := En0.of hw2
  obtain ⟨f2, m2, s2, k2⟩ := hd.cells
  rw [← HK.out] at k2
  have HD := Lib.hid (And.intro hd hz)
  clear hd hz hw2
  go_wp2_with (first
    | (go_at_call 51; refine (kindQ_any _ _).mono ?_; rintro e w6 ⟨rfl, rfl⟩)
    | (refine wpList_lookF rfl (.tmp 20) (.tmp 21) _ rfl _ _ _ rfl rfl (HLK.out _ HD.out.1.below) ?_)
    | (show wpList _ _ _ (Oper.mk _ (.load _ (.tmp 3)) _ _ _ _ :: _) _ _; refine wpList_load_row rfl 32 (.tmp 3) rfl (w.heap.size + 1) rfl 32 cs (0, 0) _ (by rw [HCS.out]; exact HD.out.1.b1) Try.underlying32 rfl HI.out ?_)
    | (show wpList _ _ _ (Oper.mk _ (.store _ (.tmp 9) (.tmp 25)) _ _ _ _ :: _) _ _; refine wpList_store_row rfl 32 (.tmp 9) (.tmp 25) rfl w2.heap.size cs rfl rfl 32 (RqC (zeroQ 0) (.slice none 0 0)) (heap_alloc_new _ _) HI.out HZ.out (RqC_one' HMV.out cs HCS.out) ?_; generalize hw3 : World.setRow _ _ _ = w3; rw [HCS.out, HD.out.2] at hw3; have H3 := Lib.hid (En3.of HD.out.1 HD.out.2 hw3); rw [HD.out.2]; clear hw3 f2 m2 s2 k2)
    | (go_at_call 61; refine (writer_any _ _ [byteI q.kind]).mono ?_; rintro e w7 ⟨P7, rfl, hP7, hb7, hp7⟩; rw [HK.out] at hb7; have H7 := Lib.hid (En7.of H3.out (hb7.mono (by have := H3.out.size; simp; omega)) (Nat.le_trans (by have := H3.out.size; simp; omega) hP7) hp7); clear hb7 hp7 hP7)
    | (go_at_call 60; refine (passQ_any fs HF.out.2.1 HF.out.2.2 (En7.qat H7.out HMV2.out HA.out.1 HA.out.2.1 HA.out.2.2.1 HA.out.2.2.2) (by decide) _ _ HF.out.1 (HROW.out.2.below (H7.out.e0.below)) (fun p e _ => (by cases e; have := HROW.out.1; exact ⟨by show ¬ (gf = _ ∨ gf = _); omega, by show gf ≠ _; omega⟩))).mono ?_; rw [HP.out]; rintro e w8 ⟨hb8, rfl⟩; have HB8 := Lib.hid (H7.out.e0.but hb8 (fun k e => by omega)); clear hb8)
    | fail)
  go_ret2
  exact ⟨HB8.out.below, rfl⟩
set_option maxHeartbeats 4000000 in
set_option maxRecDepth 100000 in
theorem enc_rd (w : World) (base Mp : Nat) (hG : GMap 96 base Mp tabReq w) (q : Rq) (a : Option Addr) (cap : Nat) (ha : CB.At w a q.model.length q.model) (hc : q.model.length ≤ cap) (u1 : U32 q.id) (u2 : U32 q.num) (fs : List (FuncId × FldQ)) (ht : tabQ q.kind = some fs) (q8 : Rq) (r8 : List UInt8) (hp : passQ (fs.map (·.2)) q (.wr [byteI q.kind]) = some (q8, .rd r8)) :
    Calls Try.prog 30 #[gQ Mp, .agg (RqC q (.slice a q.model.length cap))] w (EncTo w none) := by
  have hun := Try.underlying22
  have hmn := Try.underlying70
  obtain ⟨hfl, hfs, hent⟩ := tabQ_ok ht
  have hlk : lookF tabReq q.kind = some (fs.map (·.1)) := by rw [tabQ_look, ht]; rfl
  obtain ⟨gf, hgf, hrow, hlook⟩ := hG.look_all (P := Try.prog) hmn hun hlk (by rw [List.length_map]; omega)
  rw [List.length_map] at hrow hlook
  have HLK : Hid (∀ W, Below w.heap.size w W → (Instr.lookup 70 (.map (some Mp)) (.int .i64 q.kind) true).run Try.prog W = .ok (.tuple #[.slice (some ⟨gf, 0, none⟩) fs.length fs.length, .bool true]) W) := hlook
  have HROW := Lib.hid (And.intro hgf hrow)
  have HF := Lib.hid (And.intro hfl (And.intro hfs hent))
  have HG := Lib.hid hG
  have HA := Lib.hid (And.intro ha (And.intro hc (And.intro u1 u2)))
  have HP := Lib.hid hp
  have hsz : q.model.length ≤ cap := hc
  clear hlk hlook hgf hrow hfl hfs hent hun hmn ht hG ha hc u1 u2 hp
  obtain ⟨k, hk⟩ : ∃ k, k = q.kind := ⟨_, rfl⟩
  rw [← hk] at HLK
  obtain ⟨mv, hmv⟩ : ∃ mv, mv = Value.slice a q.model.length cap := ⟨_, rfl⟩
  have HMV : Hid ((RqC q mv).all (·.oneCell') = true) := by rw [Lib.hid_eq, hmv]; exact RqC_one q a _ cap
  have HK := Lib.hid hk
  have HMV2 := Lib.hid hmv
  rw [← hmv]
  clear hk hmv
  obtain ⟨cs, hcs⟩ : ∃ cs, cs = RqC q mv := ⟨_, rfl⟩
  rw [← hcs]
  have HCS := Lib.hid hcs
  clear hcs
  have HI : Hid ((Try.prog.info? 32).map (·.size) = some cs.size) := by rw [Lib.hid_eq, HCS.out]; exact infoQ _ _
  have HZ : Hid ((RqC (zeroQ 0) (.slice none 0 0)).size = cs.size) := by rw [Lib.hid_eq, HCS.out]; rfl
  go_enter Try.func30, Try.ntmps30
  go_wp2_with fail
  generalize hw2 : World.alloc (World.alloc _ _) _ = w2
  rw [HCS.out] at hw2
  obtain ⟨hd, hz⟩ := En0.of hw2
  obtain ⟨f2, m2, s2, k2⟩ := hd.cells
  rw [← HK.out] at k2
  have HD := Lib.hid (And.intro hd hz)
  clear hd hz hw2
  go_wp2_with (first
    | (go_at_call 51; refine (kindQ_any _ _).mono ?_; rintro e w6 ⟨rfl, rfl⟩)
    | (refine wpList_lookF rfl (.tmp 20) (.tmp 21) _ rfl _ _ _ rfl rfl (HLK.out _ HD.out.1.below) ?_)
    | (show wpList _ _ _ (Oper.mk _ (.load _ (.tmp 3)) _ _ _ _ :: _) _ _; refine wpList_load_row rfl 32 (.tmp 3) rfl (w.heap.size + 1) rfl 32 cs (0, 0) _ (by rw [HCS.out]; exact HD.out.1.b1) Try.underlying32 rfl HI.out ?_)
    | (show wpList _ _ _ (Oper.mk _ (.store _ (.tmp 9) (.tmp 25)) _ _ _ _ :: _) _ _; refine wpList_store_row rfl 32 (.tmp 9) (.tmp 25) rfl w2.heap.size cs rfl rfl 32 (RqC (zeroQ 0) (.slice none 0 0)) (heap_alloc_new _ _) HI.out HZ.out (RqC_one' HMV.out cs HCS.out) ?_; generalize hw3 : World.setRow _ _ _ = w3; rw [HCS.out, HD.out.2] at hw3; have H3 := Lib.hid (En3.of HD.out.1 HD.out.2 hw3); rw [HD.out.2]; clear hw3 f2 m2 s2 k2)
    | (go_at_call 61; refine (writer_any _ _ [byteI q.kind]).mono ?_; rintro e w7 ⟨P7, rfl, hP7, hb7, hp7⟩; rw [HK.out] at hb7; have H7 := Lib.hid (En7.of H3.out (hb7.mono (by have := H3.out.size; simp; omega)) (Nat.le_trans (by have := H3.out.size; simp; omega) hP7) hp7); clear hb7 hp7 hP7)
    | (go_at_call 60; refine (passQ_any fs HF.out.2.1 HF.out.2.2 (En7.qat H7.out HMV2.out HA.out.1 HA.out.2.1 HA.out.2.2.1 HA.out.2.2.2) (by decide) _ _ HF.out.1 (HROW.out.2.below (H7.out.e0.below)) (fun p e _ => (by cases e; have := HROW.out.1; exact ⟨by show ¬ (gf = _ ∨ gf = _); omega, by show gf ≠ _; omega⟩))).mono ?_; rw [HP.out]; rintro e w8 ⟨hb8, rfl, F8, hs8, hq8⟩; exact (En8.no hq8).elim)
    | fail)
set_option maxHeartbeats 4000000 in
set_option maxRecDepth 100000 in
theorem enc_back (w : World) (base Mp : Nat) (hG : GMap 96 base Mp tabReq w) (q : Rq) (a : Option Addr) (cap : Nat) (ha : CB.At w a q.model.length q.model) (hc : q.model.length ≤ cap) (u1 : U32 q.id) (u2 : U32 q.num) (fs : List (FuncId × FldQ)) (ht : tabQ q.kind = some fs) (q8 : Rq) (b : List UInt8) (hp : passQ (fs.map (·.2)) q (.wr [byteI q.kind]) = some (q8, .wr b)) (back : Rq) (er : Int) (hd : decQ b = (back, er)) (her : ¬ er = 0) :
    Calls Try.prog 30 #[gQ Mp, .agg (RqC q (.slice a q.model.length cap))] w (EncTo w none) := by
  have hun := Try.underlying22
  have hmn := Try.underlying70
  obtain ⟨hfl, hfs, hent⟩ := tabQ_ok ht
  have hlk : lookF tabReq q.kind = some (fs.map (·.1)) := by rw [tabQ_look, ht]; rfl
  obtain ⟨gf, hgf, hrow, hlook⟩ := hG.look_all (P := Try.prog) hmn hun hlk (by rw [List.length_map]; omega)
  rw [List.length_map] at hrow hlook
  have HLK : Hid (∀ W, Below w.heap.size w W → (Instr.lookup 70 (.map (some Mp)) (.int .i64 q.kind) true).run Try.prog W = .ok (.tuple #[.slice (some ⟨gf, 0, none⟩) fs.length fs.length, .bool true]) W) := hlook
  have HROW := Lib.hid (And.intro hgf hrow)
  have HF := Lib.hid (And.intro hfl (And.intro hfs hent))
  have HG := Lib.hid hG
  have HA := Lib.hid (And.intro ha (And.intro hc (And.intro u1 u2)))
  have HP := Lib.hid hp
  have HDQ := Lib.hid hd
  clear hd
  have hsz : q.model.length ≤ cap := hc
  clear hlk hlook hgf hrow hfl hfs hent hun hmn ht hG ha hc u1 u2 hp
  obtain ⟨k, hk⟩ : ∃ k, k = q.kind := ⟨_, rfl⟩
  rw [← hk] at HLK
  obtain ⟨mv, hmv⟩ : ∃ mv, mv = Value.slice a q.model.length cap := ⟨_, rfl⟩
  have HMV : Hid ((RqC q mv).all (·.oneCell') = true) := by rw [Lib.hid_eq, hmv]; exact RqC_one q a _ cap
  have HK := Lib.hid hk
  have HMV2 := Lib.hid hmv
  rw [← hmv]
  clear hk hmv
  obtain ⟨cs, hcs⟩ : ∃ cs, cs = RqC q mv := ⟨_, rfl⟩
  rw [← hcs]
  have HCS := Lib.hid hcs
  clear hcs
  have HI : Hid ((Try.prog.info? 32).map (·.size) = some cs.size) := by rw [Lib.hid_eq, HCS.out]; exact infoQ _ _
  have HZ : Hid ((RqC (zeroQ 0) (.slice none 0 0)).size = cs.size) := by rw [Lib.hid_eq, HCS.out]; rfl
  go_enter Try.func30, Try.ntmps30
  go_wp2_with fail
  generalize hw2 : World.alloc (World.alloc _ _) _ = w2
  rw [HCS.out] at hw2
  obtain ⟨hd, hz⟩ := En0.of hw2
  obtain ⟨f2, m2, s2, k2⟩ := hd.cells
  rw [← HK.out] at k2
  have HD := Lib.hid (And.intro hd hz)
  clear hd hz hw2
  go_wp2_with (first
    | (go_at_call 51; refine (kindQ_any _ _).mono ?_; rintro e w6 ⟨rfl, rfl⟩)
    | (refine wpList_lookF rfl (.tmp 20) (.tmp 21) _ rfl _ _ _ rfl rfl (HLK.out _ HD.out.1.below) ?_)
    | (show wpList _ _ _ (Oper.mk _ (.load _ (.tmp 3)) _ _ _ _ :: _) _ _; refine wpList_load_row rfl 32 (.tmp 3) rfl (w.heap.size + 1) rfl 32 cs (0, 0) _ (by rw [HCS.out]; exact HD.out.1.b1) Try.underlying32 rfl HI.out ?_)
    | (show wpList _ _ _ (Oper.mk _ (.store _ (.tmp 9) (.tmp 25)) _ _ _ _ :: _) _ _; refine wpList_store_row rfl 32 (.tmp 9) (.tmp 25) rfl w2.heap.size cs rfl rfl 32 (RqC (zeroQ 0) (.slice none 0 0)) (heap_alloc_new _ _) HI.out HZ.out (RqC_one' HMV.out cs HCS.out) ?_; generalize hw3 : World.setRow _ _ _ = w3; rw [HCS.out, HD.out.2] at hw3; have H3 := Lib.hid (En3.of HD.out.1 HD.out.2 hw3); rw [HD.out.2]; clear hw3 f2 m2 s2 k2)
    | (go_at_call 61; refine (writer_any _ _ [byteI q.kind]).mono ?_; rintro e w7 ⟨P7, rfl, hP7, hb7, hp7⟩; rw [HK.out] at hb7; have H7 := Lib.hid (En7.of H3.out (hb7.mono (by have := H3.out.size; simp; omega)) (Nat.le_trans (by have := H3.out.size; simp; omega) hP7) hp7); clear hb7 hp7 hP7)
    | (go_at_call 60; refine (passQ_any fs HF.out.2.1 HF.out.2.2 (En7.qat H7.out HMV2.out HA.out.1 HA.out.2.1 HA.out.2.2.1 HA.out.2.2.2) (by decide) _ _ HF.out.1 (HROW.out.2.below (H7.out.e0.below)) (fun p e _ => (by cases e; have := HROW.out.1; exact ⟨by show ¬ (gf = _ ∨ gf = _); omega, by show gf ≠ _; omega⟩))).mono ?_; rw [HP.out]; rintro e w8 ⟨hb8, rfl, F8, hs8, hq8⟩; obtain ⟨ad8, c8, h8⟩ := En8.of H7.out hb8 hs8 hq8; have H8 := Lib.hid h8; have l8 : w8.cell? ⟨w3.heap.size + 1, 0, none⟩ = some (.slice ad8 b.length c8) := (by rw [H3.out.size]; exact h8.cell); clear hb8 hs8 hq8 h8)
    | (show wpList _ _ _ (Oper.mk _ (.load _ (.tmp 2)) _ _ _ _ :: _) _ _; refine wpList_load_row rfl 72 (.tmp 2) rfl w.heap.size rfl 72 #[.func (.func 51) #[] #[], .map (some Mp), .func (.func 27) #[] #[]] (0, 0) _ H8.out.e0.b0 Try.underlying72 rfl (infoG _ _ _) ?_)
    | (go_at_call 33; refine (decode_any w8 base Mp (HG.out.below H8.out.e0.below) ad8 c8 b H8.out.at_ H8.out.le H8.out.mx (Nat.le_trans H8.out.bd (by decide))).mono ?_; rw [HDQ.out]; rintro e w9 ⟨a9, c9, rfl, hle9, hat9, -, -, -, hb9⟩; have H9 := Lib.hid (And.intro (H8.out.below hb9) (And.intro hat9 hb9)); clear hle9 hat9 hb9 l8)
    | (show wpList _ _ _ (Oper.mk _ (.store _ (.tmp 11) (.tmp 41)) _ _ _ _ :: _) _ _; refine wpList_store_row rfl 32 (.tmp 11) (.tmp 41) rfl w9.heap.size (RqC back (.slice a9 back.model.length c9)) rfl rfl 32 (RqC (zeroQ 0) (.slice none 0 0)) (heap_alloc_new _ _) (infoQ _ _) rfl (RqC_one _ _ _ _) ?_; generalize hw10 : World.setRow _ _ _ = w10; have g1 : Below w9.heap.size w9 w10 := (by rw [← hw10]; exact (grow_row w9 _ _ _).1); have g2 : w10.heap[w9.heap.size]? = some (.cells (RqC back (.slice a9 back.model.length c9)) 32 (0, 0)) := (by rw [← hw10]; exact (grow_row w9 _ _ _).2); clear hw10; have h10 := H9.out.1.below g1; have H10 := Lib.hid (And.intro h10 (And.intro (H9.out.2.1.below g1) (And.intro g2 (H9.out.2.2.trans (g1.mono H9.out.2.2.size))))); have l10 : w10.cell? ⟨w3.heap.size + 1, 0, none⟩ = some (.slice ad8 b.length c8) := (by rw [H3.out.size]; exact h10.cell); obtain ⟨-, -, s10, -⟩ := h10.e0.cells; clear g1 g2 h10)
    | fail)
  go_ret2
  exact ⟨H10.out.1.e0.below, rfl⟩
set_option maxHeartbeats 4000000 in
set_option maxRecDepth 100000 in
theorem enc_diff (w : World) (base Mp : Nat) (hG : GMap 96 base Mp tabReq w) (q : Rq) (a : Option Addr) (cap : Nat) (ha : CB.At w a q.model.length q.model) (hc : q.model.length ≤ cap) (u1 : U32 q.id) (u2 : U32 q.num) (fs : List (FuncId × FldQ)) (ht : tabQ q.kind = some fs) (q8 : Rq) (b : List UInt8) (hp : passQ (fs.map (·.2)) q (.wr [byteI q.kind]) = some (q8, .wr b)) (back : Rq) (hd : decQ b = (back, 0)) (hsb : sameQ back q = false) :
    Calls Try.prog 30 #[gQ Mp, .agg (RqC q (.slice a q.model.length cap))] w (EncTo w none) := by
  have hun := Try.underlying22
  have hmn := Try.underlying70
  obtain ⟨hfl, hfs, hent⟩ := tabQ_ok ht
  have hlk : lookF tabReq q.kind = some (fs.map (·.1)) := by rw [tabQ_look, ht]; rfl
  obtain ⟨gf, hgf, hrow, hlook⟩ := hG.look_all (P := Try.prog) hmn hun hlk (by rw [List.length_map]; omega)
  rw [List.length_map] at hrow hlook
  have HLK : Hid (∀ W, Below w.heap.size w W → (Instr.lookup 70 (.map (some Mp)) (.int .i64 q.kind) true).run Try.prog W = .ok (.tuple #[.slice (some ⟨gf, 0, none⟩) fs.length fs.length, .bool true]) W) := hlook
  have HROW := Lib.hid (And.intro hgf hrow)
  have HF := Lib.hid (And.intro hfl (And.intro hfs hent))
  have HG := Lib.hid hG
  have HSM : Hid (∀ W a9 c9, CB.At W a9 back.model.length back.model → Below w.heap.size w W → ∀ cs, cs = RqC q (.slice a q.model.length cap) → Calls Try.prog 27 #[.agg (RqC back (.slice a9 back.model.length c9)), .agg cs] W (fun e w' => e = .returned (.bool (sameQ back q)) ∧ Below W.heap.size W w')) := fun W a9 c9 h1 h2 cs hcs => by rw [hcs]; exact sameRequest_any W back q a9 a c9 cap h1 (ha.below h2)
  have HSB := Lib.hid hsb
  clear hsb
  have HA := Lib.hid (And.intro ha (And.intro hc (And.intro u1 u2)))
  have HP := Lib.hid hp
  have HDQ := Lib.hid hd
  clear hd
  have hsz : q.model.length ≤ cap := hc
  clear hlk hlook hgf hrow hfl hfs hent hun hmn ht hG ha hc u1 u2 hp
  obtain ⟨k, hk⟩ : ∃ k, k = q.kind := ⟨_, rfl⟩
  rw [← hk] at HLK
  obtain ⟨mv, hmv⟩ : ∃ mv, mv = Value.slice a q.model.length cap := ⟨_, rfl⟩
  have HMV : Hid ((RqC q mv).all (·.oneCell') = true) := by rw [Lib.hid_eq, hmv]; exact RqC_one q a _ cap
  have HK := Lib.hid hk
  have HMV2 := Lib.hid hmv
  rw [← hmv]
  clear hk hmv
  obtain ⟨cs, hcs⟩ : ∃ cs, cs = RqC q mv := ⟨_, rfl⟩
  rw [← hcs]
  have HCS := Lib.hid hcs
  clear hcs
  have HI : Hid ((Try.prog.info? 32).map (·.size) = some cs.size) := by rw [Lib.hid_eq, HCS.out]; exact infoQ _ _
  have HZ : Hid ((RqC (zeroQ 0) (.slice none 0 0)).size = cs.size) := by rw [Lib.hid_eq, HCS.out]; rfl
  go_enter Try.func30, Try.ntmps30
  go_wp2_with fail
  generalize hw2 : World.alloc (World.alloc _ _) _ = w2
  rw [HCS.out] at hw2
  obtain ⟨hd, hz⟩ := En0.of hw2
  obtain ⟨f2, m2, s2, k2⟩ := hd.cells
  rw [← HK.out] at k2
  have HD := Lib.hid (And.intro hd hz)
  clear hd hz hw2
  go_wp2_with (first
    | (go_at_call 51; refine (kindQ_any _ _).mono ?_; rintro e w6 ⟨rfl, rfl⟩)
    | (refine wpList_lookF rfl (.tmp 20) (.tmp 21) _ rfl _ _ _ rfl rfl (HLK.out _ HD.out.1.below) ?_)
    | (show wpList _ _ _ (Oper.mk _ (.load _ (.tmp 3)) _ _ _ _ :: _) _ _; refine wpList_load_row rfl 32 (.tmp 3) rfl (w.heap.size + 1) rfl 32 cs (0, 0) _ (by rw [HCS.out]; exact HD.out.1.b1) Try.underlying32 rfl HI.out ?_)
    | (show wpList _ _ _ (Oper.mk _ (.store _ (.tmp 9) (.tmp 25)) _ _ _ _ :: _) _ _; refine wpList_store_row rfl 32 (.tmp 9) (.tmp 25) rfl w2.heap.size cs rfl rfl 32 (RqC (zeroQ 0) (.slice none 0 0)) (heap_alloc_new _ _) HI.out HZ.out (RqC_one' HMV.out cs HCS.out) ?_; generalize hw3 : World.setRow _ _ _ = w3; rw [HCS.out, HD.out.2] at hw3; have H3 := Lib.hid (En3.of HD.out.1 HD.out.2 hw3); rw [HD.out.2]; clear hw3 f2 m2 s2 k2)
    | (go_at_call 61; refine (writer_any _ _ [byteI q.kind]).mono ?_; rintro e w7 ⟨P7, rfl, hP7, hb7, hp7⟩; rw [HK.out] at hb7; have H7 := Lib.hid (En7.of H3.out (hb7.mono (by have := H3.out.size; simp; omega)) (Nat.le_trans (by have := H3.out.size; simp; omega) hP7) hp7); clear hb7 hp7 hP7)
    | (go_at_call 60; refine (passQ_any fs HF.out.2.1 HF.out.2.2 (En7.qat H7.out HMV2.out HA.out.1 HA.out.2.1 HA.out.2.2.1 HA.out.2.2.2) (by decide) _ _ HF.out.1 (HROW.out.2.below (H7.out.e0.below)) (fun p e _ => (by cases e; have := HROW.out.1; exact ⟨by show ¬ (gf = _ ∨ gf = _); omega, by show gf ≠ _; omega⟩))).mono ?_; rw [HP.out]; rintro e w8 ⟨hb8, rfl, F8, hs8, hq8⟩; obtain ⟨ad8, c8, h8⟩ := En8.of H7.out hb8 hs8 hq8; have H8 := Lib.hid h8; have l8 : w8.cell? ⟨w3.heap.size + 1, 0, none⟩ = some (.slice ad8 b.length c8) := (by rw [H3.out.size]; exact h8.cell); clear hb8 hs8 hq8 h8)
    | (show wpList _ _ _ (Oper.mk _ (.load _ (.tmp 2)) _ _ _ _ :: _) _ _; refine wpList_load_row rfl 72 (.tmp 2) rfl w.heap.size rfl 72 #[.func (.func 51) #[] #[], .map (some Mp), .func (.func 27) #[] #[]] (0, 0) _ H8.out.e0.b0 Try.underlying72 rfl (infoG _ _ _) ?_)
    | (go_at_call 33; refine (decode_any w8 base Mp (HG.out.below H8.out.e0.below) ad8 c8 b H8.out.at_ H8.out.le H8.out.mx (Nat.le_trans H8.out.bd (by decide))).mono ?_; rw [HDQ.out]; rintro e w9 ⟨a9, c9, rfl, hle9, hat9, -, -, -, hb9⟩; have H9 := Lib.hid (And.intro (H8.out.below hb9) (And.intro hat9 hb9)); clear hle9 hat9 hb9 l8)
    | (show wpList _ _ _ (Oper.mk _ (.store _ (.tmp 11) (.tmp 41)) _ _ _ _ :: _) _ _; refine wpList_store_row rfl 32 (.tmp 11) (.tmp 41) rfl w9.heap.size (RqC back (.slice a9 back.model.length c9)) rfl rfl 32 (RqC (zeroQ 0) (.slice none 0 0)) (heap_alloc_new _ _) (infoQ _ _) rfl (RqC_one _ _ _ _) ?_; generalize hw10 : World.setRow _ _ _ = w10; have g1 : Below w9.heap.size w9 w10 := (by rw [← hw10]; exact (grow_row w9 _ _ _).1); have g2 : w10.heap[w9.heap.size]? = some (.cells (RqC back (.slice a9 back.model.length c9)) 32 (0, 0)) := (by rw [← hw10]; exact (grow_row w9 _ _ _).2); clear hw10; have h10 := H9.out.1.below g1; have H10 := Lib.hid (And.intro h10 (And.intro (H9.out.2.1.below g1) (And.intro g2 (H9.out.2.2.trans (g1.mono H9.out.2.2.size))))); have l10 : w10.cell? ⟨w3.heap.size + 1, 0, none⟩ = some (.slice ad8 b.length c8) := (by rw [H3.out.size]; exact h10.cell); obtain ⟨-, -, s10, -⟩ := h10.e0.cells; clear g1 g2 h10)
    | (show wpList _ _ _ (Oper.mk _ (.load _ (.tmp 11)) _ _ _ _ :: _) _ _; refine wpList_load_row_on rfl 32 (.tmp 11) rfl w9.heap.size rfl 32 (RqC back (.slice a9 back.model.length c9)) (0, 0) _ H10.out.2.2.1 Try.underlying32 rfl (infoQ _ _) ?_)
    | (show wpList _ _ _ (Oper.mk _ (.load _ (.tmp 3)) _ _ _ _ :: _) _ _; refine wpList_load_row_on rfl 32 (.tmp 3) rfl (w.heap.size + 1) rfl 32 cs (0, 0) _ (by rw [HCS.out]; exact H10.out.1.e0.b1) Try.underlying32 rfl HI.out ?_)
    | (go_at_call 27; refine (HSM.out w10 a9 c9 H10.out.2.1 H10.out.1.e0.below cs (by rw [HCS.out, HMV2.out])).mono ?_; rw [HSB.out]; rintro e w11 ⟨rfl, hb11⟩; have H11 := Lib.hid (H10.out.1.below hb11); have l11 : w11.cell? ⟨w3.heap.size + 1, 0, none⟩ = some (.slice ad8 b.length c8) := (by rw [H3.out.size]; exact H11.out.cell); clear hb11 l10 s10)
    | fail)
  go_ret2
  exact ⟨H11.out.e0.below, rfl⟩
set_option maxHeartbeats 4000000 in
set_option maxRecDepth 100000 in
theorem enc_ok (w : World) (base Mp : Nat) (hG : GMap 96 base Mp tabReq w) (q : Rq) (a : Option Addr) (cap : Nat) (ha : CB.At w a q.model.length q.model) (hc : q.model.length ≤ cap) (u1 : U32 q.id) (u2 : U32 q.num) (fs : List (FuncId × FldQ)) (ht : tabQ q.kind = some fs) (q8 : Rq) (b : List UInt8) (hp : passQ (fs.map (·.2)) q (.wr [byteI q.kind]) = some (q8, .wr b)) (back : Rq) (hd : decQ b = (back, 0)) (hsb : sameQ back q = true) :
    Calls Try.prog 30 #[gQ Mp, .agg (RqC q (.slice a q.model.length cap))] w (EncTo w (some b)) := by
  have hun := Try.underlying22
  have hmn := Try.underlying70
  obtain ⟨hfl, hfs, hent⟩ := tabQ_ok ht
  have hlk : lookF tabReq q.kind = some (fs.map (·.1)) := by rw [tabQ_look, ht]; rfl
  obtain ⟨gf, hgf, hrow, hlook⟩ := hG.look_all (P := Try.prog) hmn hun hlk (by rw [List.length_map]; omega)
  rw [List.length_map] at hrow hlook
  have HLK : Hid (∀ W, Below w.heap.size w W → (Instr.lookup 70 (.map (some Mp)) (.int .i64 q.kind) true).run Try.prog W = .ok (.tuple #[.slice (some ⟨gf, 0, none⟩) fs.length fs.length, .bool true]) W) := hlook
  have HROW := Lib.hid (And.intro hgf hrow)
  have HF := Lib.hid (And.intro hfl (And.intro hfs hent))
  have HG := Lib.hid hG
  have HSM : Hid (∀ W a9 c9, CB.At W a9 back.model.length back.model → Below w.heap.size w W → ∀ cs, cs = RqC q (.slice a q.model.length cap) → Calls Try.prog 27 #[.agg (RqC back (.slice a9 back.model.length c9)), .agg cs] W (fun e w' => e = .returned (.bool (sameQ back q)) ∧ Below W.heap.size W w')) := fun W a9 c9 h1 h2 cs hcs => by rw [hcs]; exact sameRequest_any W back q a9 a c9 cap h1 (ha.below h2)
  have HSB := Lib.hid hsb
  clear hsb
  have HA := Lib.hid (And.intro ha (And.intro hc (And.intro u1 u2)))
  have HP := Lib.hid hp
  have HDQ := Lib.hid hd
  clear hd
  have hsz : q.model.length ≤ cap := hc
  clear hlk hlook hgf hrow hfl hfs hent hun hmn ht hG ha hc u1 u2 hp
  obtain ⟨k, hk⟩ : ∃ k, k = q.kind := ⟨_, rfl⟩
  rw [← hk] at HLK
  obtain ⟨mv, hmv⟩ : ∃ mv, mv = Value.slice a q.model.length cap := ⟨_, rfl⟩
  have HMV : Hid ((RqC q mv).all (·.oneCell') = true) := by rw [Lib.hid_eq, hmv]; exact RqC_one q a _ cap
  have HK := Lib.hid hk
  have HMV2 := Lib.hid hmv
  rw [← hmv]
  clear hk hmv
  obtain ⟨cs, hcs⟩ : ∃ cs, cs = RqC q mv := ⟨_, rfl⟩
  rw [← hcs]
  have HCS := Lib.hid hcs
  clear hcs
  have HI : Hid ((Try.prog.info? 32).map (·.size) = some cs.size) := by rw [Lib.hid_eq, HCS.out]; exact infoQ _ _
  have HZ : Hid ((RqC (zeroQ 0) (.slice none 0 0)).size = cs.size) := by rw [Lib.hid_eq, HCS.out]; rfl
  go_enter Try.func30, Try.ntmps30
  go_wp2_with fail
  generalize hw2 : World.alloc (World.alloc _ _) _ = w2
  rw [HCS.out] at hw2
  obtain ⟨hd, hz⟩ := En0.of hw2
  obtain ⟨f2, m2, s2, k2⟩ := hd.cells
  rw [← HK.out] at k2
  have HD := Lib.hid (And.intro hd hz)
  clear hd hz hw2
  go_wp2_with (first
    | (go_at_call 51; refine (kindQ_any _ _).mono ?_; rintro e w6 ⟨rfl, rfl⟩)
    | (refine wpList_lookF rfl (.tmp 20) (.tmp 21) _ rfl _ _ _ rfl rfl (HLK.out _ HD.out.1.below) ?_)
    | (show wpList _ _ _ (Oper.mk _ (.load _ (.tmp 3)) _ _ _ _ :: _) _ _; refine wpList_load_row rfl 32 (.tmp 3) rfl (w.heap.size + 1) rfl 32 cs (0, 0) _ (by rw [HCS.out]; exact HD.out.1.b1) Try.underlying32 rfl HI.out ?_)
    | (show wpList _ _ _ (Oper.mk _ (.store _ (.tmp 9) (.tmp 25)) _ _ _ _ :: _) _ _; refine wpList_store_row rfl 32 (.tmp 9) (.tmp 25) rfl w2.heap.size cs rfl rfl 32 (RqC (zeroQ 0) (.slice none 0 0)) (heap_alloc_new _ _) HI.out HZ.out (RqC_one' HMV.out cs HCS.out) ?_; generalize hw3 : World.setRow _ _ _ = w3; rw [HCS.out, HD.out.2] at hw3; have H3 := Lib.hid (En3.of HD.out.1 HD.out.2 hw3); rw [HD.out.2]; clear hw3 f2 m2 s2 k2)
    | (go_at_call 61; refine (writer_any _ _ [byteI q.kind]).mono ?_; rintro e w7 ⟨P7, rfl, hP7, hb7, hp7⟩; rw [HK.out] at hb7; have H7 := Lib.hid (En7.of H3.out (hb7.mono (by have := H3.out.size; simp; omega)) (Nat.le_trans (by have := H3.out.size; simp; omega) hP7) hp7); clear hb7 hp7 hP7)
    | (go_at_call 60; refine (passQ_any fs HF.out.2.1 HF.out.2.2 (En7.qat H7.out HMV2.out HA.out.1 HA.out.2.1 HA.out.2.2.1 HA.out.2.2.2) (by decide) _ _ HF.out.1 (HROW.out.2.below (H7.out.e0.below)) (fun p e _ => (by cases e; have := HROW.out.1; exact ⟨by show ¬ (gf = _ ∨ gf = _); omega, by show gf ≠ _; omega⟩))).mono ?_; rw [HP.out]; rintro e w8 ⟨hb8, rfl, F8, hs8, hq8⟩; obtain ⟨ad8, c8, h8⟩ := En8.of H7.out hb8 hs8 hq8; have H8 := Lib.hid h8; have l8 : w8.cell? ⟨w3.heap.size + 1, 0, none⟩ = some (.slice ad8 b.length c8) := (by rw [H3.out.size]; exact h8.cell); clear hb8 hs8 hq8 h8)
    | (show wpList _ _ _ (Oper.mk _ (.load _ (.tmp 2)) _ _ _ _ :: _) _ _; refine wpList_load_row rfl 72 (.tmp 2) rfl w.heap.size rfl 72 #[.func (.func 51) #[] #[], .map (some Mp), .func (.func 27) #[] #[]] (0, 0) _ H8.out.e0.b0 Try.underlying72 rfl (infoG _ _ _) ?_)
    | (go_at_call 33; refine (decode_any w8 base Mp (HG.out.below H8.out.e0.below) ad8 c8 b H8.out.at_ H8.out.le H8.out.mx (Nat.le_trans H8.out.bd (by decide))).mono ?_; rw [HDQ.out]; rintro e w9 ⟨a9, c9, rfl, hle9, hat9, -, -, -, hb9⟩; have H9 := Lib.hid (And.intro (H8.out.below hb9) (And.intro hat9 hb9)); clear hle9 hat9 hb9 l8)
    | (show wpList _ _ _ (Oper.mk _ (.store _ (.tmp 11) (.tmp 41)) _ _ _ _ :: _) _ _; refine wpList_store_row rfl 32 (.tmp 11) (.tmp 41) rfl w9.heap.size (RqC back (.slice a9 back.model.length c9)) rfl rfl 32 (RqC (zeroQ 0) (.slice none 0 0)) (heap_alloc_new _ _) (infoQ _ _) rfl (RqC_one _ _ _ _) ?_; generalize hw10 : World.setRow _ _ _ = w10; have g1 : Below w9.heap.size w9 w10 := (by rw [← hw10]; exact (grow_row w9 _ _ _).1); have g2 : w10.heap[w9.heap.size]? = some (.cells (RqC back (.slice a9 back.model.length c9)) 32 (0, 0)) := (by rw [← hw10]; exact (grow_row w9 _ _ _).2); clear hw10; have h10 := H9.out.1.below g1; have H10 := Lib.hid (And.intro h10 (And.intro (H9.out.2.1.below g1) (And.intro g2 (H9.out.2.2.trans (g1.mono H9.out.2.2.size))))); have l10 : w10.cell? ⟨w3.heap.size + 1, 0, none⟩ = some (.slice ad8 b.length c8) := (by rw [H3.out.size]; exact h10.cell); obtain ⟨-, -, s10, -⟩ := h10.e0.cells; clear g1 g2 h10)
    | (show wpList _ _ _ (Oper.mk _ (.load _ (.tmp 11)) _ _ _ _ :: _) _ _; refine wpList_load_row_on rfl 32 (.tmp 11) rfl w9.heap.size rfl 32 (RqC back (.slice a9 back.model.length c9)) (0, 0) _ H10.out.2.2.1 Try.underlying32 rfl (infoQ _ _) ?_)
    | (show wpList _ _ _ (Oper.mk _ (.load _ (.tmp 3)) _ _ _ _ :: _) _ _; refine wpList_load_row_on rfl 32 (.tmp 3) rfl (w.heap.size + 1) rfl 32 cs (0, 0) _ (by rw [HCS.out]; exact H10.out.1.e0.b1) Try.underlying32 rfl HI.out ?_)
    | (go_at_call 27; refine (HSM.out w10 a9 c9 H10.out.2.1 H10.out.1.e0.below cs (by rw [HCS.out, HMV2.out])).mono ?_; rw [HSB.out]; rintro e w11 ⟨rfl, hb11⟩; have H11 := Lib.hid (H10.out.1.below hb11); have l11 : w11.cell? ⟨w3.heap.size + 1, 0, none⟩ = some (.slice ad8 b.length c8) := (by rw [H3.out.size]; exact H11.out.cell); clear hb11 l10 s10)
    | fail)
  go_ret2
  exact enc_fin H11.out.own H11.out.e0.below H11.out.bd (Below.refl _ _)
theorem encode_any (w : World) (base Mp : Nat) (hG : GMap 96 base Mp tabReq w) (q : Rq) (a : Option Addr) (cap : Nat) (ha : CB.At w a q.model.length q.model) (hc : q.model.length ≤ cap) (u1 : U32 q.id) (u2 : U32 q.num) :
    Calls Try.prog 30 #[gQ Mp, .agg (RqC q (.slice a q.model.length cap))] w (EncTo w (encQ q)) := by
  unfold encQ
  cases ht : tabQ q.kind with
  | none => exact enc_tag w base Mp hG q a cap ht
  | some fs =>
    dsimp only
    cases hp : passQ (fs.map (·.2)) q (.wr [byteI q.kind]) with
    | none => exact enc_bad w base Mp hG q a cap ha hc u1 u2 fs ht hp
    | some r =>
      obtain ⟨q8, S8⟩ := r
      cases S8 with
      | rd r8 => exact enc_rd w base Mp hG q a cap ha hc u1 u2 fs ht q8 r8 hp
      | wr b =>
        dsimp only
        obtain ⟨back, er, hd⟩ : ∃ back er, decQ b = (back, er) := ⟨_, _, rfl⟩
        rw [hd]
        by_cases her : er = 0
        · subst her
          cases hsb : sameQ back q with
          | false =>
            rw [if_neg (fun e => by cases e.2)]
            exact enc_diff w base Mp hG q a cap ha hc u1 u2 fs ht q8 b hp back hd hsb
          | true =>
            rw [if_pos ⟨rfl, rfl⟩]
            exact enc_ok w base Mp hG q a cap ha hc u1 u2 fs ht q8 b hp back hd hsb
        · rw [if_neg (fun e => her e.1)]
          exact enc_back w base Mp hG q a cap ha hc u1 u2 fs ht q8 b hp back er hd her
end Go.Proofs.Ytdpfmaikijilkaa
