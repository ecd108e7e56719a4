/-
  The walk of encode, for responses: the ways.
-/
import Derived.Test.YtdpfmaikijilkaaENS
import Derived.Test.YtdpfmaikijilkaaEN2
import Derived.Test.YtdpfmaikijilkaaE4
namespace Go.Proofs.Ytdpfmaikijilkaa
open Go Go.RowKit Go.Sort Go.Proofs Go.MapKept

theorem infoGS (x y z : Value) : (Try.prog.info? 78).map (·.size) = some (#[x, y, z] : Array Value).size := by
  show _ = some 3
  kernel_rfl
theorem RsC_one' {q : Rs} {mv : Value} (h : (RsC q mv).all (·.oneCell') = true) (cs : Array Value) (e : cs = RsC q mv) : cs.all (·.oneCell') = true := by rw [e]; exact h
set_option maxHeartbeats 4000000 in
set_option maxRecDepth 100000 in
theorem senc_tag (w : World) (base Mp : Nat) (hG : GMap 108 base Mp tabRes w) (q : Rs) (a : Option Addr) (cap : Nat) (ht : tabS q.kind = none) :
    Calls Try.prog 36 #[gS Mp, .agg (RsC q (.slice a q.vars.length cap))] w (EncTo w none) := by
  have hun := Try.underlying42
  have hmn := Try.underlying76
  have hzs : ∀ W, (zeroValue 109).run Try.prog W = .ok (.slice none 0 0) W := fun W => by go_simp
  have hlk : lookF tabRes q.kind = none := by rw [tabS_look, ht]; rfl
  have HLK : Hid (∀ W, Below w.heap.size w W → (Instr.lookup 76 (.map (some Mp)) (.int .i64 q.kind) true).run Try.prog W = .ok (.tuple #[.slice none 0 0, .bool false]) W) := fun W hW => (hG.below hW).look_none hmn hun (hzs W) hlk
  clear hlk hzs hun hmn ht hG
  obtain ⟨k, hk⟩ : ∃ k, k = q.kind := ⟨_, rfl⟩
  rw [← hk] at HLK
  obtain ⟨mv, hmv⟩ : ∃ mv, mv = Value.slice a q.vars.length cap := ⟨_, rfl⟩
  have HMV : Hid ((RsC q mv).all (·.oneCell') = true) := by rw [Lib.hid_eq, hmv]; exact RsC_one q a _ cap
  have HK := Lib.hid hk
  have HMV2 := Lib.hid hmv
  rw [← hmv]
  clear hk hmv
  obtain ⟨cs, hcs⟩ : ∃ cs, cs = RsC q mv := ⟨_, rfl⟩
  rw [← hcs]
  have HCS := Lib.hid hcs
  clear hcs
  have HI : Hid ((Try.prog.info? 47).map (·.size) = some cs.size) := by rw [Lib.hid_eq, HCS.out]; exact infoS _ _
  have HZ : Hid ((RsC (zeroS 0) (.slice none 0 0)).size = cs.size) := by rw [Lib.hid_eq, HCS.out]; rfl
  go_enter Try.func36, Try.ntmps36
  go_wp2_with fail
  generalize hw2 : World.alloc (World.alloc _ _) _ = w2
  rw [HCS.out] at hw2
  obtain ⟨hd, hz⟩ := Sn0.of hw2
  obtain ⟨f2, m2, s2, k2⟩ := hd.cells
  rw [← HK.out] at k2
  have HD := Lib.hid (And.intro hd hz)
  clear hd hz hw2
  go_wp2_with (first
    | (go_at_call 63; refine (kindS_any _ _).mono ?_; rintro e w6 ⟨rfl, rfl⟩)
    | (refine wpList_lookF rfl (.tmp 20) (.tmp 21) _ rfl _ _ _ rfl rfl (HLK.out _ HD.out.1.below) ?_)
    | (show wpList _ _ _ (Oper.mk _ (.load _ (.tmp 3)) _ _ _ _ :: _) _ _; refine wpList_load_row rfl 47 (.tmp 3) rfl (w.heap.size + 1) rfl 47 cs (0, 0) _ (by rw [HCS.out]; exact HD.out.1.b1) Try.underlying47 rfl HI.out ?_)
    | (show wpList _ _ _ (Oper.mk _ (.store _ (.tmp 9) (.tmp 25)) _ _ _ _ :: _) _ _; refine wpList_store_row rfl 47 (.tmp 9) (.tmp 25) rfl w2.heap.size cs rfl rfl 47 (RsC (zeroS 0) (.slice none 0 0)) (heap_alloc_new _ _) HI.out HZ.out (RsC_one' HMV.out cs HCS.out) ?_; generalize hw3 : World.setRow _ _ _ = w3; rw [HCS.out, HD.out.2] at hw3; have H3 := Lib.hid (Sn3.of HD.out.1 HD.out.2 hw3); rw [HD.out.2]; clear hw3 f2 m2 s2 k2)
    | fail)
  go_ret2
  exact ⟨(H3.out.e0.below.alloc (by have := H3.out.size; omega) _).alloc (by have := H3.out.size; simp; omega) _, rfl⟩
set_option maxHeartbeats 4000000 in
set_option maxRecDepth 100000 in
theorem senc_bad (w : World) (base Mp : Nat) (hG : GMap 108 base Mp tabRes w) (q : Rs) (a : Option Addr) (cap : Nat) (ha : CV.At w a q.vars.length q.vars) (hc : q.vars.length ≤ cap) (u1 : U32 q.id) (u2 : U32 q.num) (fs : List (FuncId × FldS)) (ht : tabS q.kind = some fs) (hp : passS (fs.map (·.2)) q (.wr [byteI q.kind]) = none) :
    Calls Try.prog 36 #[gS Mp, .agg (RsC q (.slice a q.vars.length cap))] w (EncTo w none) := by
  have hun := Try.underlying42
  have hmn := Try.underlying76
  obtain ⟨hfl, hfs, hent⟩ := tabS_ok ht
  have hlk : lookF tabRes q.kind = some (fs.map (·.1)) := by rw [tabS_look, ht]; rfl
  obtain ⟨gf, hgf, hrow, hlook⟩ := hG.look_all (P := Try.prog) hmn hun hlk (by rw [List.length_map]; omega)
  rw [List.length_map] at hrow hlook
  have HLK : Hid (∀ W, Below w.heap.size w W → (Instr.lookup 76 (.map (some Mp)) (.int .i64 q.kind) true).run Try.prog W = .ok (.tuple #[.slice (some ⟨gf, 0, none⟩) fs.length fs.length, .bool true]) W) := hlook
  have HROW := Lib.hid (And.intro hgf hrow)
  have HF := Lib.hid (And.intro hfl (And.intro hfs hent))
  have HG := Lib.hid hG
  have HA := Lib.hid (And.intro ha (And.intro hc (And.intro u1 u2)))
  have HP := Lib.hid hp
  have hsz : q.vars.length ≤ cap := hc
  clear hlk hlook hgf hrow hfl hfs hent hun hmn ht hG ha hc u1 u2 hp
  obtain ⟨k, hk⟩ : ∃ k, k = q.kind := ⟨_, rfl⟩
  rw [← hk] at HLK
  obtain ⟨mv, hmv⟩ : ∃ mv, mv = Value.slice a q.vars.length cap := ⟨_, rfl⟩
  have HMV : Hid ((RsC q mv).all (·.oneCell') = true) := by rw [Lib.hid_eq, hmv]; exact RsC_one q a _ cap
  have HK := Lib.hid hk
  have HMV2 := Lib.hid hmv
  rw [← hmv]
  clear hk hmv
  obtain ⟨cs, hcs⟩ : ∃ cs, cs = RsC q mv := ⟨_, rfl⟩
  rw [← hcs]
  have HCS := Lib.hid hcs
  clear hcs
  have HI : Hid ((Try.prog.info? 47).map (·.size) = some cs.size) := by rw [Lib.hid_eq, HCS.out]; exact infoS _ _
  have HZ : Hid ((RsC (zeroS 0) (.slice none 0 0)).size = cs.size) := by rw [Lib.hid_eq, HCS.out]; rfl
  go_enter Try.func36, Try.ntmps36
  go_wp2_with fail
  generalize hw2 : World.alloc (World.alloc _ _) _ = w2
  rw [HCS.out] at hw2
  obtain ⟨hd, hz⟩ := Sn0.of hw2
  obtain ⟨f2, m2, s2, k2⟩ := hd.cells
  rw [← HK.out] at k2
  have HD := Lib.hid (And.intro hd hz)
  clear hd hz hw2
  go_wp2_with (first
    | (go_at_call 63; refine (kindS_any _ _).mono ?_; rintro e w6 ⟨rfl, rfl⟩)
    | (refine wpList_lookF rfl (.tmp 20) (.tmp 21) _ rfl _ _ _ rfl rfl (HLK.out _ HD.out.1.below) ?_)
    | (show wpList _ _ _ (Oper.mk _ (.load _ (.tmp 3)) _ _ _ _ :: _) _ _; refine wpList_load_row rfl 47 (.tmp 3) rfl (w.heap.size + 1) rfl 47 cs (0, 0) _ (by rw [HCS.out]; exact HD.out.1.b1) Try.underlying47 rfl HI.out ?_)
    | (show wpList _ _ _ (Oper.mk _ (.store _ (.tmp 9) (.tmp 25)) _ _ _ _ :: _) _ _; refine wpList_store_row rfl 47 (.tmp 9) (.tmp 25) rfl w2.heap.size cs rfl rfl 47 (RsC (zeroS 0) (.slice none 0 0)) (heap_alloc_new _ _) HI.out HZ.out (RsC_one' HMV.out cs HCS.out) ?_; generalize hw3 : World.setRow _ _ _ = w3; rw [HCS.out, HD.out.2] at hw3; have H3 := Lib.hid (Sn3.of HD.out.1 HD.out.2 hw3); rw [HD.out.2]; clear hw3 f2 m2 s2 k2)
    | (go_at_call 61; refine (writer_any _ _ [byteI q.kind]).mono ?_; rintro e w7 ⟨P7, rfl, hP7, hb7, hp7⟩; rw [HK.out] at hb7; have H7 := Lib.hid (Sn7.of H3.out (hb7.mono (by have := H3.out.size; simp; omega)) (Nat.le_trans (by have := H3.out.size; simp; omega) hP7) hp7); clear hb7 hp7 hP7)
    | (go_at_call 71; refine (passS_any fs HF.out.2.1 HF.out.2.2 (Sn7.qat H7.out HMV2.out HA.out.1 HA.out.2.1 HA.out.2.2.1 HA.out.2.2.2) (by decide) _ _ HF.out.1 (HROW.out.2.below (H7.out.e0.below)) (fun p e _ => (by cases e; have := HROW.out.1; exact ⟨by show ¬ (gf = _ ∨ gf = _); omega, by show gf ≠ _; omega⟩))).mono ?_; rw [HP.out]; rintro e w8 ⟨hb8, rfl⟩; have HB8 := Lib.hid (H7.out.e0.but hb8 (fun k e => by omega)); clear hb8)
    | fail)
  go_ret2
  exact ⟨HB8.out.below, rfl⟩
set_option maxHeartbeats 4000000 in
set_option maxRecDepth 100000 in
theorem senc_rd (w : World) (base Mp : Nat) (hG : GMap 108 base Mp tabRes w) (q : Rs) (a : Option Addr) (cap : Nat) (ha : CV.At w a q.vars.length q.vars) (hc : q.vars.length ≤ cap) (u1 : U32 q.id) (u2 : U32 q.num) (fs : List (FuncId × FldS)) (ht : tabS q.kind = some fs) (q8 : Rs) (r8 : List UInt8) (hp : passS (fs.map (·.2)) q (.wr [byteI q.kind]) = some (q8, .rd r8)) :
    Calls Try.prog 36 #[gS Mp, .agg (RsC q (.slice a q.vars.length cap))] w (EncTo w none) := by
  have hun := Try.underlying42
  have hmn := Try.underlying76
  obtain ⟨hfl, hfs, hent⟩ := tabS_ok ht
  have hlk : lookF tabRes q.kind = some (fs.map (·.1)) := by rw [tabS_look, ht]; rfl
  obtain ⟨gf, hgf, hrow, hlook⟩ := hG.look_all (P := Try.prog) hmn hun hlk (by rw [List.length_map]; omega)
  rw [List.length_map] at hrow hlook
  have HLK : Hid (∀ W, Below w.heap.size w W → (Instr.lookup 76 (.map (some Mp)) (.int .i64 q.kind) true).run Try.prog W = .ok (.tuple #[.slice (some ⟨gf, 0, none⟩) fs.length fs.length, .bool true]) W) := hlook
  have HROW := Lib.hid (And.intro hgf hrow)
  have HF := Lib.hid (And.intro hfl (And.intro hfs hent))
  have HG := Lib.hid hG
  have HA := Lib.hid (And.intro ha (And.intro hc (And.intro u1 u2)))
  have HP := Lib.hid hp
  have hsz : q.vars.length ≤ cap := hc
  clear hlk hlook hgf hrow hfl hfs hent hun hmn ht hG ha hc u1 u2 hp
  obtain ⟨k, hk⟩ : ∃ k, k = q.kind := ⟨_, rfl⟩
  rw [← hk] at HLK
  obtain ⟨mv, hmv⟩ : ∃ mv, mv = Value.slice a q.vars.length cap := ⟨_, rfl⟩
  have HMV : Hid ((RsC q mv).all (·.oneCell') = true) := by rw [Lib.hid_eq, hmv]; exact RsC_one q a _ cap
  have HK := Lib.hid hk
  have HMV2 := Lib.hid hmv
  rw [← hmv]
  clear hk hmv
  obtain ⟨cs, hcs⟩ : ∃ cs, cs = RsC q mv := ⟨_, rfl⟩
  rw [← hcs]
  have HCS := Lib.hid hcs
  clear hcs
  have HI : Hid ((Try.prog.info? 47).map (·.size) = some cs.size) := by rw [Lib.hid_eq, HCS.out]; exact infoS _ _
  have HZ : Hid ((RsC (zeroS 0) (.slice none 0 0)).size = cs.size) := by rw [Lib.hid_eq, HCS.out]; rfl
  go_enter Try.func36, Try.ntmps36
  go_wp2_with fail
  generalize hw2 : World.alloc (World.alloc _ _) _ = w2
  rw [HCS.out] at hw2
  obtain ⟨hd, hz⟩ := Sn0.of hw2
  obtain ⟨f2, m2, s2, k2⟩ := hd.cells
  rw [← HK.out] at k2
  have HD := Lib.hid (And.intro hd hz)
  clear hd hz hw2
  go_wp2_with (first
    | (go_at_call 63; refine (kindS_any _ _).mono ?_; rintro e w6 ⟨rfl, rfl⟩)
    | (refine wpList_lookF rfl (.tmp 20) (.tmp 21) _ rfl _ _ _ rfl rfl (HLK.out _ HD.out.1.below) ?_)
    | (show wpList _ _ _ (Oper.mk _ (.load _ (.tmp 3)) _ _ _ _ :: _) _ _; refine wpList_load_row rfl 47 (.tmp 3) rfl (w.heap.size + 1) rfl 47 cs (0, 0) _ (by rw [HCS.out]; exact HD.out.1.b1) Try.underlying47 rfl HI.out ?_)
    | (show wpList _ _ _ (Oper.mk _ (.store _ (.tmp 9) (.tmp 25)) _ _ _ _ :: _) _ _; refine wpList_store_row rfl 47 (.tmp 9) (.tmp 25) rfl w2.heap.size cs rfl rfl 47 (RsC (zeroS 0) (.slice none 0 0)) (heap_alloc_new _ _) HI.out HZ.out (RsC_one' HMV.out cs HCS.out) ?_; generalize hw3 : World.setRow _ _ _ = w3; rw [HCS.out, HD.out.2] at hw3; have H3 := Lib.hid (Sn3.of HD.out.1 HD.out.2 hw3); rw [HD.out.2]; clear hw3 f2 m2 s2 k2)
    | (go_at_call 61; refine (writer_any _ _ [byteI q.kind]).mono ?_; rintro e w7 ⟨P7, rfl, hP7, hb7, hp7⟩; rw [HK.out] at hb7; have H7 := Lib.hid (Sn7.of H3.out (hb7.mono (by have := H3.out.size; simp; omega)) (Nat.le_trans (by have := H3.out.size; simp; omega) hP7) hp7); clear hb7 hp7 hP7)
    | (go_at_call 71; refine (passS_any fs HF.out.2.1 HF.out.2.2 (Sn7.qat H7.out HMV2.out HA.out.1 HA.out.2.1 HA.out.2.2.1 HA.out.2.2.2) (by decide) _ _ HF.out.1 (HROW.out.2.below (H7.out.e0.below)) (fun p e _ => (by cases e; have := HROW.out.1; exact ⟨by show ¬ (gf = _ ∨ gf = _); omega, by show gf ≠ _; omega⟩))).mono ?_; rw [HP.out]; rintro e w8 ⟨hb8, rfl, F8, hs8, hq8⟩; exact (Sn8.no hq8).elim)
    | fail)
set_option maxHeartbeats 4000000 in
set_option maxRecDepth 100000 in
theorem senc_back (w : World) (base Mp : Nat) (hG : GMap 108 base Mp tabRes w) (q : Rs) (a : Option Addr) (cap : Nat) (ha : CV.At w a q.vars.length q.vars) (hc : q.vars.length ≤ cap) (u1 : U32 q.id) (u2 : U32 q.num) (fs : List (FuncId × FldS)) (ht : tabS q.kind = some fs) (q8 : Rs) (b : List UInt8) (hp : passS (fs.map (·.2)) q (.wr [byteI q.kind]) = some (q8, .wr b)) (back : Rs) (er : Int) (hd : decS b = (back, er)) (her : ¬ er = 0) :
    Calls Try.prog 36 #[gS Mp, .agg (RsC q (.slice a q.vars.length cap))] w (EncTo w none) := by
  have hun := Try.underlying42
  have hmn := Try.underlying76
  obtain ⟨hfl, hfs, hent⟩ := tabS_ok ht
  have hlk : lookF tabRes q.kind = some (fs.map (·.1)) := by rw [tabS_look, ht]; rfl
  obtain ⟨gf, hgf, hrow, hlook⟩ := hG.look_all (P := Try.prog) hmn hun hlk (by rw [List.length_map]; omega)
  rw [List.length_map] at hrow hlook
  have HLK : Hid (∀ W, Below w.heap.size w W → (Instr.lookup 76 (.map (some Mp)) (.int .i64 q.kind) true).run Try.prog W = .ok (.tuple #[.slice (some ⟨gf, 0, none⟩) fs.length fs.length, .bool true]) W) := hlook
  have HROW := Lib.hid (And.intro hgf hrow)
  have HF := Lib.hid (And.intro hfl (And.intro hfs hent))
  have HG := Lib.hid hG
  have HA := Lib.hid (And.intro ha (And.intro hc (And.intro u1 u2)))
  have HP := Lib.hid hp
  have HDQ := Lib.hid hd
  clear hd
  have hsz : q.vars.length ≤ cap := hc
  clear hlk hlook hgf hrow hfl hfs hent hun hmn ht hG ha hc u1 u2 hp
  obtain ⟨k, hk⟩ : ∃ k, k = q.kind := ⟨_, rfl⟩
  rw [← hk] at HLK
  obtain ⟨mv, hmv⟩ : ∃ mv, mv = Value.slice a q.vars.length cap := ⟨_, rfl⟩
  have HMV : Hid ((RsC q mv).all (·.oneCell') = true) := by rw [Lib.hid_eq, hmv]; exact RsC_one q a _ cap
  have HK := Lib.hid hk
  have HMV2 := Lib.hid hmv
  rw [← hmv]
  clear hk hmv
  obtain ⟨cs, hcs⟩ : ∃ cs, cs = RsC q mv := ⟨_, rfl⟩
  rw [← hcs]
  have HCS := Lib.hid hcs
  clear hcs
  have HI : Hid ((Try.prog.info? 47).map (·.size) = some cs.size) := by rw [Lib.hid_eq, HCS.out]; exact infoS _ _
  have HZ : Hid ((RsC (zeroS 0) (.slice none 0 0)).size = cs.size) := by rw [Lib.hid_eq, HCS.out]; rfl
  go_enter Try.func36, Try.ntmps36
  go_wp2_with fail
  generalize hw2 : World.alloc (World.alloc _ _) _ = w2
  rw [HCS.out] at hw2
  obtain ⟨hd, hz⟩ := Sn0.of hw2
  obtain ⟨f2, m2, s2, k2⟩ := hd.cells
  rw [← HK.out] at k2
  have HD := Lib.hid (And.intro hd hz)
  clear hd hz hw2
  go_wp2_with (first
    | (go_at_call 63; refine (kindS_any _ _).mono ?_; rintro e w6 ⟨rfl, rfl⟩)
    | (refine wpList_lookF rfl (.tmp 20) (.tmp 21) _ rfl _ _ _ rfl rfl (HLK.out _ HD.out.1.below) ?_)
    | (show wpList _ _ _ (Oper.mk _ (.load _ (.tmp 3)) _ _ _ _ :: _) _ _; refine wpList_load_row rfl 47 (.tmp 3) rfl (w.heap.size + 1) rfl 47 cs (0, 0) _ (by rw [HCS.out]; exact HD.out.1.b1) Try.underlying47 rfl HI.out ?_)
    | (show wpList _ _ _ (Oper.mk _ (.store _ (.tmp 9) (.tmp 25)) _ _ _ _ :: _) _ _; refine wpList_store_row rfl 47 (.tmp 9) (.tmp 25) rfl w2.heap.size cs rfl rfl 47 (RsC (zeroS 0) (.slice none 0 0)) (heap_alloc_new _ _) HI.out HZ.out (RsC_one' HMV.out cs HCS.out) ?_; generalize hw3 : World.setRow _ _ _ = w3; rw [HCS.out, HD.out.2] at hw3; have H3 := Lib.hid (Sn3.of HD.out.1 HD.out.2 hw3); rw [HD.out.2]; clear hw3 f2 m2 s2 k2)
    | (go_at_call 61; refine (writer_any _ _ [byteI q.kind]).mono ?_; rintro e w7 ⟨P7, rfl, hP7, hb7, hp7⟩; rw [HK.out] at hb7; have H7 := Lib.hid (Sn7.of H3.out (hb7.mono (by have := H3.out.size; simp; omega)) (Nat.le_trans (by have := H3.out.size; simp; omega) hP7) hp7); clear hb7 hp7 hP7)
    | (go_at_call 71; refine (passS_any fs HF.out.2.1 HF.out.2.2 (Sn7.qat H7.out HMV2.out HA.out.1 HA.out.2.1 HA.out.2.2.1 HA.out.2.2.2) (by decide) _ _ HF.out.1 (HROW.out.2.below (H7.out.e0.below)) (fun p e _ => (by cases e; have := HROW.out.1; exact ⟨by show ¬ (gf = _ ∨ gf = _); omega, by show gf ≠ _; omega⟩))).mono ?_; rw [HP.out]; rintro e w8 ⟨hb8, rfl, F8, hs8, hq8⟩; obtain ⟨ad8, c8, h8⟩ := Sn8.of H7.out hb8 hs8 hq8; have H8 := Lib.hid h8; have l8 : w8.cell? ⟨w3.heap.size + 1, 0, none⟩ = some (.slice ad8 b.length c8) := (by rw [H3.out.size]; exact h8.cell); clear hb8 hs8 hq8 h8)
    | (show wpList _ _ _ (Oper.mk _ (.load _ (.tmp 2)) _ _ _ _ :: _) _ _; refine wpList_load_row rfl 78 (.tmp 2) rfl w.heap.size rfl 78 #[.func (.func 63) #[] #[], .map (some Mp), .func (.func 28) #[] #[]] (0, 0) _ H8.out.e0.b0 Try.underlying78 rfl (infoGS _ _ _) ?_)
    | (go_at_call 38; refine (sdecode_any w8 base Mp (HG.out.below H8.out.e0.below) ad8 c8 b H8.out.at_ H8.out.le H8.out.mx (Nat.le_trans H8.out.bd (by decide))).mono ?_; rw [HDQ.out]; rintro e w9 ⟨a9, c9, rfl, hle9, hat9, -, -, -, hb9⟩; have H9 := Lib.hid (And.intro (H8.out.below hb9) (And.intro hat9 hb9)); clear hle9 hat9 hb9 l8)
    | (show wpList _ _ _ (Oper.mk _ (.store _ (.tmp 11) (.tmp 41)) _ _ _ _ :: _) _ _; refine wpList_store_row rfl 47 (.tmp 11) (.tmp 41) rfl w9.heap.size (RsC back (.slice a9 back.vars.length c9)) rfl rfl 47 (RsC (zeroS 0) (.slice none 0 0)) (heap_alloc_new _ _) (infoS _ _) rfl (RsC_one _ _ _ _) ?_; generalize hw10 : World.setRow _ _ _ = w10; have g1 : Below w9.heap.size w9 w10 := (by rw [← hw10]; exact (grow_row w9 _ _ _).1); have g2 : w10.heap[w9.heap.size]? = some (.cells (RsC back (.slice a9 back.vars.length c9)) 47 (0, 0)) := (by rw [← hw10]; exact (grow_row w9 _ _ _).2); clear hw10; have h10 := H9.out.1.below g1; have H10 := Lib.hid (And.intro h10 (And.intro (H9.out.2.1.below g1) (And.intro g2 (H9.out.2.2.trans (g1.mono H9.out.2.2.size))))); have l10 : w10.cell? ⟨w3.heap.size + 1, 0, none⟩ = some (.slice ad8 b.length c8) := (by rw [H3.out.size]; exact h10.cell); obtain ⟨-, -, s10, -⟩ := h10.e0.cells; clear g1 g2 h10)
    | fail)
  go_ret2
  exact ⟨H10.out.1.e0.below, rfl⟩
set_option maxHeartbeats 4000000 in
set_option maxRecDepth 100000 in
theorem senc_diff (w : World) (base Mp : Nat) (hG : GMap 108 base Mp tabRes w) (q : Rs) (a : Option Addr) (cap : Nat) (ha : CV.At w a q.vars.length q.vars) (hc : q.vars.length ≤ cap) (u1 : U32 q.id) (u2 : U32 q.num) (fs : List (FuncId × FldS)) (ht : tabS q.kind = some fs) (q8 : Rs) (b : List UInt8) (hp : passS (fs.map (·.2)) q (.wr [byteI q.kind]) = some (q8, .wr b)) (back : Rs) (hd : decS b = (back, 0)) (hsb : sameS back q = false) :
    Calls Try.prog 36 #[gS Mp, .agg (RsC q (.slice a q.vars.length cap))] w (EncTo w none) := by
  have hun := Try.underlying42
  have hmn := Try.underlying76
  obtain ⟨hfl, hfs, hent⟩ := tabS_ok ht
  have hlk : lookF tabRes q.kind = some (fs.map (·.1)) := by rw [tabS_look, ht]; rfl
  obtain ⟨gf, hgf, hrow, hlook⟩ := hG.look_all (P := Try.prog) hmn hun hlk (by rw [List.length_map]; omega)
  rw [List.length_map] at hrow hlook
  have HLK : Hid (∀ W, Below w.heap.size w W → (Instr.lookup 76 (.map (some Mp)) (.int .i64 q.kind) true).run Try.prog W = .ok (.tuple #[.slice (some ⟨gf, 0, none⟩) fs.length fs.length, .bool true]) W) := hlook
  have HROW := Lib.hid (And.intro hgf hrow)
  have HF := Lib.hid (And.intro hfl (And.intro hfs hent))
  have HG := Lib.hid hG
  have HSM : Hid (∀ W a9 c9, CV.At W a9 back.vars.length back.vars → Below w.heap.size w W → ∀ cs, cs = RsC q (.slice a q.vars.length cap) → Calls Try.prog 28 #[.agg (RsC back (.slice a9 back.vars.length c9)), .agg cs] W (fun e w' => e = .returned (.bool (sameS back q)) ∧ Below W.heap.size W w')) := fun W a9 c9 h1 h2 cs hcs => by rw [hcs]; exact sameResponse_any W back q a9 a c9 cap h1 (ha.below h2)
  have HSB := Lib.hid hsb
  clear hsb
  have HA := Lib.hid (And.intro ha (And.intro hc (And.intro u1 u2)))
  have HP := Lib.hid hp
  have HDQ := Lib.hid hd
  clear hd
  have hsz : q.vars.length ≤ cap := hc
  clear hlk hlook hgf hrow hfl hfs hent hun hmn ht hG ha hc u1 u2 hp
  obtain ⟨k, hk⟩ : ∃ k, k = q.kind := ⟨_, rfl⟩
  rw [← hk] at HLK
  obtain ⟨mv, hmv⟩ : ∃ mv, mv = Value.slice a q.vars.length cap := ⟨_, rfl⟩
  have HMV : Hid ((RsC q mv).all (·.oneCell') = true) := by rw [Lib.hid_eq, hmv]; exact RsC_one q a _ cap
  have HK := Lib.hid hk
  have HMV2 := Lib.hid hmv
  rw [← hmv]
  clear hk hmv
  obtain ⟨cs, hcs⟩ : ∃ cs, cs = RsC q mv := ⟨_, rfl⟩
  rw [← hcs]
  have HCS := Lib.hid hcs
  clear hcs
  have HI : Hid ((Try.prog.info? 47).map (·.size) = some cs.size) := by rw [Lib.hid_eq, HCS.out]; exact infoS _ _
  have HZ : Hid ((RsC (zeroS 0) (.slice none 0 0)).size = cs.size) := by rw [Lib.hid_eq, HCS.out]; rfl
  go_enter Try.func36, Try.ntmps36
  go_wp2_with fail
  generalize hw2 : World.alloc (World.alloc _ _) _ = w2
  rw [HCS.out] at hw2
  obtain ⟨hd, hz⟩ := Sn0.of hw2
  obtain ⟨f2, m2, s2, k2⟩ := hd.cells
  rw [← HK.out] at k2
  have HD := Lib.hid (And.intro hd hz)
  clear hd hz hw2
  go_wp2_with (first
    | (go_at_call 63; refine (kindS_any _ _).mono ?_; rintro e w6 ⟨rfl, rfl⟩)
    | (refine wpList_lookF rfl (.tmp 20) (.tmp 21) _ rfl _ _ _ rfl rfl (HLK.out _ HD.out.1.below) ?_)
    | (show wpList _ _ _ (Oper.mk _ (.load _ (.tmp 3)) _ _ _ _ :: _) _ _; refine wpList_load_row rfl 47 (.tmp 3) rfl (w.heap.size + 1) rfl 47 cs (0, 0) _ (by rw [HCS.out]; exact HD.out.1.b1) Try.underlying47 rfl HI.out ?_)
    | (show wpList _ _ _ (Oper.mk _ (.store _ (.tmp 9) (.tmp 25)) _ _ _ _ :: _) _ _; refine wpList_store_row rfl 47 (.tmp 9) (.tmp 25) rfl w2.heap.size cs rfl rfl 47 (RsC (zeroS 0) (.slice none 0 0)) (heap_alloc_new _ _) HI.out HZ.out (RsC_one' HMV.out cs HCS.out) ?_; generalize hw3 : World.setRow _ _ _ = w3; rw [HCS.out, HD.out.2] at hw3; have H3 := Lib.hid (Sn3.of HD.out.1 HD.out.2 hw3); rw [HD.out.2]; clear hw3 f2 m2 s2 k2)
    | (go_at_call 61; refine (writer_any _ _ [byteI q.kind]).mono ?_; rintro e w7 ⟨P7, rfl, hP7, hb7, hp7⟩; rw [HK.out] at hb7; have H7 := Lib.hid (Sn7.of H3.out (hb7.mono (by have := H3.out.size; simp; omega)) (Nat.le_trans (by have := H3.out.size; simp; omega) hP7) hp7); clear hb7 hp7 hP7)
    | (go_at_call 71; refine (passS_any fs HF.out.2.1 HF.out.2.2 (Sn7.qat H7.out HMV2.out HA.out.1 HA.out.2.1 HA.out.2.2.1 HA.out.2.2.2) (by decide) _ _ HF.out.1 (HROW.out.2.below (H7.out.e0.below)) (fun p e _ => (by cases e; have := HROW.out.1; exact ⟨by show ¬ (gf = _ ∨ gf = _); omega, by show gf ≠ _; omega⟩))).mono ?_; rw [HP.out]; rintro e w8 ⟨hb8, rfl, F8, hs8, hq8⟩; obtain ⟨ad8, c8, h8⟩ := Sn8.of H7.out hb8 hs8 hq8; have H8 := Lib.hid h8; have l8 : w8.cell? ⟨w3.heap.size + 1, 0, none⟩ = some (.slice ad8 b.length c8) := (by rw [H3.out.size]; exact h8.cell); clear hb8 hs8 hq8 h8)
    | (show wpList _ _ _ (Oper.mk _ (.load _ (.tmp 2)) _ _ _ _ :: _) _ _; refine wpList_load_row rfl 78 (.tmp 2) rfl w.heap.size rfl 78 #[.func (.func 63) #[] #[], .map (some Mp), .func (.func 28) #[] #[]] (0, 0) _ H8.out.e0.b0 Try.underlying78 rfl (infoGS _ _ _) ?_)
    | (go_at_call 38; refine (sdecode_any w8 base Mp (HG.out.below H8.out.e0.below) ad8 c8 b H8.out.at_ H8.out.le H8.out.mx (Nat.le_trans H8.out.bd (by decide))).mono ?_; rw [HDQ.out]; rintro e w9 ⟨a9, c9, rfl, hle9, hat9, -, -, -, hb9⟩; have H9 := Lib.hid (And.intro (H8.out.below hb9) (And.intro hat9 hb9)); clear hle9 hat9 hb9 l8)
    | (show wpList _ _ _ (Oper.mk _ (.store _ (.tmp 11) (.tmp 41)) _ _ _ _ :: _) _ _; refine wpList_store_row rfl 47 (.tmp 11) (.tmp 41) rfl w9.heap.size (RsC back (.slice a9 back.vars.length c9)) rfl rfl 47 (RsC (zeroS 0) (.slice none 0 0)) (heap_alloc_new _ _) (infoS _ _) rfl (RsC_one _ _ _ _) ?_; generalize hw10 : World.setRow _ _ _ = w10; have g1 : Below w9.heap.size w9 w10 := (by rw [← hw10]; exact (grow_row w9 _ _ _).1); have g2 : w10.heap[w9.heap.size]? = some (.cells (RsC back (.slice a9 back.vars.length c9)) 47 (0, 0)) := (by rw [← hw10]; exact (grow_row w9 _ _ _).2); clear hw10; have h10 := H9.out.1.below g1; have H10 := Lib.hid (And.intro h10 (And.intro (H9.out.2.1.below g1) (And.intro g2 (H9.out.2.2.trans (g1.mono H9.out.2.2.size))))); have l10 : w10.cell? ⟨w3.heap.size + 1, 0, none⟩ = some (.slice ad8 b.length c8) := (by rw [H3.out.size]; exact h10.cell); obtain ⟨-, -, s10, -⟩ := h10.e0.cells; clear g1 g2 h10)
    | (show wpList _ _ _ (Oper.mk _ (.load _ (.tmp 11)) _ _ _ _ :: _) _ _; refine wpList_load_row_on rfl 47 (.tmp 11) rfl w9.heap.size rfl 47 (RsC back (.slice a9 back.vars.length c9)) (0, 0) _ H10.out.2.2.1 Try.underlying47 rfl (infoS _ _) ?_)
    | (show wpList _ _ _ (Oper.mk _ (.load _ (.tmp 3)) _ _ _ _ :: _) _ _; refine wpList_load_row_on rfl 47 (.tmp 3) rfl (w.heap.size + 1) rfl 47 cs (0, 0) _ (by rw [HCS.out]; exact H10.out.1.e0.b1) Try.underlying47 rfl HI.out ?_)
    | (go_at_call 28; refine (HSM.out w10 a9 c9 H10.out.2.1 H10.out.1.e0.below cs (by rw [HCS.out, HMV2.out])).mono ?_; rw [HSB.out]; rintro e w11 ⟨rfl, hb11⟩; have H11 := Lib.hid (H10.out.1.below hb11); have l11 : w11.cell? ⟨w3.heap.size + 1, 0, none⟩ = some (.slice ad8 b.length c8) := (by rw [H3.out.size]; exact H11.out.cell); clear hb11 l10 s10)
    | fail)
  go_ret2
  exact ⟨H11.out.e0.below, rfl⟩
set_option maxHeartbeats 4000000 in
set_option maxRecDepth 100000 in
theorem senc_ok (w : World) (base Mp : Nat) (hG : GMap 108 base Mp tabRes w) (q : Rs) (a : Option Addr) (cap : Nat) (ha : CV.At w a q.vars.length q.vars) (hc : q.vars.length ≤ cap) (u1 : U32 q.id) (u2 : U32 q.num) (fs : List (FuncId × FldS)) (ht : tabS q.kind = some fs) (q8 : Rs) (b : List UInt8) (hp : passS (fs.map (·.2)) q (.wr [byteI q.kind]) = some (q8, .wr b)) (back : Rs) (hd : decS b = (back, 0)) (hsb : sameS back q = true) :
    Calls Try.prog 36 #[gS Mp, .agg (RsC q (.slice a q.vars.length cap))] w (EncTo w (some b)) := by
  have hun := Try.underlying42
  have hmn := Try.underlying76
  obtain ⟨hfl, hfs, hent⟩ := tabS_ok ht
  have hlk : lookF tabRes q.kind = some (fs.map (·.1)) := by rw [tabS_look, ht]; rfl
  obtain ⟨gf, hgf, hrow, hlook⟩ := hG.look_all (P := Try.prog) hmn hun hlk (by rw [List.length_map]; omega)
  rw [List.length_map] at hrow hlook
  have HLK : Hid (∀ W, Below w.heap.size w W → (Instr.lookup 76 (.map (some Mp)) (.int .i64 q.kind) true).run Try.prog W = .ok (.tuple #[.slice (some ⟨gf, 0, none⟩) fs.length fs.length, .bool true]) W) := hlook
  have HROW := Lib.hid (And.intro hgf hrow)
  have HF := Lib.hid (And.intro hfl (And.intro hfs hent))
  have HG := Lib.hid hG
  have HSM : Hid (∀ W a9 c9, CV.At W a9 back.vars.length back.vars → Below w.heap.size w W → ∀ cs, cs = RsC q (.slice a q.vars.length cap) → Calls Try.prog 28 #[.agg (RsC back (.slice a9 back.vars.length c9)), .agg cs] W (fun e w' => e = .returned (.bool (sameS back q)) ∧ Below W.heap.size W w')) := fun W a9 c9 h1 h2 cs hcs => by rw [hcs]; exact sameResponse_any W back q a9 a c9 cap h1 (ha.below h2)
  have HSB := Lib.hid hsb
  clear hsb
  have HA := Lib.hid (And.intro ha (And.intro hc (And.intro u1 u2)))
  have HP := Lib.hid hp
  have HDQ := Lib.hid hd
  clear hd
  have hsz : q.vars.length ≤ cap := hc
  clear hlk hlook hgf hrow hfl hfs hent hun hmn ht hG ha hc u1 u2 hp
  obtain ⟨k, hk⟩ : ∃ k, k = q.kind := ⟨_, rfl⟩
  rw [← hk] at HLK
  obtain ⟨mv, hmv⟩ : ∃ mv, mv = Value.slice a q.vars.length cap := ⟨_, rfl⟩
  have HMV : Hid ((RsC q mv).all (·.oneCell') = true) := by rw [Lib.hid_eq, hmv]; exact RsC_one q a _ cap
  have HK := Lib.hid hk
  have HMV2 := Lib.hid hmv
  rw [← hmv]
  clear hk hmv
  obtain ⟨cs, hcs⟩ : ∃ cs, cs = RsC q mv := ⟨_, rfl⟩
  rw [← hcs]
  have HCS := Lib.hid hcs
  clear hcs
  have HI : Hid ((Try.prog.info? 47).map (·.size) = some cs.size) := by rw [Lib.hid_eq, HCS.out]; exact infoS _ _
  have HZ : Hid ((RsC (zeroS 0) (.slice none 0 0)).size = cs.size) := by rw [Lib.hid_eq, HCS.out]; rfl
  go_enter Try.func36, Try.ntmps36
  go_wp2_with fail
  generalize hw2 : World.alloc (World.alloc _ _) _ = w2
  rw [HCS.out] at hw2
  obtain ⟨hd, hz⟩ := Sn0.of hw2
  obtain ⟨f2, m2, s2, k2⟩ := hd.cells
  rw [← HK.out] at k2
  have HD := Lib.hid (And.intro hd hz)
  clear hd hz hw2
  go_wp2_with (first
    | (go_at_call 63; refine (kindS_any _ _).mono ?_; rintro e w6 ⟨rfl, rfl⟩)
    | (refine wpList_lookF rfl (.tmp 20) (.tmp 21) _ rfl _ _ _ rfl rfl (HLK.out _ HD.out.1.below) ?_)
    | (show wpList _ _ _ (Oper.mk _ (.load _ (.tmp 3)) _ _ _ _ :: _) _ _; refine wpList_load_row rfl 47 (.tmp 3) rfl (w.heap.size + 1) rfl 47 cs (0, 0) _ (by rw [HCS.out]; exact HD.out.1.b1) Try.underlying47 rfl HI.out ?_)
    | (show wpList _ _ _ (Oper.mk _ (.store _ (.tmp 9) (.tmp 25)) _ _ _ _ :: _) _ _; refine wpList_store_row rfl 47 (.tmp 9) (.tmp 25) rfl w2.heap.size cs rfl rfl 47 (RsC (zeroS 0) (.slice none 0 0)) (heap_alloc_new _ _) HI.out HZ.out (RsC_one' HMV.out cs HCS.out) ?_; generalize hw3 : World.setRow _ _ _ = w3; rw [HCS.out, HD.out.2] at hw3; have H3 := Lib.hid (Sn3.of HD.out.1 HD.out.2 hw3); rw [HD.out.2]; clear hw3 f2 m2 s2 k2)
    | (go_at_call 61; refine (writer_any _ _ [byteI q.kind]).mono ?_; rintro e w7 ⟨P7, rfl, hP7, hb7, hp7⟩; rw [HK.out] at hb7; have H7 := Lib.hid (Sn7.of H3.out (hb7.mono (by have := H3.out.size; simp; omega)) (Nat.le_trans (by have := H3.out.size; simp; omega) hP7) hp7); clear hb7 hp7 hP7)
    | (go_at_call 71; refine (passS_any fs HF.out.2.1 HF.out.2.2 (Sn7.qat H7.out HMV2.out HA.out.1 HA.out.2.1 HA.out.2.2.1 HA.out.2.2.2) (by decide) _ _ HF.out.1 (HROW.out.2.below (H7.out.e0.below)) (fun p e _ => (by cases e; have := HROW.out.1; exact ⟨by show ¬ (gf = _ ∨ gf = _); omega, by show gf ≠ _; omega⟩))).mono ?_; rw [HP.out]; rintro e w8 ⟨hb8, rfl, F8, hs8, hq8⟩; obtain ⟨ad8, c8, h8⟩ := Sn8.of H7.out hb8 hs8 hq8; have H8 := Lib.hid h8; have l8 : w8.cell? ⟨w3.heap.size + 1, 0, none⟩ = some (.slice ad8 b.length c8) := (by rw [H3.out.size]; exact h8.cell); clear hb8 hs8 hq8 h8)
    | (show wpList _ _ _ (Oper.mk _ (.load _ (.tmp 2)) _ _ _ _ :: _) _ _; refine wpList_load_row rfl 78 (.tmp 2) rfl w.heap.size rfl 78 #[.func (.func 63) #[] #[], .map (some Mp), .func (.func 28) #[] #[]] (0, 0) _ H8.out.e0.b0 Try.underlying78 rfl (infoGS _ _ _) ?_)
    | (go_at_call 38; refine (sdecode_any w8 base Mp (HG.out.below H8.out.e0.below) ad8 c8 b H8.out.at_ H8.out.le H8.out.mx (Nat.le_trans H8.out.bd (by decide))).mono ?_; rw [HDQ.out]; rintro e w9 ⟨a9, c9, rfl, hle9, hat9, -, -, -, hb9⟩; have H9 := Lib.hid (And.intro (H8.out.below hb9) (And.intro hat9 hb9)); clear hle9 hat9 hb9 l8)
    | (show wpList _ _ _ (Oper.mk _ (.store _ (.tmp 11) (.tmp 41)) _ _ _ _ :: _) _ _; refine wpList_store_row rfl 47 (.tmp 11) (.tmp 41) rfl w9.heap.size (RsC back (.slice a9 back.vars.length c9)) rfl rfl 47 (RsC (zeroS 0) (.slice none 0 0)) (heap_alloc_new _ _) (infoS _ _) rfl (RsC_one _ _ _ _) ?_; generalize hw10 : World.setRow _ _ _ = w10; have g1 : Below w9.heap.size w9 w10 := (by rw [← hw10]; exact (grow_row w9 _ _ _).1); have g2 : w10.heap[w9.heap.size]? = some (.cells (RsC back (.slice a9 back.vars.length c9)) 47 (0, 0)) := (by rw [← hw10]; exact (grow_row w9 _ _ _).2); clear hw10; have h10 := H9.out.1.below g1; have H10 := Lib.hid (And.intro h10 (And.intro (H9.out.2.1.below g1) (And.intro g2 (H9.out.2.2.trans (g1.mono H9.out.2.2.size))))); have l10 : w10.cell? ⟨w3.heap.size + 1, 0, none⟩ = some (.slice ad8 b.length c8) := (by rw [H3.out.size]; exact h10.cell); obtain ⟨-, -, s10, -⟩ := h10.e0.cells; clear g1 g2 h10)
    | (show wpList _ _ _ (Oper.mk _ (.load _ (.tmp 11)) _ _ _ _ :: _) _ _; refine wpList_load_row_on rfl 47 (.tmp 11) rfl w9.heap.size rfl 47 (RsC back (.slice a9 back.vars.length c9)) (0, 0) _ H10.out.2.2.1 Try.underlying47 rfl (infoS _ _) ?_)
    | (show wpList _ _ _ (Oper.mk _ (.load _ (.tmp 3)) _ _ _ _ :: _) _ _; refine wpList_load_row_on rfl 47 (.tmp 3) rfl (w.heap.size + 1) rfl 47 cs (0, 0) _ (by rw [HCS.out]; exact H10.out.1.e0.b1) Try.underlying47 rfl HI.out ?_)
    | (go_at_call 28; refine (HSM.out w10 a9 c9 H10.out.2.1 H10.out.1.e0.below cs (by rw [HCS.out, HMV2.out])).mono ?_; rw [HSB.out]; rintro e w11 ⟨rfl, hb11⟩; have H11 := Lib.hid (H10.out.1.below hb11); have l11 : w11.cell? ⟨w3.heap.size + 1, 0, none⟩ = some (.slice ad8 b.length c8) := (by rw [H3.out.size]; exact H11.out.cell); clear hb11 l10 s10)
    | fail)
  go_ret2
  exact enc_fin H11.out.own H11.out.e0.below H11.out.bd (Below.refl _ _)
theorem sencode_any (w : World) (base Mp : Nat) (hG : GMap 108 base Mp tabRes w) (q : Rs) (a : Option Addr) (cap : Nat) (ha : CV.At w a q.vars.length q.vars) (hc : q.vars.length ≤ cap) (u1 : U32 q.id) (u2 : U32 q.num) :
    Calls Try.prog 36 #[gS Mp, .agg (RsC q (.slice a q.vars.length cap))] w (EncTo w (encS q)) := by
  unfold encS
  cases ht : tabS q.kind with
  | none => exact senc_tag w base Mp hG q a cap ht
  | some fs =>
    dsimp only
    cases hp : passS (fs.map (·.2)) q (.wr [byteI q.kind]) with
    | none => exact senc_bad w base Mp hG q a cap ha hc u1 u2 fs ht hp
    | some r =>
      obtain ⟨q8, S8⟩ := r
      cases S8 with
      | rd r8 => exact senc_rd w base Mp hG q a cap ha hc u1 u2 fs ht q8 r8 hp
      | wr b =>
        dsimp only
        obtain ⟨back, er, hd⟩ : ∃ back er, decS b = (back, er) := ⟨_, _, rfl⟩
        rw [hd]
        by_cases her : er = 0
        · subst her
          cases hsb : sameS back q with
          | false =>
            rw [if_neg (fun e => by cases e.2)]
            exact senc_diff w base Mp hG q a cap ha hc u1 u2 fs ht q8 b hp back hd hsb
          | true =>
            rw [if_pos ⟨rfl, rfl⟩]
            exact senc_ok w base Mp hG q a cap ha hc u1 u2 fs ht q8 b hp back hd hsb
        · rw [if_neg (fun e => her e.1)]
          exact senc_back w base Mp hG q a cap ha hc u1 u2 fs ht q8 b hp back er hd her
end Go.Proofs.Ytdpfmaikijilkaa
