/-
  The walk of known: the chapter's rows.
-/
import Derived.Test.YtdpfmaikijilkaaWRS
namespace Go.Proofs.Ytdpfmaikijilkaa
open Go Go.RowKit Go.Sort Go.Proofs

def kq : Rq := ⟨7, 258, 0, [], 0, 0, 0, 0, 0, 0, 0, 0, 0, 0, 0, 0, 0⟩
def ks : Rs := ⟨5, 0, 11, 0, [], 0, 0, 0, 0, 0, 0, 0, 0, 0, 0, 0, 0, 0⟩
theorem kq_enc : encQ kq = some [7, 0, 0, 1, 2] := by rfl
theorem ks_enc : encS ks = some [5, 11] := by kernel_rfl
set_option maxHeartbeats 1000000 in
set_option maxRecDepth 100000 in
theorem known_any (w : World) : Calls Try.prog 8 #[] w (fun e w' => e = .returned (.bool true) ∧ Below w.heap.size w w') := by
  have HQ : Hid (∀ W, Calls Try.prog 9 #[.agg (RqC kq (.slice none 0 0))] W (EncTo W (some [7, 0, 0, 1, 2]))) := fun W => by
    rw [← kq_enc]
    exact EncodeRequest_any W kq none 0 (CB_nil _ _) (Nat.le_refl _) ⟨by decide, by decide⟩ ⟨by decide, by decide⟩
  have HS : Hid (∀ W, Calls Try.prog 15 #[.agg (RsC ks (.slice none 0 0))] W (EncTo W (some [5, 11]))) := fun W => by
    rw [← ks_enc]
    exact EncodeResponse_any W ks none 0 (CV_nil _ _) (Nat.le_refl _) ⟨by decide, by decide⟩ ⟨by decide, by decide⟩
  obtain ⟨s1, hs1⟩ : ∃ s, s = strB [7, 0, 0, 1, 2] := ⟨_, rfl⟩
  obtain ⟨s2, hs2⟩ : ∃ s, s = strB [5, 11] := ⟨_, rfl⟩
  have t1 : (s1.toList == ({ data := #[7, 0, 0, 1, 2] } : ByteArray).toList) = true := by rw [hs1]; exact strB_beq [7, 0, 0, 1, 2] [7, 0, 0, 1, 2]
  have t2 : (s2.toList == ({ data := #[5, 11] } : ByteArray).toList) = true := by rw [hs2]; exact strB_beq [5, 11] [5, 11]
  have t3 : (s2.toList == [5, 11]) = true := by rw [hs2, ByteArray.toList_eq]; rfl
  have t4 : (s1.toList == [7, 0, 0, 1, 2]) = true := by rw [hs1, ByteArray.toList_eq]; rfl
  have S1 := Lib.hid hs1
  have S2 := Lib.hid hs2
  clear hs1 hs2
  go_enter Try.func8, Try.ntmps8
  go_wp2_with (first
    | (go_at_call 9; refine (HQ.out w).mono ?_; rintro e w1 ⟨hb1, -, v1, rfl, ho1⟩; obtain ⟨a1, c1, rfl, -, hat1, -⟩ := ho1.at_ (by decide); have H1 := Lib.hid (And.intro hb1 hat1); clear hb1 ho1 hat1)
    | (go_at_call 15; refine (HS.out w1).mono ?_; rintro e w2 ⟨hb2, -, v2, rfl, ho2⟩; obtain ⟨a2, c2, rfl, -, hat2, -⟩ := ho2.at_ (by decide); have x1 : (convert 24 9 (.slice a1 5 c1)).run Try.prog w2 = .ok (.string s1) w2 := (by rw [S1.out]; exact (H1.out.2.below hb2).str c1); have x2 : (convert 24 9 (.slice a2 2 c2)).run Try.prog w2 = .ok (.string s2) w2 := (by rw [S2.out]; exact hat2.str c2); have H2 := Lib.hid (H1.out.1.trans (hb2.mono H1.out.1.size)); clear hb2 ho2 hat2))
  go_ret
  exact ⟨rfl, H2.out⟩
end Go.Proofs.Ytdpfmaikijilkaa
