/-
  The walk of the text reader's numberOf.
-/
import Derived.Test.YtlgbkbmjfmomkaaDoorI2
import Derived.Test.YtlgbkbmjfmomkaaDoorI1
import Derived.Test.YtlgbkbmjfmomkaaDoorC8
namespace Go.Proofs.YtlgbkbmjfmomkaaDoor
open Go.RowKit CodM

def NumberTo (v : Int) (w : World) (e : Ending) (w' : World) : Prop := e = .returned (.int .i64 v) ∧ Below w.heap.size w w'
def NumberNo (w : World) (e : Ending) (w' : World) : Prop := e = .panicked codePanic ∧ Below w.heap.size w w'

set_option maxHeartbeats 1000000 in
set_option maxRecDepth 100000 in
theorem numberOf_range (s : ByteArray) (tp : TypeId) (pv : Value) (w : World) (hs : s.size ≤ 281474976710656) (hp : Lib.parseIntB 64 s.data.toList = .range) (hvar : w.var? Tryd.prog "strconv.ErrRange" = some #[.iface tp pv]) :
    Calls Tryd.prog 52 #[.string s] w (NumberNo w) := by
  have HP := Lib.hid hp
  have HS := Lib.hid hs
  have HV := Lib.hid hvar
  clear hp hs hvar
  go_enter Tryd.func52, Tryd.ntmps52
  go_wp2_with (first
    | (go_at_call 59; refine (Tryd.strconv_ParseInt_10_at64_range_var s HS.out HP.out tp pv _ HV.out).mono ?_; rintro e w1 ⟨N, rfl, hN, hh, hb1⟩; have HB := Lib.hid hb1; clear hb1 hh hN)
    | (go_at_call 49; refine (must_no _).mono ?_; rintro e w' ⟨rfl, rfl⟩))
  exact ⟨rfl, rfl, HB.out⟩
set_option maxHeartbeats 1000000 in
set_option maxRecDepth 100000 in
theorem numberOf_none (s : ByteArray) (tp tq : TypeId) (pv qv : Value) (w : World) (hs : s.size ≤ 281474976710656) (hp : ∀ v, Lib.parseIntB 64 s.data.toList ≠ .ok v) (hvar : w.var? Tryd.prog "strconv.ErrRange" = some #[.iface tp pv]) (hvar2 : w.var? Tryd.prog "strconv.ErrSyntax" = some #[.iface tq qv]) :
    Calls Tryd.prog 52 #[.string s] w (NumberNo w) := by
  cases hq : Lib.parseIntB 64 s.data.toList with
  | ok v => exact absurd hq (hp v)
  | range => exact numberOf_range s tp pv w hs hq hvar
  | _ =>
    have HC := Lib.hid (Any.strconv_ParseInt_10_at64_syntax_var Tryd.laysC174 s hs hq tq qv w hvar2)
    clear hq hs hvar hvar2 hp
    go_enter Tryd.func52, Tryd.ntmps52
    go_wp2_with (first
      | (go_at_call 59; refine Calls.mono HC.out ?_; rintro e w1 ⟨N, rfl, hN, hh, hb1⟩; have HB := Lib.hid hb1; clear hb1 hh hN)
      | (go_at_call 49; refine (must_no _).mono ?_; rintro e w' ⟨rfl, rfl⟩))
    exact ⟨rfl, rfl, HB.out⟩
theorem grow_below {B : Nat} (w : World) (k : Nat) (os : Array Obj) (h : B ≤ w.heap.size) : Below B w («Sort».grow (w.drewN k) os) :=
  ⟨rfl, rfl, rfl, by simp [«Sort».grow], fun j hj => by simp [«Sort».grow, Array.getElem?_append, show j < w.heap.size from by omega]⟩
theorem parse_ok (s : ByteArray) (v : Int) (w : World) (hs : s.size ≤ 281474976710656) (hp : Lib.parseIntB 64 s.data.toList = .ok v) :
    Calls Tryd.prog 59 #[.string s, .int .i64 10, .int .i64 64] w fun e w' => e = .returned (.tuple #[.int .i64 v, .nilIface]) ∧ Below w.heap.size w w' :=
  (Tryd.strconv_ParseInt_10_at64_ok s (by omega) v hp w).mono fun e w' ⟨h1, h2⟩ => ⟨h1, by
    rcases h2 with rfl | ⟨t, rfl⟩
    · exact Below.refl _ _
    · exact ⟨rfl, rfl, rfl, by rw [Lib.bytesWorld_size]; omega, fun k hk => Lib.bytesWorld_at_old _ _ _ k hk⟩⟩
set_option maxHeartbeats 2000000 in
set_option maxRecDepth 100000 in
theorem numberOf_again (s : ByteArray) (v : Int) (w : World) (hs : s.size ≤ 281474976710656) (hp : Lib.parseIntB 64 s.data.toList = .ok v) (hv : I64 v) (htab : Lib.TabIs Tryd.prog w "internal/strconv.uint64pow10" .u64 Lib.pow10Tab) (hne : ¬ strU (Lib.itoa v) = s) :
    Calls Tryd.prog 52 #[.string s] w (NumberNo w) := by
  have HC := Lib.hid (parse_ok s v w hs hp)
  have HT := Lib.hid htab
  have HV := Lib.hid hv
  obtain ⟨t, ht⟩ : ∃ t, t = strU (Lib.itoa v) := ⟨_, rfl⟩
  rw [← ht] at hne
  have hd := neq_bytes hne
  have H1 := Lib.hid ht
  clear hp hs htab ht hne hv
  go_enter Tryd.func52, Tryd.ntmps52
  go_wp2_with (first
    | (go_at_call 59; refine Calls.mono HC.out ?_; rintro e w1 ⟨rfl, hb1⟩; have HB := Lib.hid hb1; clear hb1)
    | (go_at_call 60; refine (Tryd.strconv_FormatInt_10 v HV.out.1 HV.out.2 _ (Lib.tabBelow_of_tabIs HT.out _ HB.out)).mono ?_; rintro e w2 ⟨rfl, k, os, rfl⟩; rw [show (⟨(Lib.itoa v).toArray⟩ : ByteArray) = t from H1.out.symm])
    | (go_at_call 49; refine (must_no _).mono ?_; rintro e w' ⟨rfl, rfl⟩))
  exact ⟨rfl, rfl, HB.out.trans (grow_below w1 k os (HB.out.size))⟩
set_option maxHeartbeats 2000000 in
set_option maxRecDepth 100000 in
theorem numberOf_yes (s : ByteArray) (v : Int) (w : World) (hs : s.size ≤ 281474976710656) (hp : Lib.parseIntB 64 s.data.toList = .ok v) (hv : I64 v) (htab : Lib.TabIs Tryd.prog w "internal/strconv.uint64pow10" .u64 Lib.pow10Tab) (hne : strU (Lib.itoa v) = s) :
    Calls Tryd.prog 52 #[.string s] w (NumberTo v w) := by
  have HC := Lib.hid (parse_ok s v w hs hp)
  have HT := Lib.hid htab
  have HV := Lib.hid hv
  obtain ⟨t, ht⟩ : ∃ t, t = strU (Lib.itoa v) := ⟨_, rfl⟩
  rw [← ht] at hne
  have hd : (t.toList == s.toList) = true := by rw [hne]; simp
  have H1 := Lib.hid ht
  clear hp hs htab ht hne hv
  go_enter Tryd.func52, Tryd.ntmps52
  go_wp2_with (first
    | (go_at_call 59; refine Calls.mono HC.out ?_; rintro e w1 ⟨rfl, hb1⟩; have HB := Lib.hid hb1; clear hb1)
    | (go_at_call 60; refine (Tryd.strconv_FormatInt_10 v HV.out.1 HV.out.2 _ (Lib.tabBelow_of_tabIs HT.out _ HB.out)).mono ?_; rintro e w2 ⟨rfl, k, os, rfl⟩; rw [show (⟨(Lib.itoa v).toArray⟩ : ByteArray) = t from H1.out.symm])
    | (go_at_call 49; refine (must_ok _).mono ?_; rintro e w' ⟨rfl, rfl⟩))
  go_ret
  exact ⟨rfl, HB.out.trans (grow_below w1 k os (HB.out.size))⟩
end Go.Proofs.YtlgbkbmjfmomkaaDoor
