/- CharsetTells: it answers true, for any list of ranges and any rune. -/
import Derived.Test.YtaofhccgdcmojaaGS
namespace Go.Proofs.Ytaofhccgdcmojaa
open Go.RowKit Go.Shelf

theorem right2 (a : Option Addr) (L : List Rg) (c : Nat) (k : Bool) (w : World) (hL : L.length ≤ 30000) (hc : k = true ↔ Canon L) (ha : At w a L) :
    Calls Try.prog 13 #[.slice a L.length c] w fun e w' => e = .returned (.bool k) ∧ Below w.heap.size w w' := by
  refine (Right_any a L c w (by omega) ha.now).mono ?_
  rintro e w' ⟨q, rfl, h, h2⟩
  have : q = k := by rw [Bool.eq_iff_iff, h, hc]
  exact ⟨by rw [this], h2⟩
theorem rright2 (a : Option Addr) (L : List Rg) (c : Nat) (k : Bool) (w : World) (hL : L.length ≤ 30000) (hc : k = true ↔ Canon L) (ha : At w a L) :
    Calls Try.prog 14 #[.slice a L.length c] w fun e w' => e = .returned (.bool k) ∧ Below w.heap.size w w' := by
  refine (rRight_any a L c w (by omega) ha.now).mono ?_
  rintro e w' ⟨q, rfl, h, h2⟩
  have : q = k := by rw [Bool.eq_iff_iff, h, hc]
  exact ⟨by rw [this], h2⟩
theorem rhas1 (a : Option Addr) (L : List Rg) (c : Nat) (r : Int) (k : Bool) (w : World) (hL : L.length ≤ 30000) (hc : k = true ↔ inU L r) (ha : At w a L) :
    Calls Try.prog 18 #[.slice a L.length c, .int .i32 r] w fun e w' => e = .returned (.bool k) ∧ Below w.heap.size w w' := by
  refine (rHas_any a L c r w (by omega) ha.now).mono ?_
  rintro e w' ⟨q, rfl, h, h2⟩
  have : q = k := by rw [Bool.eq_iff_iff, h, hc]
  exact ⟨by rw [this], h2⟩
set_option maxHeartbeats 1000000 in
theorem Tells_long (ao : Option Addr) (n c : Nat) (r : Int) (w : World) (h : 60 < n) :
    Calls Try.prog 4 #[.slice ao n c, .int .i32 r] w fun e w' => e = .returned (.bool true) ∧ Below w.heap.size w w' := by
  have hk := Lib.hid (cknows_any w)
  go_enter Try.func4, Try.ntmps4
  go_wp2_with fail
  refine hk.out.mono ?_
  rintro e w1 ⟨rfl, b1⟩
  go_wp2
  go_ret
  exact ⟨rfl, b1⟩
set_option maxHeartbeats 2000000 in
theorem Tells_short (ao : Option Addr) (L : List Rg) (c : Nat) (r : Int) (w : World) (hL : L.length ≤ 60) (hA : At w ao L) :
    Calls Try.prog 4 #[.slice ao L.length c, .int .i32 r] w fun e w' => e = .returned (.bool true) ∧ Below w.heap.size w w' := by
  obtain ⟨k, hk⟩ : ∃ k : Bool, k = true ↔ Canon L := by
    by_cases h : Canon L
    · exact ⟨true, by simp [h]⟩
    · exact ⟨false, by simp [h]⟩
  obtain ⟨z, hz⟩ : ∃ z : Bool, z = true ↔ inU L r := ⟨memB L r, memB_iff L r⟩
  have hl := canF_is L
  have HA := Lib.hid hA; have HK := Lib.hid hk; have HZ := Lib.hid hz; have HL := Lib.hid hl
  clear hA hk hz hl
  generalize canF L = l at *
  go_enter Try.func4, Try.ntmps4
  go_wp2_with fail
  refine (right2 ao L c k w (by omega) HK.out HA.out).mono ?_
  rintro e w1 ⟨rfl, b1⟩
  have HB1 := Lib.hid b1
  clear b1
  go_wp2_with fail
  refine (rright2 ao L c k w1 (by omega) HK.out (HA.out.later HB1.out)).mono ?_
  rintro e w2 ⟨rfl, b2⟩
  have HB2 := Lib.hid (HB1.out.trans (b2.mono HB1.out.size))
  clear b2
  go_wp2_with fail
  refine (size1 ao L l c w2 (by omega) HL.out (HA.out.later HB2.out)).mono ?_
  rintro e w3 ⟨rfl, b3⟩
  have HB3 := Lib.hid (HB2.out.trans (b3.mono HB2.out.size))
  clear b3
  go_wp2_with fail
  refine (rSize_any ao L l c w3 (by omega) HL.out (HA.out.later HB3.out)).mono ?_
  rintro e w4 ⟨rfl, b4⟩
  have HB4 := Lib.hid (HB3.out.trans (b4.mono HB3.out.size))
  clear b4
  go_wp2_with fail
  refine (has1 ao L c r z w4 (by omega) HZ.out (HA.out.later HB4.out)).mono ?_
  rintro e w5 ⟨rfl, b5⟩
  have HB5 := Lib.hid (HB4.out.trans (b5.mono HB4.out.size))
  clear b5
  go_wp2_with fail
  refine (rhas1 ao L c r z w5 (by omega) HZ.out (HA.out.later HB5.out)).mono ?_
  rintro e w6 ⟨rfl, b6⟩
  have HB6 := Lib.hid (HB5.out.trans (b6.mono HB5.out.size))
  clear b6
  go_wp2_with fail
  refine (cknows_any w6).mono ?_
  rintro e w7 ⟨rfl, b7⟩
  have HB7 := Lib.hid (HB6.out.trans (b7.mono HB6.out.size))
  clear b7
  go_wp2
  go_ret
  exact ⟨rfl, HB7.out⟩
theorem CharsetTells_any (ao : Option Addr) (L : List Rg) (c : Nat) (r : Int) (w : World) (hA : At w ao L) :
    Calls Try.prog 4 #[.slice ao L.length c, .int .i32 r] w fun e w' => e = .returned (.bool true) ∧ Below w.heap.size w w' := by
  by_cases h1 : L.length ≤ 60
  · exact Tells_short ao L c r w h1 hA
  · exact Tells_long ao _ c r w (by omega)
end Go.Proofs.Ytaofhccgdcmojaa
