/- CharsetMade: it answers true, for any list of ranges. -/
import Derived.Test.YtaofhccgdcmojaaGO
namespace Go.Proofs.Ytaofhccgdcmojaa
open Go.RowKit Go.Shelf

theorem of1 (a : Option Addr) (L : List Rg) (c : Nat) (w : World) (hL : L.length ≤ 20000) (ha : At w a L) :
    Calls Try.prog 10 #[.slice a L.length c] w fun e w' => ∃ x n l, e = .returned (.slice x l.length n) ∧ IsOf L l ∧ l.length ≤ 20000 ∧ At w' x l ∧ Below w.heap.size w w' := by
  refine (Of_any a L c w (by omega) ha.now).mono ?_
  rintro e w' ⟨v, l, rfl, h, h2, o, b⟩
  obtain ⟨x, n, rfl, R⟩ := rgs_of_own o
  exact ⟨x, n, l, rfl, h, by omega, at_of R, b⟩
set_option maxHeartbeats 1000000 in
theorem Made_long (ao : Option Addr) (n c : Nat) (w : World) (h : 60 < n) :
    Calls Try.prog 3 #[.slice ao n c] w fun e w' => e = .returned (.bool true) ∧ Below w.heap.size w w' := by
  have hk := Lib.hid (cknows_any w)
  go_enter Try.func3, Try.ntmps3
  go_wp2_with fail
  refine hk.out.mono ?_
  rintro e w1 ⟨rfl, b1⟩
  go_wp2
  go_ret
  exact ⟨rfl, b1⟩
set_option maxHeartbeats 1000000 in
theorem Made_short (ao : Option Addr) (L : List Rg) (c : Nat) (w : World) (hL : L.length ≤ 60) (hA : At w ao L) :
    Calls Try.prog 3 #[.slice ao L.length c] w fun e w' => e = .returned (.bool true) ∧ Below w.heap.size w w' := by
  have HA := Lib.hid hA
  clear hA
  go_enter Try.func3, Try.ntmps3
  go_wp2_with fail
  refine (of1 ao L c w (by omega) HA.out).mono ?_
  rintro e w1 ⟨x, n, s, rfl, h1, l1, A1, b1⟩
  have H1 := Lib.hid h1; have HA1 := Lib.hid A1; have HB1 := Lib.hid b1
  clear h1 A1 b1
  go_wp2_with fail
  refine (rOf_any ao L c w1 (by omega) (HA.out.later HB1.out)).mono ?_
  rintro e w2 ⟨x2, n2, s2, rfl, h2, A2, b2⟩
  have H2 := Lib.hid h2; have HA2 := Lib.hid A2; have HB2 := Lib.hid b2
  clear h2 A2 b2
  go_wp2_with fail
  refine (same_eq x x2 s s2 n n2 w2 (by omega) (isOf_one H1.out H2.out) (HA1.out.later HB2.out) HA2.out).mono ?_
  rintro e w3 ⟨rfl, b3⟩
  have HB3 := Lib.hid (HB2.out.trans (b3.mono HB2.out.size))
  clear b3
  go_wp2_with fail
  refine (right1 x s n w3 (by omega) H1.out.1 (HA1.out.later HB3.out)).mono ?_
  rintro e w4 ⟨rfl, b4⟩
  have HB4 := Lib.hid (HB3.out.trans (b4.mono HB3.out.size))
  clear b4
  go_wp2_with fail
  refine (cknows_any w4).mono ?_
  rintro e w5 ⟨rfl, b5⟩
  have HB5 := Lib.hid (HB4.out.trans (b5.mono HB4.out.size))
  clear b5
  go_wp2
  go_ret
  exact ⟨rfl, HB1.out.trans (HB5.out.mono HB1.out.size)⟩
theorem CharsetMade_any (ao : Option Addr) (L : List Rg) (c : Nat) (w : World) (hA : At w ao L) :
    Calls Try.prog 3 #[.slice ao L.length c] w fun e w' => e = .returned (.bool true) ∧ Below w.heap.size w w' := by
  by_cases h1 : L.length ≤ 60
  · exact Made_short ao L c w h1 hA
  · exact Made_long ao _ c w (by omega)
end Go.Proofs.Ytaofhccgdcmojaa
