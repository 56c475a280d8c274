/- The statement TextNumbers' body: every text and every two numbers. -/
import Derived.Test.YtfanaocengmpjaaDoorNM
import Derived.Test.YtfanaocengmpjaaDoorK
namespace Go.Proofs.YtfanaocengmpjaaDoor
open Go.RowKit

set_option maxHeartbeats 4000000 in
theorem Numbers_few (s : ByteArray) (x c : Int) (w : World) (hs : 300 < s.size) (hT : Lib.Utf8Tabs 0 1 w) :
    Calls Tryd.prog 6 #[.string s, .int .i64 x, .int .i64 c] w fun e w' => e = .returned (.bool true) ∧ Below w.heap.size w w' := by
  have HT := Lib.hid hT; clear hT
  go_enter Tryd.func6, Tryd.ntmps6
  go_wp2_with fail
  refine (few_no _ _ hs).mono ?_
  rintro e _ ⟨rfl, rfl⟩
  go_wp2_with fail
  refine (knows_any _ HT.out).mono ?_
  rintro e w1 ⟨rfl, b1⟩
  go_wp2
  go_ret
  exact ⟨rfl, b1⟩

theorem both_read (s : ByteArray) (c : Int) (hs : s.size ≤ 300) (hc : c ≤ 9223372036854775807) : ∃ n1 n2 : Int,
    (∀ w, Calls Tryd.prog 18 #[.string s, .int .i64 c] w fun e w' => e = .returned (.tuple #[.int .i64 n1, .int .i64 n2]) ∧ Below w.heap.size w w') ∧
    (∀ w, Calls Tryd.prog 19 #[.string s, .int .i64 c] w fun e w' => e = .returned (.tuple #[.int .i64 n1, .int .i64 n2]) ∧ w = w') :=
  ⟨(rreadZ s c).1, (rreadZ s c).2, fun w => by have := Read_any s c w hs hc; rwa [read_eq _ _ hc] at this, fun w => rRead_any s c w hs hc⟩
theorem both_show (x : Int) (h0 : -9223372036854775808 ≤ x) (h1 : x ≤ 9223372036854775807) : ∃ t : ByteArray, t.size ≤ 300 ∧ (0 ≤ x → readZ t x = (x, 0)) ∧
    (∀ w, Calls Tryd.prog 20 #[.int .i64 x] w fun e w' => e = .returned (.string t) ∧ Below w.heap.size w w') ∧
    (∀ w, Calls Tryd.prog 21 #[.int .i64 x] w fun e w' => e = .returned (.string t) ∧ Below w.heap.size w w') :=
  ⟨⟨(showB x).toArray⟩, show_size x, fun h => read_show x h h1, fun w => Show_any x w h0 h1, fun w => by have := rShow_any x w h0 h1; rwa [← show_eq x h0 h1] at this⟩

set_option maxHeartbeats 4000000 in
theorem Numbers_neg (s : ByteArray) (x c : Int) (w : World) (hs : s.size ≤ 300) (hx : x < 0) (h0 : -9223372036854775808 ≤ x) (hc : c ≤ 9223372036854775807) (hT : Lib.Utf8Tabs 0 1 w) :
    Calls Tryd.prog 6 #[.string s, .int .i64 x, .int .i64 c] w fun e w' => e = .returned (.bool true) ∧ Below w.heap.size w w' := by
  obtain ⟨n1, n2, hA, hB⟩ := both_read s c hs hc
  obtain ⟨t, ht, _, hC, hD⟩ := both_show x h0 (by omega)
  have HE := fun w => Read_any t x w ht (by omega)
  have HT := Lib.hid hT; clear hT h0 hc
  go_enter Tryd.func6, Tryd.ntmps6
  go_wp2_with fail
  refine (few_yes _ _ hs).mono ?_
  rintro e _ ⟨rfl, rfl⟩
  go_wp2_with fail
  refine (hA _).mono ?_
  rintro e w1 ⟨rfl, b1⟩
  go_wp2_with fail
  refine (hB _).mono ?_
  rintro e _ ⟨rfl, rfl⟩
  go_wp2_with fail
  refine (hC _).mono ?_
  rintro e w2 ⟨rfl, b2⟩
  have B2 := b1.trans (b2.mono b1.size)
  go_wp2_with fail
  refine (hD _).mono ?_
  rintro e w3 ⟨rfl, b3⟩
  have B3 := B2.trans (b3.mono B2.size)
  go_wp2_with fail
  refine (hC _).mono ?_
  rintro e w4 ⟨rfl, b4⟩
  have B4 := B3.trans (b4.mono B3.size)
  go_wp2_with fail
  refine (HE _).mono ?_
  rintro e w5 ⟨rfl, b5⟩
  have B5 := B4.trans (b5.mono B4.size)
  go_wp2_with fail
  refine (knows_any _ (Utf8Tabs_below HT.out B5)).mono ?_
  rintro e w6 ⟨rfl, b6⟩
  have B6 := B5.trans (b6.mono B5.size)
  go_wp2
  go_ret
  exact ⟨rfl, B6⟩

set_option maxHeartbeats 4000000 in
theorem Numbers_pos (s : ByteArray) (x c : Int) (w : World) (hs : s.size ≤ 300) (hx : 0 ≤ x) (h0 : x ≤ 9223372036854775807) (hc : c ≤ 9223372036854775807) (hT : Lib.Utf8Tabs 0 1 w) :
    Calls Tryd.prog 6 #[.string s, .int .i64 x, .int .i64 c] w fun e w' => e = .returned (.bool true) ∧ Below w.heap.size w w' := by
  obtain ⟨n1, n2, hA, hB⟩ := both_read s c hs hc
  obtain ⟨t, ht, hr, hC, hD⟩ := both_show x (by omega) h0
  have HE := fun w => Read_any t x w ht h0
  rw [hr hx] at HE
  have HT := Lib.hid hT; clear hT h0 hc hr
  go_enter Tryd.func6, Tryd.ntmps6
  go_wp2_with fail
  refine (few_yes _ _ hs).mono ?_
  rintro e _ ⟨rfl, rfl⟩
  go_wp2_with fail
  refine (hA _).mono ?_
  rintro e w1 ⟨rfl, b1⟩
  go_wp2_with fail
  refine (hB _).mono ?_
  rintro e _ ⟨rfl, rfl⟩
  go_wp2_with fail
  refine (hC _).mono ?_
  rintro e w2 ⟨rfl, b2⟩
  have B2 := b1.trans (b2.mono b1.size)
  go_wp2_with fail
  refine (hD _).mono ?_
  rintro e w3 ⟨rfl, b3⟩
  have B3 := B2.trans (b3.mono B2.size)
  go_wp2_with fail
  refine (hC _).mono ?_
  rintro e w4 ⟨rfl, b4⟩
  have B4 := B3.trans (b4.mono B3.size)
  go_wp2_with fail
  refine (HE _).mono ?_
  rintro e w5 ⟨rfl, b5⟩
  have B5 := B4.trans (b5.mono B4.size)
  go_wp2_with fail
  refine (knows_any _ (Utf8Tabs_below HT.out B5)).mono ?_
  rintro e w6 ⟨rfl, b6⟩
  have B6 := B5.trans (b6.mono B5.size)
  go_wp2
  go_ret
  exact ⟨rfl, B6⟩

theorem Numbers_any (s : ByteArray) (x c : Int) (w : World) (h0 : -9223372036854775808 ≤ x) (h1 : x ≤ 9223372036854775807) (hc : c ≤ 9223372036854775807) (hT : Lib.Utf8Tabs 0 1 w) :
    Calls Tryd.prog 6 #[.string s, .int .i64 x, .int .i64 c] w fun e w' => e = .returned (.bool true) ∧ Below w.heap.size w w' := by
  by_cases hs : s.size ≤ 300
  · by_cases hx : x < 0
    · exact Numbers_neg s x c w hs hx h0 hc hT
    · exact Numbers_pos s x c w hs (by omega) h1 hc hT
  · exact Numbers_few s x c w (by omega) hT
end Go.Proofs.YtfanaocengmpjaaDoor
