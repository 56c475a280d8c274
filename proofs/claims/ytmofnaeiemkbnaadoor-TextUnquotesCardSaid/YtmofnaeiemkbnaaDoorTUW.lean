/- The statement TextUnquotes' body: every text. Condition: the tables of unicode/utf8 are as laid. -/
import Derived.Test.YtmofnaeiemkbnaaDoorTU
import Derived.Test.YtmofnaeiemkbnaaDoorUA
import Derived.Test.YtmofnaeiemkbnaaDoorK
namespace Go.Proofs.YtmofnaeiemkbnaaDoor
open Go.RowKit Go.Shelf

set_option maxHeartbeats 4000000 in
theorem TUnquotes_few (s : ByteArray) (w : World) (hs : 300 < s.size) (hT : Lib.Utf8Tabs 0 1 w) :
    Calls Tryd.prog 8 #[.string s] w fun e w' => e = .returned (.bool true) ∧ Below w.heap.size w w' := by
  have HT := Lib.hid hT; clear hT
  go_enter Tryd.func8, Tryd.ntmps8
  go_wp2_with fail
  refine (few_no _ _ hs).mono ?_
  rintro e _ ⟨rfl, rfl⟩
  go_wp2_with fail
  refine (knows_any _ HT.out).mono ?_
  rintro e w1 ⟨rfl, b1⟩
  go_wp2
  go_ret
  exact ⟨rfl, b1⟩

set_option maxHeartbeats 4000000 in
theorem TUnquotes_else (s : ByteArray) (w : World) (hs : s.size ≤ 300) (hT : Lib.Utf8Tabs 0 1 w) :
    Calls Tryd.prog 8 #[.string s] w fun e w' => e = .returned (.bool true) ∧ Below w.heap.size w w' := by
  have HT := Lib.hid hT; clear hT
  have hu := fun w h => Unquote_any s w (by omega) h
  have hr := fun w => rUnquote_any s w hs
  have hi := fun w => IsName_any s w hs
  have hj := fun w => rIsName_any s w hs
  generalize unqZ s = q at hu hr
  generalize nameB s = b at hi hj
  go_enter Tryd.func8, Tryd.ntmps8
  go_wp2_with fail
  refine (few_yes _ _ hs).mono ?_
  rintro e _ ⟨rfl, rfl⟩
  go_wp2_with fail
  refine (hu _ HT.out).mono ?_
  rintro e w1 ⟨rfl, b1⟩
  go_wp2_with fail
  refine (hr _).mono ?_
  rintro e w2 ⟨rfl, b2⟩
  have B2 := b1.trans (b2.mono b1.size)
  go_wp2_with fail
  refine (hi _).mono ?_
  rintro e w3 ⟨rfl, b3⟩
  have B3 := B2.trans (b3.mono B2.size)
  go_wp2_with fail
  refine (hj _).mono ?_
  rintro e _ ⟨rfl, rfl⟩
  go_wp2_with fail
  refine (knows_any _ (Utf8Tabs_below HT.out B3)).mono ?_
  rintro e w4 ⟨rfl, b4⟩
  have B4 := B3.trans (b4.mono B3.size)
  go_wp2
  go_ret
  exact ⟨rfl, B4⟩

theorem TUnquotes_any (s : ByteArray) (w : World) (hT : Lib.Utf8Tabs 0 1 w) :
    Calls Tryd.prog 8 #[.string s] w fun e w' => e = .returned (.bool true) ∧ Below w.heap.size w w' := by
  by_cases hs : s.size ≤ 300
  · exact TUnquotes_else s w hs hT
  · exact TUnquotes_few s w (by omega) hT
end Go.Proofs.YtmofnaeiemkbnaaDoor
