/- The statements' fixed examples (knows) hold. Condition: the tables of unicode/utf8 are as laid. -/
import Derived.Test.YtmofnaeiemkbnaaDoorPA
import Derived.Test.YtmofnaeiemkbnaaDoorZ
import Derived.Test.YtmofnaeiemkbnaaDoorT
namespace Go.Proofs.YtmofnaeiemkbnaaDoor
open Go.RowKit Go.Shelf

theorem k_pos : posZ ⟨#[97, 98, 10, 99]⟩ 3 = (2, 1, true) := by kernel_rfl
theorem k_unq : unqZ ⟨#[34, 92, 117, 123, 101, 57, 125, 34, 32, 120]⟩ = (⟨#[195, 169]⟩, 8, 0) := by kernel_rfl
theorem k_quote : quoteB ⟨#[97, 34, 10]⟩ = [34, 97, 92, 34, 92, 110, 34] := by kernel_rfl
theorem k_show : showB (-7) = [45, 55] := by kernel_rfl

set_option maxHeartbeats 4000000 in
set_option maxRecDepth 100000 in
theorem knows_any (w : World) (hT : Lib.Utf8Tabs 0 1 w) : Calls Tryd.prog 10 #[] w fun e w' => e = .returned (.bool true) ∧ Below w.heap.size w w' := by
  have HT := Lib.hid hT; clear hT
  go_enter Tryd.func10, Tryd.ntmps10
  go_wp2_with fail
  refine (Position_any _ _ _ (by decide)).mono ?_
  rintro e w1 ⟨rfl, b1⟩
  rw [k_pos]
  have hz1 := b1.size
  have B1 := b1.alloc hz1 (.cells #[.int .i64 2, .int .i64 1] 25)
  have x1 := World.alloc_heap_new w1 (.cells #[.int .i64 2, .int .i64 1] 25)
  go_wp2_with fail
  refine (Unquote_any _ _ (by decide) (Utf8Tabs_below HT.out B1)).mono ?_
  rintro e w2 ⟨rfl, b2⟩
  rw [k_unq]
  have B2 := B1.trans (b2.mono B1.size)
  have x2 : w2.heap[w1.heap.size]? = some (.cells #[.int .i64 2, .int .i64 1] 25 (0, 0)) := (b2.block _ (by simp)).trans x1
  have c0 : w2.cell? ⟨w1.heap.size, 0, none⟩ = some (.int .i64 2) := by rw [Lib.cell_of_heap x2]; rfl
  have c1 : w2.cell? ⟨w1.heap.size, 1, none⟩ = some (.int .i64 1) := by rw [Lib.cell_of_heap x2]; rfl
  clear x1 x2
  go_wp2_with fail
  refine (Quote_any _ _ (by decide)).mono ?_
  rintro e w3 ⟨rfl, b3⟩
  rw [k_quote]
  have B3 := B2.trans (b3.mono B2.size)
  go_wp2_with fail
  refine (Show_any _ _ (by omega) (by omega)).mono ?_
  rintro e w4 ⟨rfl, b4⟩
  rw [k_show]
  have B4 := B3.trans (b4.mono B3.size)
  go_wp2
  go_ret
  exact ⟨rfl, B4⟩
end Go.Proofs.YtmofnaeiemkbnaaDoor
