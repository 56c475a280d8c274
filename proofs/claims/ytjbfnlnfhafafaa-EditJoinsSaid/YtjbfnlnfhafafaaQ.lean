/- The statement EditDiffs' body. -/
import Derived.Test.YtjbfnlnfhafafaaN
import Derived.Deep.RegionHeld3
namespace Go.Proofs.Ytjbfnlnfhafafaa
open Go.RowKit

theorem cpreL_take : ∀ a b : List UInt8, a.take (cpreL a b) = b.take (cpreL a b)
  | [], b => by simp [cpreL]
  | x :: r, [] => by simp [cpreL]
  | x :: r, y :: s => by
    rw [cpreL]
    split
    · rename_i h
      subst h
      rw [List.take_succ_cons, List.take_succ_cons, cpreL_take r s]
    · rfl
theorem cpreL_same : ∀ a : List UInt8, cpreL a a = a.length
  | [] => rfl
  | x :: r => by rw [cpreL, if_pos rfl, cpreL_same r]; rfl
theorem pre_take (a b : ByteArray) : (bl a).take (preN a b) = (bl b).take (preN a b) := cpreL_take _ _
theorem suf_drop (a b : ByteArray) : (bl a).drop (a.size - sufN a b) = (bl b).drop (b.size - sufN a b) := by
  have h := cpreL_take (bl a).reverse (bl b).reverse
  rw [List.take_reverse, List.take_reverse, bl_length, bl_length] at h
  exact List.reverse_inj.1 h
/-- The difference, put into the first text, gives the second. -/
theorem diff_join (a b : ByteArray) : joinT a (preN a b) (a.size - preN a b - tailN a b) (b.extract (preN a b) (b.size - tailN a b)) = b := by
  obtain ⟨p1, p2⟩ := preN_le a b
  have ea : (a.extract (preN a b) a.size).size = a.size - preN a b := by rw [ByteArray.size_extract]; omega
  have eb : (b.extract (preN a b) b.size).size = b.size - preN a b := by rw [ByteArray.size_extract]; omega
  have hs := suf_drop (a.extract (preN a b) a.size) (b.extract (preN a b) b.size)
  obtain ⟨q1, q2⟩ := sufN_le (a.extract (preN a b) a.size) (b.extract (preN a b) b.size)
  change tailN a b ≤ _ at q1 q2
  change _ = List.drop (_ - tailN a b) _ at hs
  change List.drop (_ - tailN a b) _ = _ at hs
  have hp := pre_take a b
  rw [bl_extract, bl_extract, ea, eb] at hs
  rw [ea] at q1
  rw [eb] at q2
  generalize tailN a b = k at *
  generalize preN a b = i at *
  apply bl_ext
  rw [bl_join, bl_extract, hp]
  rw [List.take_of_length_le (l := (bl a).drop i) (by rw [List.length_drop, bl_length]; omega), List.take_of_length_le (l := (bl b).drop i) (by rw [List.length_drop, bl_length]; omega), List.drop_drop, List.drop_drop] at hs
  rw [hs, show b.size - k - i = b.size - i - k by omega, ← List.take_add, List.take_append_drop]
theorem str_ne {a b : ByteArray} (h : a ≠ b) : (a.toList == b.toList) = false := by
  rw [beq_eq_false_iff_ne, ByteArray.toList_eq, ByteArray.toList_eq]
  exact fun e => h (bl_ext e)
theorem pre_same (a : ByteArray) : preN a a = a.size := (cpreL_same _).trans (bl_length a)
theorem diff_same (a : ByteArray) : a.size - preN a a - tailN a a = 0 ∧ a.extract (preN a a) (a.size - tailN a a) = ⟨#[]⟩ := by
  have h := pre_same a
  refine ⟨by omega, ?_⟩
  apply bl_ext
  rw [bl_extract, h, List.drop_of_length_le (by rw [bl_length]; exact Nat.le_refl _)]
  simp

set_option maxHeartbeats 1000000 in
theorem EDiffs_few (a b : ByteArray) (w : World) (ha : a.size ≤ maxLen) (hb : b.size ≤ maxLen) (hf : decide (fewN [a, b] ≤ 4000) = false) :
    Calls Try.prog 6 #[.string a, .string b] w fun e w' => e = .returned (.bool true) ∧ Below w.heap.size w w' := by
  have HF := Lib.hid hf; clear hf
  have n1 : (w.alloc (.cells #[.string a, .string b] 9)).heap[w.heap.size]? = some (.cells #[.string a, .string b] 9 (0, 0)) := World.alloc_heap_new _ _
  have n3 := (Below.refl w.heap.size w).alloc (Nat.le_refl _) (.cells #[.string a, .string b] 9)
  go_enter Try.func6, Try.ntmps6
  go_wp2_with fail
  refine (few2_any a b _ _ ha hb n1 HF.out).mono ?_
  rintro e w1 ⟨rfl, b1⟩
  have B1 := n3.trans (b1.mono (by simp))
  clear n1 n3 b1
  go_wp2_with fail
  refine (knows_any _).mono ?_
  rintro e w2 ⟨rfl, b2⟩
  have B2 := B1.trans (b2.mono B1.size)
  go_wp2
  go_ret
  exact ⟨rfl, B2⟩

end Go.Proofs.Ytjbfnlnfhafafaa
