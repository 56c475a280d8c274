/- Plain mathematics of edits. -/
import Derived.Test.YtjbfnlnfhafafaaF
namespace Go.Proofs.Ytjbfnlnfhafafaa

abbrev bl (s : ByteArray) : List UInt8 := s.data.toList
theorem bl_length (s : ByteArray) : (bl s).length = s.size := Array.length_toList
theorem bl_ext {s t : ByteArray} (h : bl s = bl t) : s = t := ByteArray.ext (Array.ext' h)
theorem bl_append (s t : ByteArray) : bl (s ++ t) = bl s ++ bl t := by
  show (s ++ t).data.toList = _
  rw [ByteArray.data_append, Array.toList_append]
theorem bl_extract (s : ByteArray) (i j : Nat) : bl (s.extract i j) = ((bl s).drop i).take (j - i) := by
  show (s.extract i j).data.toList = _
  rw [ByteArray.data_extract, Array.toList_extract, List.extract_eq_take_drop]
theorem bl_join (s : ByteArray) (a d : Nat) (t : ByteArray) : bl (joinT s a d t) = (bl s).take a ++ bl t ++ (bl s).drop (a + d) := by
  rw [joinT, bl_append, bl_append, bl_extract, bl_extract]
  congr 1
  rw [List.take_of_length_le]
  rw [List.length_drop, bl_length]
  exact Nat.le_refl _
theorem join_size {s : ByteArray} {a d : Nat} (t : ByteArray) (h : a + d ≤ s.size) : (joinT s a d t).size = a + t.size + (s.size - (a + d)) := by
  rw [← bl_length, bl_join]
  simp only [List.length_append, List.length_take, List.length_drop, bl_length]
  omega
/-- What was put in is found there. -/
theorem join_mid {s : ByteArray} {a d : Nat} (t : ByteArray) (h : a + d ≤ s.size) : (joinT s a d t).extract a (a + t.size) = t := by
  apply bl_ext
  rw [bl_extract, bl_join, List.append_assoc]
  have hl : ((bl s).take a).length = a := by rw [List.length_take, bl_length]; omega
  rw [List.drop_left' hl, show a + t.size - a = t.size by omega, List.take_left' (bl_length t)]
/-- The edit, and its inverse. -/
theorem join_back {s : ByteArray} {a d : Nat} (t : ByteArray) (h : a + d ≤ s.size) : joinT (joinT s a d t) a t.size (s.extract a (a + d)) = s := by
  apply bl_ext
  have hl : ((bl s).take a).length = a := by rw [List.length_take, bl_length]; omega
  have hl2 : ((bl s).take a ++ bl t).length = a + t.size := by rw [List.length_append, hl, bl_length]
  rw [bl_join, bl_join, bl_extract, List.drop_left' hl2, List.append_assoc ((bl s).take a), List.take_left' hl, show a + d - a = d by omega, ← List.take_add, List.take_append_drop]

theorem apply1 {s : ByteArray} {a d : Nat} {t : ByteArray} (h : a + d ≤ s.size) (hs : a + t.size + (s.size - (a + d)) ≤ 65536) : applyL s [((a : Int), (d : Int), t)] = (joinT s a d t, 0) := by
  rw [applyL]
  dsimp only
  rw [if_pos (show rightB s.size a d = true from decide_eq_true (by omega)), Int.toNat_natCast, Int.toNat_natCast, if_neg (by omega)]
  rfl
theorem back1 {s : ByteArray} {a d n : Nat} (h : a + d ≤ s.size) : backZ s a d n = ((a : Int), (n : Int), s.extract a (a + d), true) := by
  rw [backZ, if_pos (show rightB s.size a d = true from decide_eq_true (by omega))]
  rfl
end Go.Proofs.Ytjbfnlnfhafafaa
