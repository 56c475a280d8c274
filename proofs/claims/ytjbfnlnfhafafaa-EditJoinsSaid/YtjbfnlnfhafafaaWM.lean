/- Plain mathematics of Join: two edits that touch, one behind the other, are one. -/
import Derived.Test.YtjbfnlnfhafafaaT
import Derived.Test.YtjbfnlnfhafafaaR
namespace Go.Proofs.Ytjbfnlnfhafafaa
open Go.RowKit

theorem drop_min (l : List UInt8) (i n : Nat) (h : l.length = n) : l.drop (min i n) = l.drop i := by
  by_cases hi : i ≤ n
  · rw [Nat.min_eq_left hi]
  · rw [Nat.min_eq_right (by omega), List.drop_of_length_le (by omega), List.drop_of_length_le (by omega)]
theorem join_join {s t : ByteArray} {a d b e : Nat} (u : ByteArray) (h : a + d ≤ s.size) (h1 : b ≤ a + t.size) (h2 : a ≤ b + e) :
    joinT s (min a b) (joinD a d t.size b e) (joinI a t b e u) = joinT (joinT s a d t) b e u := by
  apply bl_ext
  have hl : ((bl s).take a).length = a := by rw [List.length_take, bl_length]; omega
  have hi : bl (joinI a t b e u) = (bl t).take (b - a) ++ bl u ++ (bl t).drop (b + e - a) := by
    rw [joinI, bl_append, bl_append, bl_extract, bl_extract, List.drop_zero, Nat.sub_zero, drop_min _ _ _ (bl_length t)]
    rw [List.take_of_length_le (l := (bl t).drop (b + e - a))]
    rw [List.length_drop, bl_length]
    by_cases hm : b + e - a ≤ t.size
    · rw [Nat.min_eq_left hm]; exact Nat.le_refl _
    · omega
  have hj := bl_join s a d t
  rw [bl_join, hi, bl_join (joinT s a d t), hj]
  have e1 : ((bl s).take a ++ bl t ++ (bl s).drop (a + d)).take b = (bl s).take (min a b) ++ (bl t).take (b - a) := by
    rw [List.take_append_of_le_length (by rw [List.length_append, hl, bl_length]; omega), List.take_append, hl, List.take_take, Nat.min_comm]
  have e2 : ((bl s).take a ++ bl t ++ (bl s).drop (a + d)).drop (b + e) = (bl t).drop (b + e - a) ++ (bl s).drop (min a b + joinD a d t.size b e) := by
    rw [List.append_assoc, List.drop_append, List.drop_of_length_le (by rw [hl]; exact h2), hl, List.nil_append, List.drop_append, bl_length, List.drop_drop]
    congr 2
    unfold joinD
    omega
  rw [e1, e2]
  simp only [List.append_assoc]
theorem apply_ff (s t u : ByteArray) (a d b e : Int) : ((applyL s [(a, d, t), (b, e, u)]).2 ≠ 0) ∨ ∃ x y z v : Nat, a = x ∧ d = y ∧ b = z ∧ e = v ∧ x + y ≤ s.size ∧ z + v ≤ x + t.size + (s.size - (x + y)) ∧ (joinT (joinT s x y t) z v u).size ≤ 65536 ∧ applyL s [(a, d, t), (b, e, u)] = (joinT (joinT s x y t) z v u, 0) := by
  rw [applyL]
  by_cases h : rightB s.size a d = true
  · obtain ⟨x, y, rfl, rfl, hxy⟩ := right_nat h
    dsimp only
    rw [if_pos h, Int.toNat_natCast, Int.toNat_natCast]
    by_cases hl : 65536 < x + t.size + (s.size - (x + y))
    · rw [if_pos hl]; left; decide
    · rw [if_neg hl, applyL]
      have hJ := join_size t hxy
      by_cases h' : rightB (joinT s x y t).size b e = true
      · obtain ⟨z, v, rfl, rfl, hzv⟩ := right_nat h'
        dsimp only
        rw [if_pos h', Int.toNat_natCast, Int.toNat_natCast]
        have hJ2 := join_size u hzv
        by_cases hl' : 65536 < z + u.size + ((joinT s x y t).size - (z + v))
        · rw [if_pos hl']; left; decide
        · rw [if_neg hl']; exact .inr ⟨x, y, z, v, rfl, rfl, rfl, rfl, hxy, by omega, by omega, rfl⟩
      · dsimp only; rw [if_neg h']; left; decide
  · rw [if_neg h]; left; decide
/-- The one edit does what the two do. -/
theorem apply_join {s t u : ByteArray} {a d b e : Nat} (h : a + d ≤ s.size) (hb : b + e ≤ a + t.size + (s.size - (a + d))) (hl : (joinT (joinT s a d t) b e u).size ≤ 65536) (h1 : b ≤ a + t.size) (h2 : a ≤ b + e) :
    applyL s [(((min a b : Nat) : Int), ((joinD a d t.size b e : Nat) : Int), joinI a t b e u)] = (joinT (joinT s a d t) b e u, 0) := by
  have hr : min a b + joinD a d t.size b e ≤ s.size := by unfold joinD; omega
  have hj := join_join u h h1 h2
  have hz := join_size (joinI a t b e u) hr
  rw [hj] at hz
  rw [apply1 hr (by omega), hj]
theorem join_c {a d b e : Nat} {n m : Nat} (h : joinC a d n b e m = true) : (a ≤ 65536 ∧ d ≤ 65536 ∧ n ≤ 65536) ∧ (b ≤ 65536 ∧ e ≤ 65536 ∧ m ≤ 65536) ∧ b ≤ a + n ∧ a ≤ b + e := by
  simp only [joinC, touchB, Bool.and_eq_true, decide_eq_true_eq] at h
  obtain ⟨⟨x, y⟩, z1, z2⟩ := h
  have := small_is x
  have := small_is y
  omega
theorem join_nat {a d b e : Int} {n m : Nat} (h : joinC a d n b e m = true) : ∃ x y z v : Nat, a = x ∧ d = y ∧ b = z ∧ e = v := by
  simp only [joinC, Bool.and_eq_true] at h
  obtain ⟨⟨x, y⟩, _⟩ := h
  have := small_is x
  have := small_is y
  exact ⟨a.toNat, d.toNat, b.toNat, e.toNat, by omega, by omega, by omega, by omega⟩
end Go.Proofs.Ytjbfnlnfhafafaa
