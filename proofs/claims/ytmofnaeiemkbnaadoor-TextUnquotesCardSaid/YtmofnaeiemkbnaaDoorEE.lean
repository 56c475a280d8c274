/- Plain: braces behind an escape's letter, as the program and as the reference read them. -/
import Derived.Test.YtmofnaeiemkbnaaDoorED
namespace Go.Proofs.YtmofnaeiemkbnaaDoor
open Go.RowKit Go.Shelf

theorem cut_size (s : ByteArray) (n : Nat) : (s.extract n s.size).size = s.size - n := by rw [ByteArray.size_extract]; omega
theorem cut_at (s : ByteArray) (n k : Nat) (h : k < (s.extract n s.size).size) (h2 : n + k < s.size) : (s.extract n s.size)[k] = s[n + k] := by
  rw [ByteArray.getElem_extract]
theorem cut_list (s : ByteArray) (n : Nat) : (s.extract n s.size).data.toList = s.data.toList.drop n := by
  rw [ByteArray.data_extract, Array.toList_extract, List.extract_eq_take_drop, List.take_of_length_le]
  rw [List.length_drop, Array.length_toList]
  exact Nat.le_refl _
theorem wrong_shift (s : ByteArray) (n k : Nat) : wrongZ (s.extract n s.size) k = wrongZ s (n + k) := by
  unfold wrongZ
  have hz := cut_size s n
  by_cases h : n + k < s.size
  · rw [dif_pos h, dif_pos (by omega), cut_at s n k (by omega) h]
  · rw [dif_neg h, dif_neg (by omega)]
theorem braces_shift (s : ByteArray) (n least most : Nat) (hl : ∀ h : n < s.size, ¬ s[n] = 10) :
    (bracedR (s.extract n s.size) least most).2.2 = (bracesZ s n least most).2.2 ∧
    ((bracesZ s n least most).2.2 = 0 → (bracedR (s.extract n s.size) least most).1 = (bracesZ s n least most).1 ∧ (bracedR (s.extract n s.size) least most).2.1 + n = (bracesZ s n least most).2.1) := by
  have hz := cut_size s n
  have hd : (s.extract n s.size).data.toList.drop (0 + 1) = s.data.toList.drop (n + 1) := by rw [cut_list, List.drop_drop]
  have w0 : wrongZ s n = if n < s.size then 3 else 13 := by
    unfold wrongZ
    by_cases h : n < s.size
    · rw [dif_pos h, if_pos h, if_neg (hl h)]
    · rw [dif_neg h, if_neg h]
  have n0 : ¬ wrongZ s n = 0 := by rw [w0]; split <;> decide
  have nw : ∀ k, ¬ wrongZ s k = 0 := by intro k; unfold wrongZ; split <;> (try split) <;> decide
  unfold bracedR bracesZ
  by_cases h : n < s.size
  · rw [dif_pos h, dif_pos (by omega), cut_at s n 0 (by omega) (by omega)]
    simp only [Nat.add_zero]
    by_cases hb : s[n] = 123
    · rw [if_pos hb, if_pos hb, dif_pos (show 0 < (s.extract n s.size).size by omega), cut_at s n 0 (by omega) (by omega)]
      simp only [Nat.add_zero]
      rw [if_pos hb, hd, wrong_shift]
      generalize (scanHex most (s.data.toList.drop (n + 1)) 0).1 = c
      generalize (scanHex most (s.data.toList.drop (n + 1)) 0).2 = v
      have hn : n + (0 + 1 + c) = n + 1 + c := by omega
      rw [hn]
      by_cases h1 : c < least
      · rw [if_pos h1, if_pos h1]
        exact ⟨rfl, fun h => absurd h (nw _)⟩
      · rw [if_neg h1, if_neg h1]
        by_cases h2 : n + 1 + c < s.size
        · have hc := cut_at s n (0 + 1 + c) (by omega) (by omega)
          simp only [hn] at hc
          rw [dif_pos h2, dif_pos (by omega), hc]
          by_cases h3 : s[n + 1 + c] = 125
          · rw [if_pos h3, if_pos h3]
            exact ⟨rfl, fun _ => ⟨rfl, by dsimp only; omega⟩⟩
          · rw [if_neg h3, if_neg h3]
            exact ⟨rfl, fun h => absurd h (nw _)⟩
        · rw [dif_neg h2, dif_neg (by omega)]
          exact ⟨rfl, fun h => absurd h (nw _)⟩
    · rw [if_neg hb, if_neg hb]
      refine ⟨?_, fun h => absurd h (nw _)⟩
      show (3 : Int) = wrongZ s n
      rw [w0, if_pos h]
  · rw [dif_neg h, dif_neg (by omega), wrong_shift]
    exact ⟨rfl, fun h => absurd h (nw _)⟩
end Go.Proofs.YtmofnaeiemkbnaaDoor
