/- Plain mathematics: the digits from the left are the digits from the right; what is shown is read back. -/
import Derived.Test.YtmofnaeiemkbnaaDoorOA
import Derived.Test.YtmofnaeiemkbnaaDoorS
import Derived.Test.YtmofnaeiemkbnaaDoorO
namespace Go.Proofs.YtmofnaeiemkbnaaDoor
open Go.RowKit

/-- The digits of n from 10 ^ j down. -/
def digL : Nat → Nat → List UInt8
  | 0, n => [hexC (n % 10)]
  | j + 1, n => hexC (n / 10 ^ (j + 1) % 10) :: digL j n

theorem digL_last : ∀ (j n : Nat), digL (j + 1) n = digL j (n / 10) ++ [hexC (n % 10)]
  | 0, n => by simp [digL]
  | j + 1, n => by
    rw [digL, digL_last j n, digL, Nat.div_div_eq_div_mul, show 10 * 10 ^ (j + 1) = 10 ^ (j + 1 + 1) by rw [Nat.pow_succ 10 (j + 1), Nat.mul_comm]]
    rfl

theorem digsU_L (n : Nat) : ∀ (j f : Nat), j < f → digsU 10 n f (10 ^ j) = digL j n
  | 0, f + 1, _ => by
    rw [digsU, if_neg (by simp)]
    simp [digs_end, digL]
  | j + 1, f + 1, h => by
    have h0 : 0 < 10 ^ (j + 1) := Nat.pow_pos (by omega)
    rw [digsU, if_neg (by omega), digL, show 10 ^ (j + 1) / 10 = 10 ^ j by rw [Nat.pow_succ]; exact Nat.mul_div_cancel _ (by omega), digsU_L n j f (by omega)]

theorem unit_at (n : Nat) : ∀ (f k : Nat), (k = 0 ∨ 10 ^ k ≤ n) → n < 10 ^ (k + f + 1) →
    ∃ j, unitOf 10 n f (10 ^ k) = 10 ^ j ∧ (j = 0 ∨ 10 ^ j ≤ n) ∧ n < 10 ^ (j + 1)
  | 0, k, h, hn => ⟨k, rfl, h, hn⟩
  | f + 1, k, h, hn => by
    have hp : 0 < 10 ^ k := Nat.pow_pos (by omega)
    unfold unitOf
    split
    · rename_i h10
      rw [← Nat.pow_succ]
      exact unit_at n f (k + 1) (.inr (by rw [Nat.pow_succ, Nat.mul_comm]; exact (Nat.le_div_iff_mul_le hp).1 h10)) (by rw [show k + 1 + f + 1 = k + (f + 1) + 1 by omega]; exact hn)
    · rename_i h10
      refine ⟨k, rfl, h, ?_⟩
      rw [Nat.pow_succ, Nat.mul_comm]
      exact (Nat.div_lt_iff_lt_mul hp).1 (by omega)

theorem hexC_dig (d : Nat) (h : d < 10) : hexC d = UInt8.ofNat (48 + d) := by
  revert h; revert d; decide

theorem rdigs_L : ∀ (j f n : Nat) (s : List UInt8), (j = 0 ∨ 10 ^ j ≤ n) → n < 10 ^ (j + 1) → j < f → rdigs f n s = digL j n ++ s
  | 0, f + 1, n, s, _, hn, _ => by
    have : n < 10 := by simpa using hn
    rw [rdigs, if_neg (by omega), digL, hexC_dig _ (by omega), Nat.mod_eq_of_lt this]; rfl
  | j + 1, f + 1, n, s, h, hn, hf => by
    have h1 : 10 ^ (j + 1) ≤ n := by rcases h with h | h; · omega
                                     · exact h
    have hp : 0 < 10 ^ j := Nat.pow_pos (by omega)
    rw [Nat.pow_succ] at h1 hn
    have h9 : 9 < n := by omega
    rw [rdigs, if_pos h9, rdigs_L j f (n / 10) _ (.inr (by omega)) (by omega) (by omega), digL_last, hexC_dig _ (by omega)]
    simp

theorem digs_at (n : Nat) (hn : n < 18446744073709551616) : ∃ j, digs 10 n = digL j n ∧ rdigs 64 n [] = digL j n ∧ (j = 0 ∨ 10 ^ j ≤ n) ∧ n < 10 ^ (j + 1) ∧ j < 64 := by
  have hb : (18446744073709551616 : Nat) < 10 ^ (0 + 64 + 1) := by decide
  obtain ⟨j, h1, h2, h3⟩ := unit_at n 64 0 (.inl rfl) (Nat.lt_trans hn hb)
  have hj : j < 64 := by
    rcases h2 with h2 | h2
    · omega
    · refine Nat.lt_of_not_le fun hc => ?_
      have h4 : (10 : Nat) ^ 64 ≤ 10 ^ j := Nat.pow_le_pow_right (by omega) hc
      have h5 : (18446744073709551616 : Nat) < 10 ^ 64 := by decide
      omega
  refine ⟨j, ?_, ?_, h2, h3, hj⟩
  · rw [Nat.pow_zero] at h1
    rw [digs, h1, digsU_L n j 64 hj]
  · rw [rdigs_L j 64 n [] h2 h3 hj]; simp

theorem digs_rdigs (n : Nat) (hn : n < 18446744073709551616) : digs 10 n = rdigs 64 n [] := by
  obtain ⟨j, h1, h2, _⟩ := digs_at n hn
  rw [h1, h2]
theorem show_eq (x : Int) (h0 : -9223372036854775808 ≤ x) (h1 : x ≤ 9223372036854775807) : showB x = rshowB x := by
  rw [showB, rshowB, digs_rdigs _ (by omega)]

theorem dig8_hexC (d : Nat) (h : d < 10) : dig8 (hexC d) = true ∧ (hexC d).toNat - 48 = d ∧ (d ≠ 0 → hexC d ≠ 48) := by
  revert h; revert d; decide
theorem digL_all : ∀ (j n : Nat), (digL j n).all dig8 = true
  | 0, n => by simp [digL, (dig8_hexC (n % 10) (by omega)).1]
  | j + 1, n => by rw [digL, List.all_cons, digL_all j n, (dig8_hexC (n / 10 ^ (j + 1) % 10) (by omega)).1]; rfl
theorem digL_length : ∀ (j n : Nat), (digL j n).length = j + 1
  | 0, _ => rfl
  | j + 1, n => by rw [digL, List.length_cons, digL_length j n]
theorem valL_append : ∀ (l : List UInt8) (c : UInt8) (n : Nat), valL (l ++ [c]) n = 10 * valL l n + (c.toNat - 48)
  | [], _, _ => rfl
  | a :: l, c, n => by rw [List.cons_append, valL, valL, valL_append l c]
theorem valL_digL : ∀ (j n : Nat), n < 10 ^ (j + 1) → valL (digL j n) 0 = n
  | 0, n, h => by
    have : n < 10 := by simpa using h
    have e := (dig8_hexC (n % 10) (by omega)).2.1
    simp only [digL, valL]; omega
  | j + 1, n, h => by
    have h2 : n / 10 < 10 ^ (j + 1) := by rw [Nat.pow_succ] at h; omega
    have e := (dig8_hexC (n % 10) (by omega)).2.1
    rw [digL_last, valL_append, valL_digL j _ h2]; omega

theorem read_digs (n : Nat) (hn : n ≤ 9223372036854775807) : readZ ⟨(digs 10 n).toArray⟩ n = ((n : Int), 0) := by
  obtain ⟨j, h1, _, h2, h3, hj⟩ := digs_at n (by omega)
  rw [h1]
  have hl := digL_length j n
  have hsz : (⟨(digL j n).toArray⟩ : ByteArray).size = j + 1 := by rw [← hl]; simp [ByteArray.size]
  have hs : ¬ startBad ⟨(digL j n).toArray⟩ := by
    rintro (h | ⟨h0, hb, h4⟩)
    · omega
    · rw [hsz] at h4
      obtain ⟨i, rfl⟩ : ∃ i, j = i + 1 := ⟨j - 1, by omega⟩
      have h5 : 10 ^ (i + 1) ≤ n := by rcases h2 with h | h; · omega
                                       · exact h
      have hp : 0 < 10 ^ (i + 1) := Nat.pow_pos (by omega)
      have h6 : 1 ≤ n / 10 ^ (i + 1) := (Nat.le_div_iff_mul_le hp).2 (by omega)
      have h7 : n / 10 ^ (i + 1) < 10 := (Nat.div_lt_iff_lt_mul hp).2 (by rw [Nat.pow_succ] at h3; omega)
      refine (dig8_hexC (n / 10 ^ (i + 1) % 10) (by omega)).2.2 (by omega) ?_
      exact hb
  have hnum : numB ⟨(digL j n).toArray⟩ = true := digL_all j n
  rw [readZ, if_neg (by rintro (h | h); · exact hs h
                        · rw [hnum] at h; cases h)]
  have hf := fold_val (n : Int) (digL j n) 0 (digL_all j n) (.inl (by omega))
  rw [valL_digL j n h3, if_neg (by omega)] at hf
  exact hf
theorem read_show (x : Int) (h0 : 0 ≤ x) (h1 : x ≤ 9223372036854775807) : readZ ⟨(showB x).toArray⟩ x = (x, 0) := by
  obtain ⟨m, rfl⟩ := Int.eq_ofNat_of_zero_le h0
  rw [showB, if_neg (by omega)]
  exact read_digs m (by omega)
theorem show_size (x : Int) : (⟨(showB x).toArray⟩ : ByteArray).size ≤ 300 := by
  have := digs_length (b := 10) (n := x.natAbs)
  have e : (⟨(showB x).toArray⟩ : ByteArray).size = (showB x).length := by simp [ByteArray.size]
  rw [e, showB]
  split <;> simp <;> omega
end Go.Proofs.YtmofnaeiemkbnaaDoor
