/- Plain mathematics: hex digits from the left are hex digits from the right. -/
import Derived.Test.YtmofnaeiemkbnaaDoorTH
import Derived.Test.YtmofnaeiemkbnaaDoorQ
namespace Go.Proofs.YtmofnaeiemkbnaaDoor
open Go.RowKit

/-- The hex digits of n from 16 ^ j down. -/
def digH : Nat → Nat → List UInt8
  | 0, n => [hexC (n % 16)]
  | j + 1, n => hexC (n / 16 ^ (j + 1) % 16) :: digH j n

theorem digH_last : ∀ (j n : Nat), digH (j + 1) n = digH j (n / 16) ++ [hexC (n % 16)]
  | 0, n => by simp [digH]
  | j + 1, n => by
    rw [digH, digH_last j n, digH, Nat.div_div_eq_div_mul, show 16 * 16 ^ (j + 1) = 16 ^ (j + 1 + 1) by rw [Nat.pow_succ 16 (j + 1), Nat.mul_comm]]
    rfl

theorem digsU_H (n : Nat) : ∀ (j f : Nat), j < f → digsU 16 n f (16 ^ j) = digH j n
  | 0, f + 1, _ => by
    rw [digsU, if_neg (by simp)]
    simp [digs_end, digH]
  | j + 1, f + 1, h => by
    have h0 : 0 < 16 ^ (j + 1) := Nat.pow_pos (by omega)
    rw [digsU, if_neg (by omega), digH, show 16 ^ (j + 1) / 16 = 16 ^ j by rw [Nat.pow_succ]; exact Nat.mul_div_cancel _ (by omega), digsU_H n j f (by omega)]

theorem unit_atH (n : Nat) : ∀ (f k : Nat), (k = 0 ∨ 16 ^ k ≤ n) → n < 16 ^ (k + f + 1) →
    ∃ j, unitOf 16 n f (16 ^ k) = 16 ^ j ∧ (j = 0 ∨ 16 ^ j ≤ n) ∧ n < 16 ^ (j + 1)
  | 0, k, h, hn => ⟨k, rfl, h, hn⟩
  | f + 1, k, h, hn => by
    have hp : 0 < 16 ^ k := Nat.pow_pos (by omega)
    unfold unitOf
    split
    · rename_i h10
      rw [← Nat.pow_succ]
      exact unit_atH n f (k + 1) (.inr (by rw [Nat.pow_succ, Nat.mul_comm]; exact (Nat.le_div_iff_mul_le hp).1 h10)) (by rw [show k + 1 + f + 1 = k + (f + 1) + 1 by omega]; exact hn)
    · rename_i h10
      refine ⟨k, rfl, h, ?_⟩
      rw [Nat.pow_succ, Nat.mul_comm]
      exact (Nat.div_lt_iff_lt_mul hp).1 (by omega)

theorem hexR_H (least : Nat) : ∀ (j f n : Nat) (s : List UInt8), (j = 0 ∨ 16 ^ j ≤ n) → n < 16 ^ (j + 1) → j < f → (0 < n ∨ s.length < least) → least ≤ s.length + j + 1 → hexR least f n s = digH j n ++ s
  | 0, f + 1, n, s, _, hn, _, hc, hl => by
    have : n < 16 := by simpa using hn
    rw [hexR, if_pos hc, digH]
    have e : n / 16 = 0 := by omega
    rw [e]
    cases f with
    | zero => rfl
    | succ f => rw [hexR, if_neg (by simp; omega)]; rfl
  | j + 1, f + 1, n, s, h, hn, hf, hc, hl => by
    have h1 : 16 ^ (j + 1) ≤ n := by rcases h with h | h; · omega
                                     · exact h
    have hp : 0 < 16 ^ j := Nat.pow_pos (by omega)
    rw [Nat.pow_succ] at h1 hn
    rw [hexR, if_pos hc, hexR_H least j f (n / 16) _ (.inr (by omega)) (by omega) (by omega) (.inl (by omega)) (by simp; omega), digH_last]
    simp

theorem digs_hexR (least n : Nat) (hn : n ≤ 1114111) (h : least = 1 ∨ (least = 2 ∧ 16 ≤ n)) : digs 16 n = hexR least 6 n [] := by
  have hb : (1114112 : Nat) < 16 ^ (0 + 64 + 1) := by decide
  obtain ⟨j, h1, h2, h3⟩ := unit_atH n 64 0 (.inl rfl) (by omega)
  have hj : j < 6 := by
    rcases h2 with h2 | h2
    · omega
    · refine Nat.lt_of_not_le fun hc => ?_
      have h4 : (16 : Nat) ^ 6 ≤ 16 ^ j := Nat.pow_le_pow_right (by omega) hc
      have h5 : (1114112 : Nat) < 16 ^ 6 := by decide
      omega
  rw [Nat.pow_zero] at h1
  have hj0 : least = 2 → j ≠ 0 := fun _ e => by subst e; simp at h3; omega
  rw [digs, h1, digsU_H n j 64 (by omega), hexR_H least j 6 n [] h2 h3 hj (by simp; omega) (by simp; omega)]
  simp
theorem codeB_u (r : Nat) (hr : r ≤ 1114111) : codeB 117 r = [92, 117, 123] ++ hexR 1 6 r [] ++ [125] := by
  rw [codeB, digs_hexR 1 r hr (.inl rfl)]
theorem codeB_x (b : Nat) (h0 : 16 ≤ b) (h1 : b ≤ 255) : codeB 120 b = [92, 120, 123] ++ hexR 2 6 b [] ++ [125] := by
  rw [codeB, digs_hexR 2 b (by omega) (.inr ⟨rfl, h0⟩)]
end Go.Proofs.YtmofnaeiemkbnaaDoor
