/- Plain mathematics: the digits of a number to a base. -/
import Derived.Below
namespace Go.Proofs.YtmofnaeiemkbnaaDoor

/-- The greatest power of b that is at most n (or 1), from u on. -/
def unitOf (b n : Nat) : Nat → Nat → Nat
  | 0, u => u
  | f + 1, u => if b ≤ n / u then unitOf b n f (u * b) else u

/-- The digit's letter. -/
def hexC (d : Nat) : UInt8 := (ByteArray.mk #[48, 49, 50, 51, 52, 53, 54, 55, 56, 57, 97, 98, 99, 100, 101, 102])[d]!

/-- The digits from unit u on. -/
def digsU (b n : Nat) : Nat → Nat → List UInt8
  | 0, _ => []
  | f + 1, u => if u = 0 then [] else hexC (n / u % b) :: digsU b n f (u / b)

def digs (b n : Nat) : List UInt8 := digsU b n 64 (unitOf b n 64 1)

theorem unitOf_pow {b n : Nat} : ∀ (f k : Nat), ∃ j, k ≤ j ∧ j ≤ k + f ∧ unitOf b n f (b ^ k) = b ^ j
  | 0, k => ⟨k, by omega, by omega, rfl⟩
  | f + 1, k => by
    unfold unitOf
    split
    · rw [show b ^ k * b = b ^ (k + 1) from (Nat.pow_succ b k).symm]
      obtain ⟨j, h1, h2, h3⟩ := unitOf_pow (b := b) (n := n) f (k + 1)
      exact ⟨j, by omega, by omega, h3⟩
    · exact ⟨k, by omega, by omega, rfl⟩

theorem unit_step {b x v f U : Nat} (hq : b ≤ x / v) (hb : 2 ≤ b) (hx : x < 18446744073709551616) (hm : v * b ≤ x) (h : unitOf b x f v = U ∧ 18446744073709551616 ≤ v * 2 ^ f) :
    ∃ f', unitOf b x f' (v * b) = U ∧ 18446744073709551616 ≤ v * b * 2 ^ f' := by
  have hvb : v * 2 ≤ v * b := Nat.mul_le_mul_left v hb
  cases f with
  | zero => have := h.2; simp at this; omega
  | succ f =>
    refine ⟨f, ?_, ?_⟩
    · have := h.1; rwa [unitOf, if_pos hq] at this
    · have h2 := h.2
      have : v * 2 ^ (f + 1) = v * 2 * 2 ^ f := by rw [Nat.pow_succ, Nat.mul_assoc, Nat.mul_comm 2 (2 ^ f)]
      rw [this] at h2
      exact Nat.le_trans h2 (Nat.mul_le_mul_right _ hvb)
theorem unit_end {b x v f U : Nat} (hq : ¬ b ≤ x / v) (h : unitOf b x f v = U) : v = U := by
  cases f with
  | zero => exact h
  | succ f => rwa [unitOf, if_neg hq] at h
theorem digs_step {b n f v : Nat} (hb : 2 ≤ b) (hv : 1 ≤ v) (hf : v < 2 ^ f) : ∃ f', digsU b n f v = hexC (n / v % b) :: digsU b n f' (v / b) ∧ v / b < 2 ^ f' := by
  cases f with
  | zero => simp at hf; omega
  | succ f =>
    refine ⟨f, ?_, ?_⟩
    · rw [digsU, if_neg (by omega)]
    · have h1 : v / b ≤ v / 2 := Nat.div_le_div_left hb (by omega)
      have h2 : v < 2 * 2 ^ f := by rw [Nat.pow_succ, Nat.mul_comm] at hf; exact hf
      omega
theorem digs_end {b n f : Nat} : digsU b n f 0 = [] := by cases f <;> simp [digsU]
theorem digsU_length {b n : Nat} : ∀ (f v : Nat), (digsU b n f v).length ≤ f
  | 0, _ => Nat.le_refl _
  | f + 1, v => by
    unfold digsU
    split
    · simp
    · have := digsU_length (b := b) (n := n) f (v / b)
      simp; omega
theorem digs_length {b n : Nat} : (digs b n).length ≤ 64 := digsU_length 64 _
end Go.Proofs.YtmofnaeiemkbnaaDoor
