/- Plain mathematics of UTF-8 decoding: widths, bounds, and when U+FFFD stands for an invalid byte. -/
import Derived.Lib.TrimUEq
import Derived.Lib.Strings
namespace Go.Proofs.YtmofnaeiemkbnaaDoor
open Go

theorem decodeN_width (n b0 b1 b2 b3 : Nat) (hn : 1 ≤ n) : 1 ≤ (Lib.decodeN n b0 b1 b2 b3).2 ∧ (Lib.decodeN n b0 b1 b2 b3).2 ≤ n := by
  unfold Lib.decodeN
  repeat' split
  all_goals (simp only; omega)
theorem decodeN_rune (n b0 b1 b2 b3 : Nat) (h0 : b0 < 256) : (Lib.decodeN n b0 b1 b2 b3).1 ≤ 1114111 := by
  unfold Lib.decodeN
  repeat' split
  all_goals (simp only; omega)
theorem decodeN_ascii (n b0 b1 b2 b3 : Nat) (h0 : b0 < 128) : Lib.decodeN n b0 b1 b2 b3 = (b0, 1) := by simp [Lib.decodeN, h0]
theorem decodeN_high (n b0 b1 b2 b3 : Nat) (h0 : 128 ≤ b0) : 128 ≤ (Lib.decodeN n b0 b1 b2 b3).1 := by
  unfold Lib.decodeN
  repeat' split
  all_goals (simp only; omega)
/-- U+FFFD by width: three bytes just where they are EF BF BD; else one. -/
theorem decodeN_fffd (n b3 : Nat) (h : 2 < n) : Lib.decodeN n 239 191 189 b3 = (65533, 3) := by
  unfold Lib.decodeN
  rw [if_neg (by omega), if_neg (by omega), if_pos ⟨by omega, ⟨by omega, by omega⟩, h, by omega⟩, if_pos ⟨by omega, by omega⟩]
theorem decodeN_bad (n b0 b1 b2 b3 : Nat) (h0 : b0 < 256) (h1 : b1 < 256) (h : (Lib.decodeN n b0 b1 b2 b3).1 = 65533) (hw : (Lib.decodeN n b0 b1 b2 b3).2 ≠ 1) :
    2 < n ∧ b0 = 239 ∧ b1 = 191 ∧ b2 = 189 := by
  revert h hw
  unfold Lib.decodeN
  repeat' split
  all_goals (simp only; intro h hw; omega)

theorem hasPrefix_three (l : List UInt8) : Lib.hasPrefix l [239, 191, 189] = decide (2 < l.length ∧ (l.getD 0 0).toNat = 239 ∧ (l.getD 1 0).toNat = 191 ∧ (l.getD 2 0).toNat = 189) := by
  match l with
  | [] => rfl
  | [a] => simp [Lib.hasPrefix, List.isPrefixOf]
  | [a, b] => simp [Lib.hasPrefix, List.isPrefixOf]
  | a :: b :: c :: r =>
    rw [Bool.eq_iff_iff]
    simp only [Lib.hasPrefix, List.isPrefixOf, Bool.and_true, Bool.and_eq_true, beq_iff_eq, decide_eq_true_eq, List.length_cons]
    constructor
    · rintro ⟨h1, h2, h3⟩
      subst h1; subst h2; subst h3
      exact ⟨by omega, rfl, rfl, rfl⟩
    · rintro ⟨_, h1, h2, h3⟩
      exact ⟨(UInt8.toNat_inj.1 h1).symm, (UInt8.toNat_inj.1 h2).symm, (UInt8.toNat_inj.1 h3).symm⟩

theorem byte_lt (l : List UInt8) (k : Nat) : (l.getD k 0).toNat < 256 := UInt8.toNat_lt _

theorem decode_facts (s : ByteArray) (pos : Nat) (hp : pos < s.size) :
    1 ≤ (Utf8.decode s pos).2 ∧ pos + (Utf8.decode s pos).2 ≤ s.size ∧ (Utf8.decode s pos).1 ≤ 1114111 := by
  rw [Lib.decode_N]
  have hl : s.data.toList.length = s.size := Array.length_toList
  have h1 := decodeN_width (s.data.toList.length - pos) (s.data.toList.getD pos 0).toNat (s.data.toList.getD (pos + 1) 0).toNat (s.data.toList.getD (pos + 2) 0).toNat (s.data.toList.getD (pos + 3) 0).toNat (by omega)
  exact ⟨h1.1, by omega, decodeN_rune _ _ _ _ _ (byte_lt _ _)⟩

end Go.Proofs.YtmofnaeiemkbnaaDoor
