/- Facts for the reference's Quote: when a rune stands for an invalid byte; a low rune is its byte. -/
import Derived.Test.YtmofnaeiemkbnaaDoorTM
import Derived.Test.YtmofnaeiemkbnaaDoorVW
import Derived.Test.YtmofnaeiemkbnaaDoorT
namespace Go.Proofs.YtmofnaeiemkbnaaDoor
open Go.RowKit Go.Shelf

theorem getD_byte {s : ByteArray} {pos : Nat} (hp : pos < s.size) : s.data.toList.getD pos 0 = s[pos] := by
  rw [List.getD_eq_getElem?_getD, List.getElem?_eq_getElem (by rw [Array.length_toList]; exact hp)]; rfl
theorem inv_is (s : ByteArray) (pos : Nat) : invB s pos (Utf8.decode s pos).1 = (decide (((Utf8.decode s pos).1 : Int) = 65533) && decide (((Utf8.decode s pos).2 : Int) = 1)) := by
  rw [invB, inv_prefix, Lib.decode_N]
  by_cases hr : (Lib.decodeN (s.data.toList.length - pos) (s.data.toList.getD pos 0).toNat (s.data.toList.getD (pos + 1) 0).toNat (s.data.toList.getD (pos + 2) 0).toNat (s.data.toList.getD (pos + 3) 0).toNat).1 = 65533
  · by_cases hw : 2 < s.data.toList.length - pos ∧ (s.data.toList.getD pos 0).toNat = 239 ∧ (s.data.toList.getD (pos + 1) 0).toNat = 191 ∧ (s.data.toList.getD (pos + 2) 0).toNat = 189
    · rw [decide_eq_true hw]
      obtain ⟨h1, h2, h3, h4⟩ := hw
      rw [h2, h3, h4, decodeN_fffd _ _ h1]
      rfl
    · rw [decide_eq_false hw]
      by_cases h1 : (Lib.decodeN (s.data.toList.length - pos) (s.data.toList.getD pos 0).toNat (s.data.toList.getD (pos + 1) 0).toNat (s.data.toList.getD (pos + 2) 0).toNat (s.data.toList.getD (pos + 3) 0).toNat).2 = 1
      · rw [h1]; rfl
      · exact absurd (decodeN_bad _ _ _ _ _ (byte_lt _ _) (byte_lt _ _) hr h1) hw
  · rw [decide_eq_false (by omega), Bool.false_and, Bool.false_and]
theorem inv_high {s : ByteArray} {pos : Nat} (hp : pos < s.size) (h : (Utf8.decode s pos).1 = 65533) : 128 ≤ s[pos].toNat := by
  refine Nat.le_of_not_lt fun hc => ?_
  rw [Lib.decode_N, getD_byte hp, decodeN_ascii _ _ _ _ _ hc] at h
  dsimp only at h
  omega
theorem ascii_byte {s : ByteArray} {pos : Nat} (hp : pos < s.size) (h : (Utf8.decode s pos).1 < 128) : (Utf8.decode s pos).1 = s[pos].toNat := by
  by_cases hc : s[pos].toNat < 128
  · rw [Lib.decode_N, getD_byte hp, decodeN_ascii _ _ _ _ _ hc]
  · rw [Lib.decode_N, getD_byte hp] at h
    have := decodeN_high (s.data.toList.length - pos) s[pos].toNat (s.data.toList.getD (pos + 1) 0).toNat (s.data.toList.getD (pos + 2) 0).toNat (s.data.toList.getD (pos + 3) 0).toNat (by omega)
    omega
theorem hexR_length (least : Nat) : ∀ f n s, (hexR least f n s).length ≤ f + s.length
  | 0, _, _ => by simp [hexR]
  | f + 1, n, s => by
    rw [hexR]
    split
    · have := hexR_length least f (n / 16) (hexC (n % 16) :: s)
      simp at this; omega
    · omega
theorem Below.drewN {B : Nat} {w w' : World} (h : Below B w w') (n : Nat) : Below B w (w'.drewN n) := ⟨h.os, h.tape, h.output, h.size, h.block⟩

end Go.Proofs.YtmofnaeiemkbnaaDoor
