/- Plain mathematics: what Quote writes, Unquote reads back, whatever follows. -/
import Derived.Test.YtjedcbmkhifbnaaDoorZ
import Derived.Test.YtjedcbmkhifbnaaDoorTR
import Derived.Lib.MapLaws
import Derived.Lib.TrimAscii
namespace Go.Proofs.YtjedcbmkhifbnaaDoor
open Go.RowKit

/-- A text of a list of bytes. -/
def bst (l : List UInt8) : ByteArray := ⟨l.toArray⟩
theorem bst_size (l : List UInt8) : (bst l).size = l.length := by simp [bst, ByteArray.size]
theorem bst_list (l : List UInt8) : (bst l).data.toList = l := by simp [bst]
theorem bst_at (l : List UInt8) (k : Nat) (h : k < (bst l).size) : (bst l)[k] = l[k]'(by rw [bst_size] at h; exact h) := by
  show (bst l).data[k]'_ = _
  simp [bst]
theorem bst_eq (s : ByteArray) : bst s.data.toList = s := by apply ByteArray.ext; simp [bst]
theorem bst_extract (l : List UInt8) (i j : Nat) : (bst l).extract i j = bst ((l.drop i).take (j - i)) := by
  apply ByteArray.ext
  rw [ByteArray.data_extract]
  apply Array.ext'
  rw [Array.toList_extract, List.extract_eq_take_drop]
  simp [bst]
theorem bst_drop (l : List UInt8) (i : Nat) : (bst l).extract i (bst l).size = bst (l.drop i) := by
  rw [bst_extract, bst_size, List.take_of_length_le (by rw [List.length_drop]; omega)]
theorem bst_append (a b : List UInt8) : bst a ++ bst b = bst (a ++ b) := by
  apply ByteArray.ext
  rw [ByteArray.data_append]
  simp [bst]

theorem hexC_facts (d : Nat) (h : d < 16) : hexB ((hexC d).toNat : Int) = true ∧ (hexV ((hexC d).toNat : Int)).toNat = d := by
  have hd : d = 0 ∨ d = 1 ∨ d = 2 ∨ d = 3 ∨ d = 4 ∨ d = 5 ∨ d = 6 ∨ d = 7 ∨ d = 8 ∨ d = 9 ∨ d = 10 ∨ d = 11 ∨ d = 12 ∨ d = 13 ∨ d = 14 ∨ d = 15 := by omega
  rcases hd with rfl | rfl | rfl | rfl | rfl | rfl | rfl | rfl | rfl | rfl | rfl | rfl | rfl | rfl | rfl | rfl <;> exact ⟨by kernel_rfl, by kernel_rfl⟩
theorem scan_close (m c : Nat) (T : List UInt8) : scanHex m (125 :: T) c = (0, c) := by
  cases m with
  | zero => rfl
  | succ m => rw [scanHex, if_neg (by decide)]
theorem scan_dig : ∀ (j m n c : Nat) (T : List UInt8), j < m → scanHex m (digH j n ++ 125 :: T) c = (j + 1, c * 16 ^ (j + 1) + n % 16 ^ (j + 1))
  | 0, m + 1, n, c, T, _ => by
    have hf := hexC_facts (n % 16) (Nat.mod_lt _ (by omega))
    rw [digH, List.cons_append, List.nil_append, scanHex, if_pos hf.1, hf.2, scan_close]
    simp; omega
  | j + 1, m + 1, n, c, T, h => by
    have hf := hexC_facts (n / 16 ^ (j + 1) % 16) (Nat.mod_lt _ (by omega))
    rw [digH, List.cons_append, scanHex, if_pos hf.1, hf.2, scan_dig j m n _ T (by omega)]
    refine Prod.ext rfl ?_
    show (16 * c + n / 16 ^ (j + 1) % 16) * 16 ^ (j + 1) + n % 16 ^ (j + 1) = c * 16 ^ (j + 1 + 1) + n % 16 ^ (j + 1 + 1)
    have e1 : n % 16 ^ (j + 1 + 1) = n % 16 ^ (j + 1) + 16 ^ (j + 1) * (n / 16 ^ (j + 1) % 16) := Nat.mod_pow_succ
    rw [e1, Nat.pow_succ 16 (j + 1)]
    generalize n / 16 ^ (j + 1) % 16 = q
    generalize n % 16 ^ (j + 1) = z
    generalize 16 ^ (j + 1) = P
    have e2 : 16 * c * P = c * (P * 16) := by rw [Nat.mul_comm 16 c, Nat.mul_assoc, Nat.mul_comm 16 P]
    rw [Nat.add_mul, Nat.mul_comm P q, e2]
    omega
theorem digH_length : ∀ (j n : Nat), (digH j n).length = j + 1
  | 0, _ => rfl
  | j + 1, n => by rw [digH, List.length_cons, digH_length j n]

theorem braces_dig (c : UInt8) (j n least most : Nat) (T : List UInt8) (h1 : least ≤ j + 1) (h2 : j < most) (hn : n < 16 ^ (j + 1)) :
    bracesZ (bst ([92, c, 123] ++ digH j n ++ 125 :: T)) 2 least most = ((n : Int), ((j + 5 : Nat) : Int), 0) := by
  have hsz : (bst ([92, c, 123] ++ digH j n ++ 125 :: T)).size = j + 5 + T.length := by rw [bst_size]; simp [digH_length]; omega
  have hd : (bst ([92, c, 123] ++ digH j n ++ 125 :: T)).data.toList.drop (2 + 1) = digH j n ++ 125 :: T := by rw [bst_list, List.append_assoc]; rfl
  have hs := scan_dig j most n 0 T h2
  rw [Nat.zero_mul, Nat.zero_add, Nat.mod_eq_of_lt hn] at hs
  unfold bracesZ
  rw [hd, hs]
  rw [dif_pos (by omega), if_pos (by rw [bst_at]; rfl), if_neg (by simp only; omega), dif_pos (by simp only; omega), if_pos ?_]
  · refine Prod.ext rfl (Prod.ext ?_ rfl)
    show ((2 + 1 + (j + 1) : Nat) : Int) + 1 = ((j + 5 : Nat) : Int)
    omega
  · rw [bst_at]
    rw [List.getElem_append_right (by simp [digH_length]; omega)]
    simp [digH_length, show 2 + 1 + (j + 1) - (j + 1 + 3) = 0 by omega]

theorem digs_H (n : Nat) (hn : n ≤ 1114111) : ∃ j, j < 6 ∧ digs 16 n = digH j n ∧ (j = 0 ∨ 16 ^ j ≤ n) ∧ n < 16 ^ (j + 1) := by
  have hb : (1114112 : Nat) < 16 ^ (0 + 64 + 1) := by decide
  obtain ⟨j, h1, h2, h3⟩ := unit_atH n 64 0 (.inl rfl) (by omega)
  have hj : j < 6 := by
    rcases h2 with h2 | h2
    · omega
    · refine Nat.lt_of_not_le fun hc => ?_
      have h4 : (16 : Nat) ^ 6 ≤ 16 ^ j := Nat.pow_le_pow_right (by omega) hc
      have h5 : (1114112 : Nat) < 16 ^ 6 := by decide
      omega
  rw [Nat.pow_zero] at h1
  exact ⟨j, hj, by rw [digs, h1, digsU_H n j 64 (by omega)], h2, h3⟩

theorem one_esc {l : List UInt8} (h : l.head? = some 92) : oneZ (bst l) = escZ (bst l) := by
  cases l with
  | nil => cases h
  | cons a r =>
    cases h
    unfold oneZ
    rw [dif_pos (by rw [bst_size]; simp), if_pos (by rw [bst_at]; rfl)]
theorem esc_at {a b : UInt8} {r : List UInt8} : ∃ h : 1 < (bst (a :: b :: r)).size, (bst (a :: b :: r))[1] = b := ⟨by rw [bst_size]; simp, by rw [bst_at]; rfl⟩

theorem one_x (b : Nat) (T : List UInt8) (h0 : 16 ≤ b) (h1 : b ≤ 255) : oneZ (bst (codeB 120 b ++ T)) = (bst [b.toUInt8], ((codeB 120 b).length : Int), 0) := by
  obtain ⟨j, hj, e, h2, h3⟩ := digs_H b (by omega)
  have hj1 : j = 1 := by
    rcases Nat.lt_or_ge j 2 with h | h
    · have hh : j = 0 ∨ j = 1 := by omega
      rcases hh with rfl | rfl
      · simp at h3; omega
      · rfl
    · have h4 : (16 : Nat) ^ 2 ≤ 16 ^ j := Nat.pow_le_pow_right (by omega) h
      have h5 : (16 : Nat) ^ 2 = 256 := rfl
      rcases h2 with h2 | h2 <;> omega
  subst hj1
  have el : codeB 120 b ++ T = [92, 120, 123] ++ digH 1 b ++ 125 :: T := by rw [codeB, e]; simp
  have en : (codeB 120 b).length = 6 := by rw [codeB, e]; simp [digH_length]
  rw [el, one_esc rfl]
  unfold escZ
  obtain ⟨hh, he⟩ := esc_at (a := 92) (b := 120) (r := [123] ++ digH 1 b ++ 125 :: T)
  have hb := braces_dig 120 1 b 2 2 T (by omega) (by omega) h3
  have hh' : 1 < (bst ([92, 120, 123] ++ digH 1 b ++ 125 :: T)).size := hh
  rw [dif_pos hh']
  have he' : (bst ([92, 120, 123] ++ digH 1 b ++ 125 :: T))[1]'hh' = 120 := he
  rw [he', if_neg (by decide), if_neg (by decide), if_neg (by decide), if_neg (by decide), if_pos rfl, hb, en]
  show (if (0 : Int) ≠ 0 then _ else decodeZ 120 b ((1 + 5 : Nat) : Int)) = _
  rw [if_neg (by decide), decodeZ, if_pos rfl]
  rfl
theorem one_u (r : Nat) (T : List UInt8) (h1 : r ≤ 1114111) (hv : Lib.validRune (r : Int) = true) : oneZ (bst (codeB 117 r ++ T)) = (Utf8.encode r, ((codeB 117 r).length : Int), 0) := by
  obtain ⟨j, hj, e, h2, h3⟩ := digs_H r h1
  have el : codeB 117 r ++ T = [92, 117, 123] ++ digH j r ++ 125 :: T := by rw [codeB, e]; simp
  have en : (codeB 117 r).length = j + 5 := by rw [codeB, e]; simp [digH_length]
  rw [el, one_esc rfl]
  unfold escZ
  obtain ⟨hh, he⟩ := esc_at (a := 92) (b := 117) (r := [123] ++ digH j r ++ 125 :: T)
  have hb := braces_dig 117 j r 1 6 T (by omega) hj h3
  have hh' : 1 < (bst ([92, 117, 123] ++ digH j r ++ 125 :: T)).size := hh
  rw [dif_pos hh']
  have he' : (bst ([92, 117, 123] ++ digH j r ++ 125 :: T))[1]'hh' = 117 := he
  rw [he', if_neg (by decide), if_neg (by decide), if_neg (by decide), if_neg (by decide), if_neg (by decide), if_pos rfl, hb, en]
  show (if (0 : Int) ≠ 0 then _ else decodeZ 117 r ((j + 5 : Nat) : Int)) = _
  rw [if_neg (by decide), decodeZ, if_neg (by decide), if_pos hv]
theorem one_two (c x : UInt8) (T : List UInt8) (h : (c = 34 ∧ x = 34) ∨ (c = 92 ∧ x = 92) ∨ (c = 110 ∧ x = 10) ∨ (c = 114 ∧ x = 13) ∨ (c = 116 ∧ x = 9)) : oneZ (bst ([92, c] ++ T)) = (bst [x], 2, 0) := by
  rw [one_esc rfl]
  unfold escZ
  obtain ⟨hh, he⟩ := esc_at (a := 92) (b := c) (r := T)
  have hh' : 1 < (bst ([92, c] ++ T)).size := hh
  rw [dif_pos hh']
  have he' : (bst ([92, c] ++ T))[1]'hh' = c := he
  have hx : (bst ([92, c] ++ T)).extract 1 2 = bst [c] := by rw [bst_extract]; rfl
  rw [he', hx]
  rcases h with ⟨rfl, rfl⟩ | ⟨rfl, rfl⟩ | ⟨rfl, rfl⟩ | ⟨rfl, rfl⟩ | ⟨rfl, rfl⟩ <;> rfl
theorem one_self (c : UInt8) (T : List UInt8) (h0 : 32 ≤ c.toNat) (h1 : c.toNat ≤ 126) (h2 : c ≠ 92) : oneZ (bst ([c] ++ T)) = (bst [c], 1, 0) := by
  have hs : 0 < (bst ([c] ++ T)).size := by rw [bst_size]; simp
  have hc : (bst ([c] ++ T))[0] = c := by rw [bst_at]; rfl
  have hd : Utf8.decode (bst ([c] ++ T)) 0 = (c.toNat, 1) := Lib.decodeL_ascii c T (by omega)
  have hx : (bst ([c] ++ T)).extract 0 1 = bst [c] := by rw [bst_extract]; rfl
  unfold oneZ
  rw [dif_pos hs, hc, if_neg h2, hd, if_neg ?_, hx]
  · rfl
  · rw [invB, decide_eq_false (by omega), Bool.false_and]
    simp only
    rintro (h | h | h)
    · omega
    · omega
    · cases h

/-- What Quote writes for the rune at pos. -/
def encAt (s : ByteArray) (pos : Nat) (h : pos < s.size) : List UInt8 := if invB s pos (Utf8.decode s pos).1 then codeB 120 s[pos].toNat else quoteR (Utf8.decode s pos).1

theorem decode_dropL (s : ByteArray) (pos : Nat) : Lib.decodeL (s.data.toList.drop pos) = Utf8.decode s pos := by
  rw [Lib.decode_N]
  rw [Lib.decodeL_N]
  simp [List.length_drop, List.getD_eq_getElem?_getD, List.getElem?_drop]
theorem decode_valid (s : ByteArray) (pos : Nat) : Lib.validRune ((Utf8.decode s pos).1 : Int) = true := by
  rw [Lib.decode_N, Lib.validRune, decide_eq_true_eq]
  have k0 := byte_lt s.data.toList pos
  generalize (s.data.toList.getD pos 0).toNat = b0 at *
  unfold Lib.decodeN
  repeat' split
  all_goals (simp only; omega)
theorem encode_bytes (r : Nat) (hv : Lib.validRune (r : Int) = true) : Utf8.encode (r : Int) = bst (Lib.encodeRune r) := by
  rw [Lib.validRune, decide_eq_true_eq] at hv
  have hval : Utf8.valid (r : Int) = true := by
    simp only [Utf8.valid, Bool.or_eq_true, Bool.and_eq_true, decide_eq_true_eq]
    omega
  have by8 : ∀ n : Nat, UInt8.ofNat n = n.toUInt8 := fun _ => rfl
  unfold Utf8.encode
  dsimp only
  rw [if_pos hval, Int.toNat_natCast]
  unfold Lib.encodeRune
  by_cases h1 : r < 128
  · rw [if_pos h1, Lib.encodeRuneZ_one (by omega) (by omega)]
    simp [bst]
  rw [if_neg h1]
  by_cases h2 : r < 2048
  · rw [if_pos h2, Lib.encodeRuneZ_two (by omega) (by omega)]
    simp only [bst, List.map_cons, List.map_nil]
    rw [show ((192 : Int) + (r : Int) / 64).toNat = 192 + r / 64 by omega, show ((128 : Int) + (r : Int) % 64).toNat = 128 + r % 64 by omega]
  rw [if_neg h2]
  by_cases h3 : r < 65536
  · rw [if_pos h3, Lib.encodeRuneZ_three (by omega)]
    simp only [bst, List.map_cons, List.map_nil]
    rw [show ((224 : Int) + (r : Int) / 4096).toNat = 224 + r / 4096 by omega, show ((128 : Int) + (r : Int) / 64 % 64).toNat = 128 + r / 64 % 64 by omega, show ((128 : Int) + (r : Int) % 64).toNat = 128 + r % 64 by omega]
  rw [if_neg h3, Lib.encodeRuneZ_four (by omega) (by omega)]
  simp only [bst, List.map_cons, List.map_nil]
  rw [show ((240 : Int) + (r : Int) / 262144).toNat = 240 + r / 262144 by omega, show ((128 : Int) + (r : Int) / 4096 % 64).toNat = 128 + r / 4096 % 64 by omega, show ((128 : Int) + (r : Int) / 64 % 64).toNat = 128 + r / 64 % 64 by omega, show ((128 : Int) + (r : Int) % 64).toNat = 128 + r % 64 by omega]

theorem bst_slice (s : ByteArray) (i j : Nat) : s.extract i j = bst ((s.data.toList.drop i).take (j - i)) := by rw [← bst_extract, bst_eq]
theorem codeB_head (c : UInt8) (m : Nat) : codeB c m = 92 :: ([c, 123] ++ digs 16 m ++ [125]) := rfl

theorem ascii_width {s : ByteArray} {pos : Nat} (h : pos < s.size) (hr : (Utf8.decode s pos).1 < 128) : (Utf8.decode s pos).2 = 1 ∧ s.extract pos (pos + 1) = bst [(Utf8.decode s pos).1.toUInt8] := by
  have hb := ascii_byte h hr
  refine ⟨?_, by rw [hb]; exact one_byte h⟩
  rw [Lib.decode_N, getD_byte h, decodeN_ascii _ _ _ _ _ (by omega)]

theorem enc_step (s : ByteArray) (pos : Nat) (h : pos < s.size) (T : List UInt8) :
    oneZ (bst (encAt s pos h ++ T)) = (s.extract pos (pos + (Utf8.decode s pos).2), ((encAt s pos h).length : Int), 0) ∧ ∃ x r, encAt s pos h = x :: r ∧ x ≠ 34 := by
  unfold encAt
  by_cases hv : invB s pos (Utf8.decode s pos).1 = true
  · rw [if_pos hv]
    rw [inv_is, Bool.and_eq_true, decide_eq_true_eq, decide_eq_true_eq] at hv
    have h1 := inv_high h (by omega)
    have h2 : (Utf8.decode s pos).2 = 1 := by omega
    refine ⟨?_, _, _, codeB_head _ _, by decide⟩
    rw [one_x _ T (by omega) (by have := UInt8.toNat_lt s[pos]; omega), h2, one_byte h]
    rfl
  · rw [if_neg hv]
    have hrn := (decode_facts s pos h).2.2
    have hva := decode_valid s pos
    have hv' := hv
    rw [inv_is] at hv'
    unfold quoteR
    by_cases h10 : (Utf8.decode s pos).1 = 10
    · obtain ⟨hw, hx⟩ := ascii_width h (by omega)
      rw [if_pos h10, hw, hx, h10]
      exact ⟨one_two 110 10 T (by decide), _, _, rfl, by decide⟩
    by_cases h13 : (Utf8.decode s pos).1 = 13
    · obtain ⟨hw, hx⟩ := ascii_width h (by omega)
      rw [if_neg h10, if_pos h13, hw, hx, h13]
      exact ⟨one_two 114 13 T (by decide), _, _, rfl, by decide⟩
    by_cases h9 : (Utf8.decode s pos).1 = 9
    · obtain ⟨hw, hx⟩ := ascii_width h (by omega)
      rw [if_neg h10, if_neg h13, if_pos h9, hw, hx, h9]
      exact ⟨one_two 116 9 T (by decide), _, _, rfl, by decide⟩
    by_cases h34 : (Utf8.decode s pos).1 = 34
    · obtain ⟨hw, hx⟩ := ascii_width h (by omega)
      rw [if_neg h10, if_neg h13, if_neg h9, if_pos (.inl h34), hw, hx, h34]
      exact ⟨one_two 34 34 T (by decide), _, _, rfl, by decide⟩
    by_cases h92 : (Utf8.decode s pos).1 = 92
    · obtain ⟨hw, hx⟩ := ascii_width h (by omega)
      rw [if_neg h10, if_neg h13, if_neg h9, if_pos (.inr h92), hw, hx, h92]
      exact ⟨one_two 92 92 T (by decide), _, _, rfl, by decide⟩
    rw [if_neg h10, if_neg h13, if_neg h9, if_neg (by omega)]
    by_cases hp : 32 ≤ (Utf8.decode s pos).1 ∧ (Utf8.decode s pos).1 ≤ 126
    · obtain ⟨hw, hx⟩ := ascii_width h (by omega)
      have hn : ((Utf8.decode s pos).1.toUInt8).toNat = (Utf8.decode s pos).1 := by simp; omega
      rw [if_pos hp, hw, hx]
      refine ⟨one_self _ T (by rw [hn]; exact hp.1) (by rw [hn]; exact hp.2) ?_, _, _, rfl, ?_⟩
      · intro e; have := congrArg UInt8.toNat e; rw [hn] at this; exact h92 this
      · intro e; have := congrArg UInt8.toNat e; rw [hn] at this; exact h34 this
    · rw [if_neg hp]
      refine ⟨?_, _, _, codeB_head _ _, by decide⟩
      rw [one_u _ T hrn hva, encode_bytes _ hva, bst_slice, Nat.add_sub_cancel_left, ← decode_dropL, Lib.encode_decode]
      · intro e
        have := congrArg List.length e
        rw [List.length_drop, Array.length_toList, List.length_nil] at this
        have : s.data.size = s.size := rfl
        omega
      · rw [decode_dropL]
        intro e
        apply hv'
        rw [decide_eq_true (by omega), decide_eq_true (by omega)]
        rfl

theorem unq_from (s : ByteArray) (R : List UInt8) : ∀ (f g pos : Nat) (P : List UInt8), pos ≤ s.size → s.size ≤ pos + f → (quoteFrom s f pos).length < g →
    unqFrom (bst (P ++ (quoteFrom s f pos ++ 34 :: R))) g P.length (s.data.toList.take pos) = (s, ((P.length + (quoteFrom s f pos).length + 1 : Nat) : Int), 0)
  | f, 0, _, _, _, _, h => absurd h (by omega)
  | 0, g + 1, pos, P, h1, h2, h3 => by
    have he : pos = s.size := by omega
    subst he
    have hk : P.length < (bst (P ++ (quoteFrom s 0 s.size ++ 34 :: R))).size := by rw [bst_size]; simp; omega
    rw [unqFrom, dif_pos hk, if_pos (by rw [bst_at]; simp [quoteFrom])]
    simp only [quoteFrom]
    rw [List.take_of_length_le (by rw [Array.length_toList]; exact Nat.le_refl _)]
    rfl
  | f + 1, g + 1, pos, P, h1, h2, h3 => by
    by_cases h : pos < s.size
    · obtain ⟨hw1, hw2, _⟩ := decode_facts s pos h
      have hq : quoteFrom s (f + 1) pos = encAt s pos h ++ quoteFrom s f (pos + (Utf8.decode s pos).2) := by rw [quoteFrom, dif_pos h]; rfl
      obtain ⟨ho, x, r, hxr, hx⟩ := enc_step s pos h (quoteFrom s f (pos + (Utf8.decode s pos).2) ++ 34 :: R)
      have hne : 1 ≤ (encAt s pos h).length := by rw [hxr]; simp
      rw [hq] at h3 ⊢
      rw [List.length_append] at h3
      have hk : P.length < (bst (P ++ (encAt s pos h ++ quoteFrom s f (pos + (Utf8.decode s pos).2) ++ 34 :: R))).size := by rw [bst_size]; simp; omega
      have hat : (bst (P ++ (encAt s pos h ++ quoteFrom s f (pos + (Utf8.decode s pos).2) ++ 34 :: R)))[P.length] = x := by rw [bst_at, List.getElem_append_right (Nat.le_refl _)]; simp [hxr]
      have hdr : (bst (P ++ (encAt s pos h ++ quoteFrom s f (pos + (Utf8.decode s pos).2) ++ 34 :: R))).extract P.length (bst (P ++ (encAt s pos h ++ quoteFrom s f (pos + (Utf8.decode s pos).2) ++ 34 :: R))).size = bst (encAt s pos h ++ (quoteFrom s f (pos + (Utf8.decode s pos).2) ++ 34 :: R)) := by
        rw [bst_drop]; simp
      rw [unqFrom, dif_pos hk, hat, if_neg hx, hdr, ho, if_neg (by simp)]
      have ih := unq_from s R f g (pos + (Utf8.decode s pos).2) (P ++ encAt s pos h) hw2 (by omega) (by omega)
      have ea : s.data.toList.take pos ++ (s.extract pos (pos + (Utf8.decode s pos).2)).data.toList = s.data.toList.take (pos + (Utf8.decode s pos).2) := by
        rw [bst_slice, bst_list, Nat.add_sub_cancel_left, List.take_add]
      simp only [Int.toNat_natCast]
      rw [ea]
      rw [show P ++ (encAt s pos h ++ quoteFrom s f (pos + (Utf8.decode s pos).2) ++ 34 :: R) = (P ++ encAt s pos h) ++ (quoteFrom s f (pos + (Utf8.decode s pos).2) ++ 34 :: R) by simp, show P.length + (encAt s pos h).length = (P ++ encAt s pos h).length by simp, ih]
      refine Prod.ext rfl (Prod.ext ?_ rfl)
      simp
      omega
    · have he : pos = s.size := by omega
      subst he
      have hq : quoteFrom s (f + 1) s.size = [] := quoteFrom_end s _ _ (by omega)
      rw [hq] at h3 ⊢
      have hk : P.length < (bst (P ++ ([] ++ 34 :: R))).size := by rw [bst_size]; simp
      rw [unqFrom, dif_pos hk, if_pos (by rw [bst_at]; simp)]
      rw [List.take_of_length_le (by rw [Array.length_toList]; exact Nat.le_refl _)]
      rfl

/-- Quoted, and read again, whatever follows. -/
theorem unq_quote (s rest : ByteArray) : unqZ (⟨(quoteB s).toArray⟩ ++ rest) = (s, ((quoteB s).length : Int), 0) := by
  have e : (⟨(quoteB s).toArray⟩ ++ rest : ByteArray) = bst ([34] ++ (quoteFrom s s.size 0 ++ 34 :: rest.data.toList)) := by
    rw [show (⟨(quoteB s).toArray⟩ : ByteArray) = bst (quoteB s) from rfl, ← bst_eq rest, bst_append, bst_eq, quoteB]
    simp
  have h := unq_from s rest.data.toList s.size ((bst ([34] ++ (quoteFrom s s.size 0 ++ 34 :: rest.data.toList))).size + 1) 0 [34] (by omega) (by omega) (by rw [bst_size]; simp; omega)
  rw [e, unqZ, if_pos (by rw [bst_list]; rfl)]
  rw [show (1 : Nat) = ([34] : List UInt8).length from rfl, show ([] : List UInt8) = s.data.toList.take 0 from rfl] 
  refine Eq.trans h (Prod.ext rfl (Prod.ext ?_ rfl))
  simp [quoteB]
  omega
end Go.Proofs.YtjedcbmkhifbnaaDoor
