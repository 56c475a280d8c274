/- text.readBraces: hex digits in braces. Conditions: the offset lies in the text, which has at most 4000 bytes; at most six digits are asked for. -/
import Derived.Test.YtmofnaeiemkbnaaDoorR
import Derived.Test.YtmofnaeiemkbnaaDoorU
namespace Go.Proofs.YtmofnaeiemkbnaaDoor
open Go.RowKit Go.Shelf

/-- How many hex digits there are, at most so many, and the number that they spell behind c. -/
def scanHex : Nat → List UInt8 → Nat → Nat × Nat
  | 0, _, c => (0, c)
  | _ + 1, [], c => (0, c)
  | f + 1, x :: r, c => if hexB x.toNat then ((scanHex f r (16 * c + (hexV x.toNat).toNat)).1 + 1, (scanHex f r (16 * c + (hexV x.toNat).toNat)).2) else (0, c)

theorem hexV_lt {x : Int} (h : hexB x = true) : 0 ≤ hexV x ∧ hexV x < 16 := by
  simp only [hexB, digB, lowB, Bool.or_eq_true, decide_eq_true_eq] at h
  unfold hexV digB
  split
  · rename_i hd; simp at hd; omega
  · rename_i hd; simp at hd; omega

theorem scanHex_len : ∀ (f : Nat) (l : List UInt8) (c : Nat), (scanHex f l c).1 ≤ l.length ∧ (scanHex f l c).1 ≤ f
  | 0, _, _ => by simp [scanHex]
  | _ + 1, [], _ => by simp [scanHex]
  | f + 1, x :: r, c => by
    unfold scanHex
    split
    · have := scanHex_len f r (16 * c + (hexV x.toNat).toNat); simp; omega
    · simp

/-- What readBraces answers: the number, the place behind, the error. -/
def bracesZ (s : ByteArray) (k least most : Nat) : Int × Int × Int :=
  if h : k < s.size then
    if s[k] = 123 then
      if (scanHex most (s.data.toList.drop (k + 1)) 0).1 < least then (0, 0, wrongZ s (k + 1 + (scanHex most (s.data.toList.drop (k + 1)) 0).1))
      else if h2 : k + 1 + (scanHex most (s.data.toList.drop (k + 1)) 0).1 < s.size then
        if s[k + 1 + (scanHex most (s.data.toList.drop (k + 1)) 0).1] = 125 then ((scanHex most (s.data.toList.drop (k + 1)) 0).2, (k + 1 + (scanHex most (s.data.toList.drop (k + 1)) 0).1 : Nat) + 1, 0)
        else (0, 0, wrongZ s (k + 1 + (scanHex most (s.data.toList.drop (k + 1)) 0).1))
      else (0, 0, wrongZ s (k + 1 + (scanHex most (s.data.toList.drop (k + 1)) 0).1))
    else (0, 0, wrongZ s k)
  else (0, 0, wrongZ s k)

theorem or4 (x y : Int) (hx₀ : 0 ≤ x) (hx : x % 16 = 0) (hx₁ : x < 2147483648) (h₀ : 0 ≤ y) (h₁ : y < 16) : bits .or .i32 x y = x + y :=
  bits_join .i32 31 (by decide) wraps_i32 4 x y hx₀ hx hx₁ h₀ h₁ (by omega)

theorem byte_beq {s : ByteArray} {k : Nat} (h : k < s.size) (v : UInt8) : ((s[k].toNat : Int) == (v.toNat : Int)) = decide (s[k] = v) := by
  rw [Bool.eq_iff_iff, beq_iff_eq, decide_eq_true_eq, ← UInt8.toNat_inj]; omega
theorem byte_bne {s : ByteArray} {k : Nat} (h : k < s.size) (v : UInt8) : ((s[k].toNat : Int) != (v.toNat : Int)) = !decide (s[k] = v) := by
  rw [bne, byte_beq]
theorem drop_cons {s : ByteArray} {k : Nat} (h : k < s.size) : s.data.toList.drop k = s[k] :: s.data.toList.drop (k + 1) := by
  rw [List.drop_eq_getElem_cons (by simpa using h)]; rfl
theorem drop_nil {s : ByteArray} {k : Nat} (h : ¬ k < s.size) : s.data.toList.drop k = [] := List.drop_eq_nil_of_le (by rw [Array.length_toList]; exact Nat.not_lt.1 h)

/-- At the loop's head: the digits that are still to come. -/
def LeftHex (s : ByteArray) (k0 most k c j : Nat) : Prop :=
  k = k0 + 1 + j ∧ (scanHex most (s.data.toList.drop (k0 + 1)) 0).1 = (scanHex (most - j) (s.data.toList.drop k) c).1 + j ∧ (scanHex most (s.data.toList.drop (k0 + 1)) 0).2 = (scanHex (most - j) (s.data.toList.drop k) c).2 ∧ c < 16 ^ j
theorem LeftHex.stop {s : ByteArray} {k0 most k c j : Nat} (h : LeftHex s k0 most k c j) (hs : scanHex (most - j) (s.data.toList.drop k) c = (0, c)) :
    k = k0 + 1 + (scanHex most (s.data.toList.drop (k0 + 1)) 0).1 ∧ j = (scanHex most (s.data.toList.drop (k0 + 1)) 0).1 ∧ c = (scanHex most (s.data.toList.drop (k0 + 1)) 0).2 := by
  obtain ⟨h1, h2, h3, _⟩ := h
  rw [hs] at h2 h3
  simp at h2 h3
  omega
theorem LeftHex.next {s : ByteArray} {k0 most k c j : Nat} (h : LeftHex s k0 most k c j) (hj : j < most) (hk : k < s.size) (hx : hexB (s[k].toNat : Int) = true) : LeftHex s k0 most (k + 1) (16 * c + (hexV (s[k].toNat : Int)).toNat) (j + 1) := by
  obtain ⟨h1, h2, h3, h4⟩ := h
  obtain ⟨f, hf⟩ : ∃ f, most - j = f + 1 := ⟨most - j - 1, by omega⟩
  have hf' : most - (j + 1) = f := by omega
  rw [hf, drop_cons hk] at h2 h3
  simp only [scanHex, hx, if_true] at h2 h3
  have hv := hexV_lt hx
  exact ⟨by omega, by rw [h2, hf']; omega, by rw [h3, hf'], by rw [Nat.pow_succ]; omega⟩

/-- Behind the digits. -/
def endZ (s : ByteArray) (k least j c : Nat) : Int × Int × Int :=
  if j < least then (0, 0, wrongZ s k) else if h : k < s.size then (if s[k] = 125 then ((c : Int), (k : Int) + 1, 0) else (0, 0, wrongZ s k)) else (0, 0, wrongZ s k)
theorem bracesZ_end {s : ByteArray} {k0 least most k j c : Nat} (hk0 : k0 < s.size) (hb : s[k0] = 123)
    (h : k = k0 + 1 + (scanHex most (s.data.toList.drop (k0 + 1)) 0).1 ∧ j = (scanHex most (s.data.toList.drop (k0 + 1)) 0).1 ∧ c = (scanHex most (s.data.toList.drop (k0 + 1)) 0).2) : bracesZ s k0 least most = endZ s k least j c := by
  obtain ⟨h1, h2, h3⟩ := h
  subst h1; subst h2; subst h3
  unfold bracesZ endZ
  rw [dif_pos hk0, if_pos hb]
theorem endZ_short {s : ByteArray} {k least j c : Nat} (h : j < least) : endZ s k least j c = (0, 0, wrongZ s k) := if_pos h
theorem endZ_out {s : ByteArray} {k least j c : Nat} (h : ¬ k < s.size) : endZ s k least j c = (0, 0, wrongZ s k) := by simp [endZ, h]
theorem endZ_bad {s : ByteArray} {k least j c : Nat} (h : k < s.size) (hc : ¬ s[k] = 125) : endZ s k least j c = (0, 0, wrongZ s k) := by simp [endZ, h, hc]
theorem endZ_ok {s : ByteArray} {k least j c : Nat} (hj : ¬ j < least) (h : k < s.size) (hc : s[k] = 125) : endZ s k least j c = ((c : Int), (k : Int) + 1, 0) := by
  unfold endZ; rw [if_neg hj, dif_pos h, if_pos hc]
theorem scan_stop {s : ByteArray} {most j k c : Nat} (h : ¬ ∃ (_ : j < most) (h : k < s.size), hexB (s[k].toNat : Int) = true) : scanHex (most - j) (s.data.toList.drop k) c = (0, c) := by
  by_cases h1 : j < most
  · obtain ⟨f, hf⟩ : ∃ f, most - j = f + 1 := ⟨most - j - 1, by omega⟩
    by_cases h2 : k < s.size
    · have h3 : ¬ hexB (s[k].toNat : Int) = true := fun h4 => h ⟨h1, h2, h4⟩
      rw [hf, drop_cons h2]; simp [scanHex, h3]
    · rw [hf, drop_nil h2]; rfl
  · rw [show most - j = 0 by omega]; rfl

set_option maxHeartbeats 4000000 in
set_option maxRecDepth 100000 in
theorem readBraces_any (s : ByteArray) (k0 least most : Nat) (w : World) (hk : k0 ≤ s.size) (hm : most ≤ 6) (hs : s.size ≤ 4000) :
    Calls Tryd.prog 59 #[.string s, .int .i64 k0, .int .i64 least, .int .i64 most] w fun e w' => e = .returned (.tuple #[.int .i32 (bracesZ s k0 least most).1, .int .i64 (bracesZ s k0 least most).2.1, .int .i64 (bracesZ s k0 least most).2.2]) ∧ w = w' := by
  by_cases hk0 : k0 < s.size
  · have e1 : ((k0 : Int) == (s.size : Int)) = false := by rw [beq_eq_false_iff_ne]; omega
    by_cases hb : s[k0] = 123
    · have e2 : ((s[k0].toNat : Int) != 123) = false := by rw [show (123 : Int) = ((123 : UInt8).toNat : Int) from rfl, byte_bne hk0, hb]; rfl
      have HB := Lib.hid hb; clear hb
      go_enter Tryd.func59, Tryd.ntmps59
      go_wp2
      go_loop [1, 11, 12] (fun a cc jj => ∃ k c j : Nat, a = .int .i64 k ∧ cc = .int .i32 c ∧ jj = .int .i64 j ∧ k ≤ s.size ∧ j ≤ most ∧ Hid (LeftHex s k0 most k c j)) (fun a _ _ => s.size - (intOf a).toNat)
      case atStart => exact ⟨k0 + 1, 0, 0, by go_num, rfl, rfl, by omega, by omega, ⟨rfl, rfl, rfl, by simp⟩⟩
      case round =>
        obtain ⟨k, c, j, rfl, rfl, rfl, hks, hjm, hL⟩ := hrel
        by_cases hgo : ∃ (_ : j < most) (h : k < s.size), hexB (s[k].toNat : Int) = true
        · obtain ⟨hj', hk', hx⟩ := hgo
          have hN := Lib.hid (LeftHex.next hL hj' hk' hx)
          have hc : c < 1048576 := by
            have := hL.2.2.2
            have h5 : 16 ^ j ≤ 16 ^ 5 := Nat.pow_le_pow_right (by omega) (by omega)
            have : (16 : Nat) ^ 5 = 1048576 := rfl
            omega
          obtain ⟨v, hv⟩ := Int.eq_ofNat_of_zero_le (hexV_lt hx).1
          have hv16 : v < 16 := by have := (hexV_lt hx).2; omega
          have ho : bits .or .i32 ((c : Int) * 16) (hexV (s[k].toNat : Int)) = (c : Int) * 16 + v := by rw [hv]; exact or4 _ _ (by omega) (by omega) (by omega) (by omega) (by omega)
          have HX := Lib.hid hx; clear hx
          have HO := Lib.hid ho; clear ho
          have HVV := Lib.hid hv; clear hv
          have hjm' : (j : Int) < (most : Int) := by omega
          have hks' : (k : Int) < (s.size : Int) := by omega
          clear e1 e2
          go_wp2_with fail
          refine (isHex_any _ _).mono ?_
          rintro e w1 ⟨rfl, rfl⟩
          rw [HX.out]
          go_wp2_with fail
          refine (hexValue_any _ _ HX.out).mono ?_
          rintro e w1 ⟨rfl, rfl⟩
          go_wp2
          rw [HO.out]
          refine ⟨⟨k + 1, 16 * c + v, j + 1, by go_num, ?_, by go_num, by omega, by omega, ?_⟩, ?_⟩
          · congr 1; omega
          · have := hN.out; rwa [HVV.out, Int.toNat_natCast] at this
          · simp [intOf]; omega
        · have hR := bracesZ_end (least := least) hk0 HB.out (LeftHex.stop hL (scan_stop hgo))
          have HR := Lib.hid hR; clear hR
          clear e1 e2 hL
          by_cases h1 : j < most
          · by_cases h2 : k < s.size
            · have h3 : hexB (s[k].toNat : Int) = false := Bool.eq_false_iff.2 (fun h4 => hgo ⟨h1, h2, h4⟩)
              have H3 := Lib.hid h3; clear h3 hgo
              have f1 : ((k : Int) == (s.size : Int)) = false := by rw [beq_eq_false_iff_ne]; omega
              have g1 : (j : Int) < (most : Int) := by omega
              have g2 : (k : Int) < (s.size : Int) := by omega
              by_cases h4 : j < least
              · have g4 : (j : Int) < (least : Int) := by omega
                go_wp2_with fail
                refine (isHex_any _ _).mono ?_
                rintro e w1 ⟨rfl, rfl⟩
                rw [H3.out]
                go_wp2_with fail
                refine (wrongAt_any s k _ hks).mono ?_
                rintro e w1 ⟨rfl, rfl⟩
                go_wp2
                go_ret3
                exact ⟨by rw [HR.out, endZ_short h4]; rfl, rfl⟩
              · by_cases h5 : s[k] = 125
                · have f2 : ((s[k].toNat : Int) != 125) = false := by rw [show (125 : Int) = ((125 : UInt8).toNat : Int) from rfl, byte_bne h2, h5]; rfl
                  have H5 := Lib.hid h5; clear h5
                  go_wp2_with fail
                  refine (isHex_any _ _).mono ?_
                  rintro e w1 ⟨rfl, rfl⟩
                  rw [H3.out]
                  go_wp2
                  go_ret3
                  exact ⟨by rw [HR.out, endZ_ok h4 h2 H5.out]; rfl, rfl⟩
                · have f2 : ((s[k].toNat : Int) != 125) = true := by rw [show (125 : Int) = ((125 : UInt8).toNat : Int) from rfl, byte_bne h2]; simp [h5]
                  have H5 := Lib.hid h5; clear h5
                  go_wp2_with fail
                  refine (isHex_any _ _).mono ?_
                  rintro e w1 ⟨rfl, rfl⟩
                  rw [H3.out]
                  go_wp2_with fail
                  refine (wrongAt_any s k _ hks).mono ?_
                  rintro e w1 ⟨rfl, rfl⟩
                  go_wp2
                  go_ret3
                  exact ⟨by rw [HR.out, endZ_bad h2 H5.out]; rfl, rfl⟩
            · have f1 : ((k : Int) == (s.size : Int)) = true := by rw [beq_iff_eq]; omega
              clear hgo
              by_cases h4 : j < least
              all_goals
                go_wp2_with fail
                refine (wrongAt_any s k _ hks).mono ?_
                rintro e w1 ⟨rfl, rfl⟩
                go_wp2
                go_ret3
                exact ⟨by rw [HR.out, endZ_out h2]; rfl, rfl⟩
          · clear hgo
            by_cases h4 : j < least
            · go_wp2_with fail
              refine (wrongAt_any s k _ hks).mono ?_
              rintro e w1 ⟨rfl, rfl⟩
              go_wp2
              go_ret3
              exact ⟨by rw [HR.out, endZ_short h4]; rfl, rfl⟩
            · by_cases h2 : k < s.size
              · have f1 : ((k : Int) == (s.size : Int)) = false := by rw [beq_eq_false_iff_ne]; omega
                by_cases h5 : s[k] = 125
                · have f2 : ((s[k].toNat : Int) != 125) = false := by rw [show (125 : Int) = ((125 : UInt8).toNat : Int) from rfl, byte_bne h2, h5]; rfl
                  have H5 := Lib.hid h5; clear h5
                  go_wp2
                  go_ret3
                  exact ⟨by rw [HR.out, endZ_ok h4 h2 H5.out]; rfl, rfl⟩
                · have f2 : ((s[k].toNat : Int) != 125) = true := by rw [show (125 : Int) = ((125 : UInt8).toNat : Int) from rfl, byte_bne h2]; simp [h5]
                  have H5 := Lib.hid h5; clear h5
                  go_wp2_with fail
                  refine (wrongAt_any s k _ hks).mono ?_
                  rintro e w1 ⟨rfl, rfl⟩
                  go_wp2
                  go_ret3
                  exact ⟨by rw [HR.out, endZ_bad h2 H5.out]; rfl, rfl⟩
              · have f1 : ((k : Int) == (s.size : Int)) = true := by rw [beq_iff_eq]; omega
                go_wp2_with fail
                refine (wrongAt_any s k _ hks).mono ?_
                rintro e w1 ⟨rfl, rfl⟩
                go_wp2
                go_ret3
                exact ⟨by rw [HR.out, endZ_out h2]; rfl, rfl⟩
    · have e2 : ((s[k0].toNat : Int) != 123) = true := by rw [show (123 : Int) = ((123 : UInt8).toNat : Int) from rfl, byte_bne hk0]; simp [hb]
      have HB := Lib.hid hb; clear hb
      go_enter Tryd.func59, Tryd.ntmps59
      go_wp2_with fail
      refine (wrongAt_any s k0 _ hk).mono ?_
      rintro e w1 ⟨rfl, rfl⟩
      go_wp2
      go_ret3
      exact ⟨by simp only [bracesZ, dif_pos hk0, if_neg HB.out]; rfl, rfl⟩
  · have e1 : ((k0 : Int) == (s.size : Int)) = true := by rw [beq_iff_eq]; omega
    go_enter Tryd.func59, Tryd.ntmps59
    go_wp2_with fail
    refine (wrongAt_any s k0 _ hk).mono ?_
    rintro e w1 ⟨rfl, rfl⟩
    go_wp2
    go_ret3
    exact ⟨by simp only [bracesZ, dif_neg hk0]; rfl, rfl⟩
end Go.Proofs.YtmofnaeiemkbnaaDoor
