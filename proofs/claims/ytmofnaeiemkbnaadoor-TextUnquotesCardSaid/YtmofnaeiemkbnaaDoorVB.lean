/- The reference's braced: it answers as text.readBraces at the text's front, where there is a brace. -/
import Derived.Test.YtmofnaeiemkbnaaDoorV
import Derived.Test.YtmofnaeiemkbnaaDoorTH
namespace Go.Proofs.YtmofnaeiemkbnaaDoor
open Go.RowKit Go.Shelf

/-- What the reference's braced answers: the number, the bytes read, the error. -/
def bracedR (s : ByteArray) (least most : Nat) : Int × Int × Int :=
  if h : 0 < s.size then (if s[0] = 123 then bracesZ s 0 least most else (0, 0, 3)) else (0, 0, wrongZ s 0)
theorem str_ne0 {s : ByteArray} (h : 0 < s.size) : s.toList.isEmpty = false := by
  rw [ByteArray.toList_eq, List.isEmpty_eq_false_iff]
  intro e
  have := congrArg List.length e
  rw [Array.length_toList] at this
  have h2 : s.data.size = s.size := rfl
  rw [h2, List.length_nil] at this
  omega
theorem digZ_hex {c : Int} (h : hexB c = true) : digZ c = hexV c := by
  simp only [hexB, digB, lowB, Bool.or_eq_true, decide_eq_true_eq] at h
  unfold digZ hexV digB
  by_cases h1 : 48 ≤ c ∧ c ≤ 57
  · rw [if_pos h1, if_pos (by simpa using h1)]
  · rw [if_neg h1, if_pos (by omega), if_neg (by simpa using h1)]; omega
theorem digZ_not {c : Int} (h : ¬ hexB c = true) : digZ c = -1 := by
  simp only [hexB, digB, lowB, Bool.or_eq_true, decide_eq_true_eq] at h
  unfold digZ
  rw [if_neg (by omega), if_neg (by omega)]

set_option maxHeartbeats 1000000 in
theorem rBraced_none (s : ByteArray) (least most : Nat) (w : World) (hk : ¬ 0 < s.size) :
    Calls Tryd.prog 56 #[.string s, .int .i64 least, .int .i64 most] w fun e w' => e = .returned (.tuple #[.int .i64 0, .int .i64 0, .int .i64 (wrongZ s 0)]) ∧ w = w' := by
  have hz : s.size = 0 := by omega
  obtain rfl : s = ⟨#[]⟩ := by apply ByteArray.ext; apply Array.eq_empty_of_size_eq_zero; exact hz
  go_enter Tryd.func56, Tryd.ntmps56
  go_wp2
  go_ret3
  exact ⟨rfl, rfl⟩

theorem endZ_is {s : ByteArray} {k least j c : Nat} (h : k < s.size) : endZ s k least j c = if s[k] = 10 then (0, 0, 13) else if s[k] = 125 ∧ ¬ j < least then ((c : Int), (k : Int) + 1, 0) else (0, 0, 3) := by
  have hw : wrongZ s k = if s[k] = 10 then 13 else 3 := by unfold wrongZ; rw [dif_pos h]
  by_cases h1 : s[k] = 10
  · rw [if_pos h1] at hw ⊢
    by_cases h2 : j < least
    · rw [endZ_short h2, hw]
    · rw [endZ_bad h (by rw [h1]; decide), hw]
  · rw [if_neg h1] at hw ⊢
    by_cases h2 : j < least
    · rw [endZ_short h2, hw, if_neg (fun h => h.2 h2)]
    · by_cases h3 : s[k] = 125
      · rw [endZ_ok h2 h h3, if_pos ⟨h3, h2⟩]
      · rw [endZ_bad h h3, hw, if_neg (fun h => h3 h.1)]
theorem endZ_past {s : ByteArray} {k least j c : Nat} (h : ¬ k < s.size) : endZ s k least j c = (0, 0, 13) := by
  rw [endZ_out h]
  unfold wrongZ
  rw [dif_neg h]

set_option maxHeartbeats 1000000 in
theorem rBraced_form (s : ByteArray) (least most : Nat) (w : World) (hk : 0 < s.size) (hb : ¬ s[0] = 123) :
    Calls Tryd.prog 56 #[.string s, .int .i64 least, .int .i64 most] w fun e w' => e = .returned (.tuple #[.int .i64 0, .int .i64 0, .int .i64 3]) ∧ w = w' := by
  have e0 : s.toList.isEmpty = false := str_ne0 hk
  have e1 : ((s[0].toNat : Int) != 123) = true := by rw [show (123 : Int) = ((123 : UInt8).toNat : Int) from rfl, byte_bne hk]; simp [hb]
  have HB := Lib.hid hb; clear hb
  go_enter Tryd.func56, Tryd.ntmps56
  go_wp2
  go_ret3
  exact ⟨rfl, rfl⟩

set_option maxHeartbeats 2000000 in
set_option maxRecDepth 100000 in
theorem rBraced_some (s : ByteArray) (least most : Nat) (w : World) (hk0 : 0 < s.size) (hb : s[0] = 123) (hm : most ≤ 6) (hs : s.size ≤ 4000) :
    Calls Tryd.prog 56 #[.string s, .int .i64 least, .int .i64 most] w fun e w' => e = .returned (.tuple #[.int .i64 (bracesZ s 0 least most).1, .int .i64 (bracesZ s 0 least most).2.1, .int .i64 (bracesZ s 0 least most).2.2]) ∧ w = w' := by
  have e0 : s.toList.isEmpty = false := str_ne0 hk0
  have e1 : ((s[0].toNat : Int) != 123) = false := by rw [show (123 : Int) = ((123 : UInt8).toNat : Int) from rfl, byte_bne hk0, hb]; rfl
  have HB := Lib.hid hb; clear hb
  go_enter Tryd.func56, Tryd.ntmps56
  go_wp2_with fail
  go_loop [9, 10] (fun nn ii => ∃ k c j : Nat, ii = .int .i64 k ∧ nn = .int .i64 c ∧ k ≤ s.size ∧ j ≤ most ∧ Hid (LeftHex s 0 most k c j)) (fun _ ii => s.size - (intOf ii).toNat)
  case atStart => exact ⟨1, 0, 0, rfl, rfl, by omega, by omega, ⟨rfl, rfl, rfl, by simp⟩⟩
  case round =>
    obtain ⟨k, c, j, rfl, rfl, hks, hjm, hL⟩ := hrel
    have hkj : k = j + 1 := by have := hL.out.1; omega
    by_cases hgo : ∃ (_ : j < most) (h : k < s.size), hexB (s[k].toNat : Int) = true
    · obtain ⟨hj', hk', hx⟩ := hgo
      have hN := Lib.hid (LeftHex.next hL hj' hk' hx)
      have hc : c < 1048576 := by
        have := hL.2.2.2
        have h5 : 16 ^ j ≤ 16 ^ 5 := Nat.pow_le_pow_right (by omega) (by omega)
        have : (16 : Nat) ^ 5 = 1048576 := rfl
        omega
      obtain ⟨v, hv⟩ := Int.eq_ofNat_of_zero_le (hexV_lt hx).1
      have hv16 : v < 16 := by have := (hexV_lt hx).2; omega
      have hD := fun w' => rDigit_any (s[k].toNat : Int) w' (by omega) (by have := s[k].toNat_lt; omega)
      rw [digZ_hex hx, hv] at hD
      have HD := Lib.hid hD; clear hD
      have HVV := Lib.hid hv; clear hv
      clear hx
      have hjm' : (k : Int) ≤ (most : Int) := by omega
      have hks' : (k : Int) < (s.size : Int) := by omega
      have HKJ := Lib.hid hkj
      clear e0 e1 hL hkj
      go_wp2_with fail
      refine (HD.out _).mono ?_
      rintro e w1 ⟨rfl, rfl⟩
      go_wp2_with fail
      refine (HD.out _).mono ?_
      rintro e w1 ⟨rfl, rfl⟩
      go_wp2
      refine ⟨⟨k + 1, 16 * c + v, j + 1, by go_num, ?_, by omega, by omega, ?_⟩, ?_⟩
      · congr 1
      · have := hN.out; rwa [HVV.out, Int.toNat_natCast] at this
      · simp [intOf]; omega
    · have hR := bracesZ_end (least := least) hk0 HB.out (LeftHex.stop hL (scan_stop hgo))
      have HR := Lib.hid hR; clear hR
      clear e0 e1 hL
      have HKJ := Lib.hid hkj
      by_cases h2 : k < s.size
      · have f1 : ((k : Int) == (s.size : Int)) = false := by rw [beq_eq_false_iff_ne]; omega
        have hks' : (k : Int) < (s.size : Int) := by omega
        by_cases h1 : j < most
        · have h3 : ¬ hexB (s[k].toNat : Int) = true := fun h4 => hgo ⟨h1, h2, h4⟩
          have hD := fun w' => rDigit_any (s[k].toNat : Int) w' (by omega) (by have := s[k].toNat_lt; omega)
          rw [digZ_not h3] at hD
          have HD := Lib.hid hD; clear hD h3 hgo
          have g1 : (k : Int) ≤ (most : Int) := by omega
          by_cases h10 : s[k] = 10
          · have f10 : ((s[k].toNat : Int) == 10) = true := by rw [show (10 : Int) = ((10 : UInt8).toNat : Int) from rfl, byte_beq h2, h10]; rfl
            have H10 := Lib.hid h10; clear h10
            clear hkj
            go_wp2_with fail
            refine (HD.out _).mono ?_
            rintro e w1 ⟨rfl, rfl⟩
            go_wp2
            go_ret3
            exact ⟨by rw [HR.out, endZ_is h2, if_pos H10.out]; rfl, rfl⟩
          · have f10 : ((s[k].toNat : Int) == 10) = false := by rw [show (10 : Int) = ((10 : UInt8).toNat : Int) from rfl, byte_beq h2]; simp [h10]
            have H10 := Lib.hid h10; clear h10
            by_cases h5 : s[k] = 125
            · have f5 : ((s[k].toNat : Int) != 125) = false := by rw [show (125 : Int) = ((125 : UInt8).toNat : Int) from rfl, byte_bne h2, h5]; rfl
              have H5 := Lib.hid h5; clear h5
              by_cases h6 : j < least
              · have g6 : (k : Int) - 1 < (least : Int) := by omega
                clear hkj
                go_wp2_with fail
                refine (HD.out _).mono ?_
                rintro e w1 ⟨rfl, rfl⟩
                go_wp2
                go_ret3
                exact ⟨by rw [HR.out, endZ_is h2, if_neg H10.out, if_neg (fun h => h.2 h6)]; rfl, rfl⟩
              · have g6 : ¬ (k : Int) - 1 < (least : Int) := by omega
                clear hkj
                go_wp2_with fail
                refine (HD.out _).mono ?_
                rintro e w1 ⟨rfl, rfl⟩
                go_wp2
                go_ret3
                exact ⟨by rw [HR.out, endZ_is h2, if_neg H10.out, if_pos ⟨H5.out, h6⟩]; rfl, rfl⟩
            · have f5 : ((s[k].toNat : Int) != 125) = true := by rw [show (125 : Int) = ((125 : UInt8).toNat : Int) from rfl, byte_bne h2]; simp [h5]
              have H5 := Lib.hid h5; clear h5
              clear hkj
              go_wp2_with fail
              refine (HD.out _).mono ?_
              rintro e w1 ⟨rfl, rfl⟩
              go_wp2
              go_ret3
              exact ⟨by rw [HR.out, endZ_is h2, if_neg H10.out, if_neg (fun h => H5.out h.1)]; rfl, rfl⟩
        · clear hgo
          have g1 : ¬ (k : Int) ≤ (most : Int) := by omega
          by_cases h10 : s[k] = 10
          · have f10 : ((s[k].toNat : Int) == 10) = true := by rw [show (10 : Int) = ((10 : UInt8).toNat : Int) from rfl, byte_beq h2, h10]; rfl
            have H10 := Lib.hid h10; clear h10
            clear hkj
            go_wp2
            go_ret3
            exact ⟨by rw [HR.out, endZ_is h2, if_pos H10.out]; rfl, rfl⟩
          · have f10 : ((s[k].toNat : Int) == 10) = false := by rw [show (10 : Int) = ((10 : UInt8).toNat : Int) from rfl, byte_beq h2]; simp [h10]
            have H10 := Lib.hid h10; clear h10
            by_cases h5 : s[k] = 125
            · have f5 : ((s[k].toNat : Int) != 125) = false := by rw [show (125 : Int) = ((125 : UInt8).toNat : Int) from rfl, byte_bne h2, h5]; rfl
              have H5 := Lib.hid h5; clear h5
              by_cases h6 : j < least
              · have g6 : (k : Int) - 1 < (least : Int) := by omega
                clear hkj
                go_wp2
                go_ret3
                exact ⟨by rw [HR.out, endZ_is h2, if_neg H10.out, if_neg (fun h => h.2 h6)]; rfl, rfl⟩
              · have g6 : ¬ (k : Int) - 1 < (least : Int) := by omega
                clear hkj
                go_wp2
                go_ret3
                exact ⟨by rw [HR.out, endZ_is h2, if_neg H10.out, if_pos ⟨H5.out, h6⟩]; rfl, rfl⟩
            · have f5 : ((s[k].toNat : Int) != 125) = true := by rw [show (125 : Int) = ((125 : UInt8).toNat : Int) from rfl, byte_bne h2]; simp [h5]
              have H5 := Lib.hid h5; clear h5
              clear hkj
              go_wp2
              go_ret3
              exact ⟨by rw [HR.out, endZ_is h2, if_neg H10.out, if_neg (fun h => H5.out h.1)]; rfl, rfl⟩
      · have f1 : ((k : Int) == (s.size : Int)) = true := by rw [beq_iff_eq]; omega
        have hks' : ¬ (k : Int) < (s.size : Int) := by omega
        clear hgo hkj
        go_wp2
        go_ret3
        exact ⟨by rw [HR.out, endZ_past h2]; rfl, rfl⟩

theorem rBraced_any (s : ByteArray) (least most : Nat) (w : World) (hm : most ≤ 6) (hs : s.size ≤ 4000) :
    Calls Tryd.prog 56 #[.string s, .int .i64 least, .int .i64 most] w fun e w' => e = .returned (.tuple #[.int .i64 (bracedR s least most).1, .int .i64 (bracedR s least most).2.1, .int .i64 (bracedR s least most).2.2]) ∧ w = w' := by
  unfold bracedR
  by_cases h : 0 < s.size
  · rw [dif_pos h]
    by_cases hb : s[0] = 123
    · rw [if_pos hb]; exact rBraced_some s least most w h hb hm hs
    · rw [if_neg hb]; exact rBraced_form s least most w h hb
  · rw [dif_neg h]; exact rBraced_none s least most w h
end Go.Proofs.YtmofnaeiemkbnaaDoor
