/- Small functions of package text: isDigit, isHex, hexValue, wrongAt, isNameRune; and the statements' own few. Conditions: the ranges of the arguments' types, and that an offset lies in the text. -/
import Derived.WalkKit
import Derived.BigCall
import Derived.BigQuiet
import Derived.Deep.QuietTactic
import Derived.Lib.Hide
import Derived.Outline
import Derived.Test.YtmofnaeiemkbnaaDoorChecked
namespace Go.Proofs.YtmofnaeiemkbnaaDoor
open Go.RowKit

theorem rb {a b : Bool} (h : a = b) : Ending.returned (.bool a) = .returned (.bool b) := by rw [h]
theorem ri {k : IntKind} {a b : Int} (h : a = b) : Ending.returned (.int k a) = .returned (.int k b) := by rw [h]

def digB (c : Int) : Bool := decide (48 ≤ c ∧ c ≤ 57)
def lowB (c : Int) : Bool := decide (97 ≤ c ∧ c ≤ 102)
def hexB (c : Int) : Bool := digB c || lowB c
def hexV (c : Int) : Int := if digB c then c - 48 else c - 87

theorem isDigit_any (c : Int) (w : World) : Calls Tryd.prog 44 #[.int .u8 c] w fun e w' => e = .returned (.bool (digB c)) ∧ w = w' := by
  by_cases h : 48 ≤ c
  · by_cases h2 : c ≤ 57
    · go_enter Tryd.func44, Tryd.ntmps44
      go_wp2
      go_ret
      exact ⟨by simp [digB, h, h2], rfl⟩
    · go_enter Tryd.func44, Tryd.ntmps44
      go_wp2
      go_ret
      exact ⟨by simp [digB, h, h2], rfl⟩
  · go_enter Tryd.func44, Tryd.ntmps44
    go_wp2
    go_ret
    exact ⟨rb (by simp [digB]; omega), rfl⟩

theorem isDigit_is {c : Int} {b : Bool} (hb : digB c = b) (w : World) : Calls Tryd.prog 44 #[.int .u8 c] w fun e w' => e = .returned (.bool b) ∧ w = w' := hb ▸ isDigit_any c w

theorem isHex_any (c : Int) (w : World) : Calls Tryd.prog 64 #[.int .u8 c] w fun e w' => e = .returned (.bool (hexB c)) ∧ w = w' := by
  by_cases h : digB c = true
  · have H := Lib.hid h; clear h
    go_enter Tryd.func64, Tryd.ntmps64
    go_wp2_with (go_at_call 44; refine (isDigit_is H.out _).mono ?_; rintro e w' ⟨rfl, rfl⟩)
    go_ret
    exact ⟨by simp [hexB, H.out], rfl⟩
  · have H := Lib.hid (Bool.eq_false_iff.2 h); clear h
    by_cases h1 : 97 ≤ c
    · by_cases h2 : c ≤ 102
      · go_enter Tryd.func64, Tryd.ntmps64
        go_wp2_with (go_at_call 44; refine (isDigit_is H.out _).mono ?_; rintro e w' ⟨rfl, rfl⟩)
        go_ret
        exact ⟨by simp [hexB, H.out, lowB, h1, h2], rfl⟩
      · go_enter Tryd.func64, Tryd.ntmps64
        go_wp2_with (go_at_call 44; refine (isDigit_is H.out _).mono ?_; rintro e w' ⟨rfl, rfl⟩)
        go_ret
        exact ⟨rb (by simp [hexB, H.out, lowB]; omega), rfl⟩
    · go_enter Tryd.func64, Tryd.ntmps64
      go_wp2_with (go_at_call 44; refine (isDigit_is H.out _).mono ?_; rintro e w' ⟨rfl, rfl⟩)
      go_ret
      exact ⟨rb (by simp [hexB, H.out, lowB]; omega), rfl⟩

theorem hexValue_any (c : Int) (w : World) (h : hexB c = true) : Calls Tryd.prog 65 #[.int .u8 c] w fun e w' => e = .returned (.int .i32 (hexV c)) ∧ w = w' := by
  by_cases hd : digB c = true
  · have hc : 48 ≤ c ∧ c ≤ 57 := by simpa [digB] using hd
    obtain ⟨h1, h2⟩ := hc
    have H := Lib.hid hd; clear hd h
    go_enter Tryd.func65, Tryd.ntmps65
    go_wp2_with (go_at_call 44; refine (isDigit_is H.out _).mono ?_; rintro e w' ⟨rfl, rfl⟩)
    go_ret
    exact ⟨by simp [hexV, H.out], rfl⟩
  · have hc : 97 ≤ c ∧ c ≤ 102 := by simpa [hexB, hd, lowB] using h
    obtain ⟨h1, h2⟩ := hc
    have H := Lib.hid (Bool.eq_false_iff.2 hd); clear hd h
    go_enter Tryd.func65, Tryd.ntmps65
    go_wp2_with (go_at_call 44; refine (isDigit_is H.out _).mono ?_; rintro e w' ⟨rfl, rfl⟩)
    go_ret
    exact ⟨by simp only [hexV, H.out]; congr 2; simp; omega, rfl⟩

/-- The error of a quoted text that can't go on at offset k. -/
def wrongZ (s : ByteArray) (k : Nat) : Int := if h : k < s.size then (if s[k] = 10 then 13 else 3) else 13

theorem wrongAt_any (s : ByteArray) (k : Nat) (w : World) (hk : k ≤ s.size) :
    Calls Tryd.prog 55 #[.string s, .int .i64 k] w fun e w' => e = .returned (.int .i64 (wrongZ s k)) ∧ w = w' := by
  by_cases h : k < s.size
  · have hb : (((k : Nat) : Int) == (s.size : Int)) = false := by rw [beq_eq_false_iff_ne]; omega
    by_cases h10 : s[k] = 10
    · have hc : (((s[k]).toNat : Int) == 10) = true := by rw [beq_iff_eq, h10]; rfl
      have H10 := Lib.hid h10; clear h10
      go_enter Tryd.func55, Tryd.ntmps55
      go_wp2
      go_ret
      exact ⟨by simp [wrongZ, h, H10.out], rfl⟩
    · have hc : (((s[k]).toNat : Int) == 10) = false := by
        rw [beq_eq_false_iff_ne]; intro e; apply h10; apply UInt8.toNat_inj.1; show (s[k]).toNat = 10; omega
      have H10 := Lib.hid h10; clear h10
      go_enter Tryd.func55, Tryd.ntmps55
      go_wp2
      go_ret
      exact ⟨by simp [wrongZ, h, H10.out], rfl⟩
  · obtain rfl : k = s.size := by omega
    have hb : ((s.size : Int) == (s.size : Int)) = true := by simp
    go_enter Tryd.func55, Tryd.ntmps55
    go_wp2
    go_ret
    exact ⟨by simp [wrongZ], rfl⟩

theorem few_yes (s : ByteArray) (w : World) (h : s.size ≤ 300) : Calls Tryd.prog 9 #[.string s] w fun e w' => e = .returned (.bool true) ∧ w = w' := by
  go_enter Tryd.func9, Tryd.ntmps9
  go_wp2
  go_ret
  exact ⟨by simp; omega, rfl⟩
theorem few_no (s : ByteArray) (w : World) (h : 300 < s.size) : Calls Tryd.prog 9 #[.string s] w fun e w' => e = .returned (.bool false) ∧ w = w' := by
  go_enter Tryd.func9, Tryd.ntmps9
  go_wp2
  go_ret
  exact ⟨by simp; omega, rfl⟩
end Go.Proofs.YtmofnaeiemkbnaaDoor
