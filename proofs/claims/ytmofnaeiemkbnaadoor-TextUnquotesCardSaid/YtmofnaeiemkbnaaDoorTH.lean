/- The reference's Invalid, digit and Hex. -/
import Derived.Test.YtmofnaeiemkbnaaDoorNM
namespace Go.Proofs.YtmofnaeiemkbnaaDoor
open Go.RowKit

set_option maxHeartbeats 1000000 in
theorem rInvalid_any (r at' n : Int) (w : World) : Calls Tryd.prog 41 #[.agg #[.int .i32 r, .int .i64 at', .int .i64 n]] w fun e w' => e = .returned (.bool (decide (r = 65533) && decide (n = 1))) ∧ Below w.heap.size w w' := by
  have hb : Below w.heap.size w (w.alloc (.cells #[.int .i32 r, .int .i64 at', .int .i64 n] 36)) := (Below.refl _ _).alloc (Nat.le_refl _) _
  have y := World.alloc_heap_new w (.cells #[.int .i32 r, .int .i64 at', .int .i64 n] 36)
  have p0 : (w.alloc (.cells #[.int .i32 r, .int .i64 at', .int .i64 n] 36)).cell? ⟨w.heap.size, 0, none⟩ = some (.int .i32 r) := by rw [Lib.cell_of_heap y]; rfl
  have p2 : (w.alloc (.cells #[.int .i32 r, .int .i64 at', .int .i64 n] 36)).cell? ⟨w.heap.size, 2, none⟩ = some (.int .i64 n) := by rw [Lib.cell_of_heap y]; rfl
  clear y
  by_cases h : r = 65533
  · subst h
    by_cases h1 : n = 1
    · subst h1
      go_enter Tryd.func41, Tryd.ntmps41
      go_wp2
      go_ret
      exact ⟨rfl, hb⟩
    · have e : (n == 1) = false := by rw [beq_eq_false_iff_ne]; exact h1
      rw [decide_eq_false h1]
      clear h1
      go_enter Tryd.func41, Tryd.ntmps41
      go_wp2
      go_ret
      exact ⟨rfl, hb⟩
  · have e : (r == 65533) = false := by rw [beq_eq_false_iff_ne]; exact h
    rw [decide_eq_false h]
    clear h
    go_enter Tryd.func41, Tryd.ntmps41
    go_wp2
    go_ret
    exact ⟨rfl, hb⟩

/-- The value of a hex digit, or -1. -/
def digZ (c : Int) : Int := if 48 ≤ c ∧ c ≤ 57 then c - 48 else if 97 ≤ c ∧ c ≤ 102 then c - 97 + 10 else -1
set_option maxHeartbeats 1000000 in
theorem rDigit_any (c : Int) (w : World) (h0 : 0 ≤ c) (h9 : c ≤ 255) : Calls Tryd.prog 62 #[.int .u8 c] w fun e w' => e = .returned (.int .i64 (digZ c)) ∧ w = w' := by
  rcases (show c < 48 ∨ (48 ≤ c ∧ c ≤ 57) ∨ (57 < c ∧ c < 97) ∨ (97 ≤ c ∧ c ≤ 102) ∨ 102 < c by omega) with h | ⟨h1, h2⟩ | ⟨h1, h2⟩ | ⟨h1, h2⟩ | h
  all_goals
    go_enter Tryd.func62, Tryd.ntmps62
    go_wp2
    go_ret
    exact ⟨ri (by unfold digZ; repeat' split
                  all_goals omega), rfl⟩

/-- The reference's hex digits: at least so many. -/
def hexR (least : Nat) : Nat → Nat → List UInt8 → List UInt8
  | 0, _, s => s
  | f + 1, n, s => if 0 < n ∨ s.length < least then hexR least f (n / 16) (hexC (n % 16) :: s) else s
theorem slc_hex (d : Nat) (hd : d < 16) (w : World) : (Instr.slice 9 (.string { data := #[48, 49, 50, 51, 52, 53, 54, 55, 56, 57, 97, 98, 99, 100, 101, 102] }) (some (.int .i64 (d : Int))) (some (.int .i64 ((d : Int) + 1))) none).run Tryd.prog w = .ok (.string ⟨#[hexC d]⟩) w := by
  have h : d = 0 ∨ d = 1 ∨ d = 2 ∨ d = 3 ∨ d = 4 ∨ d = 5 ∨ d = 6 ∨ d = 7 ∨ d = 8 ∨ d = 9 ∨ d = 10 ∨ d = 11 ∨ d = 12 ∨ d = 13 ∨ d = 14 ∨ d = 15 := by omega
  rcases h with rfl | rfl | rfl | rfl | rfl | rfl | rfl | rfl | rfl | rfl | rfl | rfl | rfl | rfl | rfl | rfl <;> rfl

set_option maxHeartbeats 2000000 in
theorem rHex_any (m least : Nat) (w : World) (hm : m ≤ 1114111) (hl : least ≤ 6) :
    Calls Tryd.prog 42 #[.int .i64 m, .int .i64 least] w fun e w' => e = .returned (.string ⟨(hexR least 6 m []).toArray⟩) ∧ w = w' := by
  go_enter Tryd.func42, Tryd.ntmps42
  go_wp2
  go_loop [0, 5] (fun a b => ∃ (n f : Nat) (s : List UInt8), a = .int .i64 n ∧ b = .string ⟨s.toArray⟩ ∧ n ≤ 1114111 ∧ Hid (n < 16 ^ f) ∧ s.length + f = 6 ∧ Hid (hexR least f n s = hexR least 6 m [])) (fun _ b => match b with | .string t => 6 - t.size | _ => 0)
  case atStart => exact ⟨m, 6, [], rfl, rfl, hm, Lib.hid (by omega), rfl, rfl⟩
  case round =>
    obtain ⟨n, f, s, rfl, rfl, hn, hf, hs, hR⟩ := hrel
    have hl2 : ¬ 9223372036854775807 < 1 + s.length := by omega
    by_cases hgo : 0 < n ∨ s.length < least
    · obtain ⟨f, rfl⟩ : ∃ g, f = g + 1 := by
        rcases f with _ | f
        · have := hf.out; simp at this; omega
        · exact ⟨f, rfl⟩
      have hR' := hR.out
      rw [hexR, if_pos hgo] at hR'
      have hf' : n / 16 < 16 ^ f := by have := hf.out; rw [Nat.pow_succ] at this; omega
      have HR := Lib.hid hR'; have HF := Lib.hid hf'
      have hsl : ∀ w : World, (Instr.slice 9 (.string { data := #[48, 49, 50, 51, 52, 53, 54, 55, 56, 57, 97, 98, 99, 100, 101, 102] }) (some (.int .i64 ((n : Int) % 16))) (some (.int .i64 ((n : Int) % 16 + 1))) none).run Tryd.prog w = .ok (.string ⟨#[hexC (n % 16)]⟩) w := fun w => by
        have := slc_hex (n % 16) (by omega) w
        rwa [show ((n % 16 : Nat) : Int) = (n : Int) % 16 by omega] at this
      clear hR' hf' hR hf
      by_cases h0 : 0 < n
      · clear hgo
        go_wp2
        rw [cons_str]
        exact ⟨⟨n / 16, f, hexC (n % 16) :: s, by simp, rfl, by omega, HF, by simp; omega, HR⟩, by simp [ByteArray.size]; omega⟩
      · have h1 : s.length < least := by omega
        clear hgo
        go_wp2
        rw [cons_str]
        exact ⟨⟨n / 16, f, hexC (n % 16) :: s, by simp, rfl, by omega, HF, by simp; omega, HR⟩, by simp [ByteArray.size]; omega⟩
    · have hR' : s = hexR least 6 m [] := by
        rw [← hR.out]
        cases f with
        | zero => rfl
        | succ f => rw [hexR, if_neg hgo]
      have HR := Lib.hid hR'
      have h0 : ¬ 0 < n := by omega
      have h1 : ¬ s.length < least := by omega
      clear hgo hR' hR hf
      go_wp2
      go_ret
      exact ⟨by rw [← HR.out]; rfl, rfl⟩
end Go.Proofs.YtmofnaeiemkbnaaDoor
