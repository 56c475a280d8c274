/- package edit: the longest common prefix and suffix, Diff; the reference's Diff. -/
import Derived.Test.YtjbfnlnfhafafaaD
import Derived.BigQuiet
namespace Go.Proofs.Ytjbfnlnfhafafaa
open Go.RowKit

/-- How long two lists agree. -/
def cpreL : List UInt8 → List UInt8 → Nat
  | x :: r, y :: s => if x = y then cpreL r s + 1 else 0
  | _, _ => 0
theorem cpreL_le : ∀ a b : List UInt8, cpreL a b ≤ a.length ∧ cpreL a b ≤ b.length
  | [], b => by simp [cpreL]
  | x :: r, [] => by simp [cpreL]
  | x :: r, y :: s => by
    have := cpreL_le r s
    rw [cpreL]; split <;> simp <;> omega
theorem drop_consB {s : ByteArray} {k : Nat} (h : k < s.size) : s.data.toList.drop k = s[k] :: s.data.toList.drop (k + 1) := by
  rw [List.drop_eq_getElem_cons (by simpa using h)]; rfl
theorem byte_eqB (x y : UInt8) : ((x.toNat : Int) == (y.toNat : Int)) = decide (x = y) := by
  rw [Bool.eq_iff_iff, beq_iff_eq, decide_eq_true_eq, ← UInt8.toNat_inj]; omega

theorem idx (s : ByteArray) (k : Nat) (z : Int) (hz : z = k) (h : k < s.size) (w : World) : (Instr.index 9 (.string s) (.int .i64 z)).run Try.prog w = .ok (.int .u8 (s[k].toNat : Int)) w := by
  subst hz
  rw [run_index_string w 9 s .i64 k Try.underlying9, dif_pos (by omega)]
  rfl
theorem rev_drop {s : ByteArray} {k : Nat} (h : k < s.size) : s.data.toList.reverse.drop k = s[s.size - 1 - k] :: s.data.toList.reverse.drop (k + 1) := by
  rw [List.drop_eq_getElem_cons (by rw [List.length_reverse, Array.length_toList]; exact h), List.getElem_reverse]
  rfl
theorem ne_of_byte {x y : UInt8} (h : ¬ x = y) : ¬ (x.toNat : Int) = (y.toNat : Int) := fun e => h (UInt8.toNat_inj.1 (by omega))

theorem drop_nilB {s : ByteArray} {k : Nat} (h : ¬ k < s.size) : s.data.toList.drop k = [] := List.drop_eq_nil_of_le (by rw [Array.length_toList]; exact Nat.not_lt.1 h)
theorem rev_nil {s : ByteArray} {k : Nat} (h : ¬ k < s.size) : s.data.toList.reverse.drop k = [] := List.drop_eq_nil_of_le (by rw [List.length_reverse, Array.length_toList]; exact Nat.not_lt.1 h)
theorem cpreL_nil1 (a : List UInt8) : cpreL [] a = 0 := by cases a <;> rfl
theorem cpreL_nil (a : List UInt8) : cpreL a [] = 0 := by cases a <;> rfl

set_option maxHeartbeats 4000000 in
theorem commonPrefix_any (a b : ByteArray) (w : World) (ha : a.size ≤ 10000000) (hb : b.size ≤ 10000000) :
    Calls Try.prog 27 #[.string a, .string b] w fun e w' => e = .returned (.int .i64 (cpreL a.data.toList b.data.toList)) ∧ Below w.heap.size w w' := by
  go_enter Try.func27, Try.ntmps27
  go_wp2_with fail
  go_loopw [5] (fun i wr => ∃ n m : Nat, i = .int .i64 n ∧ n ≤ a.size ∧ n ≤ b.size ∧ Hid (cpreL a.data.toList b.data.toList = n + cpreL (a.data.toList.drop n) (b.data.toList.drop n)) ∧ wr = w.drewN m) (fun i _ => a.size - (intOf i).toNat)
  case atStart => exact ⟨0, 0, rfl, by omega, by omega, Lib.hid (by simp), rfl⟩
  case round =>
    obtain ⟨n, m, rfl, h1, h2, hQ, rfl⟩ := hrel
    by_cases g1 : (n : Int) < (a.size : Int)
    · by_cases g2 : (n : Int) < (b.size : Int)
      · have g1' : n < a.size := by omega
        have g2' : n < b.size := by omega
        have hq := hQ.out
        rw [drop_consB g1', drop_consB g2', cpreL] at hq
        have ix := idx a n n (by omega) (by omega)
        have iy := idx b n n (by omega) (by omega)
        have gl : decide ((n : Int) < if b.size < a.size then (b.size : Int) else (a.size : Int)) = true := decide_eq_true (by split <;> omega)
        by_cases hx : a[n] = b[n]
        · rw [if_pos hx] at hq
          rw [hx] at ix
          have HQ := Lib.hid hq; clear hq hQ hx
          generalize (b[n].toNat : Int) = y at *
          go_wp2
          go_quiet (fail)
          go_wp2
          all_goals exact ⟨⟨n + 1, _, by simp, by omega, by omega, Lib.hid (by rw [HQ.out]; omega), rfl⟩, by simp [intOf]; omega⟩
        · rw [if_neg hx] at hq
          have hne := ne_of_byte hx
          have HQ := Lib.hid hq; clear hq hQ hx
          generalize (a[n].toNat : Int) = x at *
          generalize (b[n].toNat : Int) = y at *
          have hne' : (x == y) = false := by rw [beq_eq_false_iff_ne]; exact hne
          go_wp2
          go_quiet (fail)
          go_wp2
          all_goals first | (exfalso; omega) | (go_ret; exact ⟨by rw [HQ.out]; rfl, below_drewN _ (Below.refl _ _)⟩)
      · have hq := hQ.out
        rw [drop_nilB (s := b) (by omega), cpreL_nil] at hq
        have gl : decide ((n : Int) < if b.size < a.size then (b.size : Int) else (a.size : Int)) = false := decide_eq_false (by split <;> omega)
        have HQ := Lib.hid hq; clear hq hQ
        go_wp2
        go_quiet (fail)
        go_wp2
        all_goals first | (exfalso; omega) | (go_ret; exact ⟨by rw [HQ.out]; rfl, below_drewN _ (Below.refl _ _)⟩)
    · have hq := hQ.out
      rw [drop_nilB (s := a) (by omega), cpreL_nil1] at hq
      have gl : decide ((n : Int) < if b.size < a.size then (b.size : Int) else (a.size : Int)) = false := decide_eq_false (by split <;> omega)
      have HQ := Lib.hid hq; clear hq hQ
      go_wp2
      go_quiet (fail)
      go_wp2
      all_goals first | (exfalso; omega) | (go_ret; exact ⟨by rw [HQ.out]; rfl, below_drewN _ (Below.refl _ _)⟩)

end Go.Proofs.Ytjbfnlnfhafafaa
