/- package edit: the longest common suffix. -/
import Derived.Test.YtjbfnlnfhafafaaG
namespace Go.Proofs.Ytjbfnlnfhafafaa
open Go.RowKit

set_option maxHeartbeats 1000000 in
theorem commonSuffix_any (a b : ByteArray) (w : World) (ha : a.size ≤ 10000000) (hb : b.size ≤ 10000000) :
    Calls Try.prog 29 #[.string a, .string b] w fun e w' => e = .returned (.int .i64 (cpreL a.data.toList.reverse b.data.toList.reverse)) ∧ Below w.heap.size w w' := by
  go_enter Try.func29, Try.ntmps29
  go_wp2_with fail
  go_loopw [5] (fun i wr => ∃ n m : Nat, i = .int .i64 n ∧ n ≤ a.size ∧ n ≤ b.size ∧ Hid (cpreL a.data.toList.reverse b.data.toList.reverse = n + cpreL (a.data.toList.reverse.drop n) (b.data.toList.reverse.drop n)) ∧ wr = w.drewN m) (fun i _ => a.size - (intOf i).toNat)
  case atStart => exact ⟨0, 0, rfl, by omega, by omega, Lib.hid (by simp), rfl⟩
  case round =>
    obtain ⟨n, m, rfl, h1, h2, hQ, rfl⟩ := hrel
    by_cases g1 : (n : Int) < (a.size : Int)
    · by_cases g2 : (n : Int) < (b.size : Int)
      · have g1' : n < a.size := by omega
        have g2' : n < b.size := by omega
        have ix := idx a (a.size - 1 - n) ((a.size : Int) - 1 - n) (by omega) (by omega)
        have iy := idx b (b.size - 1 - n) ((b.size : Int) - 1 - n) (by omega) (by omega)
        have gl : decide ((n : Int) < if b.size < a.size then (b.size : Int) else (a.size : Int)) = true := decide_eq_true (by split <;> omega)
        by_cases hx : a[(a.size - 1 - n)] = b[(b.size - 1 - n)]
        · have HQ : Hid (cpreL a.data.toList.reverse b.data.toList.reverse = n + (cpreL (a.data.toList.reverse.drop (n + 1)) (b.data.toList.reverse.drop (n + 1)) + 1)) := by
            have hq := hQ.out
            rw [rev_drop g1', rev_drop g2', cpreL, if_pos hx] at hq
            exact hq
          rw [hx] at ix
          clear hQ hx
          generalize (b[(b.size - 1 - n)].toNat : Int) = y at *
          go_wp2
          go_quiet (fail)
          go_wp2
          all_goals exact ⟨⟨n + 1, _, by simp, by omega, by omega, Lib.hid (by rw [HQ.out]; omega), rfl⟩, by simp [intOf]; omega⟩
        · have HQ : Hid (cpreL a.data.toList.reverse b.data.toList.reverse = n) := by
            have hq := hQ.out
            rw [rev_drop g1', rev_drop g2', cpreL, if_neg hx] at hq
            exact hq
          have hne := ne_of_byte hx
          clear hQ hx
          generalize (a[(a.size - 1 - n)].toNat : Int) = x at *
          generalize (b[(b.size - 1 - n)].toNat : Int) = y at *
          have hne' : (x == y) = false := by rw [beq_eq_false_iff_ne]; exact hne
          go_wp2
          go_quiet (fail)
          go_wp2
          all_goals first | (exfalso; omega) | (go_ret; exact ⟨by rw [HQ.out]; rfl, below_drewN _ (Below.refl _ _)⟩)
      · have HQ : Hid (cpreL a.data.toList.reverse b.data.toList.reverse = n) := by
          have hq := hQ.out
          rw [rev_nil (s := b) (by omega), cpreL_nil] at hq
          exact hq
        clear hQ
        have hm : b.size < a.size := by omega
        have gl : decide (n < b.size) = false := decide_eq_false (by omega)
        go_wp2
        go_quiet (fail)
        go_wp2
        all_goals first | (exfalso; omega) | (go_ret; exact ⟨by rw [HQ.out]; rfl, below_drewN _ (below_drewN _ (Below.refl _ _))⟩)
    · have HQ : Hid (cpreL a.data.toList.reverse b.data.toList.reverse = n) := by
        have hq := hQ.out
        rw [rev_nil (s := a) (by omega), cpreL_nil1] at hq
        exact hq
      clear hQ
      have hm : ¬ b.size < a.size := by omega
      have gl : decide (n < a.size) = false := decide_eq_false (by omega)
      go_wp2
      go_quiet (fail)
      go_wp2
      all_goals first | (exfalso; omega) | (go_ret; exact ⟨by rw [HQ.out]; rfl, below_drewN _ (below_drewN _ (Below.refl _ _))⟩)

end Go.Proofs.Ytjbfnlnfhafafaa
