/- The reference's Diff: it answers as edit.Diff. -/
import Derived.Test.YtjbfnlnfhafafaaI
import Derived.Deep.CutBlock
import Derived.Deep.CutRange
namespace Go.Proofs.Ytjbfnlnfhafafaa
open Go.RowKit

theorem drewN_two (w : World) (m n : Nat) : (w.drewN m).drewN n = w.drewN (m + n) := by simp [World.drewN, Nat.add_assoc]

set_option maxHeartbeats 4000000 in
theorem rDiff_core (a b c d res : ByteArray) (i k : Nat) (w : World) (ha : a.size ≤ 10000000) (hb : b.size ≤ 10000000) (hi : Hid (i = cpreL a.data.toList b.data.toList)) (hk : Hid (k = cpreL c.data.toList.reverse d.data.toList.reverse))
    (ec : c.size ≤ 10000000) (ed : d.size ≤ 10000000) (q1 : k ≤ c.size) (q2 : k ≤ d.size)
    (hsa : ∀ w, (Instr.slice 9 (.string a) (some (.int .i64 (i : Int))) none none).run Try.prog w = .ok (.string c) w)
    (hsb : ∀ w, (Instr.slice 9 (.string b) (some (.int .i64 (i : Int))) none none).run Try.prog w = .ok (.string d) w)
    (hsl : ∀ w, (Instr.slice 9 (.string d) none (some (.int .i64 ((d.size : Int) - k))) none).run Try.prog w = .ok (.string res) w) :
    Calls Try.prog 20 #[.string a, .string b] w fun e w' => e = .returned (edV i ((c.size : Int) - k) res) ∧ Below w.heap.size w w' := by
  have y0 := EdAt.new w 0 0 ⟨#[]⟩
  have nb := (Below.refl w.heap.size w).alloc (Nat.le_refl _) (.cells #[.int .i64 0, .int .i64 0, .string ⟨#[]⟩] 32)
  go_enter Try.func20, Try.ntmps20
  go_upto_block 0 with fail
  go_cut [5] from 7 (fun s5 wx => s5 = .int .i64 i ∧ ∃ m, wx = (w.alloc (.cells #[.int .i64 0, .int .i64 0, .string ⟨#[]⟩] 32)).drewN m)
  case first =>
    go_wp2_with fail
    go_loopw [5] (fun i wr => ∃ n m : Nat, i = .int .i64 n ∧ n ≤ a.size ∧ n ≤ b.size ∧ Hid (cpreL a.data.toList b.data.toList = n + cpreL (a.data.toList.drop n) (b.data.toList.drop n)) ∧ wr = (w.alloc (.cells #[.int .i64 0, .int .i64 0, .string ⟨#[]⟩] 32)).drewN m) (fun i _ => a.size - (intOf i).toNat)
    case atStart => exact ⟨0, 0, rfl, by omega, by omega, Lib.hid (by simp), rfl⟩
    case round =>
      obtain ⟨n, m, rfl, h1, h2, hQ, rfl⟩ := hrel
      by_cases g1 : n < a.size
      · have gd1 : decide (n < a.size) = true := decide_eq_true g1
        by_cases g2 : n < b.size
        · have gd2 : decide (n < b.size) = true := decide_eq_true g2
          have ix := idx a n n (by omega) (by omega)
          have iy := idx b n n (by omega) (by omega)
          by_cases hx : a[n] = b[n]
          · have HQ : Hid (cpreL a.data.toList b.data.toList = n + (cpreL (a.data.toList.drop (n + 1)) (b.data.toList.drop (n + 1)) + 1)) := by
              have hq := hQ.out
              rw [drop_consB g1, drop_consB g2, cpreL, if_pos hx] at hq
              exact hq
            rw [hx] at ix
            clear hQ hx
            generalize (b[n].toNat : Int) = y at *
            go_wp2
            go_quiet (fail)
            go_wp2
            exact ⟨⟨n + 1, _, by simp, by omega, by omega, Lib.hid (by rw [HQ.out]; omega), rfl⟩, by simp [intOf]; omega⟩
          · have HQ : Hid (cpreL a.data.toList b.data.toList = n) := by
              have hq := hQ.out
              rw [drop_consB g1, drop_consB g2, cpreL, if_neg hx] at hq
              exact hq
            have hne := ne_of_byte hx
            clear hQ hx
            generalize (a[n].toNat : Int) = x at *
            generalize (b[n].toNat : Int) = y at *
            have hne' : (x == y) = false := by rw [beq_eq_false_iff_ne]; exact hne
            go_wp2
            go_quiet (fail)
            go_wp2_with fail
            go_meet
            exact ⟨by rw [hi.out, HQ.out], _, drewN_two _ _ _⟩
        · have HQ : Hid (cpreL a.data.toList b.data.toList = n) := by
            have hq := hQ.out
            rw [drop_nilB (s := b) (by omega), cpreL_nil] at hq
            exact hq
          clear hQ
          have gd2 : decide (n < b.size) = false := decide_eq_false g2
          go_wp2
          go_quiet (fail)
          go_wp2_with fail
          go_meet
          exact ⟨by rw [hi.out, HQ.out], _, drewN_two _ _ _⟩
      · have HQ : Hid (cpreL a.data.toList b.data.toList = n) := by
          have hq := hQ.out
          rw [drop_nilB (s := a) (by omega), cpreL_nil1] at hq
          exact hq
        clear hQ
        have gd1 : decide (n < a.size) = false := decide_eq_false g1
        go_wp2
        go_quiet (fail)
        go_wp2_with fail
        go_meet
        exact ⟨by rw [hi.out, HQ.out], _, drewN_two _ _ _⟩
  case rest =>
    obtain ⟨rfl, m0, rfl⟩ := hcut
    have y1 : EdAt ((w.alloc (.cells #[.int .i64 0, .int .i64 0, .string ⟨#[]⟩] 32)).drewN m0) w.heap.size 0 0 ⟨#[]⟩ := y0
    have nb1 : Below w.heap.size w ((w.alloc (.cells #[.int .i64 0, .int .i64 0, .string ⟨#[]⟩] 32)).drewN m0) := below_drewN _ nb
    clear y0 nb hi
    generalize (w.alloc (.cells #[.int .i64 0, .int .i64 0, .string ⟨#[]⟩] 32)).drewN m0 = w1 at *
    have f0 := y1.c0
    have f1 := y1.c1
    have f2 := y1.c2
    have r0 := y1.fr 0
    have r1 := y1.fr 1
    have r2 := y1.fr 2
    go_wp2_with fail
    go_region
    go_wp2_with fail
    go_loopw [6] (fun i wr => ∃ n m : Nat, i = .int .i64 n ∧ n ≤ c.size ∧ n ≤ d.size ∧ Hid (cpreL c.data.toList.reverse d.data.toList.reverse = n + cpreL (c.data.toList.reverse.drop n) (d.data.toList.reverse.drop n)) ∧ wr = w1.drewN m) (fun i _ => c.size - (intOf i).toNat)
    case atStart => exact ⟨0, 1, rfl, by omega, by omega, Lib.hid (by simp), rfl⟩
    case round =>
      obtain ⟨n, m, rfl, h1, h2, hQ, rfl⟩ := hrel
      by_cases g1 : n < c.size
      · have gd1 : decide (n < c.size) = true := decide_eq_true g1
        by_cases g2 : n < d.size
        · have gd2 : decide (n < d.size) = true := decide_eq_true g2
          have ix := idx c (c.size - 1 - n) ((c.size : Int) - 1 - n) (by omega) (by omega)
          have iy := idx d (d.size - 1 - n) ((d.size : Int) - 1 - n) (by omega) (by omega)
          by_cases hx : c[(c.size - 1 - n)] = d[(d.size - 1 - n)]
          · have HQ : Hid (cpreL c.data.toList.reverse d.data.toList.reverse = n + (cpreL (c.data.toList.reverse.drop (n + 1)) (d.data.toList.reverse.drop (n + 1)) + 1)) := by
              have hq := hQ.out
              rw [rev_drop g1, rev_drop g2, cpreL, if_pos hx] at hq
              exact hq
            rw [hx] at ix
            clear hQ hx
            generalize (d[(d.size - 1 - n)].toNat : Int) = y at *
            go_wp2
            go_quiet (fail)
            go_wp2
            exact ⟨⟨n + 1, _, by simp, by omega, by omega, Lib.hid (by rw [HQ.out]; omega), rfl⟩, by simp [intOf]; omega⟩
          · have HQ : Hid (cpreL c.data.toList.reverse d.data.toList.reverse = n) := by
              have hq := hQ.out
              rw [rev_drop g1, rev_drop g2, cpreL, if_neg hx] at hq
              exact hq
            have hne := ne_of_byte hx
            clear hQ hx
            generalize (c[(c.size - 1 - n)].toNat : Int) = x at *
            generalize (d[(d.size - 1 - n)].toNat : Int) = y at *
            have hne' : (x == y) = false := by rw [beq_eq_false_iff_ne]; exact hne
            have hkn : n = k := by rw [hk.out, HQ.out]
            subst hkn
            go_wp2
            go_quiet (fail)
            go_wp2_with fail
            refine bodyPost_ret (v := edV i ((c.size : Int) - n) res) ?_ rfl ⟨rfl, below_set3 (below_drewN _ nb1) (Nat.le_refl _)⟩
            have t := EdAt.set (W := w1.drewN (m + nq)) (a' := i) (d' := (c.size : Int) - n) (t' := res) y1
            have t0 := t.c0
            have t1 := t.c1
            have t2 := t.c2
            simp [results, Try.f20, go_sem, t0, t1, t2]
        · have HQ : Hid (cpreL c.data.toList.reverse d.data.toList.reverse = n) := by
            have hq := hQ.out
            rw [rev_nil (s := d) (by omega), cpreL_nil] at hq
            exact hq
          clear hQ
          have gd2 : decide (n < d.size) = false := decide_eq_false g2
          have hkn : n = k := by rw [hk.out, HQ.out]
          subst hkn
          go_wp2
          go_quiet (fail)
          go_wp2_with fail
          refine bodyPost_ret (v := edV i ((c.size : Int) - n) res) ?_ rfl ⟨rfl, below_set3 (below_drewN _ nb1) (Nat.le_refl _)⟩
          have t := EdAt.set (W := w1.drewN (m + nq)) (a' := i) (d' := (c.size : Int) - n) (t' := res) y1
          have t0 := t.c0
          have t1 := t.c1
          have t2 := t.c2
          simp [results, Try.f20, go_sem, t0, t1, t2]
      · have HQ : Hid (cpreL c.data.toList.reverse d.data.toList.reverse = n) := by
          have hq := hQ.out
          rw [rev_nil (s := c) (by omega), cpreL_nil1] at hq
          exact hq
        clear hQ
        have gd1 : decide (n < c.size) = false := decide_eq_false g1
        have hkn : n = k := by rw [hk.out, HQ.out]
        subst hkn
        go_wp2
        go_quiet (fail)
        go_wp2_with fail
        refine bodyPost_ret (v := edV i ((c.size : Int) - n) res) ?_ rfl ⟨rfl, below_set3 (below_drewN _ nb1) (Nat.le_refl _)⟩
        have t := EdAt.set (W := w1.drewN (m + nq)) (a' := i) (d' := (c.size : Int) - n) (t' := res) y1
        have t0 := t.c0
        have t1 := t.c1
        have t2 := t.c2
        simp [results, Try.f20, go_sem, t0, t1, t2]
theorem ext2 (b : ByteArray) (i k : Nat) (h : i + k ≤ b.size) : (b.extract i b.size).extract 0 (b.size - i - k) = b.extract i (b.size - k) := by
  rw [ByteArray.extract_extract, Nat.add_zero, show min (i + (b.size - i - k)) b.size = b.size - k by omega]
theorem slc0z (s : ByteArray) (a : Nat) (z : Int) (hz : z = a) (h : a ≤ s.size) (w : World) : (Instr.slice 9 (.string s) none (some (.int .i64 z)) none).run Try.prog w = .ok (.string (s.extract 0 a)) w := by
  subst hz
  exact slc0 s a h w
theorem rDiff_any (a b : ByteArray) (w : World) (ha : a.size ≤ 10000000) (hb : b.size ≤ 10000000) :
    Calls Try.prog 20 #[.string a, .string b] w fun e w' => e = .returned (edV (preN a b) (a.size - preN a b - tailN a b : Nat) (b.extract (preN a b) (b.size - tailN a b))) ∧ Below w.heap.size w w' := by
  obtain ⟨p1, p2⟩ := preN_le a b
  have ea : (a.extract (preN a b) a.size).size = a.size - preN a b := by rw [ByteArray.size_extract]; omega
  have eb : (b.extract (preN a b) b.size).size = b.size - preN a b := by rw [ByteArray.size_extract]; omega
  obtain ⟨q1, q2⟩ : tailN a b ≤ _ ∧ tailN a b ≤ _ := sufN_le (a.extract (preN a b) a.size) (b.extract (preN a b) b.size)
  have hx : (b.extract (preN a b) b.size).extract 0 (b.size - preN a b - tailN a b) = b.extract (preN a b) (b.size - tailN a b) := ext2 b (preN a b) (tailN a b) (by omega)
  have hsl := slc0z (b.extract (preN a b) b.size) (b.size - preN a b - tailN a b) (((b.extract (preN a b) b.size).size : Int) - tailN a b) (by omega) (by omega)
  rw [hx] at hsl
  refine (rDiff_core a b _ _ _ (preN a b) (tailN a b) w ha hb rfl rfl (by omega) (by omega) q1 q2 (slc1 a (preN a b) (preN a b) rfl p1) (slc1 b (preN a b) (preN a b) rfl p2) hsl).mono ?_
  rintro e w' ⟨rfl, bel⟩
  refine ⟨?_, bel⟩
  rw [show ((a.extract (preN a b) a.size).size : Int) - tailN a b = ((a.size - preN a b - tailN a b : Nat) : Int) by omega]
end Go.Proofs.Ytjbfnlnfhafafaa
