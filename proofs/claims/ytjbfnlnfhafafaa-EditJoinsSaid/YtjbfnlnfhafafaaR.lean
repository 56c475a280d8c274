/- The statement EditShifts' body. -/
import Derived.Test.YtjbfnlnfhafafaaQ
import Derived.StillTailTactics
namespace Go.Proofs.Ytjbfnlnfhafafaa
open Go.RowKit

set_option maxHeartbeats 1000000 in
theorem EShifts_few (s t : ByteArray) (a d k : Int) (w : World) (hs : s.size ≤ maxLen) (ht : t.size ≤ maxLen) (hf : decide (fewN [s, t] ≤ 4000) = false) :
    Calls Try.prog 7 #[.string s, edV a d t, .int .i64 k] w fun e w' => e = .returned (.bool true) ∧ Below w.heap.size w w' := by
  have HF := Lib.hid hf; clear hf
  obtain ⟨n0, n1, n2, n3⟩ := ed_str w a d t s t
  go_enter Try.func7, Try.ntmps7
  go_wp2_with fail
  refine (few2_any s t _ _ hs ht n1 HF.out).mono ?_
  rintro e w1 ⟨rfl, b1⟩
  rw [n2] at b1
  have B1 := n3.trans (b1.mono (by omega))
  clear n0 n1 n2 n3 b1
  go_wp2_with fail
  refine (knows_any _).mono ?_
  rintro e w2 ⟨rfl, b2⟩
  have B2 := B1.trans (b2.mono B1.size)
  go_wp2
  go_ret
  exact ⟨rfl, B2⟩

theorem idxl (s : ByteArray) (k : Nat) (z : Int) (x : UInt8) (hz : z = k) (h : (bl s)[k]? = some x) (w : World) : (Instr.index 9 (.string s) (.int .i64 z)).run Try.prog w = .ok (.int .u8 (x.toNat : Int)) w := by
  obtain ⟨h1, h2⟩ := List.getElem?_eq_some_iff.1 h
  rw [bl_length] at h1
  rw [idx s k z hz h1, ← h2]
  rfl
/-- A byte ahead of the edit; a byte behind it. -/
theorem join_ahead {s t : ByteArray} {a d k : Nat} (h : a + d ≤ s.size) (hk : k < a) : (bl (joinT s a d t))[k]? = (bl s)[k]? := by
  rw [bl_join, List.append_assoc, List.getElem?_append_left (by rw [List.length_take, bl_length]; omega), List.getElem?_take, if_pos hk]
theorem join_behind {s t : ByteArray} {a d k : Nat} (h : a + d ≤ s.size) (hk : a + d ≤ k) : (bl (joinT s a d t))[k - d + t.size]? = (bl s)[k]? := by
  rw [bl_join, List.getElem?_append_right (by rw [List.length_append, List.length_take, bl_length, bl_length]; omega), List.getElem?_drop, List.length_append, List.length_take, bl_length, bl_length]
  congr 1
  omega
theorem apply_f (s t : ByteArray) (a d : Int) : ((applyL s [(a, d, t)]).2 ≠ 0) ∨ ∃ x y : Nat, a = x ∧ d = y ∧ x + y ≤ s.size ∧ applyL s [(a, d, t)] = (joinT s x y t, 0) := by
  rw [applyL]
  by_cases h : rightB s.size a d = true
  · obtain ⟨x, y, rfl, rfl, hxy⟩ := right_nat h
    dsimp only
    rw [if_pos h, Int.toNat_natCast, Int.toNat_natCast]
    by_cases hl : 65536 < x + t.size + (s.size - (x + y))
    · rw [if_pos hl]; left; decide
    · rw [if_neg hl]; exact .inr ⟨x, y, rfl, rfl, hxy, rfl⟩
  · rw [if_neg h]; left; decide
theorem shift_t {a d n : Nat} {k r : Int} (h : shiftZ a d n k = (r, true)) : (k ≤ a ∧ r = k) ∨ (a < k ∧ a + d ≤ k ∧ r = k - d + n) := by
  unfold shiftZ at h
  split at h
  · cases h
  split at h
  · rename_i h1; cases h; exact .inl ⟨h1, rfl⟩
  split at h
  · rename_i h1 h2; cases h; exact .inr ⟨by omega, h2, rfl⟩
  · cases h

set_option maxHeartbeats 1000000 in
theorem EShifts_else (s t : ByteArray) (a d k : Int) (w : World) (hs : s.size ≤ maxLen) (ht : t.size ≤ maxLen) (hf : decide (fewN [s, t] ≤ 4000) = true) :
    Calls Try.prog 7 #[.string s, edV a d t, .int .i64 k] w fun e w' => e = .returned (.bool true) ∧ Below w.heap.size w w' := by
  have hss := few2_is hf
  have HF := Lib.hid hf; clear hf
  obtain ⟨n0, n1, n2, n3⟩ := ed_str w a d t s t
  have hS1 := fun w => Shift_any a d t k w
  have hS2 := fun w => rShift_any a d t k w (by omega)
  obtain ⟨r, b, hz⟩ : ∃ r b, shiftZ a d t.size k = (r, b) := ⟨_, _, rfl⟩
  rw [hz] at hS1 hS2
  have HZ := Lib.hid hz; clear hz
  obtain ⟨u, f, hu⟩ : ∃ u f, applyL s [(a, d, t)] = (u, f) := ⟨_, _, rfl⟩
  have HU := Lib.hid hu; clear hu
  go_enter Try.func7, Try.ntmps7
  go_wp2_with fail
  refine (few2_any s t _ _ hs ht n1 HF.out).mono ?_
  rintro e w1 ⟨rfl, b1⟩
  rw [n2] at b1
  have y1 := n0.below b1 (by omega)
  have B1 := n3.trans (b1.mono (by omega))
  clear n0 n1 n2 n3 b1
  have c0 := y1.c0; have c1 := y1.c1; have c2 := y1.c2
  go_wp2_with fail
  refine (hS1 _).mono ?_
  rintro e w2 ⟨rfl, b2⟩
  have y2 := y1.below b2 y1.lt
  have B2 := B1.trans (b2.mono B1.size)
  clear y1 B1 b2 c0 c1 c2
  have c0 := y2.c0; have c1 := y2.c1; have c2 := y2.c2
  go_wp2_with fail
  refine (hS2 _).mono ?_
  rintro e w3 ⟨rfl, b3⟩
  have y3 := y2.below b3 y2.lt
  have B3 := B2.trans (b3.mono B2.size)
  clear y2 B2 b3 c0 c1 c2
  have c0 := y3.c0; have c1 := y3.c1; have c2 := y3.c2
  have z3 := EdAt.new w3 a d t
  have y3' := y3.alloc (.cells #[.int .i64 a, .int .i64 d, .string t] 32)
  have B3' := B3.alloc B3.size (.cells #[.int .i64 a, .int .i64 d, .string t] 32)
  go_wp2_with fail
  refine (Apply1_any s t a d w3.heap.size _ (by omega) (by omega) z3).mono ?_
  rintro e w4 ⟨rfl, b4⟩
  have y4 := y3'.below b4 y3'.lt
  have B4 := B3'.trans (b4.mono B3'.size)
  clear y3 B3 c0 c1 c2 z3 y3' B3' b4
  have c0 := y4.c0; have c1 := y4.c1; have c2 := y4.c2
  rcases apply_f s t a d with hf | ⟨a, d, rfl, rfl, hxy, hj⟩
  · rw [HU.out] at hf ⊢
    have hf' : f ≠ 0 := hf
    have hfb : (f != 0) = true := by rw [bne_iff_ne]; exact hf'
    clear hf hf'
    go_wp2_with fail
    refine (knows_any _).mono ?_
    rintro e w5 ⟨rfl, b5⟩
    have B5 := B4.trans (b5.mono B4.size)
    go_wp2
    go_ret
    exact ⟨rfl, B5⟩
  · rw [hj]
    have HJ := Lib.hid hj; clear hj HU
    cases b
    · go_wp2_with fail
      refine (knows_any _).mono ?_
      rintro e w5 ⟨rfl, b5⟩
      have B5 := B4.trans (b5.mono B4.size)
      go_wp2
      go_ret
      exact ⟨rfl, B5⟩
    by_cases hk0 : k < 0
    · go_wp2_with fail
      refine (knows_any _).mono ?_
      rintro e w5 ⟨rfl, b5⟩
      have B5 := B4.trans (b5.mono B4.size)
      go_wp2
      go_ret
      exact ⟨rfl, B5⟩
    obtain ⟨k, rfl⟩ := Int.eq_ofNat_of_zero_le (by omega : 0 ≤ k)
    by_cases hk1 : s.size ≤ k
    · go_wp2_with fail
      refine (knows_any _).mono ?_
      rintro e w5 ⟨rfl, b5⟩
      have B5 := B4.trans (b5.mono B4.size)
      go_wp2
      go_ret
      exact ⟨rfl, B5⟩
    have hks : k < s.size := by omega
    obtain ⟨x, hx⟩ : ∃ x, (bl s)[k]? = some x := ⟨_, List.getElem?_eq_getElem (by rw [bl_length]; exact hks)⟩
    have ix := idxl s k k x rfl hx
    have hjs := join_size t hxy
    rcases shift_t HZ.out with ⟨h1, rfl⟩ | ⟨h1, h2, rfl⟩
    · by_cases hka : k = a
      · subst hka
        by_cases hd : d = 0
        · subst hd
          have hy := join_behind (t := t) hxy (k := k) (by omega)
          rw [hx] at hy
          have iy := idxl _ _ ((k : Int) + t.size) x (by omega) hy
          generalize joinT s k 0 t = J at *
          have HX := Lib.hid hx; have HY := Lib.hid hy; clear hx hy
          generalize (x.toNat : Int) = xz at *
          go_wp2_with fail
          have gb0 : (0 : Int) ≤ (k : Int) + t.size := by omega
          have gb1 : (k : Int) + t.size < (J.size : Int) := by omega
          generalize (k : Int) + t.size = z at *
          have gd0 : decide ((0 : Int) ≤ z) = true := decide_eq_true gb0
          have gd1 : decide (z < (J.size : Int)) = true := decide_eq_true gb1
          clear gb0 gb1 hjs
          go_still_tail 18, (by kernel_rfl)
          change wpList _ _ _ _ _ w4.drew
          have B4' := below_drew B4
          clear c0 c1 c2 B4 y4
          generalize w4.drew = w5 at *
          go_wp2_with fail
          refine (knows_any _).mono ?_
          rintro e w7 ⟨rfl, b7⟩
          have B7 := B4'.trans (b7.mono B4'.size)
          go_wp2
          go_ret
          exact ⟨rfl, B7⟩
        · have hd' : 0 < d := by omega
          go_wp2_with fail
          refine (knows_any _).mono ?_
          rintro e w5 ⟨rfl, b5⟩
          have B5 := B4.trans (b5.mono B4.size)
          go_wp2
          go_ret
          exact ⟨rfl, B5⟩
      · have hy := join_ahead (t := t) (k := k) hxy (by omega)
        rw [hx] at hy
        have iy := idxl _ _ (k : Int) x rfl hy
        generalize joinT s a d t = J at *
        have HX := Lib.hid hx; have HY := Lib.hid hy; clear hx hy
        generalize (x.toNat : Int) = xz at *
        go_wp2_with fail
        have gb0 : (0 : Int) ≤ (k : Int) := by omega
        have gb1 : (k : Int) < (J.size : Int) := by omega
        generalize (k : Int) = z at *
        have gd0 : decide ((0 : Int) ≤ z) = true := decide_eq_true gb0
        have gd1 : decide (z < (J.size : Int)) = true := decide_eq_true gb1
        clear gb0 gb1 hjs
        go_still_tail 18, (by kernel_rfl)
        change wpList _ _ _ _ _ w4.drew
        have B4' := below_drew B4
        clear c0 c1 c2 B4 y4
        generalize w4.drew = w5 at *
        go_wp2_with fail
        refine (knows_any _).mono ?_
        rintro e w7 ⟨rfl, b7⟩
        have B7 := B4'.trans (b7.mono B4'.size)
        go_wp2
        go_ret
        exact ⟨rfl, B7⟩
    · have hy := join_behind (t := t) hxy (k := k) (by omega)
      rw [hx] at hy
      have iy := idxl _ _ ((k : Int) - d + t.size) x (by omega) hy
      generalize joinT s a d t = J at *
      have HX := Lib.hid hx; have HY := Lib.hid hy; clear hx hy
      generalize (x.toNat : Int) = xz at *
      go_wp2_with fail
      have gb0 : (0 : Int) ≤ (k : Int) - d + t.size := by omega
      have gb1 : (k : Int) - d + t.size < (J.size : Int) := by omega
      generalize (k : Int) - d + t.size = z at *
      have gd0 : decide ((0 : Int) ≤ z) = true := decide_eq_true gb0
      have gd1 : decide (z < (J.size : Int)) = true := decide_eq_true gb1
      clear gb0 gb1 hjs
      go_still_tail 18, (by kernel_rfl)
      change wpList _ _ _ _ _ w4.drew
      have B4' := below_drew B4
      clear c0 c1 c2 B4 y4
      generalize w4.drew = w5 at *
      go_wp2_with fail
      refine (knows_any _).mono ?_
      rintro e w7 ⟨rfl, b7⟩
      have B7 := B4'.trans (b7.mono B4'.size)
      go_wp2
      go_ret
      exact ⟨rfl, B7⟩

theorem EShifts_any (s t : ByteArray) (a d k : Int) (w : World) (hs : s.size ≤ maxLen) (ht : t.size ≤ maxLen) (_ : -9223372036854775808 ≤ a ∧ a ≤ 9223372036854775807) (_ : -9223372036854775808 ≤ d ∧ d ≤ 9223372036854775807) (_ : -9223372036854775808 ≤ k ∧ k ≤ 9223372036854775807) :
    Calls Try.prog 7 #[.string s, edV a d t, .int .i64 k] w fun e w' => e = .returned (.bool true) ∧ Below w.heap.size w w' := by
  by_cases hf : decide (fewN [s, t] ≤ 4000) = true
  · exact EShifts_else s t a d k w hs ht hf
  · exact EShifts_few s t a d k w hs ht (Bool.eq_false_iff.2 hf)
end Go.Proofs.Ytjbfnlnfhafafaa
