/- text.isNameRune, text.IsName and the reference's IsName: every text of at most 300 bytes; both answer alike. -/
import Derived.Test.YtmofnaeiemkbnaaDoorN
namespace Go.Proofs.YtmofnaeiemkbnaaDoor
open Go.RowKit

/-- A letter, a digit or an underscore. -/
def nmB (r : Int) : Bool := decide ((97 ≤ r ∧ r ≤ 122) ∨ (65 ≤ r ∧ r ≤ 90) ∨ (48 ≤ r ∧ r ≤ 57) ∨ r = 95)
def nm8 (c : UInt8) : Bool := nmB c.toNat

theorem seven (r : Int) : r < 48 ∨ (48 ≤ r ∧ r ≤ 57) ∨ (57 < r ∧ r < 65) ∨ (65 ≤ r ∧ r ≤ 90) ∨ (90 < r ∧ r < 97 ∧ r ≠ 95) ∨ r = 95 ∨ (97 ≤ r ∧ r ≤ 122) ∨ 122 < r := by omega

set_option maxHeartbeats 2000000 in
theorem isNameRune_any (r : Int) (w : World) : Calls Tryd.prog 45 #[.int .i32 r] w fun e w' => e = .returned (.bool (nmB r)) ∧ w = w' := by
  rcases seven r with h | ⟨h1, h2⟩ | ⟨h1, h2⟩ | ⟨h1, h2⟩ | ⟨h1, h2, h3⟩ | h | ⟨h1, h2⟩ | h
  case inr.inr.inr.inr.inl =>
    have e : (r == 95) = false := by rw [beq_eq_false_iff_ne]; exact h3
    go_enter Tryd.func45, Tryd.ntmps45
    go_wp2
    go_ret
    exact ⟨rb (by rw [Bool.eq_iff_iff]; simp [nmB]; omega), rfl⟩
  case inr.inr.inr.inr.inr.inl =>
    subst h
    go_enter Tryd.func45, Tryd.ntmps45
    go_wp2
    go_ret
    exact ⟨rb (by simp [nmB]), rfl⟩
  all_goals
    have e : (r == 95) = false := by rw [beq_eq_false_iff_ne]; omega
    go_enter Tryd.func45, Tryd.ntmps45
    go_wp2
    go_ret
    exact ⟨rb (by rw [Bool.eq_iff_iff]; simp [nmB]; omega), rfl⟩

def nameB (s : ByteArray) : Bool := if h : 0 < s.size ∧ s.size ≤ 32 then !dig8 (s[0]'h.1) && s.data.toList.all nm8 else false

theorem take_nm {s : ByteArray} {k : Nat} (hk : k < s.size) : (s.data.toList.take (k + 1)).all nm8 = ((s.data.toList.take k).all nm8 && nm8 s[k]) := by
  rw [List.take_succ_eq_append_getElem (by rw [Array.length_toList]; exact hk), List.all_append]; simp; rfl
theorem name_bad {s : ByteArray} {k : Nat} (hk : k < s.size) (h : nm8 s[k] = false) : nameB s = false := by
  unfold nameB
  split
  · rw [Bool.and_eq_false_iff]
    refine .inr ?_
    rw [List.all_eq_false]
    exact ⟨s[k], by have : s[k] = s.data.toList[k]'(by rw [Array.length_toList]; exact hk) := rfl; rw [this]; exact List.getElem_mem _, by simp [h]⟩
  · rfl
theorem name_dig {s : ByteArray} (h0 : 0 < s.size) (h : dig8 s[0] = true) : nameB s = false := by
  unfold nameB
  split
  · rw [h]; rfl
  · rfl
theorem name_size {s : ByteArray} (h : s.size = 0 ∨ 32 < s.size) : nameB s = false := by
  unfold nameB; rw [dif_neg (by omega)]
theorem name_good {s : ByteArray} {k : Nat} (h0 : 0 < s.size) (h1 : s.size ≤ 32) (hk : ¬ k < s.size) (hd : dig8 s[0] = false) (h : (s.data.toList.take k).all nm8 = true) : nameB s = true := by
  rw [List.take_of_length_le (by rw [Array.length_toList]; have : s.data.size = s.size := rfl; omega)] at h
  unfold nameB
  rw [dif_pos ⟨h0, h1⟩, hd, h]; rfl

set_option maxHeartbeats 4000000 in
set_option maxRecDepth 100000 in
theorem IsName_any (s : ByteArray) (w : World) (hs : s.size ≤ 300) :
    Calls Tryd.prog 26 #[.string s] w fun e w' => e = .returned (.bool (nameB s)) ∧ Below w.heap.size w w' := by
  by_cases h0 : s.size = 0
  · have e1 := toList_nil h0
    rw [name_size (.inl h0)]
    go_enter Tryd.func26, Tryd.ntmps26
    go_wp2
    go_ret
    exact ⟨rfl, Below.refl _ _⟩
  have hp : 0 < s.size := by omega
  have e1 := toList_cons hp
  by_cases h1 : 32 < s.size
  · rw [name_size (.inr h1)]
    go_enter Tryd.func26, Tryd.ntmps26
    go_wp2
    go_ret
    exact ⟨rfl, Below.refl _ _⟩
  have h2 : s.size ≤ 32 := by omega
  by_cases hd : digB (s[0].toNat : Int) = true
  · rw [name_dig hp hd]
    have HD := Lib.hid hd; clear hd
    go_enter Tryd.func26, Tryd.ntmps26
    go_wp2_with fail
    refine (isDigit_is HD.out _).mono ?_
    rintro e w1 ⟨rfl, rfl⟩
    go_wp2
    go_ret
    exact ⟨rfl, Below.refl _ _⟩
  have HD := Lib.hid (Bool.eq_false_iff.2 hd); clear hd h1 h0
  go_enter Tryd.func26, Tryd.ntmps26
  go_wp2_with fail
  refine (isDigit_is HD.out _).mono ?_
  rintro e w1 ⟨rfl, rfl⟩
  go_wp2
  go_loopw [] (fun wr => ∃ pos : Nat, pos ≤ s.size ∧ wr.heap[w.heap.size]? = some (.stringIter s pos) ∧ Below w.heap.size w wr ∧ Hid ((s.data.toList.take pos).all nm8 = true)) (fun wr => s.size - wr.iterPos w.heap.size)
  case atStart => exact ⟨0, by omega, World.alloc_heap_new _ _, (Below.refl _ _).alloc (Nat.le_refl _) _, rfl⟩
  case round =>
    obtain ⟨pos, hps, hit, hb, hA⟩ := hrel
    by_cases hlt : pos < s.size
    · by_cases ha : s[pos].toNat < 128
      · have hnx : ∀ ty, (Instr.next (.pointer (some ⟨w.heap.size, 0, none⟩)) true ty).run Tryd.prog wr = _ := fun ty => Lib.run_next_ascii_at wr w.heap.size s pos ty hit hlt ha
        have hit2 := Lib.iterAt_heap wr w.heap.size s pos (pos + 1) hit
        have hb2 := Lib.below_iterAt hb (k := w.heap.size) (Nat.le_refl _) s (pos + 1)
        clear ha
        go_wp2_with fail
        refine (isNameRune_any _ _).mono ?_
        rintro e w2 ⟨rfl, rfl⟩
        cases hn : nmB (s[pos].toNat : Int) with
        | true =>
          have HN := Lib.hid hn; clear hn
          go_wp2
          go_roundw
          case rel => exact ⟨pos + 1, by omega, hit2, hb2, Lib.hid (by rw [take_nm hlt, hA.out, show nm8 s[pos] = true from HN.out]; rfl)⟩
          case measure => simp only [World.iterPos, hit2, hit]; omega
        | false =>
          have HN := Lib.hid hn; clear hn
          go_wp2
          go_ret
          exact ⟨rb (name_bad hlt HN.out).symm, hb2⟩
      · have hnx : ∀ ty, (Instr.next (.pointer (some ⟨w.heap.size, 0, none⟩)) true ty).run Tryd.prog wr = _ := fun ty => Lib.run_next_any_at wr w.heap.size s pos ty hit hlt
        have hr : 128 ≤ (Utf8.decode s pos).1 := by
          rw [Lib.decode_N]
          refine decodeN_high _ _ _ _ _ ?_
          have e : s.data.toList.getD pos 0 = s[pos] := by
            rw [List.getD_eq_getElem?_getD, List.getElem?_eq_getElem (by rw [Array.length_toList]; exact hlt)]; rfl
          rw [e]; omega
        have hm : nm8 s[pos] = false := by simp [nm8, nmB]; omega
        have HM := Lib.hid (name_bad hlt hm)
        have hb2 := Lib.below_iterAt hb (k := w.heap.size) (Nat.le_refl _) s (pos + (Utf8.decode s pos).2)
        generalize (Utf8.decode s pos).1 = r at *
        generalize (Utf8.decode s pos).2 = n at *
        have hn : nmB (r : Int) = false := by simp [nmB]; omega
        have hc := fun w => isNameRune_any (r : Int) w
        rw [hn] at hc
        clear hn hm ha
        go_wp2_with fail
        refine (hc _).mono ?_
        rintro e w2 ⟨rfl, rfl⟩
        go_wp2
        go_ret
        exact ⟨rb HM.out.symm, hb2⟩
    · have hnx : ∀ ty, (Instr.next (.pointer (some ⟨w.heap.size, 0, none⟩)) true ty).run Tryd.prog wr = _ := fun ty => Lib.run_next_end_at wr w.heap.size s pos ty hit hlt
      have HG := Lib.hid (name_good hp h2 hlt HD.out hA.out)
      go_wp2
      go_ret
      exact ⟨rb HG.out.symm, hb⟩

theorem rb_not {a b : Bool} (h : a = b) : Ending.returned (.bool a) = .returned (.bool b) := by rw [h]
theorem dig_nm {c : Int} (h : digB c = true) : nmB c = true := by
  simp [digB] at h
  exact decide_eq_true (by omega)

set_option maxHeartbeats 8000000 in
set_option maxRecDepth 100000 in
theorem rIsName_any (s : ByteArray) (w : World) (hs : s.size ≤ 300) :
    Calls Tryd.prog 27 #[.string s] w fun e w' => e = .returned (.bool (nameB s)) ∧ w = w' := by
  by_cases h0 : s.size = 0
  · have e1 := toList_nil h0
    rw [name_size (.inl h0)]
    go_enter Tryd.func27, Tryd.ntmps27
    go_wp2
    go_ret
    exact ⟨rfl, rfl⟩
  have hp : 0 < s.size := by omega
  have e1 := toList_cons hp
  by_cases h1 : 32 < s.size
  · rw [name_size (.inr h1)]
    go_enter Tryd.func27, Tryd.ntmps27
    go_wp2
    go_ret
    exact ⟨rfl, rfl⟩
  have h2 : s.size ≤ 32 := by omega
  clear h1 h0
  go_enter Tryd.func27, Tryd.ntmps27
  go_wp2
  go_loop [3] (fun a => ∃ k : Nat, a = .int .i64 k ∧ k ≤ s.size ∧ Hid ((s.data.toList.take k).all nm8 = true) ∧ Hid (0 < k → dig8 s[0] = false)) (fun a => s.size - (intOf a).toNat)
  case atStart => exact ⟨0, rfl, by omega, rfl, Lib.hid (fun h => absurd h (by omega))⟩
  case round =>
    obtain ⟨k, rfl, hk, hA, hD⟩ := hrel
    by_cases hks : k < s.size
    · have g1 : (k : Int) < (s.size : Int) := by omega
      have step : nmB (s[k].toNat : Int) = true → (k = 0 → digB (s[k].toNat : Int) = false) → Hid ((s.data.toList.take (k + 1)).all nm8 = true) ∧ Hid (0 < k + 1 → dig8 s[0] = false) := fun hn hd => by
        refine ⟨Lib.hid (by rw [take_nm hks, hA.out, show nm8 s[k] = true from hn]; rfl), Lib.hid (fun _ => ?_)⟩
        by_cases hk0 : k = 0
        · subst hk0; exact hd rfl
        · exact hD.out (by omega)
      have bad : nmB (s[k].toNat : Int) = false → Hid (nameB s = false) := fun h => name_bad hks h
      have bad0 : k = 0 → digB (s[k].toNat : Int) = true → Hid (nameB s = false) := fun h hd => by subst h; exact name_dig hp hd
      have HS := Lib.hid step; have HB := Lib.hid bad; have HB0 := Lib.hid bad0
      clear step bad bad0
      have hix : ∀ w : World, (Instr.index 9 (.string s) (.int .i64 (k : Int))).run Tryd.prog w = .ok (.int .u8 (s[k].toNat : Int)) w := fun w => by
        rw [run_index_string _ _ _ _ _ Tryd.underlying9]
        simp [hks]
      have hc0 : (0 : Int) ≤ (s[k].toNat : Int) := by omega
      generalize (s[k].toNat : Int) = c at hix HS HB HB0 hc0
      by_cases hk0 : k = 0
      · subst hk0
        have hix0 : ∀ w : World, (Instr.index 9 (.string s) (.int .i64 0)).run Tryd.prog w = .ok (.int .u8 c) w := hix
        clear hix
        rcases seven c with h | ⟨h1, h2⟩ | ⟨h1, h2⟩ | ⟨h1, h2⟩ | ⟨h1, h2, h3⟩ | h | ⟨h1, h2⟩ | h
        · have a1 : decide (97 ≤ c) = false := decide_eq_false (by omega)
          have a2 : decide (c ≤ 122) = true := decide_eq_true (by omega)
          have a3 : decide (65 ≤ c) = false := decide_eq_false (by omega)
          have a4 : decide (c ≤ 90) = true := decide_eq_true (by omega)
          have a5 : decide (48 ≤ c) = false := decide_eq_false (by omega)
          have a6 : decide (c ≤ 57) = true := decide_eq_true (by omega)
          have a7 : (c == 95) = false := by rw [beq_eq_false_iff_ne]; omega
          have R := HB.out (decide_eq_false (by omega))
          clear h
          go_wp2
          go_ret
          exact ⟨rb R.out.symm, rfl⟩
        · have a1 : decide (97 ≤ c) = false := decide_eq_false (by omega)
          have a2 : decide (c ≤ 122) = true := decide_eq_true (by omega)
          have a3 : decide (65 ≤ c) = false := decide_eq_false (by omega)
          have a4 : decide (c ≤ 90) = true := decide_eq_true (by omega)
          have a5 : decide (48 ≤ c) = true := decide_eq_true (by omega)
          have a6 : decide (c ≤ 57) = true := decide_eq_true (by omega)
          have a7 : (c == 95) = false := by rw [beq_eq_false_iff_ne]; omega
          have R := HB0.out rfl (decide_eq_true ⟨h1, h2⟩)
          clear h1 h2
          go_wp2
          go_ret
          exact ⟨rb R.out.symm, rfl⟩
        · have a1 : decide (97 ≤ c) = false := decide_eq_false (by omega)
          have a2 : decide (c ≤ 122) = true := decide_eq_true (by omega)
          have a3 : decide (65 ≤ c) = false := decide_eq_false (by omega)
          have a4 : decide (c ≤ 90) = true := decide_eq_true (by omega)
          have a5 : decide (48 ≤ c) = true := decide_eq_true (by omega)
          have a6 : decide (c ≤ 57) = false := decide_eq_false (by omega)
          have a7 : (c == 95) = false := by rw [beq_eq_false_iff_ne]; omega
          have R := HB.out (decide_eq_false (by omega))
          clear h1 h2
          go_wp2
          go_ret
          exact ⟨rb R.out.symm, rfl⟩
        · have a1 : decide (97 ≤ c) = false := decide_eq_false (by omega)
          have a2 : decide (c ≤ 122) = true := decide_eq_true (by omega)
          have a3 : decide (65 ≤ c) = true := decide_eq_true (by omega)
          have a4 : decide (c ≤ 90) = true := decide_eq_true (by omega)
          have a5 : decide (48 ≤ c) = true := decide_eq_true (by omega)
          have a6 : decide (c ≤ 57) = false := decide_eq_false (by omega)
          have a7 : (c == 95) = false := by rw [beq_eq_false_iff_ne]; omega
          have R := HS.out (decide_eq_true (by omega)) (fun _ => decide_eq_false (by omega))
          clear h1 h2
          go_wp2
          go_round
          case rel => exact ⟨0 + 1, by go_num, by omega, R.1, R.2⟩
          case measure => simp [intOf]; omega
        · have a1 : decide (97 ≤ c) = false := decide_eq_false (by omega)
          have a2 : decide (c ≤ 122) = true := decide_eq_true (by omega)
          have a3 : decide (65 ≤ c) = true := decide_eq_true (by omega)
          have a4 : decide (c ≤ 90) = false := decide_eq_false (by omega)
          have a5 : decide (48 ≤ c) = true := decide_eq_true (by omega)
          have a6 : decide (c ≤ 57) = false := decide_eq_false (by omega)
          have a7 : (c == 95) = false := by rw [beq_eq_false_iff_ne]; omega
          have R := HB.out (decide_eq_false (by omega))
          clear h1 h2 h3
          go_wp2
          go_ret
          exact ⟨rb R.out.symm, rfl⟩
        · have a1 : decide (97 ≤ c) = false := decide_eq_false (by omega)
          have a2 : decide (c ≤ 122) = true := decide_eq_true (by omega)
          have a3 : decide (65 ≤ c) = true := decide_eq_true (by omega)
          have a4 : decide (c ≤ 90) = false := decide_eq_false (by omega)
          have a5 : decide (48 ≤ c) = true := decide_eq_true (by omega)
          have a6 : decide (c ≤ 57) = false := decide_eq_false (by omega)
          have a7 : (c == 95) = true := by rw [beq_iff_eq]; omega
          have R := HS.out (decide_eq_true (by omega)) (fun _ => decide_eq_false (by omega))
          clear h
          go_wp2
          go_round
          case rel => exact ⟨0 + 1, by go_num, by omega, R.1, R.2⟩
          case measure => simp [intOf]; omega
        · have a1 : decide (97 ≤ c) = true := decide_eq_true (by omega)
          have a2 : decide (c ≤ 122) = true := decide_eq_true (by omega)
          have a3 : decide (65 ≤ c) = true := decide_eq_true (by omega)
          have a4 : decide (c ≤ 90) = false := decide_eq_false (by omega)
          have a5 : decide (48 ≤ c) = true := decide_eq_true (by omega)
          have a6 : decide (c ≤ 57) = false := decide_eq_false (by omega)
          have a7 : (c == 95) = false := by rw [beq_eq_false_iff_ne]; omega
          have R := HS.out (decide_eq_true (by omega)) (fun _ => decide_eq_false (by omega))
          clear h1 h2
          go_wp2
          go_round
          case rel => exact ⟨0 + 1, by go_num, by omega, R.1, R.2⟩
          case measure => simp [intOf]; omega
        · have a1 : decide (97 ≤ c) = true := decide_eq_true (by omega)
          have a2 : decide (c ≤ 122) = false := decide_eq_false (by omega)
          have a3 : decide (65 ≤ c) = true := decide_eq_true (by omega)
          have a4 : decide (c ≤ 90) = false := decide_eq_false (by omega)
          have a5 : decide (48 ≤ c) = true := decide_eq_true (by omega)
          have a6 : decide (c ≤ 57) = false := decide_eq_false (by omega)
          have a7 : (c == 95) = false := by rw [beq_eq_false_iff_ne]; omega
          have R := HB.out (decide_eq_false (by omega))
          clear h
          go_wp2
          go_ret
          exact ⟨rb R.out.symm, rfl⟩
      · have a8 : decide ((0 : Int) < (k : Int)) = true := decide_eq_true (by omega)
        have a9 : 0 < k := by omega
        rcases seven c with h | ⟨h1, h2⟩ | ⟨h1, h2⟩ | ⟨h1, h2⟩ | ⟨h1, h2, h3⟩ | h | ⟨h1, h2⟩ | h
        · have a1 : decide (97 ≤ c) = false := decide_eq_false (by omega)
          have a2 : decide (c ≤ 122) = true := decide_eq_true (by omega)
          have a3 : decide (65 ≤ c) = false := decide_eq_false (by omega)
          have a4 : decide (c ≤ 90) = true := decide_eq_true (by omega)
          have a5 : decide (48 ≤ c) = false := decide_eq_false (by omega)
          have a6 : decide (c ≤ 57) = true := decide_eq_true (by omega)
          have a7 : (c == 95) = false := by rw [beq_eq_false_iff_ne]; omega
          have R := HB.out (decide_eq_false (by omega))
          clear h
          go_wp2
          go_ret
          exact ⟨rb R.out.symm, rfl⟩
        · have a1 : decide (97 ≤ c) = false := decide_eq_false (by omega)
          have a2 : decide (c ≤ 122) = true := decide_eq_true (by omega)
          have a3 : decide (65 ≤ c) = false := decide_eq_false (by omega)
          have a4 : decide (c ≤ 90) = true := decide_eq_true (by omega)
          have a5 : decide (48 ≤ c) = true := decide_eq_true (by omega)
          have a6 : decide (c ≤ 57) = true := decide_eq_true (by omega)
          have a7 : (c == 95) = false := by rw [beq_eq_false_iff_ne]; omega
          have R := HS.out (decide_eq_true (by omega)) (fun h => absurd h hk0)
          clear h1 h2
          go_wp2
          go_round
          case rel => exact ⟨k + 1, by go_num, by omega, R.1, R.2⟩
          case measure => simp [intOf]; omega
        · have a1 : decide (97 ≤ c) = false := decide_eq_false (by omega)
          have a2 : decide (c ≤ 122) = true := decide_eq_true (by omega)
          have a3 : decide (65 ≤ c) = false := decide_eq_false (by omega)
          have a4 : decide (c ≤ 90) = true := decide_eq_true (by omega)
          have a5 : decide (48 ≤ c) = true := decide_eq_true (by omega)
          have a6 : decide (c ≤ 57) = false := decide_eq_false (by omega)
          have a7 : (c == 95) = false := by rw [beq_eq_false_iff_ne]; omega
          have R := HB.out (decide_eq_false (by omega))
          clear h1 h2
          go_wp2
          go_ret
          exact ⟨rb R.out.symm, rfl⟩
        · have a1 : decide (97 ≤ c) = false := decide_eq_false (by omega)
          have a2 : decide (c ≤ 122) = true := decide_eq_true (by omega)
          have a3 : decide (65 ≤ c) = true := decide_eq_true (by omega)
          have a4 : decide (c ≤ 90) = true := decide_eq_true (by omega)
          have a5 : decide (48 ≤ c) = true := decide_eq_true (by omega)
          have a6 : decide (c ≤ 57) = false := decide_eq_false (by omega)
          have a7 : (c == 95) = false := by rw [beq_eq_false_iff_ne]; omega
          have R := HS.out (decide_eq_true (by omega)) (fun _ => decide_eq_false (by omega))
          clear h1 h2
          go_wp2
          go_round
          case rel => exact ⟨k + 1, by go_num, by omega, R.1, R.2⟩
          case measure => simp [intOf]; omega
        · have a1 : decide (97 ≤ c) = false := decide_eq_false (by omega)
          have a2 : decide (c ≤ 122) = true := decide_eq_true (by omega)
          have a3 : decide (65 ≤ c) = true := decide_eq_true (by omega)
          have a4 : decide (c ≤ 90) = false := decide_eq_false (by omega)
          have a5 : decide (48 ≤ c) = true := decide_eq_true (by omega)
          have a6 : decide (c ≤ 57) = false := decide_eq_false (by omega)
          have a7 : (c == 95) = false := by rw [beq_eq_false_iff_ne]; omega
          have R := HB.out (decide_eq_false (by omega))
          clear h1 h2 h3
          go_wp2
          go_ret
          exact ⟨rb R.out.symm, rfl⟩
        · have a1 : decide (97 ≤ c) = false := decide_eq_false (by omega)
          have a2 : decide (c ≤ 122) = true := decide_eq_true (by omega)
          have a3 : decide (65 ≤ c) = true := decide_eq_true (by omega)
          have a4 : decide (c ≤ 90) = false := decide_eq_false (by omega)
          have a5 : decide (48 ≤ c) = true := decide_eq_true (by omega)
          have a6 : decide (c ≤ 57) = false := decide_eq_false (by omega)
          have a7 : (c == 95) = true := by rw [beq_iff_eq]; omega
          have R := HS.out (decide_eq_true (by omega)) (fun _ => decide_eq_false (by omega))
          clear h
          go_wp2
          go_round
          case rel => exact ⟨k + 1, by go_num, by omega, R.1, R.2⟩
          case measure => simp [intOf]; omega
        · have a1 : decide (97 ≤ c) = true := decide_eq_true (by omega)
          have a2 : decide (c ≤ 122) = true := decide_eq_true (by omega)
          have a3 : decide (65 ≤ c) = true := decide_eq_true (by omega)
          have a4 : decide (c ≤ 90) = false := decide_eq_false (by omega)
          have a5 : decide (48 ≤ c) = true := decide_eq_true (by omega)
          have a6 : decide (c ≤ 57) = false := decide_eq_false (by omega)
          have a7 : (c == 95) = false := by rw [beq_eq_false_iff_ne]; omega
          have R := HS.out (decide_eq_true (by omega)) (fun _ => decide_eq_false (by omega))
          clear h1 h2
          go_wp2
          go_round
          case rel => exact ⟨k + 1, by go_num, by omega, R.1, R.2⟩
          case measure => simp [intOf]; omega
        · have a1 : decide (97 ≤ c) = true := decide_eq_true (by omega)
          have a2 : decide (c ≤ 122) = false := decide_eq_false (by omega)
          have a3 : decide (65 ≤ c) = true := decide_eq_true (by omega)
          have a4 : decide (c ≤ 90) = false := decide_eq_false (by omega)
          have a5 : decide (48 ≤ c) = true := decide_eq_true (by omega)
          have a6 : decide (c ≤ 57) = false := decide_eq_false (by omega)
          have a7 : (c == 95) = false := by rw [beq_eq_false_iff_ne]; omega
          have R := HB.out (decide_eq_false (by omega))
          clear h
          go_wp2
          go_ret
          exact ⟨rb R.out.symm, rfl⟩
    · have HG := Lib.hid (name_good hp h2 hks (hD.out (by omega)) hA.out)
      go_wp2
      go_ret
      exact ⟨rb HG.out.symm, rfl⟩
end Go.Proofs.YtmofnaeiemkbnaaDoor
