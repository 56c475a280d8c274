/- text.isNumber, text.Read and the reference's Read: every text of at most 300 bytes and every bound. -/
import Derived.Test.YtmofnaeiemkbnaaDoorU
import Derived.Test.YtmofnaeiemkbnaaDoorA
import Derived.Test.YtmofnaeiemkbnaaDoorM
import Derived.Lib.OthersKept
import Derived.RangeFuncBox
import Derived.Outline
namespace Go.Proofs.YtmofnaeiemkbnaaDoor
open Go.RowKit

def dig8 (c : UInt8) : Bool := digB c.toNat
def startBad (s : ByteArray) : Prop := s.size = 0 ∨ ∃ h : 0 < s.size, s[0] = 48 ∧ 1 < s.size
def numB (s : ByteArray) : Bool := s.data.toList.all dig8

theorem toList_nil {s : ByteArray} (h : s.size = 0) : s.toList = [] := by
  rw [ByteArray.toList_eq]; exact List.eq_nil_of_length_eq_zero (by rw [Array.length_toList]; exact h)
theorem toList_cons {s : ByteArray} (h : 0 < s.size) : s.toList.isEmpty = false := by
  rw [ByteArray.toList_eq, List.isEmpty_eq_false_iff]
  intro e
  have h2 := congrArg List.length e
  rw [Array.length_toList] at h2
  have h3 : s.data.size = s.size := rfl
  rw [h3] at h2; simp only [List.length_nil] at h2; omega
theorem toList_one {s : ByteArray} (h : 0 < s.size) (h0 : s[0] = 48) (h1 : s.size = 1) : s.toList = [48] := by
  rw [ByteArray.toList_eq]
  have hl : s.data.toList.length = 1 := by rw [Array.length_toList]; exact h1
  match hs : s.data.toList, hl with
  | [a], _ =>
    have : s.data.toList[0]? = some s[0] := by rw [List.getElem?_eq_getElem (by rw [Array.length_toList]; exact h)]; rfl
    rw [hs, h0] at this
    simp at this
    rw [this]
theorem toList_more {s : ByteArray} (h1 : 1 < s.size) : (s.toList == [48]) = false := by
  rw [beq_eq_false_iff_ne, ByteArray.toList_eq]
  intro e
  have h2 := congrArg List.length e
  rw [Array.length_toList] at h2
  have h3 : s.data.size = s.size := rfl
  simp at h2; omega
theorem take_all {s : ByteArray} {k : Nat} (hk : k < s.size) : (s.data.toList.take (k + 1)).all dig8 = ((s.data.toList.take k).all dig8 && dig8 s[k]) := by
  rw [List.take_succ_eq_append_getElem (by rw [Array.length_toList]; exact hk), List.all_append]; simp; rfl
theorem all_bad {s : ByteArray} {k : Nat} (hk : k < s.size) (h : dig8 s[k] = false) : numB s = false := by
  unfold numB
  rw [List.all_eq_false]
  exact ⟨s[k], by have : s[k] = s.data.toList[k]'(by rw [Array.length_toList]; exact hk) := rfl; rw [this]; exact List.getElem_mem _, by simp [h]⟩
theorem all_done {s : ByteArray} {k : Nat} (hk : ¬ k < s.size) (h : (s.data.toList.take k).all dig8 = true) : numB s = true := by
  rwa [List.take_of_length_le (by rw [Array.length_toList]; have : s.data.size = s.size := rfl; omega)] at h

set_option maxHeartbeats 2000000 in
theorem isNumber_bad (s : ByteArray) (w : World) (h : startBad s) :
    Calls Tryd.prog 31 #[.string s] w fun e w' => e = .returned (.bool false) ∧ w = w' := by
  rcases h with h | ⟨h0, hb, h1⟩
  · have e1 := toList_nil h
    go_enter Tryd.func31, Tryd.ntmps31
    go_wp2
    go_ret
    exact ⟨rfl, rfl⟩
  · have e1 := toList_cons h0
    have e2 : (!s.toList == [48]) = true := by rw [toList_more h1]; rfl
    have e3 : ((s[0].toNat : Int) == 48) = true := by rw [hb]; rfl
    clear hb
    go_enter Tryd.func31, Tryd.ntmps31
    go_wp2
    go_ret
    exact ⟨rfl, rfl⟩

set_option maxHeartbeats 2000000 in
theorem isNumber_else (s : ByteArray) (w : World) (hs : s.size ≤ 300) (h : ¬ startBad s) :
    Calls Tryd.prog 31 #[.string s] w fun e w' => e = .returned (.bool (numB s)) ∧ w = w' := by
  have h0 : 0 < s.size := by
    rcases Nat.eq_zero_or_pos s.size with h1 | h1
    · exact absurd (.inl h1) h
    · exact h1
  have e1 := toList_cons h0
  by_cases hb : s[0] = 48
  · have h1 : s.size = 1 := by
      rcases Nat.lt_or_ge 1 s.size with h2 | h2
      · exact absurd (.inr ⟨h0, hb, h2⟩) h
      · omega
    have e2 : (!s.toList == [48]) = false := by rw [toList_one h0 hb h1]; rfl
    have e3 : ((s[0].toNat : Int) == 48) = true := by rw [hb]; rfl
    have H1 := Lib.hid h1
    clear hb h h1
    go_enter Tryd.func31, Tryd.ntmps31
    go_wp2
    go_loop [17] (fun a => ∃ k : Nat, a = .int .i64 k ∧ k ≤ s.size ∧ Hid ((s.data.toList.take k).all dig8 = true)) (fun a => s.size - (intOf a).toNat)
    case atStart => exact ⟨0, rfl, by omega, rfl⟩
    case round =>
      obtain ⟨k, rfl, hk, hA⟩ := hrel
      by_cases hks : k < s.size
      · have g1 : (k : Int) < (s.size : Int) := by omega
        go_wp2_with fail
        refine (isDigit_any _ _).mono ?_
        rintro e w1 ⟨rfl, rfl⟩
        by_cases hd : digB (s[k].toNat : Int) = true
        · have HD := Lib.hid hd
          rw [hd]
          clear hd
          go_wp2
          go_round
          case rel => exact ⟨k + 1, by go_num, by omega, by rw [take_all hks, hA.out, show dig8 s[k] = true from HD.out]; exact rfl⟩
          case measure => simp [intOf]; omega
        · have HD := Lib.hid (Bool.eq_false_iff.2 hd)
          rw [Bool.eq_false_iff.2 hd]
          clear hd
          go_wp2
          go_ret
          exact ⟨rb (all_bad hks HD.out).symm, rfl⟩
      · go_wp2
        go_ret
        exact ⟨rb (all_done hks hA.out).symm, rfl⟩
  · have e3 : ((s[0].toNat : Int) == 48) = false := by
      rw [beq_eq_false_iff_ne]; intro e; exact hb (UInt8.toNat_inj.1 (show s[0].toNat = 48 by omega))
    clear hb h
    go_enter Tryd.func31, Tryd.ntmps31
    go_wp2
    go_loop [17] (fun a => ∃ k : Nat, a = .int .i64 k ∧ k ≤ s.size ∧ Hid ((s.data.toList.take k).all dig8 = true)) (fun a => s.size - (intOf a).toNat)
    case atStart => exact ⟨0, rfl, by omega, rfl⟩
    case round =>
      obtain ⟨k, rfl, hk, hA⟩ := hrel
      by_cases hks : k < s.size
      · have g1 : (k : Int) < (s.size : Int) := by omega
        go_wp2_with fail
        refine (isDigit_any _ _).mono ?_
        rintro e w1 ⟨rfl, rfl⟩
        by_cases hd : digB (s[k].toNat : Int) = true
        · have HD := Lib.hid hd
          rw [hd]
          clear hd
          go_wp2
          go_round
          case rel => exact ⟨k + 1, by go_num, by omega, by rw [take_all hks, hA.out, show dig8 s[k] = true from HD.out]; exact rfl⟩
          case measure => simp [intOf]; omega
        · have HD := Lib.hid (Bool.eq_false_iff.2 hd)
          rw [Bool.eq_false_iff.2 hd]
          clear hd
          go_wp2
          go_ret
          exact ⟨rb (all_bad hks HD.out).symm, rfl⟩
      · go_wp2
        go_ret
        exact ⟨rb (all_done hks hA.out).symm, rfl⟩

/-- What Read gives of digits. -/
def foldR (most : Int) : List UInt8 → Int → Int × Int
  | [], n => (n, 0)
  | c :: r, n => if most < (c.toNat : Int) - 48 ∨ (most - ((c.toNat : Int) - 48)) / 10 < n then (0, 2) else foldR most r (10 * n + ((c.toNat : Int) - 48))
open Classical in
noncomputable def readZ (s : ByteArray) (most : Int) : Int × Int := if startBad s ∨ numB s = false then (0, 3) else foldR most s.data.toList 0

theorem drop_at {s : ByteArray} {k : Nat} (h : k < s.size) : s.data.toList.drop k = s[k] :: s.data.toList.drop (k + 1) := by
  rw [List.drop_eq_getElem_cons (by simpa using h)]; rfl
theorem drop_end {s : ByteArray} {k : Nat} (h : ¬ k < s.size) : s.data.toList.drop k = [] := List.drop_eq_nil_of_le (by rw [Array.length_toList]; exact Nat.not_lt.1 h)
theorem num_at {s : ByteArray} (h : numB s = true) {k : Nat} (hk : k < s.size) : 48 ≤ (s[k].toNat : Int) ∧ (s[k].toNat : Int) ≤ 57 := by
  unfold numB at h
  rw [List.all_eq_true] at h
  have := h s[k] (by have : s[k] = s.data.toList[k]'(by rw [Array.length_toList]; exact hk) := rfl; rw [this]; exact List.getElem_mem _)
  simpa [dig8, digB] using this

set_option maxHeartbeats 4000000 in
set_option maxRecDepth 100000 in
theorem Read_good (s : ByteArray) (most : Int) (w : World) (hs : s.size ≤ 300) (hm : most ≤ 9223372036854775807) (h : ¬ startBad s) (hn : numB s = true) :
    Calls Tryd.prog 18 #[.string s, .int .i64 most] w fun e w' => e = .returned (.tuple #[.int .i64 (foldR most s.data.toList 0).1, .int .i64 (foldR most s.data.toList 0).2]) ∧ Below w.heap.size w w' := by
  have HN := Lib.hid hn; clear hn
  have HB := Lib.hid h; clear h
  go_enter Tryd.func18, Tryd.ntmps18
  go_wp2_with fail
  refine (isNumber_else s _ hs HB.out).mono ?_
  rintro e w1 ⟨rfl, rfl⟩
  rw [HN.out]
  go_wp2
  go_loopw [6] (fun a wr => ∃ (pos : Nat) (n : Int), a = .int .i64 n ∧ 0 ≤ n ∧ n ≤ 9223372036854775807 ∧ pos ≤ s.size ∧ wr.heap[w.heap.size]? = some (.stringIter s pos) ∧ Below w.heap.size w wr ∧ Hid (foldR most (s.data.toList.drop pos) n = foldR most s.data.toList 0)) (fun _ wr => s.size - wr.iterPos w.heap.size)
  case atStart => exact ⟨0, 0, rfl, by omega, by omega, by omega, World.alloc_heap_new _ _, (Below.refl _ _).alloc (Nat.le_refl _) _, rfl⟩
  case round =>
    obtain ⟨pos, n, rfl, hn0, hn1, hps, hit, hbw, hF⟩ := hrel
    by_cases hp : pos < s.size
    · have hnx : ∀ ty, (Instr.next (.pointer (some ⟨w.heap.size, 0, none⟩)) true ty).run Tryd.prog wr = _ := fun ty => Lib.run_next_ascii_at wr w.heap.size s pos ty hit hp (by have := (num_at HN.out hp).2; omega)
      obtain ⟨d0, d1⟩ := num_at HN.out hp
      have hit2 := Lib.iterAt_heap wr w.heap.size s pos (pos + 1) hit
      have hbw2 := Lib.below_iterAt hbw (k := w.heap.size) (Nat.le_refl _) s (pos + 1)
      have hF2 := hF.out
      rw [drop_at hp, foldR] at hF2
      revert d0 d1 hF2 hnx
      generalize (s[pos].toNat : Int) = c
      intro hnx d0 d1 hF2
      by_cases h1 : most < c - 48
      · rw [if_pos (Or.inl h1)] at hF2
        have HF := Lib.hid hF2; clear hF2 hF
        go_wp2
        go_ret2
        exact ⟨by rw [← HF.out]; rfl, hbw2⟩
      · have h1' : c - 48 ≤ most := by omega
        by_cases h2 : (most - (c - 48)) / 10 < n
        · rw [if_pos (Or.inr h2)] at hF2
          have HF := Lib.hid hF2; clear hF2 hF h1
          go_wp2
          go_ret2
          exact ⟨by rw [← HF.out]; rfl, hbw2⟩
        · rw [if_neg (by rintro (h | h) <;> contradiction)] at hF2
          have HF := Lib.hid hF2; clear hF2 hF h1
          have h3 : n ≤ (most - (c - 48)) / 10 := by omega
          have h4 : 10 * n + (c - 48) ≤ most := by omega
          clear h2
          go_wp2
          go_roundw
          case rel => exact ⟨pos + 1, 10 * n + (c - 48), rfl, by omega, by omega, by omega, hit2, hbw2, HF⟩
          case measure => simp only [World.iterPos, hit2, hit]; omega
    · have hnx : ∀ ty, (Instr.next (.pointer (some ⟨w.heap.size, 0, none⟩)) true ty).run Tryd.prog wr = _ := fun ty => Lib.run_next_end_at wr w.heap.size s pos ty hit hp
      have hF2 := hF.out
      rw [drop_end hp, foldR] at hF2
      have HF := Lib.hid hF2; clear hF2 hF
      go_wp2
      go_ret2
      exact ⟨by rw [← HF.out]; rfl, hbw⟩

theorem Read_any (s : ByteArray) (most : Int) (w : World) (hs : s.size ≤ 300) (hm : most ≤ 9223372036854775807) :
    Calls Tryd.prog 18 #[.string s, .int .i64 most] w fun e w' => e = .returned (.tuple #[.int .i64 (readZ s most).1, .int .i64 (readZ s most).2]) ∧ Below w.heap.size w w' := by
  by_cases h : startBad s
  · have HR : Hid (readZ s most = (0, 3)) := if_pos (Or.inl h)
    have HB := Lib.hid h; clear h
    go_enter Tryd.func18, Tryd.ntmps18
    go_wp2_with fail
    refine (isNumber_bad s _ HB.out).mono ?_
    rintro e w1 ⟨rfl, rfl⟩
    go_wp2
    go_ret2
    exact ⟨by rw [HR.out]; rfl, Below.refl _ _⟩
  · by_cases hn : numB s = true
    · rw [show readZ s most = foldR most s.data.toList 0 from if_neg (by rintro (h1 | h1); exact h h1; rw [hn] at h1; cases h1)]
      exact Read_good s most w hs hm h hn
    · have HR : Hid (readZ s most = (0, 3)) := if_pos (Or.inr (Bool.eq_false_iff.2 hn))
      have HN := Lib.hid (Bool.eq_false_iff.2 hn); clear hn
      have HB := Lib.hid h; clear h
      go_enter Tryd.func18, Tryd.ntmps18
      go_wp2_with fail
      refine (isNumber_else s _ hs HB.out).mono ?_
      rintro e w1 ⟨rfl, rfl⟩
      rw [HN.out]
      go_wp2
      go_ret2
      exact ⟨by rw [HR.out]; rfl, Below.refl _ _⟩
end Go.Proofs.YtmofnaeiemkbnaaDoor
