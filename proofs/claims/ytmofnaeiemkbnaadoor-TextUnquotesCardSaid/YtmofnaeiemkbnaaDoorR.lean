/- text.isInvalid, text.writeRune. Conditions: the offset lies in the text; the rune is one that decoding gives; the builder stays under 2^47 bytes. -/
import Derived.Test.YtmofnaeiemkbnaaDoorQ
namespace Go.Proofs.YtmofnaeiemkbnaaDoor
open Go.RowKit Go.Shelf

/-- The rune r at offset k of s stands for an invalid byte. -/
def invB (s : ByteArray) (k : Nat) (r : Int) : Bool := decide (r = 65533) && !Lib.hasPrefix (s.data.toList.drop k) [239, 191, 189]

set_option maxHeartbeats 1000000 in
theorem isInvalid_any (s : ByteArray) (k : Nat) (r : Int) (w : World) (hk : k ≤ s.size) :
    Calls Tryd.prog 35 #[.string s, .int .i64 k, .int .i32 r] w fun e w' => e = .returned (.bool (invB s k r)) ∧ w = w' := by
  by_cases hr : r = 65533
  · subst hr
    go_enter Tryd.func35, Tryd.ntmps35
    go_wp2_with (go_at_call 38; refine (Tryd.strings_HasPrefix _ _ _).mono ?_; rintro e w' ⟨rfl, rfl⟩)
    go_ret
    refine ⟨rb ?_, rfl⟩
    simp only [invB]
    simp
    rw [List.take_of_length_le (by simp)]
  · have hb : (r == 65533) = false := by rw [beq_eq_false_iff_ne]; exact hr
    go_enter Tryd.func35, Tryd.ntmps35
    go_wp2
    go_ret
    exact ⟨rb (by simp [invB, hr]), rfl⟩

/-- What writeRune writes. -/
def quoteR (r : Nat) : List UInt8 :=
  if r = 10 then [92, 110] else if r = 13 then [92, 114] else if r = 9 then [92, 116] else if r = 34 ∨ r = 92 then [92, r.toUInt8] else if 32 ≤ r ∧ r ≤ 126 then [r.toUInt8] else codeB 117 r

set_option maxRecDepth 100000 in
set_option maxHeartbeats 4000000 in
theorem writeRune_any (B b : Nat) (bs : List UInt8) (r : Nat) (hr : r ≤ 1114111) (w : World) (h : Lib.IsBuilderF 55 5 B b (Lib.byteCells bs) w) (hlen : bs.length ≤ 1000000) (hBw : B ≤ w.heap.size) :
    Calls Tryd.prog 37 #[.pointer (some ⟨b, 0, none⟩), .int .i32 r] w fun e w' => e = .returned (.tuple #[]) ∧ Lib.IsBuilderF 55 5 B b (Lib.byteCells (bs ++ quoteR r)) w' ∧ Below B w w' ∧ Lib.OthersKept 5 (some b) w w' := by
  have hl0 : (Lib.byteCells bs).length + 4 ≤ 140737488355328 := by rw [Lib.byteCells_length]; omega
  by_cases h10 : r = 10
  · subst h10
    go_enter Tryd.func37, Tryd.ntmps37
    go_wp2_with (go_at_call 40; refine (WriteString_any B b _ _ _ h (by simp [ByteArray.size]; omega) hBw).mono ?_)
    rintro e w1 ⟨rfl, i1, b1, k1⟩
    go_wp2
    go_end0
    exact ⟨rfl, by rw [show quoteR 10 = [92, 110] from rfl, Lib.byteCells_append]; exact .inr i1, b1, k1⟩
  by_cases h13 : r = 13
  · subst h13
    go_enter Tryd.func37, Tryd.ntmps37
    go_wp2_with (go_at_call 40; refine (WriteString_any B b _ _ _ h (by simp [ByteArray.size]; omega) hBw).mono ?_)
    rintro e w1 ⟨rfl, i1, b1, k1⟩
    go_wp2
    go_end0
    exact ⟨rfl, by rw [show quoteR 13 = [92, 114] from rfl, Lib.byteCells_append]; exact .inr i1, b1, k1⟩
  by_cases h9 : r = 9
  · subst h9
    go_enter Tryd.func37, Tryd.ntmps37
    go_wp2_with (go_at_call 40; refine (WriteString_any B b _ _ _ h (by simp [ByteArray.size]; omega) hBw).mono ?_)
    rintro e w1 ⟨rfl, i1, b1, k1⟩
    go_wp2
    go_end0
    exact ⟨rfl, by rw [show quoteR 9 = [92, 116] from rfl, Lib.byteCells_append]; exact .inr i1, b1, k1⟩
  by_cases h34 : r = 34
  · subst h34
    go_enter Tryd.func37, Tryd.ntmps37
    go_wp2_with (go_at_call 32; refine (WriteByte_any B b _ 92 _ h (by omega) hBw).mono ?_)
    rintro e w1 ⟨rfl, i1, b1, k1⟩
    have hs1 : B ≤ w1.heap.size := Nat.le_trans hBw b1.size
    have hl1 : (Lib.byteCells bs ++ [Value.int IntKind.u8 92]).length + 4 ≤ 140737488355328 := by simp [Lib.byteCells_length]; omega
    go_wp2_with (go_at_call 51; refine (WriteRune_ascii B b _ 34 (by omega) (by omega) _ (.inr i1) hl1 hs1).mono ?_)
    rintro e w2 ⟨rfl, i2, b2, k2⟩
    go_wp2
    go_end0
    exact ⟨rfl, by rw [show bs ++ quoteR 34 = (bs ++ [92]) ++ [34] by simp [quoteR], Lib.byteCells_append, Lib.byteCells_append]; exact .inr i2, b1.trans b2, k1.trans k2⟩
  by_cases h92 : r = 92
  · subst h92
    go_enter Tryd.func37, Tryd.ntmps37
    go_wp2_with (go_at_call 32; refine (WriteByte_any B b _ 92 _ h (by omega) hBw).mono ?_)
    rintro e w1 ⟨rfl, i1, b1, k1⟩
    have hs1 : B ≤ w1.heap.size := Nat.le_trans hBw b1.size
    have hl1 : (Lib.byteCells bs ++ [Value.int IntKind.u8 92]).length + 4 ≤ 140737488355328 := by simp [Lib.byteCells_length]; omega
    go_wp2_with (go_at_call 51; refine (WriteRune_ascii B b _ 92 (by omega) (by omega) _ (.inr i1) hl1 hs1).mono ?_)
    rintro e w2 ⟨rfl, i2, b2, k2⟩
    go_wp2
    go_end0
    exact ⟨rfl, by rw [show bs ++ quoteR 92 = (bs ++ [92]) ++ [92] by simp [quoteR], Lib.byteCells_append, Lib.byteCells_append]; exact .inr i2, b1.trans b2, k1.trans k2⟩
  have e10 : ((r : Int) == 10) = false := by rw [beq_eq_false_iff_ne]; omega
  have e13 : ((r : Int) == 13) = false := by rw [beq_eq_false_iff_ne]; omega
  have e9 : ((r : Int) == 9) = false := by rw [beq_eq_false_iff_ne]; omega
  have e34 : ((r : Int) == 34) = false := by rw [beq_eq_false_iff_ne]; omega
  have e92 : ((r : Int) == 92) = false := by rw [beq_eq_false_iff_ne]; omega
  by_cases hp : 32 ≤ r ∧ r ≤ 126
  · obtain ⟨hp1, hp2⟩ := hp
    have hq : quoteR r = [r.toUInt8] := by simp only [quoteR, if_neg h10, if_neg h13, if_neg h9]; rw [if_neg (by omega), if_pos ⟨hp1, hp2⟩]
    have hc : Lib.byteCells [r.toUInt8] = [.int .u8 (r : Int)] := by simp [Lib.byteCells]; omega
    have HQ := Lib.hid hq; clear hq
    have HC := Lib.hid hc; clear hc
    clear h10 h13 h9 h34 h92
    have d1 : (32 : Int) ≤ (r : Int) := by omega
    have d2 : (r : Int) ≤ 126 := by omega
    go_enter Tryd.func37, Tryd.ntmps37
    go_wp2_with (go_at_call 51; refine (WriteRune_ascii B b _ (r : Int) (by omega) (by omega) _ h hl0 hBw).mono ?_)
    rintro e w2 ⟨rfl, i2, b2, k2⟩
    go_wp2
    go_end0
    exact ⟨rfl, by rw [HQ.out, Lib.byteCells_append, HC.out]; exact .inr i2, b2, k2⟩
  · have hq : quoteR r = codeB 117 r := by simp only [quoteR, if_neg h10, if_neg h13, if_neg h9]; rw [if_neg (by omega), if_neg hp]
    have HQ := Lib.hid hq; clear hq
    have hu : IntKind.u64.wrap (r : Int) = (r : Int) := IntWalk.u64_in _ (by omega)
    have hm : r < 18446744073709551616 := by omega
    have HM := Lib.hid hm; clear hm
    clear h10 h13 h9 h34 h92
    by_cases hp1 : 32 ≤ r
    · have d1 : (32 : Int) ≤ (r : Int) := by omega
      have d2 : ¬ (r : Int) ≤ 126 := by omega
      have d3 : decide ((r : Int) ≤ 126) = false := decide_eq_false d2
      clear hp d2
      go_enter Tryd.func37, Tryd.ntmps37
      go_wp2_with (go_at_call 36; refine (callsIn_wide.1 (writeCode_in B b bs 117 r HM.out _ h hlen hBw)).mono ?_)
      rintro e w2 ⟨rfl, i2, b2, k2⟩
      go_wp2
      go_end0
      exact ⟨rfl, by rw [HQ.out]; exact i2, b2, k2⟩
    · have d1 : ¬ (32 : Int) ≤ (r : Int) := by omega
      have d3 : decide ((32 : Int) ≤ (r : Int)) = false := decide_eq_false d1
      clear hp d1
      go_enter Tryd.func37, Tryd.ntmps37
      go_wp2_with (go_at_call 36; refine (callsIn_wide.1 (writeCode_in B b bs 117 r HM.out _ h hlen hBw)).mono ?_)
      rintro e w2 ⟨rfl, i2, b2, k2⟩
      go_wp2
      go_end0
      exact ⟨rfl, by rw [HQ.out]; exact i2, b2, k2⟩
end Go.Proofs.YtmofnaeiemkbnaaDoor
