/- Small functions of package edit: Right, inText, isSmall, touches; the reference's Right, Small. Conditions: the text is not too long; the numbers fit. -/
import Derived.WalkKit
import Derived.BigCall
import Derived.BigQuiet
import Derived.Deep.QuietTactic
import Derived.Lib.Hide
import Derived.Outline
import Derived.Test.YtjbfnlnfhafafaaChecked
namespace Go.Proofs.Ytjbfnlnfhafafaa
open Go.RowKit

theorem rb {a b : Bool} (h : a = b) : Ending.returned (.bool a) = .returned (.bool b) := by rw [h]
theorem ri {k : IntKind} {a b : Int} (h : a = b) : Ending.returned (.int k a) = .returned (.int k b) := by rw [h]

theorem db {p : Prop} [Decidable p] (h : p) : true = decide p := (decide_eq_true h).symm
theorem nb {p : Prop} [Decidable p] (h : ¬ p) : false = decide p := (decide_eq_false h).symm

/-- The offset and the bytes deleted lie in a text of n bytes. -/
def rightB (n : Nat) (a d : Int) : Bool := decide (0 ≤ a ∧ a ≤ n ∧ 0 ≤ d ∧ d ≤ n - a)

set_option maxHeartbeats 1000000 in
theorem Right_any (s t : ByteArray) (a d : Int) (w : World) (hs : s.size ≤ 10000000) :
    Calls Try.prog 15 #[.string s, .agg #[.int .i64 a, .int .i64 d, .string t]] w fun e w' => e = .returned (.bool (rightB s.size a d)) ∧ Below w.heap.size w w' := by
  by_cases h1 : 0 ≤ a
  · by_cases h2 : a ≤ s.size
    · by_cases h3 : 0 ≤ d
      · by_cases h4 : d ≤ s.size - a
        · go_enter Try.func15, Try.ntmps15
          go_wp2
          go_ret
          exact ⟨rb (db (by omega)), (Below.refl _ w).alloc (Nat.le_refl _) _⟩
        · go_enter Try.func15, Try.ntmps15
          go_wp2
          go_ret
          exact ⟨rb (nb (by omega)), (Below.refl _ w).alloc (Nat.le_refl _) _⟩
      · go_enter Try.func15, Try.ntmps15
        go_wp2
        go_ret
        exact ⟨rb (nb (by omega)), (Below.refl _ w).alloc (Nat.le_refl _) _⟩
    · go_enter Try.func15, Try.ntmps15
      go_wp2
      go_ret
      exact ⟨rb (nb (by omega)), (Below.refl _ w).alloc (Nat.le_refl _) _⟩
  · go_enter Try.func15, Try.ntmps15
    go_wp2
    go_ret
    exact ⟨rb (nb (by omega)), (Below.refl _ w).alloc (Nat.le_refl _) _⟩

set_option maxHeartbeats 1000000 in
theorem rRight_any (s t : ByteArray) (a d : Int) (w : World) (hs : s.size ≤ 10000000) :
    Calls Try.prog 16 #[.string s, .agg #[.int .i64 a, .int .i64 d, .string t]] w fun e w' => e = .returned (.bool (rightB s.size a d)) ∧ Below w.heap.size w w' := by
  by_cases h1 : 0 ≤ a
  · by_cases h2 : a ≤ s.size
    · by_cases h3 : 0 ≤ d
      · by_cases h4 : d ≤ s.size - a
        · go_enter Try.func16, Try.ntmps16
          go_wp2
          go_ret
          exact ⟨rb (db (by omega)), (Below.refl _ w).alloc (Nat.le_refl _) _⟩
        · go_enter Try.func16, Try.ntmps16
          go_wp2
          go_ret
          exact ⟨rb (nb (by omega)), (Below.refl _ w).alloc (Nat.le_refl _) _⟩
      · go_enter Try.func16, Try.ntmps16
        go_wp2
        go_ret
        exact ⟨rb (nb (by omega)), (Below.refl _ w).alloc (Nat.le_refl _) _⟩
    · go_enter Try.func16, Try.ntmps16
      go_wp2
      go_ret
      exact ⟨rb (nb (by omega)), (Below.refl _ w).alloc (Nat.le_refl _) _⟩
  · go_enter Try.func16, Try.ntmps16
    go_wp2
    go_ret
    exact ⟨rb (nb (by omega)), (Below.refl _ w).alloc (Nat.le_refl _) _⟩

/-- A number lies between 0 and MaxText. -/
def inB (n : Int) : Bool := decide (0 ≤ n ∧ n ≤ 65536)
theorem inText_any (n : Int) (w : World) : Calls Try.prog 30 #[.int .i64 n] w fun e w' => e = .returned (.bool (inB n)) ∧ w = w' := by
  by_cases h1 : 0 ≤ n
  · by_cases h2 : n ≤ 65536
    · go_enter Try.func30, Try.ntmps30
      go_wp2
      go_ret
      exact ⟨rb (db (by omega)), rfl⟩
    · go_enter Try.func30, Try.ntmps30
      go_wp2
      go_ret
      exact ⟨rb (nb (by omega)), rfl⟩
  · go_enter Try.func30, Try.ntmps30
    go_wp2
    go_ret
    exact ⟨rb (nb (by omega)), rfl⟩
theorem inText_is {n : Int} {b : Bool} (hb : inB n = b) (w : World) : Calls Try.prog 30 #[.int .i64 n] w fun e w' => e = .returned (.bool b) ∧ w = w' := hb ▸ inText_any n w

/-- A small edit. -/
def smallB (a d : Int) (n : Nat) : Bool := inB a && inB d && inB n
set_option maxHeartbeats 2000000 in
theorem isSmall_any (a d : Int) (t : ByteArray) (w : World) :
    Calls Try.prog 24 #[.agg #[.int .i64 a, .int .i64 d, .string t]] w fun e w' => e = .returned (.bool (smallB a d t.size)) ∧ Below w.heap.size w w' := by
  obtain ⟨b1, e1⟩ : ∃ b, inB a = b := ⟨_, rfl⟩
  obtain ⟨b2, e2⟩ : ∃ b, inB d = b := ⟨_, rfl⟩
  obtain ⟨b3, e3⟩ : ∃ b, inB (t.size : Int) = b := ⟨_, rfl⟩
  have E1 := Lib.hid e1
  have E2 := Lib.hid e2
  have E3 := Lib.hid e3
  unfold smallB
  rw [e1, e2, e3]
  clear e1 e2 e3
  have B := (Below.refl w.heap.size w).alloc (Nat.le_refl _) (.cells #[.int .i64 a, .int .i64 d, .string t] 32)
  cases b1
  · go_enter Try.func24, Try.ntmps24
    go_wp2_with fail
    refine (inText_is E1.out _).mono ?_
    rintro e _ ⟨rfl, rfl⟩
    go_wp2
    go_ret
    exact ⟨rfl, B⟩
  cases b2
  · go_enter Try.func24, Try.ntmps24
    go_wp2_with fail
    refine (inText_is E1.out _).mono ?_
    rintro e _ ⟨rfl, rfl⟩
    go_wp2_with fail
    refine (inText_is E2.out _).mono ?_
    rintro e _ ⟨rfl, rfl⟩
    go_wp2
    go_ret
    exact ⟨rfl, B⟩
  · go_enter Try.func24, Try.ntmps24
    go_wp2_with fail
    refine (inText_is E1.out _).mono ?_
    rintro e _ ⟨rfl, rfl⟩
    go_wp2_with fail
    refine (inText_is E2.out _).mono ?_
    rintro e _ ⟨rfl, rfl⟩
    go_wp2_with fail
    refine (inText_is E3.out _).mono ?_
    rintro e _ ⟨rfl, rfl⟩
    go_wp2
    go_ret
    exact ⟨rb (by simp), B⟩

set_option maxHeartbeats 2000000 in
theorem rSmall_any (a d : Int) (t : ByteArray) (w : World) (ht : t.size ≤ 10000000) :
    Calls Try.prog 26 #[.agg #[.int .i64 a, .int .i64 d, .string t]] w fun e w' => e = .returned (.bool (smallB a d t.size)) ∧ Below w.heap.size w w' := by
  by_cases h1 : 0 ≤ a
  · by_cases h2 : a ≤ 65536
    · by_cases h3 : 0 ≤ d
      · by_cases h4 : d ≤ 65536
        · by_cases h5 : (t.size : Int) ≤ 65536
          · go_enter Try.func26, Try.ntmps26
            go_wp2
            go_ret
            exact ⟨rb (by simp only [smallB, inB]; rw [decide_eq_true (p := 0 ≤ a ∧ a ≤ 65536) (by omega), decide_eq_true (p := 0 ≤ d ∧ d ≤ 65536) (by omega), decide_eq_true (p := 0 ≤ (t.size : Int) ∧ (t.size : Int) ≤ 65536) (by omega)]; rfl), (Below.refl _ w).alloc (Nat.le_refl _) _⟩
          · go_enter Try.func26, Try.ntmps26
            go_wp2
            go_ret
            exact ⟨rb (by simp only [smallB, inB]; rw [decide_eq_true (p := 0 ≤ a ∧ a ≤ 65536) (by omega), decide_eq_true (p := 0 ≤ d ∧ d ≤ 65536) (by omega), decide_eq_false (p := 0 ≤ (t.size : Int) ∧ (t.size : Int) ≤ 65536) (by omega)]; rfl), (Below.refl _ w).alloc (Nat.le_refl _) _⟩
        · go_enter Try.func26, Try.ntmps26
          go_wp2
          go_ret
          exact ⟨rb (by simp only [smallB, inB]; rw [decide_eq_true (p := 0 ≤ a ∧ a ≤ 65536) (by omega), decide_eq_false (p := 0 ≤ d ∧ d ≤ 65536) (by omega)]; rfl), (Below.refl _ w).alloc (Nat.le_refl _) _⟩
      · go_enter Try.func26, Try.ntmps26
        go_wp2
        go_ret
        exact ⟨rb (by simp only [smallB, inB]; rw [decide_eq_true (p := 0 ≤ a ∧ a ≤ 65536) (by omega), decide_eq_false (p := 0 ≤ d ∧ d ≤ 65536) (by omega)]; rfl), (Below.refl _ w).alloc (Nat.le_refl _) _⟩
    · go_enter Try.func26, Try.ntmps26
      go_wp2
      go_ret
      exact ⟨rb (by simp only [smallB, inB]; rw [decide_eq_false (p := 0 ≤ a ∧ a ≤ 65536) (by omega)]; rfl), (Below.refl _ w).alloc (Nat.le_refl _) _⟩
  · go_enter Try.func26, Try.ntmps26
    go_wp2
    go_ret
    exact ⟨rb (by simp only [smallB, inB]; rw [decide_eq_false (p := 0 ≤ a ∧ a ≤ 65536) (by omega)]; rfl), (Below.refl _ w).alloc (Nat.le_refl _) _⟩

/-- b touches the text that a inserts. -/
def touchB (a : Int) (n : Nat) (b e : Int) : Bool := decide (b ≤ a + n ∧ a ≤ b + e)
set_option maxHeartbeats 2000000 in
theorem touches_any (a d b e : Int) (t u : ByteArray) (w : World) (ha : 0 ≤ a ∧ a ≤ 65536) (hb : 0 ≤ b ∧ b ≤ 65536) (he : 0 ≤ e ∧ e ≤ 65536) (ht : t.size ≤ 65536) :
    Calls Try.prog 25 #[.agg #[.int .i64 a, .int .i64 d, .string t], .agg #[.int .i64 b, .int .i64 e, .string u]] w fun r w' => r = .returned (.bool (touchB a t.size b e)) ∧ Below w.heap.size w w' := by
  by_cases h1 : b ≤ a + t.size
  · by_cases h2 : a ≤ b + e
    · go_enter Try.func25, Try.ntmps25
      go_wp2
      go_ret
      exact ⟨rb (db (by omega)), ((Below.refl _ w).alloc (Nat.le_refl _) _).alloc (by simp) _⟩
    · go_enter Try.func25, Try.ntmps25
      go_wp2
      go_ret
      exact ⟨rb (nb (by omega)), ((Below.refl _ w).alloc (Nat.le_refl _) _).alloc (by simp) _⟩
  · go_enter Try.func25, Try.ntmps25
    go_wp2
    go_ret
    exact ⟨rb (nb (by omega)), ((Below.refl _ w).alloc (Nat.le_refl _) _).alloc (by simp) _⟩
end Go.Proofs.Ytjbfnlnfhafafaa
