/- The statements' own few, ins, knows (edit). -/
import Derived.Test.YtjbfnlnfhafafaaD
namespace Go.Proofs.Ytjbfnlnfhafafaa
open Go.RowKit

/-- The texts of a slice of strings. -/
def Strs (W : World) (B : Nat) (ao : Option Addr) (L : List ByteArray) : Prop := ∀ pre x rest, pre ++ x :: rest = L → ∃ g o, ao = some ⟨g, o, none⟩ ∧ g < B ∧ W.cell? ⟨g, o + pre.length, none⟩ = some (.string x)
/-- What few adds up. -/
def fewN : List ByteArray → Nat
  | [] => 0
  | x :: r => min x.size 5000 + fewN r
theorem fewN_app (a b : List ByteArray) : fewN (a ++ b) = fewN a + fewN b := by
  induction a with
  | nil => simp [fewN]
  | cons x r ih => simp [fewN, ih]; omega
theorem fewN_le (L : List ByteArray) : fewN L ≤ 5000 * L.length := by
  induction L with
  | nil => simp [fewN]
  | cons x r ih => simp [fewN]; omega

set_option maxHeartbeats 2000000 in
theorem few_any (ao : Option Addr) (L : List ByteArray) (cap : Nat) (w : World) (hN : L.length ≤ 1000) (hz : ∀ x ∈ L, x.size ≤ 9223372036854775807) (hE : Strs w w.heap.size ao L) :
    Calls Try.prog 8 #[.slice ao L.length cap] w fun e w' => e = .returned (.bool (decide (fewN L ≤ 4000))) ∧ Below w.heap.size w w' := by
  have HE := Lib.hid hE; clear hE
  have HZ := Lib.hid hz; clear hz
  go_enter Try.func8, Try.ntmps8
  go_wp2_with fail
  go_loopw [3, 4] (fun v i wr => ∃ (pre rest : List ByteArray), i = .int .i64 pre.length ∧ v = .int .i64 (fewN pre) ∧ Hid (pre ++ rest = L) ∧ wr = w) (fun _ i _ => L.length - (intOf i).toNat)
  case atStart => exact ⟨[], L, rfl, rfl, rfl, rfl⟩
  case round =>
    obtain ⟨pre, rest, rfl, rfl, hA, rfl⟩ := hrel
    rcases rest with _ | ⟨x, rest⟩
    · have hL := hA.out
      rw [List.append_nil] at hL
      subst hL
      go_wp2
      go_ret
      exact ⟨rb (decide_eq_decide.2 (by omega)), Below.refl _ _⟩
    · have hL := hA.out
      obtain ⟨g, o, rfl, hg, p0⟩ := HE.out _ _ _ hL
      have hlt : pre.length < L.length := by rw [← hL]; simp
      have hx := HZ.out x (by rw [← hL]; simp)
      have hf := fewN_le pre
      have HF : Hid (fewN (pre ++ [x]) = fewN pre + min x.size 5000) := by rw [fewN_app]; exact rfl
      clear hL
      generalize L.length = N at *
      go_wp2
      have e : (if (5000 : Int) < (x.size : Int) then (5000 : Int) else (x.size : Int)) = ((min x.size 5000 : Nat) : Int) := by split <;> omega
      exact ⟨⟨pre ++ [x], rest, by simp, by rw [HF.out, e]; rfl, Lib.hid (by rw [List.append_assoc]; exact hA.out), trivial⟩, by simp [intOf]; omega⟩

/-- The places of a slice of strings that the call laid itself. -/
theorem strs_one (w : World) (x : ByteArray) : Strs (w.alloc (.cells #[.string x] 9)) (w.heap.size + 1) (some ⟨w.heap.size, 0, none⟩) [x] := by
  rintro pre y rest e
  rcases pre with _ | ⟨a, pre⟩
  · simp at e
    obtain ⟨rfl, rfl⟩ := e
    exact ⟨_, 0, rfl, by omega, by rw [Lib.cell_of_heap (World.alloc_heap_new _ _)]; rfl⟩
  · have := congrArg List.length e; simp at this
theorem strs_two (w : World) (x y : ByteArray) : Strs (w.alloc (.cells #[.string x, .string y] 9)) (w.heap.size + 1) (some ⟨w.heap.size, 0, none⟩) [x, y] := by
  rintro pre z rest e
  rcases pre with _ | ⟨a, _ | ⟨b, pre⟩⟩
  · simp at e
    obtain ⟨rfl, rfl⟩ := e
    exact ⟨_, 0, rfl, by omega, by rw [Lib.cell_of_heap (World.alloc_heap_new _ _)]; rfl⟩
  · simp at e
    obtain ⟨rfl, rfl, rfl⟩ := e
    exact ⟨_, 0, rfl, by omega, by rw [Lib.cell_of_heap (World.alloc_heap_new _ _)]; rfl⟩
  · have := congrArg List.length e; simp at this

/-- The places of a slice of one edit that the call laid itself. -/
theorem eds_one (w : World) (a d : Int) (t : ByteArray) : Eds (w.alloc (.cells #[.int .i64 a, .int .i64 d, .string t] 32)) (w.heap.size + 1) (some ⟨w.heap.size, 0, none⟩) [(a, d, t)] := by
  rintro pre y rest e
  rcases pre with _ | ⟨x, pre⟩
  · simp at e
    obtain ⟨rfl, rfl⟩ := e
    have z := EdAt.new w a d t
    exact ⟨_, 0, rfl, by omega, z.c0, z.c1, z.c2⟩
  · have := congrArg List.length e; simp at this
theorem eds_two (w : World) (a d b e : Int) (t u : ByteArray) : Eds (w.alloc (.cells #[.int .i64 a, .int .i64 d, .string t, .int .i64 b, .int .i64 e, .string u] 32)) (w.heap.size + 1) (some ⟨w.heap.size, 0, none⟩) [(a, d, t), (b, e, u)] := by
  rintro pre y rest h
  have z : (w.alloc (.cells #[.int .i64 a, .int .i64 d, .string t, .int .i64 b, .int .i64 e, .string u] 32)).heap[w.heap.size]? = some (.cells #[.int .i64 a, .int .i64 d, .string t, .int .i64 b, .int .i64 e, .string u] 32 (0, 0)) := World.alloc_heap_new _ _
  rcases pre with _ | ⟨x, _ | ⟨x', pre⟩⟩
  · simp at h
    obtain ⟨rfl, rfl⟩ := h
    exact ⟨_, 0, rfl, by omega, by rw [Lib.cell_of_heap z]; rfl, by rw [Lib.cell_of_heap z]; rfl, by rw [Lib.cell_of_heap z]; rfl⟩
  · simp at h
    obtain ⟨rfl, rfl, rfl⟩ := h
    exact ⟨_, 0, rfl, by omega, by rw [Lib.cell_of_heap z]; rfl, by rw [Lib.cell_of_heap z]; rfl, by rw [Lib.cell_of_heap z]; rfl⟩
  · have := congrArg List.length h; simp at this

end Go.Proofs.Ytjbfnlnfhafafaa
