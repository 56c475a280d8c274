/- The reference's escape: a byte in braces. -/
import Derived.Test.YtmofnaeiemkbnaaDoorEB
namespace Go.Proofs.YtmofnaeiemkbnaaDoor
open Go.RowKit Go.Shelf

theorem scanHex_val : ∀ (f : Nat) (l : List UInt8) (c : Nat), (scanHex f l c).2 < 16 ^ f * (c + 1)
  | 0, _, c => by simp [scanHex]
  | f + 1, [], c => by
    simp only [scanHex]
    have : 1 ≤ 16 ^ (f + 1) := Nat.pow_pos (by omega)
    calc c < 1 * (c + 1) := by omega
      _ ≤ 16 ^ (f + 1) * (c + 1) := Nat.mul_le_mul_right _ this
  | f + 1, x :: r, c => by
    unfold scanHex
    split
    · rename_i h
      have := scanHex_val f r (16 * c + (hexV x.toNat).toNat)
      have hv := hexV_lt h
      have h2 : 16 ^ f * (16 * c + (hexV x.toNat).toNat + 1) ≤ 16 ^ (f + 1) * (c + 1) := by
        rw [Nat.pow_succ, Nat.mul_assoc]
        exact Nat.mul_le_mul_left _ (by omega)
      exact Nat.lt_of_lt_of_le this h2
    · have : 1 ≤ 16 ^ (f + 1) := Nat.pow_pos (by omega)
      calc c < 1 * (c + 1) := by omega
        _ ≤ 16 ^ (f + 1) * (c + 1) := Nat.mul_le_mul_right _ this
/-- The number and the count that braced answers are small. -/
theorem bracedR_small (s : ByteArray) (least most : Nat) (hm : most ≤ 6) : (0 ≤ (bracedR s least most).1 ∧ (bracedR s least most).1 < 16777216) ∧ (0 ≤ (bracedR s least most).2.1 ∧ (bracedR s least most).2.1 ≤ 8) := by
  have hv := scanHex_val most (s.data.toList.drop (0 + 1)) 0
  have hl := scanHex_len most (s.data.toList.drop (0 + 1)) 0
  have h6 : (16 : Nat) ^ most ≤ 16 ^ 6 := Nat.pow_le_pow_right (by omega) hm
  have h66 : (16 : Nat) ^ 6 = 16777216 := rfl
  unfold bracedR bracesZ
  repeat' split
  all_goals
    dsimp only
    omega

set_option maxHeartbeats 2000000 in
theorem rEscape_x (s : ByteArray) (w : World) (h : 0 < s.size) (hs : s.size ≤ 4000) (hL : s[0] = 120) (hn : ∀ h1 : 1 < s.size, ¬ s[1] = 10) {n k e : Int} (hB : bracedR (s.extract 1 s.size) 2 2 = (n, k, e)) :
    Calls Tryd.prog 43 #[.string s] w fun r w' => r = .returned (.tuple #[.string ⟨#[UInt8.ofNat (n % 256).toNat]⟩, .int .i64 (1 + k), .int .i64 e]) ∧ Below w.heap.size w w' := by
  have e0 : s.toList.isEmpty = false := str_ne0 h
  have e10 : ((s[0].toNat : Int) == 10) = false := by rw [hL]; rfl
  have e34 : ((s[0].toNat : Int) == 34) = false := by rw [hL]; rfl
  have e92 : ((s[0].toNat : Int) == 92) = false := by rw [hL]; rfl
  have e110 : ((s[0].toNat : Int) == 110) = false := by rw [hL]; rfl
  have e114 : ((s[0].toNat : Int) == 114) = false := by rw [hL]; rfl
  have e116 : ((s[0].toNat : Int) == 116) = false := by rw [hL]; rfl
  have e120 : ((s[0].toNat : Int) == 120) = true := by rw [hL]; rfl
  have HL := Lib.hid hL; clear hL
  obtain ⟨⟨b1, b2⟩, b3, b4⟩ := bracedR_small (s.extract 1 s.size) 2 2 (by omega)
  have hC := fun w' => rBraced_any (s.extract 1 s.size) 2 2 w' (by omega) (by rw [ByteArray.size_extract]; omega)
  rw [hB] at b1 b2 b3 b4 hC
  dsimp only at b1 b2 b3 b4 hC
  have hsl : ∀ w : World, (Instr.slice 9 (.string s) (some (.int .i64 1)) none none).run Tryd.prog w = .ok (.string (s.extract 1 s.size)) w := fun w => by rw [run_slice_string_from_if w 9 s .i64 1 Tryd.underlying9, if_pos (by omega)]; rfl
  have hx := conv_byte (w.alloc (Obj.cells #[Value.int IntKind.u8 (n % 256)] 5)) w.heap.size (n % 256) (Boxed.new w 5 _).cell
  have HC := Lib.hid hC
  clear hC hB
  generalize s.extract 1 s.size = z at *
  by_cases h1 : 1 < s.size
  · have f1 : ((s[1].toNat : Int) == 10) = false := by rw [show (10 : Int) = ((10 : UInt8).toNat : Int) from rfl, byte_beq h1]; simp [hn h1]
    have g1 : (1 : Int) < s.size := by omega
    clear hn
    go_enter Tryd.func43, Tryd.ntmps43
    go_wp2_with fail
    refine (HC.out _).mono ?_
    rintro r w1 ⟨rfl, rfl⟩
    go_wp2
    go_ret3
    exact ⟨rfl, (Below.refl _ w).alloc (Nat.le_refl _) _⟩
  · have g1 : ¬ (1 : Int) < s.size := by omega
    clear hn
    go_enter Tryd.func43, Tryd.ntmps43
    go_wp2_with fail
    refine (HC.out _).mono ?_
    rintro r w1 ⟨rfl, rfl⟩
    go_wp2
    go_ret3
    exact ⟨rfl, (Below.refl _ w).alloc (Nat.le_refl _) _⟩
end Go.Proofs.YtmofnaeiemkbnaaDoor
