/- text.unescape: every escape. Condition: the text is not empty and has at most 4000 bytes. -/
import Derived.Test.YtmofnaeiemkbnaaDoorW
namespace Go.Proofs.YtmofnaeiemkbnaaDoor
open Go.RowKit Go.Shelf

theorem scanHex_lt : ∀ (f : Nat) (l : List UInt8) (c j : Nat), c < 16 ^ j → (scanHex f l c).2 < 16 ^ (j + f)
  | 0, _, c, j, h => by simpa [scanHex] using h
  | f + 1, [], c, j, h => Nat.lt_of_lt_of_le h (Nat.pow_le_pow_right (by omega) (by omega))
  | f + 1, x :: r, c, j, h => by
    unfold scanHex
    split
    · rename_i hx
      have hv := hexV_lt hx
      have := scanHex_lt f r (16 * c + (hexV x.toNat).toNat) (j + 1) (by rw [Nat.pow_succ]; omega)
      rwa [show j + 1 + f = j + (f + 1) by omega] at this
    · exact Nat.lt_of_lt_of_le h (Nat.pow_le_pow_right (by omega) (by omega))

theorem braces_code (s : ByteArray) (k least most : Nat) (hm : most ≤ 6) : ∃ c : Nat, (bracesZ s k least most).1 = (c : Int) ∧ c < 16777216 := by
  have h := scanHex_lt most (s.data.toList.drop (k + 1)) 0 0 (by decide)
  have h6 : 16 ^ (0 + most) ≤ 16 ^ 6 := Nat.pow_le_pow_right (by omega) (by omega)
  have e : (16 : Nat) ^ 6 = 16777216 := rfl
  unfold bracesZ
  repeat' split
  all_goals first | exact ⟨0, rfl, by omega⟩ | exact ⟨_, rfl, by omega⟩

/-- What unescape answers behind readBraces. -/
def thenZ (letter : UInt8) (q : Int × Int × Int) : ByteArray × Int × Int := if q.2.2 ≠ 0 then (⟨#[]⟩, 0, q.2.2) else decodeZ letter q.1.toNat q.2.1
/-- What unescape answers. -/
def escZ (s : ByteArray) : ByteArray × Int × Int :=
  if h : 1 < s.size then
    if s[1] = 34 ∨ s[1] = 92 then (s.extract 1 2, 2, 0)
    else if s[1] = 110 then (⟨#[10]⟩, 2, 0)
    else if s[1] = 114 then (⟨#[13]⟩, 2, 0)
    else if s[1] = 116 then (⟨#[9]⟩, 2, 0)
    else if s[1] = 120 then thenZ 120 (bracesZ s 2 2 2)
    else if s[1] = 117 then thenZ 117 (bracesZ s 2 1 6)
    else (⟨#[]⟩, 0, wrongZ s 1)
  else (⟨#[]⟩, 0, 13)

set_option maxHeartbeats 4000000 in
set_option maxRecDepth 100000 in
theorem unescape_any (s : ByteArray) (w : World) (h1 : 1 ≤ s.size) (hs : s.size ≤ 4000) :
    Calls Tryd.prog 53 #[.string s] w fun e w' => e = .returned (.tuple #[.string (escZ s).1, .int .i64 (escZ s).2.1, .int .i64 (escZ s).2.2]) ∧ Below w.heap.size w w' := by
  by_cases hz : 1 < s.size
  · have ez : ((s.size : Int) == 1) = false := by rw [beq_eq_false_iff_ne]; omega
    by_cases n34 : s[1] = 34
    · have hL := n34
      have e34 : ((s[1].toNat : Int) == 34) = true := by rw [hL]; rfl
      have hsl : ∀ w : World, (Instr.slice 9 (.string s) (some (.int .i64 1)) (some (.int .i64 2)) none).run Tryd.prog w = .ok (.string (s.extract 1 2)) w := fun w => run_slice_string w 9 s .i64 .i64 1 2 Tryd.underlying9 (by omega) (by omega) (by omega)
      have HR : Hid (escZ s = (s.extract 1 2, 2, 0)) := by unfold escZ; rw [dif_pos hz, if_pos (by rw [hL]; decide)]; exact rfl
      have HL := Lib.hid hL; clear hL n34
      go_enter Tryd.func53, Tryd.ntmps53
      go_wp2
      go_ret3
      exact ⟨by rw [HR.out]; first | rfl | simp, Below.refl _ _⟩
    by_cases n92 : s[1] = 92
    · have hL := n92
      have e34 : ((s[1].toNat : Int) == 34) = false := by rw [hL]; rfl
      have e92 : ((s[1].toNat : Int) == 92) = true := by rw [hL]; rfl
      have hsl : ∀ w : World, (Instr.slice 9 (.string s) (some (.int .i64 1)) (some (.int .i64 2)) none).run Tryd.prog w = .ok (.string (s.extract 1 2)) w := fun w => run_slice_string w 9 s .i64 .i64 1 2 Tryd.underlying9 (by omega) (by omega) (by omega)
      have HR : Hid (escZ s = (s.extract 1 2, 2, 0)) := by unfold escZ; rw [dif_pos hz, if_pos (by rw [hL]; decide)]; exact rfl
      have HL := Lib.hid hL; clear hL n34 n92
      go_enter Tryd.func53, Tryd.ntmps53
      go_wp2
      go_ret3
      exact ⟨by rw [HR.out]; first | rfl | simp, Below.refl _ _⟩
    by_cases n110 : s[1] = 110
    · have hL := n110
      have e34 : ((s[1].toNat : Int) == 34) = false := by rw [hL]; rfl
      have e92 : ((s[1].toNat : Int) == 92) = false := by rw [hL]; rfl
      have e110 : ((s[1].toNat : Int) == 110) = true := by rw [hL]; rfl
      have HR : Hid (escZ s = (⟨#[10]⟩, 2, 0)) := by unfold escZ; rw [dif_pos hz]; simp [hL, Hid]
      have HL := Lib.hid hL; clear hL n34 n92 n110
      go_enter Tryd.func53, Tryd.ntmps53
      go_wp2
      go_ret3
      exact ⟨by rw [HR.out]; first | rfl | simp, Below.refl _ _⟩
    by_cases n114 : s[1] = 114
    · have hL := n114
      have e34 : ((s[1].toNat : Int) == 34) = false := by rw [hL]; rfl
      have e92 : ((s[1].toNat : Int) == 92) = false := by rw [hL]; rfl
      have e110 : ((s[1].toNat : Int) == 110) = false := by rw [hL]; rfl
      have e114 : ((s[1].toNat : Int) == 114) = true := by rw [hL]; rfl
      have HR : Hid (escZ s = (⟨#[13]⟩, 2, 0)) := by unfold escZ; rw [dif_pos hz]; simp [hL, Hid]
      have HL := Lib.hid hL; clear hL n34 n92 n110 n114
      go_enter Tryd.func53, Tryd.ntmps53
      go_wp2
      go_ret3
      exact ⟨by rw [HR.out]; first | rfl | simp, Below.refl _ _⟩
    by_cases n116 : s[1] = 116
    · have hL := n116
      have e34 : ((s[1].toNat : Int) == 34) = false := by rw [hL]; rfl
      have e92 : ((s[1].toNat : Int) == 92) = false := by rw [hL]; rfl
      have e110 : ((s[1].toNat : Int) == 110) = false := by rw [hL]; rfl
      have e114 : ((s[1].toNat : Int) == 114) = false := by rw [hL]; rfl
      have e116 : ((s[1].toNat : Int) == 116) = true := by rw [hL]; rfl
      have HR : Hid (escZ s = (⟨#[9]⟩, 2, 0)) := by unfold escZ; rw [dif_pos hz]; simp [hL, Hid]
      have HL := Lib.hid hL; clear hL n34 n92 n110 n114 n116
      go_enter Tryd.func53, Tryd.ntmps53
      go_wp2
      go_ret3
      exact ⟨by rw [HR.out]; first | rfl | simp, Below.refl _ _⟩
    by_cases n120 : s[1] = 120
    · have hL := n120
      have e34 : ((s[1].toNat : Int) == 34) = false := by rw [hL]; rfl
      have e92 : ((s[1].toNat : Int) == 92) = false := by rw [hL]; rfl
      have e110 : ((s[1].toNat : Int) == 110) = false := by rw [hL]; rfl
      have e114 : ((s[1].toNat : Int) == 114) = false := by rw [hL]; rfl
      have e116 : ((s[1].toNat : Int) == 116) = false := by rw [hL]; rfl
      have e120 : ((s[1].toNat : Int) == 120) = true := by rw [hL]; rfl
      have HR : Hid (escZ s = thenZ 120 (bracesZ s 2 2 2)) := by unfold escZ; rw [dif_pos hz]; simp [hL, Hid]
      have HL := Lib.hid hL; clear hL n34 n92 n110 n114 n116 n120
      obtain ⟨c, hc, _⟩ := braces_code s 2 2 2 (by omega)
      go_enter Tryd.func53, Tryd.ntmps53
      go_wp2_with fail
      refine (readBraces_any s 2 2 2 _ (by omega) (by omega) hs).mono ?_
      rintro e w1 ⟨rfl, rfl⟩
      rw [hc]
      have HC := Lib.hid hc; clear hc
      by_cases he : (bracesZ s 2 2 2).2.2 = 0
      · have HE := Lib.hid he
        have eb : ((bracesZ s 2 2 2).2.2 != 0) = false := by rw [he]; rfl
        clear he
        go_wp2_with fail
        rw [HL.out]
        refine (decode_any 120 c _ _).mono ?_
        rintro e w2 ⟨rfl, hb2⟩
        go_wp2
        go_ret3
        exact ⟨by rw [HR.out, thenZ, if_neg (by rw [HE.out]; simp), HC.out, Int.toNat_natCast]; rfl, hb2⟩
      · have HE := Lib.hid he
        have eb : ((bracesZ s 2 2 2).2.2 != 0) = true := by rw [bne_iff_ne]; exact he
        clear he
        go_wp2
        go_ret3
        exact ⟨by rw [HR.out, thenZ, if_pos HE.out]; rfl, Below.refl _ _⟩
    by_cases n117 : s[1] = 117
    · have hL := n117
      have e34 : ((s[1].toNat : Int) == 34) = false := by rw [hL]; rfl
      have e92 : ((s[1].toNat : Int) == 92) = false := by rw [hL]; rfl
      have e110 : ((s[1].toNat : Int) == 110) = false := by rw [hL]; rfl
      have e114 : ((s[1].toNat : Int) == 114) = false := by rw [hL]; rfl
      have e116 : ((s[1].toNat : Int) == 116) = false := by rw [hL]; rfl
      have e120 : ((s[1].toNat : Int) == 120) = false := by rw [hL]; rfl
      have e117 : ((s[1].toNat : Int) == 117) = true := by rw [hL]; rfl
      have HR : Hid (escZ s = thenZ 117 (bracesZ s 2 1 6)) := by unfold escZ; rw [dif_pos hz]; simp [hL, Hid]
      have HL := Lib.hid hL; clear hL n34 n92 n110 n114 n116 n120 n117
      obtain ⟨c, hc, _⟩ := braces_code s 2 1 6 (by omega)
      go_enter Tryd.func53, Tryd.ntmps53
      go_wp2_with fail
      refine (readBraces_any s 2 1 6 _ (by omega) (by omega) hs).mono ?_
      rintro e w1 ⟨rfl, rfl⟩
      rw [hc]
      have HC := Lib.hid hc; clear hc
      by_cases he : (bracesZ s 2 1 6).2.2 = 0
      · have HE := Lib.hid he
        have eb : ((bracesZ s 2 1 6).2.2 != 0) = false := by rw [he]; rfl
        clear he
        go_wp2_with fail
        rw [HL.out]
        refine (decode_any 117 c _ _).mono ?_
        rintro e w2 ⟨rfl, hb2⟩
        go_wp2
        go_ret3
        exact ⟨by rw [HR.out, thenZ, if_neg (by rw [HE.out]; simp), HC.out, Int.toNat_natCast]; rfl, hb2⟩
      · have HE := Lib.hid he
        have eb : ((bracesZ s 2 1 6).2.2 != 0) = true := by rw [bne_iff_ne]; exact he
        clear he
        go_wp2
        go_ret3
        exact ⟨by rw [HR.out, thenZ, if_pos HE.out]; rfl, Below.refl _ _⟩
    have e34 : ((s[1].toNat : Int) == 34) = false := by rw [show (34 : Int) = ((34 : UInt8).toNat : Int) from rfl, byte_beq hz]; simp [n34]
    have e92 : ((s[1].toNat : Int) == 92) = false := by rw [show (92 : Int) = ((92 : UInt8).toNat : Int) from rfl, byte_beq hz]; simp [n92]
    have e110 : ((s[1].toNat : Int) == 110) = false := by rw [show (110 : Int) = ((110 : UInt8).toNat : Int) from rfl, byte_beq hz]; simp [n110]
    have e114 : ((s[1].toNat : Int) == 114) = false := by rw [show (114 : Int) = ((114 : UInt8).toNat : Int) from rfl, byte_beq hz]; simp [n114]
    have e116 : ((s[1].toNat : Int) == 116) = false := by rw [show (116 : Int) = ((116 : UInt8).toNat : Int) from rfl, byte_beq hz]; simp [n116]
    have e120 : ((s[1].toNat : Int) == 120) = false := by rw [show (120 : Int) = ((120 : UInt8).toNat : Int) from rfl, byte_beq hz]; simp [n120]
    have e117 : ((s[1].toNat : Int) == 117) = false := by rw [show (117 : Int) = ((117 : UInt8).toNat : Int) from rfl, byte_beq hz]; simp [n117]
    have HR : Hid (escZ s = (⟨#[]⟩, 0, wrongZ s 1)) := by unfold escZ; rw [dif_pos hz]; simp [n34, n92, n110, n114, n116, n120, n117, Hid]
    clear n34 n92 n110 n114 n116 n120 n117
    go_enter Tryd.func53, Tryd.ntmps53
    go_wp2_with fail
    refine (wrongAt_any s 1 _ (by omega)).mono ?_
    rintro e w1 ⟨rfl, rfl⟩
    go_wp2
    go_ret3
    exact ⟨by rw [HR.out]; rfl, Below.refl _ _⟩
  · have ez : ((s.size : Int) == 1) = true := by rw [beq_iff_eq]; omega
    have HR : Hid (escZ s = (⟨#[]⟩, 0, 13)) := by unfold escZ; rw [dif_neg hz]; exact rfl
    go_enter Tryd.func53, Tryd.ntmps53
    go_wp2
    go_ret3
    exact ⟨by rw [HR.out]; rfl, Below.refl _ _⟩
end Go.Proofs.YtmofnaeiemkbnaaDoor
