/- text.runeLen: the rune that starts at a place has the length that decoding says. -/
import Derived.Test.YtmofnaeiemkbnaaDoorR
import Derived.Test.YtmofnaeiemkbnaaDoorU
namespace Go.Proofs.YtmofnaeiemkbnaaDoor
open Go.RowKit Go.Shelf

theorem decodeN_len (n b0 b1 b2 b3 : Nat) (h : (Lib.decodeN n b0 b1 b2 b3).1 ≠ 65533) : Lib.runeLen ((Lib.decodeN n b0 b1 b2 b3).1 : Int) = ((Lib.decodeN n b0 b1 b2 b3).2 : Int) := by
  revert h
  unfold Lib.decodeN
  repeat' split
  all_goals (simp only [Lib.runeLen]; intro h)
  · rw [if_neg (by omega), if_pos (by omega)]; rfl
  · rw [if_neg (by omega), if_neg (by omega), if_pos (by omega)]; rfl
  · omega
  · rw [if_neg (by omega), if_neg (by omega), if_neg (by omega), if_neg (by omega), if_pos (by omega)]; rfl
  · omega
  · rw [if_neg (by omega), if_neg (by omega), if_neg (by omega), if_neg (by omega), if_neg (by omega), if_pos (by omega)]; rfl
  · omega
  · omega

theorem inv_prefix (s : ByteArray) (pos : Nat) : Lib.hasPrefix (s.data.toList.drop pos) [239, 191, 189] = decide (2 < s.data.toList.length - pos ∧ (s.data.toList.getD pos 0).toNat = 239 ∧ (s.data.toList.getD (pos + 1) 0).toNat = 191 ∧ (s.data.toList.getD (pos + 2) 0).toNat = 189) := by
  rw [hasPrefix_three]
  simp [List.getD_eq_getElem?_getD]

theorem decode_len (s : ByteArray) (pos : Nat) :
    (if invB s pos (Utf8.decode s pos).1 = true then (1 : Int) else Lib.runeLen (Utf8.decode s pos).1) = ((Utf8.decode s pos).2 : Nat) := by
  rw [invB, inv_prefix, Lib.decode_N]
  by_cases hr : (Lib.decodeN (s.data.toList.length - pos) (s.data.toList.getD pos 0).toNat (s.data.toList.getD (pos + 1) 0).toNat (s.data.toList.getD (pos + 2) 0).toNat (s.data.toList.getD (pos + 3) 0).toNat).1 = 65533
  · by_cases hw : 2 < s.data.toList.length - pos ∧ (s.data.toList.getD pos 0).toNat = 239 ∧ (s.data.toList.getD (pos + 1) 0).toNat = 191 ∧ (s.data.toList.getD (pos + 2) 0).toNat = 189
    · rw [decide_eq_true hw, Bool.not_true, Bool.and_false, if_neg (by simp)]
      obtain ⟨h1, h2, h3, h4⟩ := hw
      rw [h2, h3, h4, decodeN_fffd _ _ h1]
      rfl
    · rw [decide_eq_false hw, Bool.not_false, Bool.and_true, if_pos (by rw [hr]; rfl)]
      by_cases h1 : (Lib.decodeN (s.data.toList.length - pos) (s.data.toList.getD pos 0).toNat (s.data.toList.getD (pos + 1) 0).toNat (s.data.toList.getD (pos + 2) 0).toNat (s.data.toList.getD (pos + 3) 0).toNat).2 = 1
      · rw [h1]; rfl
      · exact absurd (decodeN_bad _ _ _ _ _ (byte_lt _ _) (byte_lt _ _) hr h1) hw
  · rw [decide_eq_false (by omega), Bool.false_and, if_neg (by simp)]
    exact decodeN_len _ _ _ _ _ hr

set_option maxHeartbeats 1000000 in
theorem runeLen_any (s : ByteArray) (pos : Nat) (w : World) (hp : pos < s.size) :
    Calls Tryd.prog 29 #[.string s, .int .i64 pos, .int .i32 (Utf8.decode s pos).1] w fun e w' => e = .returned (.int .i64 (Utf8.decode s pos).2) ∧ w' = w := by
  have hd := decode_len s pos
  rw [← hd]
  clear hd
  obtain ⟨r, hr⟩ : ∃ r : Int, r = (Utf8.decode s pos).1 := ⟨_, rfl⟩
  rw [← hr]
  clear hr
  cases hb : invB s pos r with
  | true =>
    have hc := fun w => isInvalid_any s pos r w (by omega)
    rw [hb] at hc
    rw [if_pos rfl]
    go_enter Tryd.func29, Tryd.ntmps29
    go_wp2_with fail
    refine (hc _).mono ?_
    rintro e _ ⟨rfl, rfl⟩
    go_wp2
    go_ret
    exact ⟨rfl, rfl⟩
  | false =>
    have hc := fun w => isInvalid_any s pos r w (by omega)
    rw [hb] at hc
    rw [if_neg (by simp)]
    go_enter Tryd.func29, Tryd.ntmps29
    go_wp2_with fail
    refine (hc _).mono ?_
    rintro e _ ⟨rfl, rfl⟩
    go_wp2_with fail
    refine (Tryd.utf8_RuneLen _ _).mono ?_
    rintro e _ ⟨rfl, rfl⟩
    go_wp2
    go_ret
    exact ⟨rfl, rfl⟩
end Go.Proofs.YtmofnaeiemkbnaaDoor
