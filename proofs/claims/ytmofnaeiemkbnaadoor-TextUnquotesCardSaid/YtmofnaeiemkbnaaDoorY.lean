/- text.unquoteOne: the rune or the escape at the beginning of a quoted text. Conditions: not empty, at most 4000 bytes; the tables of unicode/utf8 are as laid. -/
import Derived.Test.YtmofnaeiemkbnaaDoorX
namespace Go.Proofs.YtmofnaeiemkbnaaDoor
open Go.RowKit Go.Shelf

/-- What unquoteOne answers. -/
def oneZ (s : ByteArray) : ByteArray × Int × Int :=
  if h : 0 < s.size then
    if s[0] = 92 then escZ s
    else if (Utf8.decode s 0).1 < 32 ∨ (Utf8.decode s 0).1 = 127 ∨ invB s 0 (Utf8.decode s 0).1 = true then (⟨#[]⟩, 0, wrongZ s 0)
    else (s.extract 0 (Utf8.decode s 0).2, (Utf8.decode s 0).2, 0)
  else (⟨#[]⟩, 0, 0)

set_option maxHeartbeats 4000000 in
set_option maxRecDepth 100000 in
theorem unquoteOne_any (s : ByteArray) (w : World) (h1 : 0 < s.size) (hs : s.size ≤ 4000) (hT : Lib.Utf8Tabs 0 1 w) :
    Calls Tryd.prog 39 #[.string s] w fun e w' => e = .returned (.tuple #[.string (oneZ s).1, .int .i64 (oneZ s).2.1, .int .i64 (oneZ s).2.2]) ∧ Below w.heap.size w w' := by
  by_cases hb : s[0] = 92
  · have e1 : ((s[0].toNat : Int) == 92) = true := by rw [hb]; rfl
    have HR : Hid (oneZ s = escZ s) := by unfold oneZ; rw [dif_pos h1, if_pos hb]; exact rfl
    clear hb
    go_enter Tryd.func39, Tryd.ntmps39
    go_wp2_with fail
    refine (unescape_any s _ (by omega) hs).mono ?_
    rintro e w1 ⟨rfl, b1⟩
    go_wp2
    go_ret3
    exact ⟨by rw [HR.out]; rfl, b1⟩
  · have e1 : ((s[0].toNat : Int) == 92) = false := by rw [show (92 : Int) = ((92 : UInt8).toNat : Int) from rfl, byte_beq h1]; simp [hb]
    have HB := Lib.hid hb; clear hb
    have hg : Lib.decodeGo s = Utf8.decode s 0 := by rw [Lib.decodeGo, if_neg (by omega)]
    obtain ⟨d1, d2, d3⟩ := decode_facts s 0 h1
    rw [Nat.zero_add] at d2
    go_enter Tryd.func39, Tryd.ntmps39
    go_wp2_with fail
    refine (Tryd.utf8_DecodeRuneInString s _ hT).mono ?_
    rintro e w1 ⟨rfl, b1⟩
    rw [hg]
    clear hg hT
    have HO : Hid (oneZ s = if (Utf8.decode s 0).1 < 32 ∨ (Utf8.decode s 0).1 = 127 ∨ invB s 0 (Utf8.decode s 0).1 = true then ((⟨#[]⟩, 0, wrongZ s 0) : ByteArray × Int × Int) else (s.extract 0 (Utf8.decode s 0).2, ((Utf8.decode s 0).2 : Int), 0)) := by unfold oneZ; rw [dif_pos h1, if_neg HB.out]; exact rfl
    revert d2 d3 HO
    generalize Utf8.decode s 0 = q
    obtain ⟨r, n⟩ := q
    intro d2 d3 HO
    simp only at d2 d3 HO ⊢
    clear d1
    by_cases c1 : r < 32
    · have HR : Hid (oneZ s = (⟨#[]⟩, 0, wrongZ s 0)) := by have := HO.out; rwa [if_pos (Or.inl c1)] at this
      clear HO
      go_wp2_with fail
      refine (wrongAt_any s 0 _ (by omega)).mono ?_
      rintro e w2 ⟨rfl, rfl⟩
      go_wp2
      go_ret3
      exact ⟨by rw [HR.out]; rfl, b1⟩
    by_cases c2 : r = 127
    · have HR : Hid (oneZ s = (⟨#[]⟩, 0, wrongZ s 0)) := by have := HO.out; rwa [if_pos (Or.inr (Or.inl c2))] at this
      have e2 : ((r : Int) == 127) = true := by rw [beq_iff_eq]; omega
      have e3 : decide ((r : Int) < 32) = false := decide_eq_false (by omega)
      clear HO c2
      go_wp2_with fail
      refine (wrongAt_any s 0 _ (by omega)).mono ?_
      rintro e w2 ⟨rfl, rfl⟩
      go_wp2
      go_ret3
      exact ⟨by rw [HR.out]; rfl, b1⟩
    have e2 : ((r : Int) == 127) = false := by rw [beq_eq_false_iff_ne]; omega
    have e3 : decide ((r : Int) < 32) = false := decide_eq_false (by omega)
    by_cases c3 : invB s 0 r = true
    · have HR : Hid (oneZ s = (⟨#[]⟩, 0, wrongZ s 0)) := by have := HO.out; rwa [if_pos (Or.inr (Or.inr c3))] at this
      have H3 := Lib.hid c3
      clear HO c3 c2
      go_wp2_with fail
      refine (isInvalid_any s 0 _ _ (by omega)).mono ?_
      rintro e w2 ⟨rfl, rfl⟩
      rw [H3.out]
      go_wp2_with fail
      refine (wrongAt_any s 0 _ (by omega)).mono ?_
      rintro e w2 ⟨rfl, rfl⟩
      go_wp2
      go_ret3
      exact ⟨by rw [HR.out]; rfl, b1⟩
    · have HR : Hid (oneZ s = (s.extract 0 n, (n : Int), 0)) := by have := HO.out; rwa [if_neg (by rintro (h | h | h) <;> first | exact c1 h | exact c2 h | exact c3 h)] at this
      have H3 := Lib.hid (Bool.eq_false_iff.2 c3)
      clear HO c3 c2
      go_wp2_with fail
      refine (isInvalid_any s 0 _ _ (by omega)).mono ?_
      rintro e w2 ⟨rfl, rfl⟩
      rw [H3.out]
      go_wp2
      go_ret3
      exact ⟨by rw [HR.out]; first | rfl | simp, b1⟩
end Go.Proofs.YtmofnaeiemkbnaaDoor
