/- text.decode, text.unescape, text.unquoteOne: what stands at the beginning of a quoted text. Conditions: the text is not empty and has at most 300 bytes; the tables of unicode/utf8 are as laid. -/
import Derived.Test.YtmofnaeiemkbnaaDoorV
namespace Go.Proofs.YtmofnaeiemkbnaaDoor
open Go.RowKit Go.Shelf

/-- string([]byte{x}). -/
theorem conv_byte (W : World) (b : Nat) (x : Int) (hc : W.cell? ⟨b, 0, none⟩ = some (.int .u8 x)) :
    (convert 53 9 (.slice (some ⟨b, 0, none⟩) 1 1)).run Tryd.prog W = .ok (.string ⟨#[UInt8.ofNat x.toNat]⟩) W := by
  rw [run_convert_bytes_string W 53 9 5 _ 1 1 Tryd.underlying53 Tryd.underlying5 Tryd.underlying9]
  rw [run_bytesToString W ⟨b, 0, none⟩ 1 1 [x] (by simp [loadCells, hc, go_sem])]
  rfl

/-- What text.decode answers. -/
def decodeZ (letter : UInt8) (c : Nat) (n : Int) : ByteArray × Int × Int :=
  if letter = 120 then (⟨#[c.toUInt8]⟩, n, 0) else if Lib.validRune c then (Utf8.encode c, n, 0) else (⟨#[]⟩, 0, 3)

set_option maxHeartbeats 1000000 in
theorem decode_any (l : UInt8) (c : Nat) (n : Int) (w : World) :
    Calls Tryd.prog 60 #[.int .u8 l.toNat, .int .i32 c, .int .i64 n] w fun e w' => e = .returned (.tuple #[.string (decodeZ l c n).1, .int .i64 (decodeZ l c n).2.1, .int .i64 (decodeZ l c n).2.2]) ∧ Below w.heap.size w w' := by
  by_cases hl : l = 120
  · subst hl
    have hx := conv_byte (w.alloc (Obj.cells #[Value.int IntKind.u8 ((c : Int) % 256)] 5)) w.heap.size ((c : Int) % 256) (Boxed.new w 5 _).cell
    have e : UInt8.ofNat ((c : Int) % 256).toNat = c.toUInt8 := by
      have : ((c : Int) % 256).toNat = c % 256 := by omega
      rw [this]; apply UInt8.toNat_inj.1; simp
    rw [e] at hx
    go_enter Tryd.func60, Tryd.ntmps60
    go_wp2
    go_ret3
    exact ⟨rfl, (Below.refl _ w).alloc (Nat.le_refl _) _⟩
  · have hl' : ((l.toNat : Int) == 120) = false := by
      rw [beq_eq_false_iff_ne]; intro h; exact hl (UInt8.toNat_inj.1 (show l.toNat = 120 by omega))
    by_cases hv : Lib.validRune (c : Int) = true
    · have HV := Lib.hid hv; clear hv
      have HL := Lib.hid hl; clear hl
      go_enter Tryd.func60, Tryd.ntmps60
      go_wp2_with fail
      refine (Tryd.utf8_ValidRune _ _).mono ?_
      rintro e w1 ⟨rfl, rfl⟩
      rw [HV.out]
      go_wp2
      go_ret3
      exact ⟨by simp only [decodeZ, if_neg HL.out, if_pos HV.out]; rfl, Below.refl _ _⟩
    · have HV := Lib.hid (Bool.eq_false_iff.2 hv); clear hv
      have HL := Lib.hid hl; clear hl
      go_enter Tryd.func60, Tryd.ntmps60
      go_wp2_with fail
      refine (Tryd.utf8_ValidRune _ _).mono ?_
      rintro e w1 ⟨rfl, rfl⟩
      rw [HV.out]
      go_wp2
      go_ret3
      exact ⟨by simp [decodeZ, HL.out, HV.out], Below.refl _ _⟩
end Go.Proofs.YtmofnaeiemkbnaaDoor
