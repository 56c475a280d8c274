/- The reference's escape, but for its numbers in braces. -/
import Derived.Test.YtmofnaeiemkbnaaDoorVB
import Derived.Test.YtmofnaeiemkbnaaDoorX
namespace Go.Proofs.YtmofnaeiemkbnaaDoor
open Go.RowKit Go.Shelf

set_option maxHeartbeats 1000000 in
theorem rEscape_none (s : ByteArray) (w : World) (h : ¬ 0 < s.size) :
    Calls Tryd.prog 43 #[.string s] w fun e w' => e = .returned (.tuple #[.string ⟨#[]⟩, .int .i64 0, .int .i64 13]) ∧ Below w.heap.size w w' := by
  have hz : s.size = 0 := by omega
  obtain rfl : s = ⟨#[]⟩ := by apply ByteArray.ext; apply Array.eq_empty_of_size_eq_zero; exact hz
  go_enter Tryd.func43, Tryd.ntmps43
  go_wp2
  go_ret3
  exact ⟨rfl, Below.refl _ _⟩

set_option maxHeartbeats 1000000 in
theorem rEscape_line (s : ByteArray) (w : World) (h : 0 < s.size) (hL : s[0] = 10) :
    Calls Tryd.prog 43 #[.string s] w fun e w' => e = .returned (.tuple #[.string ⟨#[]⟩, .int .i64 0, .int .i64 13]) ∧ Below w.heap.size w w' := by
  have e0 : s.toList.isEmpty = false := str_ne0 h
  have e10 : ((s[0].toNat : Int) == 10) = true := by rw [hL]; rfl
  have HL := Lib.hid hL; clear hL
  go_enter Tryd.func43, Tryd.ntmps43
  go_wp2
  go_ret3
  exact ⟨rfl, Below.refl _ _⟩

set_option maxHeartbeats 1000000 in
theorem rEscape_quote (s : ByteArray) (w : World) (h : 0 < s.size) (hL : s[0] = 34) :
    Calls Tryd.prog 43 #[.string s] w fun e w' => e = .returned (.tuple #[.string (s.extract 0 1), .int .i64 1, .int .i64 0]) ∧ Below w.heap.size w w' := by
  have e0 : s.toList.isEmpty = false := str_ne0 h
  have e10 : ((s[0].toNat : Int) == 10) = false := by rw [hL]; rfl
  have e34 : ((s[0].toNat : Int) == 34) = true := by rw [hL]; rfl
  have HL := Lib.hid hL; clear hL
  have hsl : ∀ w : World, (Instr.slice 9 (.string s) none (some (.int .i64 1)) none).run Tryd.prog w = .ok (.string (s.extract 0 1)) w := fun w => by rw [run_slice_string_to_if w 9 s .i64 1 Tryd.underlying9, if_pos (by omega)]; rfl
  go_enter Tryd.func43, Tryd.ntmps43
  go_wp2
  go_ret3
  exact ⟨rfl, Below.refl _ _⟩

set_option maxHeartbeats 1000000 in
theorem rEscape_back (s : ByteArray) (w : World) (h : 0 < s.size) (hL : s[0] = 92) :
    Calls Tryd.prog 43 #[.string s] w fun e w' => e = .returned (.tuple #[.string (s.extract 0 1), .int .i64 1, .int .i64 0]) ∧ Below w.heap.size w w' := by
  have e0 : s.toList.isEmpty = false := str_ne0 h
  have e10 : ((s[0].toNat : Int) == 10) = false := by rw [hL]; rfl
  have e34 : ((s[0].toNat : Int) == 34) = false := by rw [hL]; rfl
  have e92 : ((s[0].toNat : Int) == 92) = true := by rw [hL]; rfl
  have HL := Lib.hid hL; clear hL
  have hsl : ∀ w : World, (Instr.slice 9 (.string s) none (some (.int .i64 1)) none).run Tryd.prog w = .ok (.string (s.extract 0 1)) w := fun w => by rw [run_slice_string_to_if w 9 s .i64 1 Tryd.underlying9, if_pos (by omega)]; rfl
  go_enter Tryd.func43, Tryd.ntmps43
  go_wp2
  go_ret3
  exact ⟨rfl, Below.refl _ _⟩

set_option maxHeartbeats 1000000 in
theorem rEscape_n (s : ByteArray) (w : World) (h : 0 < s.size) (hL : s[0] = 110) :
    Calls Tryd.prog 43 #[.string s] w fun e w' => e = .returned (.tuple #[.string ⟨#[10]⟩, .int .i64 1, .int .i64 0]) ∧ Below w.heap.size w w' := by
  have e0 : s.toList.isEmpty = false := str_ne0 h
  have e10 : ((s[0].toNat : Int) == 10) = false := by rw [hL]; rfl
  have e34 : ((s[0].toNat : Int) == 34) = false := by rw [hL]; rfl
  have e92 : ((s[0].toNat : Int) == 92) = false := by rw [hL]; rfl
  have e110 : ((s[0].toNat : Int) == 110) = true := by rw [hL]; rfl
  have HL := Lib.hid hL; clear hL
  go_enter Tryd.func43, Tryd.ntmps43
  go_wp2
  go_ret3
  exact ⟨rfl, Below.refl _ _⟩

set_option maxHeartbeats 1000000 in
theorem rEscape_r (s : ByteArray) (w : World) (h : 0 < s.size) (hL : s[0] = 114) :
    Calls Tryd.prog 43 #[.string s] w fun e w' => e = .returned (.tuple #[.string ⟨#[13]⟩, .int .i64 1, .int .i64 0]) ∧ Below w.heap.size w w' := by
  have e0 : s.toList.isEmpty = false := str_ne0 h
  have e10 : ((s[0].toNat : Int) == 10) = false := by rw [hL]; rfl
  have e34 : ((s[0].toNat : Int) == 34) = false := by rw [hL]; rfl
  have e92 : ((s[0].toNat : Int) == 92) = false := by rw [hL]; rfl
  have e110 : ((s[0].toNat : Int) == 110) = false := by rw [hL]; rfl
  have e114 : ((s[0].toNat : Int) == 114) = true := by rw [hL]; rfl
  have HL := Lib.hid hL; clear hL
  go_enter Tryd.func43, Tryd.ntmps43
  go_wp2
  go_ret3
  exact ⟨rfl, Below.refl _ _⟩

set_option maxHeartbeats 1000000 in
theorem rEscape_t (s : ByteArray) (w : World) (h : 0 < s.size) (hL : s[0] = 116) :
    Calls Tryd.prog 43 #[.string s] w fun e w' => e = .returned (.tuple #[.string ⟨#[9]⟩, .int .i64 1, .int .i64 0]) ∧ Below w.heap.size w w' := by
  have e0 : s.toList.isEmpty = false := str_ne0 h
  have e10 : ((s[0].toNat : Int) == 10) = false := by rw [hL]; rfl
  have e34 : ((s[0].toNat : Int) == 34) = false := by rw [hL]; rfl
  have e92 : ((s[0].toNat : Int) == 92) = false := by rw [hL]; rfl
  have e110 : ((s[0].toNat : Int) == 110) = false := by rw [hL]; rfl
  have e114 : ((s[0].toNat : Int) == 114) = false := by rw [hL]; rfl
  have e116 : ((s[0].toNat : Int) == 116) = true := by rw [hL]; rfl
  have HL := Lib.hid hL; clear hL
  go_enter Tryd.func43, Tryd.ntmps43
  go_wp2
  go_ret3
  exact ⟨rfl, Below.refl _ _⟩

set_option maxHeartbeats 1000000 in
theorem rEscape_else (s : ByteArray) (w : World) (h : 0 < s.size) (n10 : ¬ s[0] = 10) (n34 : ¬ s[0] = 34) (n92 : ¬ s[0] = 92) (n110 : ¬ s[0] = 110) (n114 : ¬ s[0] = 114) (n116 : ¬ s[0] = 116) (n120 : ¬ s[0] = 120) (n117 : ¬ s[0] = 117) :
    Calls Tryd.prog 43 #[.string s] w fun e w' => e = .returned (.tuple #[.string ⟨#[]⟩, .int .i64 0, .int .i64 3]) ∧ Below w.heap.size w w' := by
  have e0 : s.toList.isEmpty = false := str_ne0 h
  have e10 : ((s[0].toNat : Int) == 10) = false := by rw [show (10 : Int) = ((10 : UInt8).toNat : Int) from rfl, byte_beq h]; simp [n10]
  have e34 : ((s[0].toNat : Int) == 34) = false := by rw [show (34 : Int) = ((34 : UInt8).toNat : Int) from rfl, byte_beq h]; simp [n34]
  have e92 : ((s[0].toNat : Int) == 92) = false := by rw [show (92 : Int) = ((92 : UInt8).toNat : Int) from rfl, byte_beq h]; simp [n92]
  have e110 : ((s[0].toNat : Int) == 110) = false := by rw [show (110 : Int) = ((110 : UInt8).toNat : Int) from rfl, byte_beq h]; simp [n110]
  have e114 : ((s[0].toNat : Int) == 114) = false := by rw [show (114 : Int) = ((114 : UInt8).toNat : Int) from rfl, byte_beq h]; simp [n114]
  have e116 : ((s[0].toNat : Int) == 116) = false := by rw [show (116 : Int) = ((116 : UInt8).toNat : Int) from rfl, byte_beq h]; simp [n116]
  have e120 : ((s[0].toNat : Int) == 120) = false := by rw [show (120 : Int) = ((120 : UInt8).toNat : Int) from rfl, byte_beq h]; simp [n120]
  have e117 : ((s[0].toNat : Int) == 117) = false := by rw [show (117 : Int) = ((117 : UInt8).toNat : Int) from rfl, byte_beq h]; simp [n117]
  clear n10 n34 n92 n110 n114 n116 n120 n117
  go_enter Tryd.func43, Tryd.ntmps43
  go_wp2
  go_ret3
  exact ⟨rfl, Below.refl _ _⟩
end Go.Proofs.YtmofnaeiemkbnaaDoor
