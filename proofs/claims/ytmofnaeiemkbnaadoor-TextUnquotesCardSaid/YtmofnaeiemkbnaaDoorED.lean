/- The reference's escape: a rune in braces; a line's end behind the letter; all of it. -/
import Derived.Test.YtmofnaeiemkbnaaDoorEC
namespace Go.Proofs.YtmofnaeiemkbnaaDoor
open Go.RowKit Go.Shelf

set_option maxHeartbeats 1000000 in
theorem rEscape_xline (s : ByteArray) (w : World) (h : 0 < s.size) (hL : s[0] = 120) (h1 : 1 < s.size) (hn : s[1] = 10) :
    Calls Tryd.prog 43 #[.string s] w fun r w' => r = .returned (.tuple #[.string ⟨#[]⟩, .int .i64 0, .int .i64 13]) ∧ Below w.heap.size w w' := by
  have e0 : s.toList.isEmpty = false := str_ne0 h
  have e10 : ((s[0].toNat : Int) == 10) = false := by rw [hL]; rfl
  have e34 : ((s[0].toNat : Int) == 34) = false := by rw [hL]; rfl
  have e92 : ((s[0].toNat : Int) == 92) = false := by rw [hL]; rfl
  have e110 : ((s[0].toNat : Int) == 110) = false := by rw [hL]; rfl
  have e114 : ((s[0].toNat : Int) == 114) = false := by rw [hL]; rfl
  have e116 : ((s[0].toNat : Int) == 116) = false := by rw [hL]; rfl
  have e120 : ((s[0].toNat : Int) == 120) = true := by rw [hL]; rfl
  have f1 : ((s[1].toNat : Int) == 10) = true := by rw [hn]; rfl
  have g1 : (1 : Int) < s.size := by omega
  clear hL hn
  go_enter Tryd.func43, Tryd.ntmps43
  go_wp2
  go_ret3
  exact ⟨rfl, Below.refl _ _⟩

set_option maxHeartbeats 1000000 in
theorem rEscape_uline (s : ByteArray) (w : World) (h : 0 < s.size) (hL : s[0] = 117) (h1 : 1 < s.size) (hn : s[1] = 10) :
    Calls Tryd.prog 43 #[.string s] w fun r w' => r = .returned (.tuple #[.string ⟨#[]⟩, .int .i64 0, .int .i64 13]) ∧ Below w.heap.size w w' := by
  have e0 : s.toList.isEmpty = false := str_ne0 h
  have e10 : ((s[0].toNat : Int) == 10) = false := by rw [hL]; rfl
  have e34 : ((s[0].toNat : Int) == 34) = false := by rw [hL]; rfl
  have e92 : ((s[0].toNat : Int) == 92) = false := by rw [hL]; rfl
  have e110 : ((s[0].toNat : Int) == 110) = false := by rw [hL]; rfl
  have e114 : ((s[0].toNat : Int) == 114) = false := by rw [hL]; rfl
  have e116 : ((s[0].toNat : Int) == 116) = false := by rw [hL]; rfl
  have e120 : ((s[0].toNat : Int) == 120) = false := by rw [hL]; rfl
  have e117 : ((s[0].toNat : Int) == 117) = true := by rw [hL]; rfl
  have f1 : ((s[1].toNat : Int) == 10) = true := by rw [hn]; rfl
  have g1 : (1 : Int) < s.size := by omega
  clear hL hn
  go_enter Tryd.func43, Tryd.ntmps43
  go_wp2
  go_ret3
  exact ⟨rfl, Below.refl _ _⟩

set_option maxHeartbeats 2000000 in
theorem rEscape_uerr (s : ByteArray) (w : World) (h : 0 < s.size) (hs : s.size ≤ 4000) (hL : s[0] = 117) (hn : ∀ h1 : 1 < s.size, ¬ s[1] = 10) {n k e : Int} (hB : bracedR (s.extract 1 s.size) 1 6 = (n, k, e)) (he : e ≠ 0) :
    Calls Tryd.prog 43 #[.string s] w fun r w' => r = .returned (.tuple #[.string (Utf8.encode n), .int .i64 (1 + k), .int .i64 e]) ∧ Below w.heap.size w w' := by
  have e0 : s.toList.isEmpty = false := str_ne0 h
  have e10 : ((s[0].toNat : Int) == 10) = false := by rw [hL]; rfl
  have e34 : ((s[0].toNat : Int) == 34) = false := by rw [hL]; rfl
  have e92 : ((s[0].toNat : Int) == 92) = false := by rw [hL]; rfl
  have e110 : ((s[0].toNat : Int) == 110) = false := by rw [hL]; rfl
  have e114 : ((s[0].toNat : Int) == 114) = false := by rw [hL]; rfl
  have e116 : ((s[0].toNat : Int) == 116) = false := by rw [hL]; rfl
  have e120 : ((s[0].toNat : Int) == 120) = false := by rw [hL]; rfl
  have e117 : ((s[0].toNat : Int) == 117) = true := by rw [hL]; rfl
  clear hL
  obtain ⟨⟨b1, b2⟩, b3, b4⟩ := bracedR_small (s.extract 1 s.size) 1 6 (by omega)
  have hC := fun w' => rBraced_any (s.extract 1 s.size) 1 6 w' (by omega) (by rw [ByteArray.size_extract]; omega)
  rw [hB] at b1 b2 b3 b4 hC
  dsimp only at b1 b2 b3 b4 hC
  have hsl : ∀ w : World, (Instr.slice 9 (.string s) (some (.int .i64 1)) none none).run Tryd.prog w = .ok (.string (s.extract 1 s.size)) w := fun w => by rw [run_slice_string_from_if w 9 s .i64 1 Tryd.underlying9, if_pos (by omega)]; rfl
  have HC := Lib.hid hC
  clear hC hB
  generalize s.extract 1 s.size = z at *
  have ee : (e == 0) = false := by rw [beq_eq_false_iff_ne]; exact he
  clear he
  by_cases h1 : 1 < s.size
  · have f1 : ((s[1].toNat : Int) == 10) = false := by rw [show (10 : Int) = ((10 : UInt8).toNat : Int) from rfl, byte_beq h1]; simp [hn h1]
    have g1 : (1 : Int) < s.size := by omega
    clear hn
    go_enter Tryd.func43, Tryd.ntmps43
    go_wp2_with fail
    refine (HC.out _).mono ?_
    rintro r w1 ⟨rfl, rfl⟩
    go_wp2
    go_ret3
    exact ⟨rfl, Below.refl _ _⟩
  · have g1 : ¬ (1 : Int) < s.size := by omega
    clear hn
    go_enter Tryd.func43, Tryd.ntmps43
    go_wp2_with fail
    refine (HC.out _).mono ?_
    rintro r w1 ⟨rfl, rfl⟩
    go_wp2
    go_ret3
    exact ⟨rfl, Below.refl _ _⟩

set_option maxHeartbeats 2000000 in
theorem rEscape_ubig (s : ByteArray) (w : World) (h : 0 < s.size) (hs : s.size ≤ 4000) (hL : s[0] = 117) (hn : ∀ h1 : 1 < s.size, ¬ s[1] = 10) {n k e : Int} (hB : bracedR (s.extract 1 s.size) 1 6 = (n, k, e)) (he : e = 0) (hb : 1114111 < n) :
    Calls Tryd.prog 43 #[.string s] w fun r w' => r = .returned (.tuple #[.string (Utf8.encode n), .int .i64 (1 + k), .int .i64 3]) ∧ Below w.heap.size w w' := by
  have e0 : s.toList.isEmpty = false := str_ne0 h
  have e10 : ((s[0].toNat : Int) == 10) = false := by rw [hL]; rfl
  have e34 : ((s[0].toNat : Int) == 34) = false := by rw [hL]; rfl
  have e92 : ((s[0].toNat : Int) == 92) = false := by rw [hL]; rfl
  have e110 : ((s[0].toNat : Int) == 110) = false := by rw [hL]; rfl
  have e114 : ((s[0].toNat : Int) == 114) = false := by rw [hL]; rfl
  have e116 : ((s[0].toNat : Int) == 116) = false := by rw [hL]; rfl
  have e120 : ((s[0].toNat : Int) == 120) = false := by rw [hL]; rfl
  have e117 : ((s[0].toNat : Int) == 117) = true := by rw [hL]; rfl
  clear hL
  obtain ⟨⟨b1, b2⟩, b3, b4⟩ := bracedR_small (s.extract 1 s.size) 1 6 (by omega)
  have hC := fun w' => rBraced_any (s.extract 1 s.size) 1 6 w' (by omega) (by rw [ByteArray.size_extract]; omega)
  rw [hB] at b1 b2 b3 b4 hC
  dsimp only at b1 b2 b3 b4 hC
  have hsl : ∀ w : World, (Instr.slice 9 (.string s) (some (.int .i64 1)) none none).run Tryd.prog w = .ok (.string (s.extract 1 s.size)) w := fun w => by rw [run_slice_string_from_if w 9 s .i64 1 Tryd.underlying9, if_pos (by omega)]; rfl
  have HC := Lib.hid hC
  clear hC hB
  generalize s.extract 1 s.size = z at *
  subst he
  by_cases h1 : 1 < s.size
  · have f1 : ((s[1].toNat : Int) == 10) = false := by rw [show (10 : Int) = ((10 : UInt8).toNat : Int) from rfl, byte_beq h1]; simp [hn h1]
    have g1 : (1 : Int) < s.size := by omega
    clear hn
    go_enter Tryd.func43, Tryd.ntmps43
    go_wp2_with fail
    refine (HC.out _).mono ?_
    rintro r w1 ⟨rfl, rfl⟩
    go_wp2
    go_ret3
    exact ⟨rfl, Below.refl _ _⟩
  · have g1 : ¬ (1 : Int) < s.size := by omega
    clear hn
    go_enter Tryd.func43, Tryd.ntmps43
    go_wp2_with fail
    refine (HC.out _).mono ?_
    rintro r w1 ⟨rfl, rfl⟩
    go_wp2
    go_ret3
    exact ⟨rfl, Below.refl _ _⟩

set_option maxHeartbeats 2000000 in
theorem rEscape_usur (s : ByteArray) (w : World) (h : 0 < s.size) (hs : s.size ≤ 4000) (hL : s[0] = 117) (hn : ∀ h1 : 1 < s.size, ¬ s[1] = 10) {n k e : Int} (hB : bracedR (s.extract 1 s.size) 1 6 = (n, k, e)) (he : e = 0) (hb : 55296 ≤ n) (hb2 : n ≤ 57343) :
    Calls Tryd.prog 43 #[.string s] w fun r w' => r = .returned (.tuple #[.string (Utf8.encode n), .int .i64 (1 + k), .int .i64 3]) ∧ Below w.heap.size w w' := by
  have e0 : s.toList.isEmpty = false := str_ne0 h
  have e10 : ((s[0].toNat : Int) == 10) = false := by rw [hL]; rfl
  have e34 : ((s[0].toNat : Int) == 34) = false := by rw [hL]; rfl
  have e92 : ((s[0].toNat : Int) == 92) = false := by rw [hL]; rfl
  have e110 : ((s[0].toNat : Int) == 110) = false := by rw [hL]; rfl
  have e114 : ((s[0].toNat : Int) == 114) = false := by rw [hL]; rfl
  have e116 : ((s[0].toNat : Int) == 116) = false := by rw [hL]; rfl
  have e120 : ((s[0].toNat : Int) == 120) = false := by rw [hL]; rfl
  have e117 : ((s[0].toNat : Int) == 117) = true := by rw [hL]; rfl
  clear hL
  obtain ⟨⟨b1, b2⟩, b3, b4⟩ := bracedR_small (s.extract 1 s.size) 1 6 (by omega)
  have hC := fun w' => rBraced_any (s.extract 1 s.size) 1 6 w' (by omega) (by rw [ByteArray.size_extract]; omega)
  rw [hB] at b1 b2 b3 b4 hC
  dsimp only at b1 b2 b3 b4 hC
  have hsl : ∀ w : World, (Instr.slice 9 (.string s) (some (.int .i64 1)) none none).run Tryd.prog w = .ok (.string (s.extract 1 s.size)) w := fun w => by rw [run_slice_string_from_if w 9 s .i64 1 Tryd.underlying9, if_pos (by omega)]; rfl
  have HC := Lib.hid hC
  clear hC hB
  generalize s.extract 1 s.size = z at *
  subst he
  have nb : ¬ 1114111 < n := by omega
  by_cases h1 : 1 < s.size
  · have f1 : ((s[1].toNat : Int) == 10) = false := by rw [show (10 : Int) = ((10 : UInt8).toNat : Int) from rfl, byte_beq h1]; simp [hn h1]
    have g1 : (1 : Int) < s.size := by omega
    clear hn
    go_enter Tryd.func43, Tryd.ntmps43
    go_wp2_with fail
    refine (HC.out _).mono ?_
    rintro r w1 ⟨rfl, rfl⟩
    go_wp2
    go_ret3
    exact ⟨rfl, Below.refl _ _⟩
  · have g1 : ¬ (1 : Int) < s.size := by omega
    clear hn
    go_enter Tryd.func43, Tryd.ntmps43
    go_wp2_with fail
    refine (HC.out _).mono ?_
    rintro r w1 ⟨rfl, rfl⟩
    go_wp2
    go_ret3
    exact ⟨rfl, Below.refl _ _⟩

set_option maxHeartbeats 2000000 in
theorem rEscape_ulow (s : ByteArray) (w : World) (h : 0 < s.size) (hs : s.size ≤ 4000) (hL : s[0] = 117) (hn : ∀ h1 : 1 < s.size, ¬ s[1] = 10) {n k e : Int} (hB : bracedR (s.extract 1 s.size) 1 6 = (n, k, e)) (he : e = 0) (hb : n < 55296) :
    Calls Tryd.prog 43 #[.string s] w fun r w' => r = .returned (.tuple #[.string (Utf8.encode n), .int .i64 (1 + k), .int .i64 0]) ∧ Below w.heap.size w w' := by
  have e0 : s.toList.isEmpty = false := str_ne0 h
  have e10 : ((s[0].toNat : Int) == 10) = false := by rw [hL]; rfl
  have e34 : ((s[0].toNat : Int) == 34) = false := by rw [hL]; rfl
  have e92 : ((s[0].toNat : Int) == 92) = false := by rw [hL]; rfl
  have e110 : ((s[0].toNat : Int) == 110) = false := by rw [hL]; rfl
  have e114 : ((s[0].toNat : Int) == 114) = false := by rw [hL]; rfl
  have e116 : ((s[0].toNat : Int) == 116) = false := by rw [hL]; rfl
  have e120 : ((s[0].toNat : Int) == 120) = false := by rw [hL]; rfl
  have e117 : ((s[0].toNat : Int) == 117) = true := by rw [hL]; rfl
  clear hL
  obtain ⟨⟨b1, b2⟩, b3, b4⟩ := bracedR_small (s.extract 1 s.size) 1 6 (by omega)
  have hC := fun w' => rBraced_any (s.extract 1 s.size) 1 6 w' (by omega) (by rw [ByteArray.size_extract]; omega)
  rw [hB] at b1 b2 b3 b4 hC
  dsimp only at b1 b2 b3 b4 hC
  have hsl : ∀ w : World, (Instr.slice 9 (.string s) (some (.int .i64 1)) none none).run Tryd.prog w = .ok (.string (s.extract 1 s.size)) w := fun w => by rw [run_slice_string_from_if w 9 s .i64 1 Tryd.underlying9, if_pos (by omega)]; rfl
  have HC := Lib.hid hC
  clear hC hB
  generalize s.extract 1 s.size = z at *
  subst he
  have nb : ¬ 1114111 < n := by omega
  by_cases h1 : 1 < s.size
  · have f1 : ((s[1].toNat : Int) == 10) = false := by rw [show (10 : Int) = ((10 : UInt8).toNat : Int) from rfl, byte_beq h1]; simp [hn h1]
    have g1 : (1 : Int) < s.size := by omega
    clear hn
    go_enter Tryd.func43, Tryd.ntmps43
    go_wp2_with fail
    refine (HC.out _).mono ?_
    rintro r w1 ⟨rfl, rfl⟩
    go_wp2
    go_ret3
    exact ⟨rfl, Below.refl _ _⟩
  · have g1 : ¬ (1 : Int) < s.size := by omega
    clear hn
    go_enter Tryd.func43, Tryd.ntmps43
    go_wp2_with fail
    refine (HC.out _).mono ?_
    rintro r w1 ⟨rfl, rfl⟩
    go_wp2
    go_ret3
    exact ⟨rfl, Below.refl _ _⟩

set_option maxHeartbeats 2000000 in
theorem rEscape_uhigh (s : ByteArray) (w : World) (h : 0 < s.size) (hs : s.size ≤ 4000) (hL : s[0] = 117) (hn : ∀ h1 : 1 < s.size, ¬ s[1] = 10) {n k e : Int} (hB : bracedR (s.extract 1 s.size) 1 6 = (n, k, e)) (he : e = 0) (hb : 57343 < n) (hb2 : n ≤ 1114111) :
    Calls Tryd.prog 43 #[.string s] w fun r w' => r = .returned (.tuple #[.string (Utf8.encode n), .int .i64 (1 + k), .int .i64 0]) ∧ Below w.heap.size w w' := by
  have e0 : s.toList.isEmpty = false := str_ne0 h
  have e10 : ((s[0].toNat : Int) == 10) = false := by rw [hL]; rfl
  have e34 : ((s[0].toNat : Int) == 34) = false := by rw [hL]; rfl
  have e92 : ((s[0].toNat : Int) == 92) = false := by rw [hL]; rfl
  have e110 : ((s[0].toNat : Int) == 110) = false := by rw [hL]; rfl
  have e114 : ((s[0].toNat : Int) == 114) = false := by rw [hL]; rfl
  have e116 : ((s[0].toNat : Int) == 116) = false := by rw [hL]; rfl
  have e120 : ((s[0].toNat : Int) == 120) = false := by rw [hL]; rfl
  have e117 : ((s[0].toNat : Int) == 117) = true := by rw [hL]; rfl
  clear hL
  obtain ⟨⟨b1, b2⟩, b3, b4⟩ := bracedR_small (s.extract 1 s.size) 1 6 (by omega)
  have hC := fun w' => rBraced_any (s.extract 1 s.size) 1 6 w' (by omega) (by rw [ByteArray.size_extract]; omega)
  rw [hB] at b1 b2 b3 b4 hC
  dsimp only at b1 b2 b3 b4 hC
  have hsl : ∀ w : World, (Instr.slice 9 (.string s) (some (.int .i64 1)) none none).run Tryd.prog w = .ok (.string (s.extract 1 s.size)) w := fun w => by rw [run_slice_string_from_if w 9 s .i64 1 Tryd.underlying9, if_pos (by omega)]; rfl
  have HC := Lib.hid hC
  clear hC hB
  generalize s.extract 1 s.size = z at *
  subst he
  by_cases h1 : 1 < s.size
  · have f1 : ((s[1].toNat : Int) == 10) = false := by rw [show (10 : Int) = ((10 : UInt8).toNat : Int) from rfl, byte_beq h1]; simp [hn h1]
    have g1 : (1 : Int) < s.size := by omega
    clear hn
    go_enter Tryd.func43, Tryd.ntmps43
    go_wp2_with fail
    refine (HC.out _).mono ?_
    rintro r w1 ⟨rfl, rfl⟩
    go_wp2
    go_ret3
    exact ⟨rfl, Below.refl _ _⟩
  · have g1 : ¬ (1 : Int) < s.size := by omega
    clear hn
    go_enter Tryd.func43, Tryd.ntmps43
    go_wp2_with fail
    refine (HC.out _).mono ?_
    rintro r w1 ⟨rfl, rfl⟩
    go_wp2
    go_ret3
    exact ⟨rfl, Below.refl _ _⟩
end Go.Proofs.YtmofnaeiemkbnaaDoor
