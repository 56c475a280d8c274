/- The reference's Quote: every text of at most 300 bytes; it answers as text.Quote. -/
import Derived.Test.YtjedcbmkhifbnaaDoorTQ
namespace Go.Proofs.YtjedcbmkhifbnaaDoor
open Go.RowKit Go.Shelf

theorem one_byte {s : ByteArray} {pos : Nat} (hp : pos < s.size) : s.extract pos (pos + 1) = ⟨#[s[pos].toNat.toUInt8]⟩ := by
  apply ByteArray.ext
  rw [ByteArray.data_extract]
  apply Array.ext'
  rw [Array.toList_extract, List.extract_eq_take_drop, List.drop_eq_getElem_cons (by rw [Array.length_toList]; exact hp)]
  have e : s.data.toList[pos]'(by rw [Array.length_toList]; exact hp) = s[pos] := rfl
  rw [e, show pos + 1 - pos = 1 by omega]
  simp
theorem str_eq {a b : ByteArray} (h : a.data = b.data) : Value.string a = Value.string b := congrArg _ (ByteArray.ext h)

set_option maxHeartbeats 4000000 in
set_option maxRecDepth 100000 in
theorem rQuote_any (s : ByteArray) (w : World) (hs : s.size ≤ 300) :
    Calls Tryd.prog 24 #[.string s] w fun e w' => e = .returned (.string ⟨(quoteB s).toArray⟩) ∧ Below w.heap.size w w' := by
  go_enter Tryd.func24, Tryd.ntmps24
  go_wp2_with fail
  refine (rRunes_any _ _ hs).mono ?_
  rintro e w0 ⟨v, rfl, hown, b0⟩
  obtain ⟨ao, cap, rfl, hV⟩ := view_of_own hown
  clear hown
  have hz0 := b0.size
  have HV := Lib.hid hV; clear hV
  have hN : (runesL s).length ≤ 300 := Nat.le_trans (runesL_length s _ _) hs
  go_wp2_with fail
  go_loopw [3, 5] (fun a i wr => ∃ (pre : List (Nat × Nat × Nat)) (f pos : Nat) (acc : List UInt8), i = .int .i64 pre.length ∧ a = .string ⟨acc.toArray⟩ ∧ Hid (pre ++ runesFrom s f pos = runesL s) ∧ pos ≤ s.size ∧ s.size ≤ pos + f ∧ pre.length ≤ pos ∧ acc.length ≤ 1 + 12 * pos ∧ Hid (acc ++ quoteFrom s f pos = [34] ++ quoteFrom s s.size 0) ∧ Below w0.heap.size w0 wr) (fun _ i _ => (runesL s).length - (intOf i).toNat)
  case atStart => exact ⟨[], s.size, 0, [34], rfl, rfl, rfl, by omega, by omega, by simp, by simp, rfl, Below.refl _ _⟩
  case round =>
    obtain ⟨pre, f, pos, acc, rfl, rfl, hA, hp, hf, hl, hal, hQ, hb⟩ := hrel
    rcases runes_rest hp hf with ⟨he, hr⟩ | ⟨g, rfl, hps, hr⟩
    · have hL := hA.out
      rw [hr, List.append_nil] at hL
      have hQ' := hQ.out
      rw [quoteFrom_end s f pos (by omega), List.append_nil] at hQ'
      have HQ : Hid (quoteB s = acc ++ [34]) := Lib.hid (by rw [quoteB, ← hQ'])
      subst hL
      have hB := b0.trans (hb.mono hz0)
      clear hA hr hQ hQ' HV
      have c1 : ¬ 9223372036854775807 < acc.length + 1 := by omega
      go_wp2
      go_ret
      refine ⟨?_, hB⟩
      rw [HQ.out]
      exact congrArg (fun x => Ending.returned (.string x)) (by apply ByteArray.ext; simp [ByteArray.data_append])
    · obtain ⟨d1, d2, d3⟩ := decode_facts s pos hps
      have hL := hA.out
      rw [hr] at hL
      obtain ⟨blk, rfl, p0, p1, p2⟩ := HV.out wr hb _ _ _ hL
      have hlt : pre.length < (runesL s).length := by rw [← hL]; simp
      have HL := Lib.hid hL; clear hL hr hA
      have hQ' := hQ.out
      rw [quoteFrom, dif_pos hps, inv_is s pos] at hQ'
      have hih := fun h => inv_high hps h
      have hab := fun h => ascii_byte hps h
      generalize (Utf8.decode s pos).2 = n at p2 d1 d2 hQ' HL
      generalize (Utf8.decode s pos).1 = r at p0 d3 hQ' hih hab HL
      have HQ := hQ'; clear hQ' hQ
      have hI := fun w => rInvalid_any r pos n w
      by_cases hinv : ((r : Int) = 65533 ∧ (n : Int) = 1)
      · rw [decide_eq_true hinv.1, decide_eq_true hinv.2] at hI
        have hbt := hih (by omega)
        have hby := UInt8.toNat_lt s[pos]
        have hH := fun w => rHex_any s[pos].toNat 2 w (by omega) (by omega)
        have hx7 := hexR_length 2 6 s[pos].toNat []
        have HX := Lib.hid (codeB_x s[pos].toNat (by omega) (by omega))
        rw [decide_eq_true hinv.1, decide_eq_true hinv.2] at HQ
        obtain ⟨bt, hbt'⟩ : ∃ bt : Nat, bt = s[pos].toNat := ⟨_, rfl⟩
        have hix : ∀ w : World, (Instr.index 9 (.string s) (.int .i64 (pos : Int))).run Tryd.prog w = .ok (.int .u8 (s[pos].toNat : Int)) w := fun w => by
          rw [run_index_string _ _ _ _ _ Tryd.underlying9]
          simp [hps]
        have HQ := Lib.hid HQ
        rw [← hbt'] at hix hH hx7 hbt HX HQ
        have hby2 : bt ≤ 255 := by omega
        clear hih hab hby hbt' hinv
        go_wp2_with fail
        refine (hI _).mono ?_
        rintro e w1 ⟨rfl, b1⟩
        have B1 := hb.trans (b1.mono hb.size)
        obtain ⟨g', hg', _, q1, _⟩ := HV.out w1 B1 _ _ _ HL.out
        obtain rfl : blk = g' := by simpa using hg'
        clear hg'
        clear p0 p1 p2 hI
        generalize hexR 2 6 bt [] = hx at hH hx7 HX
        simp only [List.length_nil, Nat.add_zero] at hx7
        have c1 : ¬ 9223372036854775807 < 3 + hx.length := by omega
        have c2 : ¬ 9223372036854775807 < 3 + hx.length + 1 := by omega
        have c3 : ¬ 9223372036854775807 < acc.length + (3 + hx.length + 1) := by omega
        go_wp2_with fail
        refine (hH _).mono ?_
        rintro e _ ⟨rfl, rfl⟩
        go_wp2
        go_roundw
        case rel => exact ⟨pre ++ [(r, pos, n)], g, pos + n, acc ++ codeB 120 bt, by simp, by rw [HX.out]; exact str_eq (by simp [ByteArray.data_append]), Lib.hid (by rw [List.append_assoc]; exact HL.out), d2, by omega, by simp; omega, by rw [HX.out]; simp; omega, Lib.hid (by have := HQ.out; simp only [Bool.and_self, if_true] at this; rw [List.append_assoc]; exact this), B1⟩
        case measure => simp [intOf]; omega
      · have hfl : (decide ((r : Int) = 65533) && decide ((n : Int) = 1)) = false := by
          rw [Bool.and_eq_false_iff, decide_eq_false_iff_not, decide_eq_false_iff_not]; omega
        rw [hfl] at hI HQ
        have HQ : Hid (acc ++ (quoteR r ++ quoteFrom s g (pos + n)) = [34] ++ quoteFrom s s.size 0) := Lib.hid (by simpa using HQ)
        have hbyte : r < 128 → s.extract pos (pos + 1) = ⟨#[r.toUInt8]⟩ := fun h => by
          rw [hab h]; exact one_byte hps
        have HBY := Lib.hid hbyte
        have hsl : ∀ w : World, (Instr.slice 9 (.string s) (some (.int .i64 (pos : Int))) (some (.int .i64 ((pos : Int) + 1))) none).run Tryd.prog w = .ok (.string (s.extract pos (pos + 1))) w := fun w => by
          have := run_slice_string w 9 s .i64 .i64 pos (pos + 1) Tryd.underlying9 (by omega) (by omega) (by omega)
          simpa using this
        clear hih hab hinv hfl hbyte
        go_wp2_with fail
        refine (hI _).mono ?_
        rintro e w1 ⟨rfl, b1⟩
        have B1 := hb.trans (b1.mono hb.size)
        obtain ⟨g', hg', q0, q1, _⟩ := HV.out w1 B1 _ _ _ HL.out
        obtain rfl : blk = g' := by simpa using hg'
        clear hg'
        clear p0 p1 p2 hI b1
        have c1 : ¬ 9223372036854775807 < acc.length + 2 := by omega
        rcases (show r = 34 ∨ r = 92 ∨ r = 10 ∨ r = 13 ∨ r = 9 ∨ (r ≠ 34 ∧ r ≠ 92 ∧ 32 ≤ r ∧ r ≤ 126) ∨ ((r < 32 ∧ r ≠ 10 ∧ r ≠ 13 ∧ r ≠ 9) ∨ 126 < r) by omega) with h | h | h | h | h | h | h
        · have hx : s.extract pos (pos + 1) = ⟨#[34]⟩ := by rw [HBY.out (by omega), h]; rfl
          have HX := Lib.hid hx; clear hx
          subst h
          go_wp2
          go_quiet (fail)
          rename_i nq
          go_wp2
          go_roundw
          case rel => exact ⟨pre ++ [(34, pos, n)], g, pos + n, acc ++ [92, 34], by simp, by rw [HX.out]; exact str_eq (by simp [ByteArray.data_append]), Lib.hid (by rw [List.append_assoc]; exact HL.out), d2, by omega, by simp; omega, by simp; omega, Lib.hid (by rw [List.append_assoc]; exact HQ.out), Below.drewN B1 nq⟩
          case measure => simp [intOf]; omega
        · have hx : s.extract pos (pos + 1) = ⟨#[92]⟩ := by rw [HBY.out (by omega), h]; rfl
          have HX := Lib.hid hx; clear hx
          subst h
          go_wp2
          go_quiet (fail)
          rename_i nq
          go_wp2
          go_roundw
          case rel => exact ⟨pre ++ [(92, pos, n)], g, pos + n, acc ++ [92, 92], by simp, by rw [HX.out]; exact str_eq (by simp [ByteArray.data_append]), Lib.hid (by rw [List.append_assoc]; exact HL.out), d2, by omega, by simp; omega, by simp; omega, Lib.hid (by rw [List.append_assoc]; exact HQ.out), Below.drewN B1 nq⟩
          case measure => simp [intOf]; omega
        · subst h
          go_wp2
          go_roundw
          case rel => exact ⟨pre ++ [(10, pos, n)], g, pos + n, acc ++ [92, 110], by simp, str_eq (by simp [ByteArray.data_append]), Lib.hid (by rw [List.append_assoc]; exact HL.out), d2, by omega, by simp; omega, by simp; omega, Lib.hid (by rw [List.append_assoc]; exact HQ.out), B1⟩
          case measure => simp [intOf]; omega
        · subst h
          go_wp2
          go_roundw
          case rel => exact ⟨pre ++ [(13, pos, n)], g, pos + n, acc ++ [92, 114], by simp, str_eq (by simp [ByteArray.data_append]), Lib.hid (by rw [List.append_assoc]; exact HL.out), d2, by omega, by simp; omega, by simp; omega, Lib.hid (by rw [List.append_assoc]; exact HQ.out), B1⟩
          case measure => simp [intOf]; omega
        · subst h
          go_wp2
          go_roundw
          case rel => exact ⟨pre ++ [(9, pos, n)], g, pos + n, acc ++ [92, 116], by simp, str_eq (by simp [ByteArray.data_append]), Lib.hid (by rw [List.append_assoc]; exact HL.out), d2, by omega, by simp; omega, by simp; omega, Lib.hid (by rw [List.append_assoc]; exact HQ.out), B1⟩
          case measure => simp [intOf]; omega
        · obtain ⟨n1, n2, n3, n4⟩ := h
          have hx : s.extract pos (pos + 1) = ⟨#[r.toUInt8]⟩ := HBY.out (by omega)
          have HX := Lib.hid hx; clear hx
          have n5 : r ≠ 10 := by omega
          have n6 : r ≠ 13 := by omega
          have n7 : r ≠ 9 := by omega
          have hq : quoteR r = [r.toUInt8] := by
            rw [quoteR, if_neg n5, if_neg n6, if_neg n7, if_neg (by omega), if_pos ⟨n3, n4⟩]
          have HQ : Hid (acc ++ ([r.toUInt8] ++ quoteFrom s g (pos + n)) = [34] ++ quoteFrom s s.size 0) := Lib.hid (by rw [← hq]; exact HQ.out)
          clear hq
          have e1 : ((r : Int) == 34) = false := by rw [beq_eq_false_iff_ne]; omega
          have e2 : ((r : Int) == 92) = false := by rw [beq_eq_false_iff_ne]; omega
          have e5 : ((r : Int) == 10) = false := by rw [beq_eq_false_iff_ne]; omega
          have e6 : ((r : Int) == 13) = false := by rw [beq_eq_false_iff_ne]; omega
          have e7 : ((r : Int) == 9) = false := by rw [beq_eq_false_iff_ne]; omega
          have a1 : decide ((32 : Int) ≤ (r : Int)) = true := decide_eq_true (by omega)
          have a2 : decide ((r : Int) ≤ 126) = true := decide_eq_true (by omega)
          clear n1 n2 n3 n4 n5 n6 n7
          go_wp2
          go_quiet (fail)
          rename_i nq
          go_wp2
          go_roundw
          case rel => exact ⟨pre ++ [(r, pos, n)], g, pos + n, acc ++ [r.toUInt8], by simp, by rw [HX.out]; exact str_eq (by simp [ByteArray.data_append]), Lib.hid (by rw [List.append_assoc]; exact HL.out), d2, by omega, by simp; omega, by simp; omega, Lib.hid (by rw [List.append_assoc]; exact HQ.out), Below.drewN B1 nq⟩
          case measure => simp [intOf]; omega
        · have hq : quoteR r = codeB 117 r := by
            rw [quoteR, if_neg (by omega), if_neg (by omega), if_neg (by omega), if_neg (by omega), if_neg (by omega)]
          have n1 : r ≠ 34 := by omega
          have n2 : r ≠ 92 := by omega
          have n5 : r ≠ 10 := by omega
          have n6 : r ≠ 13 := by omega
          have n7 : r ≠ 9 := by omega
          have hH := fun w => rHex_any r 1 w d3 (by omega)
          have hx7 := hexR_length 1 6 r []
          have HX := Lib.hid (hq.trans (codeB_u r d3))
          clear hq
          generalize hexR 1 6 r [] = hx at hH hx7 HX
          simp only [List.length_nil, Nat.add_zero] at hx7
          have k1 : ¬ 9223372036854775807 < 3 + hx.length := by omega
          have k2 : ¬ 9223372036854775807 < 3 + hx.length + 1 := by omega
          have k3 : ¬ 9223372036854775807 < acc.length + (3 + hx.length + 1) := by omega
          have HQ : Hid (acc ++ ([92, 117, 123] ++ hx ++ [125] ++ quoteFrom s g (pos + n)) = [34] ++ quoteFrom s s.size 0) := Lib.hid (by rw [← HX.out]; exact HQ.out)
          have e1 : ((r : Int) == 34) = false := by rw [beq_eq_false_iff_ne]; omega
          have e2 : ((r : Int) == 92) = false := by rw [beq_eq_false_iff_ne]; omega
          have e5 : ((r : Int) == 10) = false := by rw [beq_eq_false_iff_ne]; omega
          have e6 : ((r : Int) == 13) = false := by rw [beq_eq_false_iff_ne]; omega
          have e7 : ((r : Int) == 9) = false := by rw [beq_eq_false_iff_ne]; omega
          clear n1 n2 n5 n6 n7
          rcases h with ⟨n8, _⟩ | n8
          · have a1 : decide ((32 : Int) ≤ (r : Int)) = false := decide_eq_false (by omega)
            clear n8
            go_wp2_with fail
            refine (hH _).mono ?_
            rintro e _ ⟨rfl, rfl⟩
            go_wp2
            go_roundw
            case rel => exact ⟨pre ++ [(r, pos, n)], g, pos + n, acc ++ ([92, 117, 123] ++ hx ++ [125]), by simp, str_eq (by simp [ByteArray.data_append]), Lib.hid (by rw [List.append_assoc]; exact HL.out), d2, by omega, by simp; omega, by simp; omega, Lib.hid (by rw [List.append_assoc]; exact HQ.out), B1⟩
            case measure => simp [intOf]; omega
          · have a1 : decide ((32 : Int) ≤ (r : Int)) = true := decide_eq_true (by omega)
            have a2 : decide ((r : Int) ≤ 126) = false := decide_eq_false (by omega)
            clear n8
            go_wp2_with fail
            refine (hH _).mono ?_
            rintro e _ ⟨rfl, rfl⟩
            go_wp2
            go_roundw
            case rel => exact ⟨pre ++ [(r, pos, n)], g, pos + n, acc ++ ([92, 117, 123] ++ hx ++ [125]), by simp, str_eq (by simp [ByteArray.data_append]), Lib.hid (by rw [List.append_assoc]; exact HL.out), d2, by omega, by simp; omega, by simp; omega, Lib.hid (by rw [List.append_assoc]; exact HQ.out), B1⟩
            case measure => simp [intOf]; omega
end Go.Proofs.YtjedcbmkhifbnaaDoor
