/- The reference's Unquote: every text of at most 300 bytes; it answers as text.Unquote. -/
import Derived.Test.YtmofnaeiemkbnaaDoorEF
import Derived.Test.YtmofnaeiemkbnaaDoorTA
import Derived.Test.YtmofnaeiemkbnaaDoorZ
import Derived.Test.YtmofnaeiemkbnaaDoorTQ
namespace Go.Proofs.YtmofnaeiemkbnaaDoor
open Go.RowKit Go.Shelf

theorem dec_ascii {s : ByteArray} {pos : Nat} (hp : pos < s.size) (h : s[pos].toNat < 128) : (Utf8.decode s pos).1 = s[pos].toNat := by
  rw [Lib.decode_N, getD_byte hp, decodeN_ascii _ _ _ _ _ h]
theorem byte_is {s : ByteArray} {k : Nat} (hk : k < s.size) (c : UInt8) (hc : c.toNat < 128) : (Utf8.decode s k).1 = c.toNat ↔ s[k] = c := by
  constructor
  · intro h
    have := ascii_byte hk (by omega)
    exact UInt8.toNat_inj.1 (by omega)
  · intro h
    have := dec_ascii hk (by rw [h]; exact hc)
    rw [this, h]
theorem front_at {s : ByteArray} {k : Nat} (hk : k < s.size) (h : 0 < (s.extract k s.size).size) : (s.extract k s.size)[0] = s[k] := by
  have := cut_at s k 0 h (by omega)
  simpa using this
theorem one_back {s : ByteArray} {k : Nat} (hk : k < s.size) (hc : s[k] = 92) : oneZ (s.extract k s.size) = escZ (s.extract k s.size) := by
  have h0 : 0 < (s.extract k s.size).size := by rw [suffix_size]; omega
  unfold oneZ
  rw [dif_pos h0, if_pos (by rw [front_at hk]; exact hc)]
theorem inv_cut (s : ByteArray) (k : Nat) : invB (s.extract k s.size) 0 (Utf8.decode (s.extract k s.size) 0).1 = (decide (((Utf8.decode s k).1 : Int) = 65533) && decide (((Utf8.decode s k).2 : Int) = 1)) := by
  rw [inv_is, suffix_decode]
theorem one_bad {s : ByteArray} {k : Nat} (hk : k < s.size) (hc : s[k] ≠ 92) (hb : (Utf8.decode s k).1 < 32 ∨ (Utf8.decode s k).1 = 127 ∨ ((Utf8.decode s k).1 = 65533 ∧ (Utf8.decode s k).2 = 1)) :
    oneZ (s.extract k s.size) = (⟨#[]⟩, 0, wrongZ s k) := by
  have h0 : 0 < (s.extract k s.size).size := by rw [suffix_size]; omega
  unfold oneZ
  rw [dif_pos h0, if_neg (by rw [front_at hk]; exact hc), inv_cut, suffix_decode, wrong_shift, if_pos]
  · rfl
  · rcases hb with h | h | ⟨h1, h2⟩
    · exact .inl h
    · exact .inr (.inl h)
    · exact .inr (.inr (by rw [h1, h2]; rfl))
theorem one_plain {s : ByteArray} {k : Nat} (hk : k < s.size) (hc : s[k] ≠ 92) (h1 : ¬ (Utf8.decode s k).1 < 32) (h2 : ¬ (Utf8.decode s k).1 = 127) (h3 : ¬ ((Utf8.decode s k).1 = 65533 ∧ (Utf8.decode s k).2 = 1)) :
    oneZ (s.extract k s.size) = ((s.extract k s.size).extract 0 (Utf8.decode s k).2, ((Utf8.decode s k).2 : Int), 0) := by
  have h0 : 0 < (s.extract k s.size).size := by rw [suffix_size]; omega
  unfold oneZ
  rw [dif_pos h0, if_neg (by rw [front_at hk]; exact hc), inv_cut, suffix_decode, if_neg]
  rintro (h | h | h)
  · exact h1 h
  · exact h2 h
  · simp at h; omega
theorem uq_quote {s : ByteArray} {k : Nat} (f : Nat) (acc : List UInt8) (hk : k < s.size) (hc : s[k] = 34) : unqFrom s (f + 1) k acc = (⟨acc.toArray⟩, (k : Int) + 1, 0) := by
  rw [unqFrom, dif_pos hk, if_pos hc]
theorem uq_err {s : ByteArray} {k : Nat} (f : Nat) (acc : List UInt8) (hk : k < s.size) (hc : s[k] ≠ 34) {q : ByteArray × Int × Int} (ho : oneZ (s.extract k s.size) = q) (he : q.2.2 ≠ 0) :
    unqFrom s (f + 1) k acc = (⟨#[]⟩, 0, q.2.2) := by
  rw [unqFrom, dif_pos hk, if_neg hc, ho, if_pos he]
theorem uq_go {s : ByteArray} {k : Nat} (f : Nat) (acc : List UInt8) (hk : k < s.size) (hc : s[k] ≠ 34) {q : ByteArray × Int × Int} (ho : oneZ (s.extract k s.size) = q) (he : q.2.2 = 0) :
    unqFrom s (f + 1) k acc = unqFrom s f (k + q.2.1.toNat) (acc ++ q.1.data.toList) := by
  rw [unqFrom, dif_pos hk, if_neg hc, ho, if_neg (by simp [he])]
theorem cut_cut (s : ByteArray) (k : Nat) : (s.extract k s.size).extract 1 (s.extract k s.size).size = s.extract (k + 1) s.size := by
  apply ByteArray.ext
  apply Array.ext'
  rw [cut_list, cut_list, cut_list, List.drop_drop]
theorem cut_low (s : ByteArray) (k n : Nat) : (s.extract k s.size).extract 0 n = s.extract k (k + n) := by
  apply ByteArray.ext
  apply Array.ext'
  rw [ByteArray.data_extract, Array.toList_extract, cut_list, ByteArray.data_extract, Array.toList_extract]
  simp only [List.extract_eq_take_drop, List.drop_zero]
  congr 1
  omega
theorem txt_eq {a b : ByteArray} (h : a.data = b.data) : Value.string a = Value.string b := congrArg _ (ByteArray.ext h)
theorem unq_none {s : ByteArray} (h : ¬ ∃ h0 : 0 < s.size, s[0] = 34) : unqZ s = (⟨#[]⟩, 0, 3) := by
  unfold unqZ
  rw [if_neg]
  intro hp
  apply h
  have h0 : 0 < s.size := by
    cases hl : s.data.toList with
    | nil => rw [hl] at hp; simp [Lib.hasPrefix] at hp
    | cons a r =>
      have h : s.data.toList.length = r.length + 1 := by rw [hl]; rfl
      rw [Array.length_toList] at h
      show 0 < s.data.size; omega
  refine ⟨h0, ?_⟩
  rw [← getD_byte h0]
  cases hl : s.data.toList with
  | nil => rw [hl] at hp; simp [Lib.hasPrefix] at hp
  | cons a r => rw [hl] at hp; simp [Lib.hasPrefix, List.isPrefixOf] at hp; simp [hp]
theorem unq_some {s : ByteArray} (h0 : 0 < s.size) (h : s[0] = 34) : unqZ s = unqFrom s (s.size + 1) 1 [] := by
  unfold unqZ
  rw [if_pos]
  have e := getD_byte h0
  rw [h] at e
  cases hl : s.data.toList with
  | nil =>
    have h : s.data.toList.length = 0 := by rw [hl]; rfl
    rw [Array.length_toList] at h
    have : s.size = s.data.size := rfl
    omega
  | cons a r =>
    rw [hl] at e
    simp at e
    simp [Lib.hasPrefix, List.isPrefixOf, e]

set_option maxHeartbeats 4000000 in
set_option maxRecDepth 100000 in
theorem rUnquote_any (s : ByteArray) (w : World) (hs : s.size ≤ 300) :
    Calls Tryd.prog 25 #[.string s] w fun e w' => e = .returned (.tuple #[.string (unqZ s).1, .int .i64 (unqZ s).2.1, .int .i64 (unqZ s).2.2]) ∧ Below w.heap.size w w' := by
  by_cases h0 : 0 < s.size
  · have e0 : s.toList.isEmpty = false := str_ne0 h0
    by_cases hq : s[0] = 34
    · have e1 : ((s[0].toNat : Int) != 34) = false := by rw [show (34 : Int) = ((34 : UInt8).toNat : Int) from rfl, byte_bne h0, hq]; rfl
      have HQ := Lib.hid (unq_some h0 hq)
      clear hq
      go_enter Tryd.func25, Tryd.ntmps25
      go_wp2_with fail
      go_loopw [5, 6] (fun out a wr => ∃ (k f : Nat) (acc : List UInt8), a = .int .i64 k ∧ out = .string ⟨acc.toArray⟩ ∧ k ≤ s.size ∧ s.size + 2 ≤ k + f ∧ acc.length ≤ 4 * k ∧ Hid (unqFrom s f k acc = unqZ s) ∧ Below w.heap.size w wr) (fun _ a _ => s.size - (intOf a).toNat)
      case atStart => exact ⟨1, s.size + 1, [], rfl, rfl, by omega, by omega, by simp, Lib.hid HQ.out.symm, Below.refl _ _⟩
      case round =>
        clear e0 e1 HQ
        obtain ⟨k, f, acc, rfl, rfl, hks, hf, hal, hU, hb⟩ := hrel
        obtain ⟨f, rfl⟩ : ∃ g, f = g + 1 := ⟨f - 1, by omega⟩
        by_cases hk : k < s.size
        · have hc := fun w => rOne_any (s.extract k s.size) w (by rw [suffix_size]; omega) (by rw [suffix_size]; omega)
          rw [suffix_decode] at hc
          obtain ⟨d1, d2, d3⟩ := decode_facts s k hk
          have d4 := decode_w4 s k
          have hHi := fun h => inv_high hk h
          have h34 := byte_is hk 34 (by decide)
          have h10 := byte_is hk 10 (by decide)
          have h92 := byte_is hk 92 (by decide)
          have hbad := one_bad hk
          have hpl := one_plain hk
          have hwr : s[k] ≠ 10 → wrongZ s k = 3 := fun h => by unfold wrongZ; rw [dif_pos hk, if_neg h]
          have hwl : s[k] = 10 → wrongZ s k = 13 := fun h => by unfold wrongZ; rw [dif_pos hk, if_pos h]
          rw [show (34 : UInt8).toNat = 34 from rfl] at h34
          rw [show (10 : UInt8).toNat = 10 from rfl] at h10
          rw [show (92 : UInt8).toNat = 92 from rfl] at h92
          generalize (Utf8.decode s k).2 = n at *
          generalize (Utf8.decode s k).1 = r at *
          by_cases r34 : r = 34
          · have HU : Hid (unqZ s = (⟨acc.toArray⟩, (k : Int) + 1, 0)) := Lib.hid (by rw [← hU.out, uq_quote f acc hk (h34.1 r34)])
            subst r34
            clear h34 h10 h92 hbad hpl hwr hwl hHi hU
            go_wp2_with fail
            refine (hc _).mono ?_
            rintro e w1 ⟨rfl, b1⟩
            have B1 := hb.trans (b1.mono hb.size)
            go_wp2
            go_ret3
            exact ⟨by (rw [HU.out]) <;> first | rfl | simp, B1⟩
          have n34 : s[k] ≠ 34 := fun h => r34 (h34.2 h)
          by_cases r10 : r = 10
          · have c10 := h10.1 r10
            have n92 : s[k] ≠ 92 := by rw [c10]; decide
            have HU : Hid (unqZ s = (⟨#[]⟩, 0, 13)) := Lib.hid (by
              have := uq_err f acc hk n34 (hbad n92 (by omega)) (by rw [hwl c10]; decide)
              rw [← hU.out, this, hwl c10])
            subst r10
            clear h34 h10 h92 hbad hpl hwr hwl hHi hU c10 n34 n92 r34
            go_wp2_with fail
            refine (hc _).mono ?_
            rintro e w1 ⟨rfl, b1⟩
            have B1 := hb.trans (b1.mono hb.size)
            go_wp2
            go_ret3
            exact ⟨by (rw [HU.out]) <;> rfl, B1⟩
          have n10 : s[k] ≠ 10 := fun h => r10 (h10.2 h)
          by_cases r92 : r = 92
          · have hE := fun w => rEscape_any (s.extract k s.size) w (by rw [suffix_size]; omega) (by rw [suffix_size]; omega)
            rw [cut_cut] at hE
            have ho := one_back hk (h92.1 r92)
            have hok := @esc_ok (s.extract k s.size)
            rw [suffix_size] at hok
            generalize escZ (s.extract k s.size) = q at *
            have hbe : ∀ e : Int, e = q.2.2 → e ≠ 0 → Hid (unqZ s = (⟨#[]⟩, 0, e)) := fun e h1 h2 => Lib.hid (by subst h1; rw [← hU.out, uq_err f acc hk n34 ho h2])
            have hbo : q.2.2 = 0 → ∃ m : Nat, q.2.1 = m ∧ 1 ≤ m ∧ m ≤ s.size - k ∧ q.1.size ≤ 4 ∧ Hid (unqFrom s f (k + m) (acc ++ q.1.data.toList) = unqZ s) := fun h => by
              obtain ⟨m, m1, m2, m3, m4⟩ := hok h
              refine ⟨m, m1, m2, m3, m4, Lib.hid ?_⟩
              have := uq_go f acc hk n34 ho h
              rw [m1, Int.toNat_natCast] at this
              rw [← hU.out, this]
            subst r92
            have kz : (k : Int) + 1 ≤ (s.size : Int) := by omega
            clear h34 h10 h92 hbad hpl hwr hwl hHi hU n34 n10 r34 r10 ho hok
            go_wp2_with fail
            refine (hc _).mono ?_
            rintro e w1 ⟨rfl, b1⟩
            have B1 := hb.trans (b1.mono hb.size)
            go_wp2_with fail
            refine (hE _).mono ?_
            rintro e w2 ⟨⟨t, kk, ee, rfl, he1, he2⟩, b2⟩
            have B2 := B1.trans (b2.mono B1.size)
            by_cases hz : ee = 0
            · obtain ⟨rfl, hkk⟩ := he2 (by omega)
              obtain ⟨m, m1, m2, m3, m4, HU⟩ := hbo (by omega)
              subst hz
              obtain rfl : kk = ((m - 1 : Nat) : Int) := by omega
              have cz : ¬ 9223372036854775807 < acc.length + q.1.size := by omega
              clear he1 he2 hbo hbe hkk
              go_wp2
              go_roundw
              case rel =>
                refine ⟨k + m, f, acc ++ q.1.data.toList, by go_num, txt_eq (by simp [ByteArray.data_append]), by omega, by omega, ?_, HU, B2⟩
                have : q.1.data.toList.length = q.1.size := Array.length_toList
                rw [List.length_append, this]; omega
              case measure => simp [intOf]; omega
            · have HU := hbe ee he1 hz
              have ez : (ee != 0) = true := by rw [bne_iff_ne]; exact hz
              clear he1 he2 hbo hbe hz
              go_wp2
              go_ret3
              exact ⟨by (rw [HU.out]) <;> rfl, B2⟩
          have n92 : s[k] ≠ 92 := fun h => r92 (h92.2 h)
          have e1 : ((r : Int) == 34) = false := by rw [beq_eq_false_iff_ne]; omega
          have e2 : ((r : Int) == 10) = false := by rw [beq_eq_false_iff_ne]; omega
          have e3 : ((r : Int) == 92) = false := by rw [beq_eq_false_iff_ne]; omega
          have hI := fun w => rInvalid_any r 0 n w
          by_cases hB : r < 32 ∨ r = 127 ∨ (r = 65533 ∧ n = 1)
          · have HU : Hid (unqZ s = (⟨#[]⟩, 0, 3)) := Lib.hid (by
              have := uq_err f acc hk n34 (hbad n92 hB) (by rw [hwr n10]; decide)
              rw [← hU.out, this, hwr n10])
            clear h34 h10 h92 hbad hpl hwr hwl hHi hU n34 n10 n92 r34 r10 r92
            rcases hB with h | h | ⟨h, hn⟩
            · have a1 : decide ((r : Int) < 32) = true := decide_eq_true (by omega)
              clear h hI
              go_wp2_with fail
              refine (hc _).mono ?_
              rintro e w1 ⟨rfl, b1⟩
              have B1 := hb.trans (b1.mono hb.size)
              go_wp2
              go_ret3
              exact ⟨by (rw [HU.out]) <;> rfl, B1⟩
            · subst h
              clear hI
              go_wp2_with fail
              refine (hc _).mono ?_
              rintro e w1 ⟨rfl, b1⟩
              have B1 := hb.trans (b1.mono hb.size)
              go_wp2
              go_ret3
              exact ⟨by (rw [HU.out]) <;> rfl, B1⟩
            · rw [decide_eq_true (show (r : Int) = 65533 by omega), decide_eq_true (show (n : Int) = 1 by omega)] at hI
              have a1 : decide ((r : Int) < 32) = false := decide_eq_false (by omega)
              have a2 : ((r : Int) == 127) = false := by rw [beq_eq_false_iff_ne]; omega
              clear h hn
              go_wp2_with fail
              refine (hc _).mono ?_
              rintro e w1 ⟨rfl, b1⟩
              have B1 := hb.trans (b1.mono hb.size)
              go_wp2_with fail
              refine (hI _).mono ?_
              rintro e w2 ⟨rfl, b2⟩
              have B2 := B1.trans (b2.mono B1.size)
              go_wp2
              go_ret3
              exact ⟨by (rw [HU.out]) <;> rfl, B2⟩
          · have HU : Hid (unqFrom s f (k + n) (acc ++ (s.extract k (k + n)).data.toList) = unqZ s) := Lib.hid (by
              have := uq_go f acc hk n34 (hpl n92 (by omega) (by omega) (by omega)) rfl
              rw [← hU.out, this, cut_low s k n]; simp)
            have hfl : (decide ((r : Int) = 65533) && decide ((n : Int) = 1)) = false := by
              rw [Bool.and_eq_false_iff, decide_eq_false_iff_not, decide_eq_false_iff_not]; omega
            rw [hfl] at hI
            have a1 : decide ((r : Int) < 32) = false := decide_eq_false (by omega)
            have a2 : ((r : Int) == 127) = false := by rw [beq_eq_false_iff_ne]; omega
            have hsl : ∀ w : World, (Instr.slice 9 (.string s) (some (.int .i64 (k : Int))) (some (.int .i64 ((k : Int) + (n : Int)))) none).run Tryd.prog w = .ok (.string (s.extract k (k + n))) w := fun w => by
              have := run_slice_string w 9 s .i64 .i64 k (k + n : Nat) Tryd.underlying9 (by omega) (by omega) (by omega)
              rw [Int.toNat_natCast, Int.toNat_natCast, Int.natCast_add] at this
              exact this
            have hez : (s.extract k (k + n)).size = n := by rw [ByteArray.size_extract]; omega
            have cz : ¬ 9223372036854775807 < acc.length + (s.extract k (k + n)).size := by rw [hez]; omega
            have HEZ := Lib.hid hez
            clear h34 h10 h92 hbad hpl hwr hwl hHi hU n34 n10 n92 r34 r10 r92 hB hfl hez
            generalize s.extract k (k + n) = t at *
            go_wp2_with fail
            refine (hc _).mono ?_
            rintro e w1 ⟨rfl, b1⟩
            have B1 := hb.trans (b1.mono hb.size)
            go_wp2_with fail
            refine (hI _).mono ?_
            rintro e w2 ⟨rfl, b2⟩
            have B2 := B1.trans (b2.mono B1.size)
            go_wp2
            go_roundw
            case rel =>
              refine ⟨k + n, f, acc ++ t.data.toList, by go_num, txt_eq (by simp [ByteArray.data_append]), by omega, by omega, ?_, HU, B2⟩
              have h1 : t.data.toList.length = t.size := Array.length_toList
              have h2 := HEZ.out
              rw [List.length_append, h1]; omega
            case measure => simp [intOf]; omega
        · have HU : Hid (unqZ s = (⟨#[]⟩, 0, 13)) := Lib.hid (by rw [← hU.out, unqFrom, dif_neg hk])
          obtain rfl : k = s.size := by omega
          go_wp2
          go_ret3
          exact ⟨by (rw [HU.out]) <;> rfl, hb⟩
    · have e1 : ((s[0].toNat : Int) != 34) = true := by rw [show (34 : Int) = ((34 : UInt8).toNat : Int) from rfl, byte_bne h0]; simp [hq]
      have HU := Lib.hid (unq_none (s := s) (fun ⟨_, h⟩ => hq h))
      clear hq
      go_enter Tryd.func25, Tryd.ntmps25
      go_wp2
      go_ret3
      exact ⟨by (rw [HU.out]) <;> rfl, Below.refl _ _⟩
  · have HU := Lib.hid (unq_none (s := s) (fun ⟨h, _⟩ => h0 h))
    have hz : s.size = 0 := by omega
    obtain rfl : s = ⟨#[]⟩ := by apply ByteArray.ext; apply Array.eq_empty_of_size_eq_zero; exact hz
    go_enter Tryd.func25, Tryd.ntmps25
    go_wp2
    go_ret3
    exact ⟨by (rw [HU.out]) <;> rfl, Below.refl _ _⟩
end Go.Proofs.YtmofnaeiemkbnaaDoor
