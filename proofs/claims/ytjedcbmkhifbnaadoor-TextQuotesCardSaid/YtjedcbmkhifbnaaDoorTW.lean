/- The statement TextQuotes' body: every two texts. Condition: the tables of unicode/utf8 are as laid. -/
import Derived.Test.YtjedcbmkhifbnaaDoorTV
import Derived.Test.YtjedcbmkhifbnaaDoorK
namespace Go.Proofs.YtjedcbmkhifbnaaDoor
open Go.RowKit Go.Shelf

theorem codeB_short (c : UInt8) (m : Nat) (h : m ≤ 1114111) : (codeB c m).length ≤ 10 := by
  obtain ⟨j, hj, e, _, _⟩ := digs_H m h
  rw [codeB, e]
  simp [digH_length]
  omega
theorem quoteR_short (r : Nat) (h : r ≤ 1114111) : (quoteR r).length ≤ 10 := by
  have := codeB_short 117 r h
  unfold quoteR
  repeat' split
  all_goals first | exact this | simp
theorem quoteFrom_short (s : ByteArray) : ∀ f pos, (quoteFrom s f pos).length ≤ 10 * f
  | 0, _ => by simp [quoteFrom]
  | f + 1, pos => by
    rw [quoteFrom]
    split
    · rename_i h
      have h1 := quoteFrom_short s f (pos + (Utf8.decode s pos).2)
      rw [List.length_append]
      have h2 : (if invB s pos (Utf8.decode s pos).1 then codeB 120 s[pos].toNat else quoteR (Utf8.decode s pos).1).length ≤ 10 := by
        split
        · exact codeB_short _ _ (by have := UInt8.toNat_lt s[pos]; omega)
        · exact quoteR_short _ (decode_facts s pos h).2.2
      omega
    · simp
theorem quoteB_short (s : ByteArray) : (quoteB s).length ≤ 10 * s.size + 2 := by
  have := quoteFrom_short s s.size 0
  rw [quoteB]; simp; omega

set_option maxHeartbeats 4000000 in
theorem TQuotes_few (s r : ByteArray) (w : World) (hs : 300 < s.size) (hT : Lib.Utf8Tabs 0 1 w) :
    Calls Tryd.prog 7 #[.string s, .string r] w fun e w' => e = .returned (.bool true) ∧ Below w.heap.size w w' := by
  have HT := Lib.hid hT; clear hT
  go_enter Tryd.func7, Tryd.ntmps7
  go_wp2_with fail
  refine (few_no _ _ hs).mono ?_
  rintro e _ ⟨rfl, rfl⟩
  go_wp2_with fail
  refine (knows_any _ HT.out).mono ?_
  rintro e w1 ⟨rfl, b1⟩
  go_wp2
  go_ret
  exact ⟨rfl, b1⟩
set_option maxHeartbeats 4000000 in
theorem TQuotes_few2 (s r : ByteArray) (w : World) (hs : s.size ≤ 300) (hr : 300 < r.size) (hT : Lib.Utf8Tabs 0 1 w) :
    Calls Tryd.prog 7 #[.string s, .string r] w fun e w' => e = .returned (.bool true) ∧ Below w.heap.size w w' := by
  have HT := Lib.hid hT; clear hT
  go_enter Tryd.func7, Tryd.ntmps7
  go_wp2_with fail
  refine (few_yes _ _ hs).mono ?_
  rintro e _ ⟨rfl, rfl⟩
  go_wp2_with fail
  refine (few_no _ _ hr).mono ?_
  rintro e _ ⟨rfl, rfl⟩
  go_wp2_with fail
  refine (knows_any _ HT.out).mono ?_
  rintro e w1 ⟨rfl, b1⟩
  go_wp2
  go_ret
  exact ⟨rfl, b1⟩

set_option maxHeartbeats 4000000 in
theorem TQuotes_else (s r : ByteArray) (w : World) (hs : s.size ≤ 300) (hr : r.size ≤ 300) (hT : Lib.Utf8Tabs 0 1 w) :
    Calls Tryd.prog 7 #[.string s, .string r] w fun e w' => e = .returned (.bool true) ∧ Below w.heap.size w w' := by
  have hl := quoteB_short s
  have hqs : (⟨(quoteB s).toArray⟩ : ByteArray).size = (quoteB s).length := by simp [ByteArray.size]
  have hqr : ((⟨(quoteB s).toArray⟩ : ByteArray) ++ r).size ≤ 4000 := by rw [ByteArray.size_append, hqs]; omega
  have HU := Lib.hid (unq_quote s r)
  have hq1 := fun w => Quote_any s w hs
  have hq2 := fun w => rQuote_any s w hs
  obtain ⟨n, hn⟩ : ∃ n, (quoteB s).length = n := ⟨_, rfl⟩
  rw [hn] at hqs HU hl
  clear hn
  generalize (⟨(quoteB s).toArray⟩ : ByteArray) = q at *
  have HT := Lib.hid hT; clear hT
  go_enter Tryd.func7, Tryd.ntmps7
  go_wp2_with fail
  refine (few_yes _ _ hs).mono ?_
  rintro e _ ⟨rfl, rfl⟩
  go_wp2_with fail
  refine (few_yes _ _ hr).mono ?_
  rintro e _ ⟨rfl, rfl⟩
  go_wp2_with fail
  refine (hq1 _).mono ?_
  rintro e w1 ⟨rfl, b1⟩
  go_wp2_with fail
  refine (Unquote_any (q ++ r) _ hqr (Utf8Tabs_below HT.out b1)).mono ?_
  rintro e w2 ⟨rfl, b2⟩
  rw [HU.out]
  have B2 := b1.trans (b2.mono b1.size)
  go_wp2_with fail
  refine (hq2 _).mono ?_
  rintro e w3 ⟨rfl, b3⟩
  have B3 := B2.trans (b3.mono B2.size)
  go_wp2_with fail
  refine (knows_any _ (Utf8Tabs_below HT.out B3)).mono ?_
  rintro e w4 ⟨rfl, b4⟩
  have B4 := B3.trans (b4.mono B3.size)
  go_wp2
  go_ret
  exact ⟨rfl, B4⟩

theorem TQuotes_any (s r : ByteArray) (w : World) (hT : Lib.Utf8Tabs 0 1 w) :
    Calls Tryd.prog 7 #[.string s, .string r] w fun e w' => e = .returned (.bool true) ∧ Below w.heap.size w w' := by
  by_cases hs : s.size ≤ 300
  · by_cases hr : r.size ≤ 300
    · exact TQuotes_else s r w hs hr hT
    · exact TQuotes_few2 s r w hs (by omega) hT
  · exact TQuotes_few s r w (by omega) hT
end Go.Proofs.YtjedcbmkhifbnaaDoor
