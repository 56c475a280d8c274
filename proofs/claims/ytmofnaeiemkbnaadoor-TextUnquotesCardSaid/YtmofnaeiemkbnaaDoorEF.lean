/- The reference's escape answers as text.unescape. -/
import Derived.Test.YtmofnaeiemkbnaaDoorEE
namespace Go.Proofs.YtmofnaeiemkbnaaDoor
open Go.RowKit Go.Shelf

/-- The reference's answer t, k, e goes with the program's answer q: the same error, and where there is none the same text, one byte less. -/
def EscOk (q : ByteArray × Int × Int) (t : ByteArray) (k e : Int) : Prop := e = q.2.2 ∧ (q.2.2 = 0 → t = q.1 ∧ 1 + k = q.2.1)
theorem cut_front (s : ByteArray) (h : 1 < s.size) : (s.extract 1 s.size).extract 0 1 = s.extract 1 2 := by
  apply ByteArray.ext
  apply Array.ext'
  rw [ByteArray.data_extract, ByteArray.data_extract, ByteArray.data_extract]
  simp only [Array.toList_extract, List.extract_eq_take_drop, List.drop_zero, List.take_take]
  congr 1
  omega
theorem escZ_x (s : ByteArray) (h : 1 < s.size) (hL : s[1] = 120) : escZ s = thenZ 120 (bracesZ s 2 2 2) := by
  unfold escZ
  rw [dif_pos h]
  simp [hL]
theorem escZ_u (s : ByteArray) (h : 1 < s.size) (hL : s[1] = 117) : escZ s = thenZ 117 (bracesZ s 2 1 6) := by
  unfold escZ
  rw [dif_pos h]
  simp [hL]
theorem braces_line (s : ByteArray) (n least most : Nat) (h : n < s.size) (hL : s[n] = 10) : bracesZ s n least most = (0, 0, 13) := by
  unfold bracesZ
  rw [dif_pos h, if_neg (by rw [hL]; decide)]
  unfold wrongZ
  rw [dif_pos h, if_pos hL]

theorem rEscape_any (s : ByteArray) (w : World) (h1 : 1 ≤ s.size) (hs : s.size ≤ 4000) :
    Calls Tryd.prog 43 #[.string (s.extract 1 s.size)] w fun r w' => (∃ t k e, r = .returned (.tuple #[.string t, .int .i64 k, .int .i64 e]) ∧ EscOk (escZ s) t k e) ∧ Below w.heap.size w w' := by
  have hz := cut_size s 1
  by_cases h : 1 < s.size
  · have z0 : 0 < (s.extract 1 s.size).size := by omega
    have za := cut_at s 1 0 z0 (by omega)
    simp only [Nat.add_zero] at za
    have hcs : (s.extract 1 s.size).extract 1 (s.extract 1 s.size).size = s.extract 2 s.size := by
      apply ByteArray.ext
      apply Array.ext'
      rw [cut_list, cut_list, cut_list, List.drop_drop]
    by_cases n34 : s[1] = 34
    · refine (rEscape_quote _ w z0 (za.trans n34)).mono ?_
      rintro r w' ⟨rfl, b⟩
      exact ⟨⟨_, _, _, rfl, by simp [EscOk, escZ, h, n34, cut_front]⟩, b⟩
    by_cases n92 : s[1] = 92
    · refine (rEscape_back _ w z0 (za.trans n92)).mono ?_
      rintro r w' ⟨rfl, b⟩
      exact ⟨⟨_, _, _, rfl, by simp [EscOk, escZ, h, n92, cut_front]⟩, b⟩
    by_cases n110 : s[1] = 110
    · refine (rEscape_n _ w z0 (za.trans n110)).mono ?_
      rintro r w' ⟨rfl, b⟩
      exact ⟨⟨_, _, _, rfl, by simp [EscOk, escZ, h, n110]⟩, b⟩
    by_cases n114 : s[1] = 114
    · refine (rEscape_r _ w z0 (za.trans n114)).mono ?_
      rintro r w' ⟨rfl, b⟩
      exact ⟨⟨_, _, _, rfl, by simp [EscOk, escZ, h, n114]⟩, b⟩
    by_cases n116 : s[1] = 116
    · refine (rEscape_t _ w z0 (za.trans n116)).mono ?_
      rintro r w' ⟨rfl, b⟩
      exact ⟨⟨_, _, _, rfl, by simp [EscOk, escZ, h, n116]⟩, b⟩
    by_cases n10 : s[1] = 10
    · refine (rEscape_line _ w z0 (za.trans n10)).mono ?_
      rintro r w' ⟨rfl, b⟩
      exact ⟨⟨_, _, _, rfl, by simp [EscOk, escZ, h, n10, wrongZ]⟩, b⟩
    by_cases n120 : s[1] = 120
    · rw [escZ_x s h n120]
      by_cases hn : ∃ h2 : 2 < s.size, s[2] = 10
      · obtain ⟨h2, hn⟩ := hn
        have zb := cut_at s 1 1 (by omega) (by omega)
        refine (rEscape_xline _ w z0 (za.trans n120) (by omega) (zb.trans hn)).mono ?_
        rintro r w' ⟨rfl, b⟩
        exact ⟨⟨_, _, _, rfl, by rw [braces_line s 2 2 2 h2 hn]; simp [EscOk, thenZ]⟩, b⟩
      · obtain ⟨n, k, e, hB⟩ : ∃ n k e, bracedR (s.extract 2 s.size) 2 2 = (n, k, e) := ⟨_, _, _, rfl⟩
        obtain ⟨q1, q2⟩ := braces_shift s 2 2 2 (fun h2 h3 => hn ⟨h2, h3⟩)
        have hsm := bracedR_small (s.extract 2 s.size) 2 2 (by omega)
        rw [hB] at q1 q2 hsm
        refine (rEscape_x (n := n) (k := k) (e := e) _ w z0 (by omega) (za.trans n120) (fun h2 h3 => hn ⟨by omega, (cut_at s 1 1 h2 (by omega)).symm.trans h3⟩) (by rw [hcs]; exact hB)).mono ?_
        rintro r w' ⟨rfl, b⟩
        refine ⟨⟨_, _, _, rfl, ?_⟩, b⟩
        try dsimp only at hsm
        generalize bracesZ s 2 2 2 = q at *
        obtain ⟨x, y, z⟩ := q
        try dsimp only at q1
        try dsimp only at q2
        subst q1
        by_cases he : e = 0
        · obtain ⟨rfl, rfl⟩ := q2 he
          subst he
          refine ⟨rfl, fun _ => ⟨?_, ?_⟩⟩
          · show (⟨#[UInt8.ofNat (n % 256).toNat]⟩ : ByteArray) = ⟨#[n.toNat.toUInt8]⟩
            have : (n % 256).toNat = n.toNat % 256 := by omega
            rw [this]
            congr 3
            apply UInt8.toNat_inj.1
            simp
          · show 1 + (1 + k) = k + 2
            omega
        · refine ⟨by unfold thenZ; rw [if_pos he], fun h => absurd (by unfold thenZ at h; rw [if_pos he] at h; exact h) he⟩
    by_cases n117 : s[1] = 117
    · rw [escZ_u s h n117]
      by_cases hn : ∃ h2 : 2 < s.size, s[2] = 10
      · obtain ⟨h2, hn⟩ := hn
        have zb := cut_at s 1 1 (by omega) (by omega)
        refine (rEscape_uline _ w z0 (za.trans n117) (by omega) (zb.trans hn)).mono ?_
        rintro r w' ⟨rfl, b⟩
        exact ⟨⟨_, _, _, rfl, by rw [braces_line s 2 1 6 h2 hn]; simp [EscOk, thenZ]⟩, b⟩
      · obtain ⟨n, k, e, hB⟩ : ∃ n k e, bracedR (s.extract 2 s.size) 1 6 = (n, k, e) := ⟨_, _, _, rfl⟩
        obtain ⟨q1, q2⟩ := braces_shift s 2 1 6 (fun h2 h3 => hn ⟨h2, h3⟩)
        have hsm := bracedR_small (s.extract 2 s.size) 1 6 (by omega)
        rw [hB] at q1 q2 hsm
        rw [← hcs] at hB
        have zs : (s.extract 1 s.size).size ≤ 4000 := by omega
        have zn : ∀ h1 : 1 < (s.extract 1 s.size).size, ¬ (s.extract 1 s.size)[1] = 10 := fun h2 h3 => hn ⟨by omega, (cut_at s 1 1 h2 (by omega)).symm.trans h3⟩
        have zc := za.trans n117
        try dsimp only at hsm
        generalize bracesZ s 2 1 6 = q at *
        obtain ⟨x, y, z⟩ := q
        try dsimp only at q1
        try dsimp only at q2
        subst q1
        by_cases he : e = 0
        · obtain ⟨rfl, rfl⟩ := q2 he
          have hv : Lib.validRune (n.toNat : Int) = decide ((0 ≤ n ∧ n < 0xD800) ∨ (0xDFFF < n ∧ n ≤ 0x10FFFF)) := by rw [Int.toNat_of_nonneg hsm.1.1]; rfl
          by_cases v1 : n < 55296
          · refine (rEscape_ulow _ w z0 zs zc zn hB he v1).mono ?_
            rintro r w' ⟨rfl, b⟩
            refine ⟨⟨_, _, _, rfl, ?_⟩, b⟩
            have hv' : Lib.validRune (n.toNat : Int) = true := by rw [hv]; exact decide_eq_true (by omega)
            have hq : thenZ 117 (n, k + ↑(2 : Nat), e) = (Utf8.encode n, k + ↑(2 : Nat), 0) := by
              unfold thenZ decodeZ
              rw [if_neg (by simpa using he), if_neg (by decide), if_pos hv', Int.toNat_of_nonneg hsm.1.1]
            rw [hq]
            refine ⟨rfl, fun _ => ⟨rfl, ?_⟩⟩
            show 1 + (1 + k) = k + 2
            omega
          by_cases v2 : n ≤ 57343
          · refine (rEscape_usur _ w z0 zs zc zn hB he (by omega) v2).mono ?_
            rintro r w' ⟨rfl, b⟩
            refine ⟨⟨_, _, _, rfl, ?_⟩, b⟩
            have hv' : ¬ Lib.validRune (n.toNat : Int) = true := by rw [hv, decide_eq_true_eq]; omega
            have hq : thenZ 117 (n, k + ↑(2 : Nat), e) = (⟨#[]⟩, 0, 3) := by
              unfold thenZ decodeZ
              rw [if_neg (by simpa using he), if_neg (by decide), if_neg hv']
            rw [hq]
            exact ⟨rfl, fun h => absurd h (by decide)⟩
          by_cases v3 : n ≤ 1114111
          · refine (rEscape_uhigh _ w z0 zs zc zn hB he (by omega) v3).mono ?_
            rintro r w' ⟨rfl, b⟩
            refine ⟨⟨_, _, _, rfl, ?_⟩, b⟩
            have hv' : Lib.validRune (n.toNat : Int) = true := by rw [hv]; exact decide_eq_true (by omega)
            have hq : thenZ 117 (n, k + ↑(2 : Nat), e) = (Utf8.encode n, k + ↑(2 : Nat), 0) := by
              unfold thenZ decodeZ
              rw [if_neg (by simpa using he), if_neg (by decide), if_pos hv', Int.toNat_of_nonneg hsm.1.1]
            rw [hq]
            refine ⟨rfl, fun _ => ⟨rfl, ?_⟩⟩
            show 1 + (1 + k) = k + 2
            omega
          · refine (rEscape_ubig _ w z0 zs zc zn hB he (by omega)).mono ?_
            rintro r w' ⟨rfl, b⟩
            refine ⟨⟨_, _, _, rfl, ?_⟩, b⟩
            have hv' : ¬ Lib.validRune (n.toNat : Int) = true := by rw [hv, decide_eq_true_eq]; omega
            have hq : thenZ 117 (n, k + ↑(2 : Nat), e) = (⟨#[]⟩, 0, 3) := by
              unfold thenZ decodeZ
              rw [if_neg (by simpa using he), if_neg (by decide), if_neg hv']
            rw [hq]
            exact ⟨rfl, fun h => absurd h (by decide)⟩
        · refine (rEscape_uerr _ w z0 zs zc zn hB he).mono ?_
          rintro r w' ⟨rfl, b⟩
          refine ⟨⟨_, _, _, rfl, ?_⟩, b⟩
          exact ⟨by unfold thenZ; rw [if_pos he], fun h => absurd (by unfold thenZ at h; rw [if_pos he] at h; exact h) he⟩
    refine (rEscape_else _ w z0 (fun h => n10 (za.symm.trans h)) (fun h => n34 (za.symm.trans h)) (fun h => n92 (za.symm.trans h)) (fun h => n110 (za.symm.trans h)) (fun h => n114 (za.symm.trans h)) (fun h => n116 (za.symm.trans h)) (fun h => n120 (za.symm.trans h)) (fun h => n117 (za.symm.trans h))).mono ?_
    rintro r w' ⟨rfl, b⟩
    exact ⟨⟨_, _, _, rfl, by simp [EscOk, escZ, h, n34, n92, n110, n114, n116, n120, n117, n10, wrongZ]⟩, b⟩
  · refine (rEscape_none _ w (by omega)).mono ?_
    rintro r w' ⟨rfl, b⟩
    exact ⟨⟨_, _, _, rfl, by simp [EscOk, escZ, h]⟩, b⟩
end Go.Proofs.YtmofnaeiemkbnaaDoor
