/- The reference's Read: every text of at most 300 bytes and every bound. -/
import Derived.Test.YtmofnaeiemkbnaaDoorN
namespace Go.Proofs.YtmofnaeiemkbnaaDoor
open Go.RowKit

/-- The number that digits spell behind n. -/
def valL : List UInt8 → Nat → Nat
  | [], n => n
  | c :: r, n => valL r (10 * n + (c.toNat - 48))
open Classical in
noncomputable def rreadZ (s : ByteArray) (most : Int) : Int × Int :=
  if startBad s ∨ numB s = false then (0, 3) else if most < 0 ∨ 19 < s.size then (0, 2) else if most < (valL s.data.toList 0 : Nat) then (0, 2) else ((valL s.data.toList 0 : Nat), 0)

theorem byte_lo {s : ByteArray} {k : Nat} (hk : k < s.size) (h : dig8 s[k] = false) : (s[k].toNat : Int) < 48 ∨ (57 < (s[k].toNat : Int)) := by
  simp [dig8, digB] at h; omega

set_option maxHeartbeats 4000000 in
set_option maxRecDepth 100000 in
theorem rRead_bad (s : ByteArray) (most : Int) (w : World) (h : startBad s) :
    Calls Tryd.prog 19 #[.string s, .int .i64 most] w fun e w' => e = .returned (.tuple #[.int .i64 0, .int .i64 3]) ∧ w = w' := by
  rcases h with h | ⟨h0, hb, h1⟩
  · have e1 := toList_nil h
    go_enter Tryd.func19, Tryd.ntmps19
    go_wp2
    go_ret2
    exact ⟨rfl, rfl⟩
  · have e1 := toList_cons h0
    have e2 : (1 : Int) < (s.size : Int) := by omega
    have e3 : ((s[0].toNat : Int) == 48) = true := by rw [hb]; rfl
    clear hb
    go_enter Tryd.func19, Tryd.ntmps19
    go_wp2
    go_ret2
    exact ⟨rfl, rfl⟩

/-- What the reference answers behind the look at the first byte. -/
noncomputable def rrestZ (s : ByteArray) (most : Int) : Int × Int :=
  if numB s = false then (0, 3) else if most < 0 ∨ 19 < s.size then (0, 2) else if most < (valL s.data.toList 0 : Nat) then (0, 2) else ((valL s.data.toList 0 : Nat), 0)

set_option maxHeartbeats 4000000 in
set_option maxRecDepth 100000 in
theorem rRead_else (s : ByteArray) (most : Int) (w : World) (hs : s.size ≤ 300) (hm : most ≤ 9223372036854775807) (h : ¬ startBad s) :
    Calls Tryd.prog 19 #[.string s, .int .i64 most] w fun e w' => e = .returned (.tuple #[.int .i64 (rrestZ s most).1, .int .i64 (rrestZ s most).2]) ∧ w = w' := by
  have h0 : 0 < s.size := by
    rcases Nat.eq_zero_or_pos s.size with h1 | h1
    · exact absurd (.inl h1) h
    · exact h1
  have e1 := toList_cons h0
  have hM := Lib.hid hm; clear hm
  by_cases hb : s[0] = 48
  all_goals
    first
      | (have h1 : (s.size : Int) ≤ 1 := by
           rcases Nat.lt_or_ge 1 s.size with h2 | h2
           · exact absurd (Or.inr ⟨h0, hb, h2⟩) h
           · omega
         have e3 : ((s[0].toNat : Int) == 48) = true := by rw [hb]; rfl)
      | (have e3 : ((s[0].toNat : Int) == 48) = false := by
           rw [beq_eq_false_iff_ne]; intro e; exact hb (UInt8.toNat_inj.1 (show s[0].toNat = 48 by omega)))
    clear hb h
    go_enter Tryd.func19, Tryd.ntmps19
    go_wp2
    go_loop [6] (fun a => ∃ k : Nat, a = .int .i64 k ∧ k ≤ s.size ∧ Hid ((s.data.toList.take k).all dig8 = true)) (fun a => s.size - (intOf a).toNat)
    case atStart => exact ⟨0, rfl, by omega, rfl⟩
    case round =>
      obtain ⟨k, rfl, hk, hA⟩ := hrel
      by_cases hks : k < s.size
      · have g1 : (k : Int) < (s.size : Int) := by omega
        by_cases hd : dig8 s[k] = true
        · have hd' : 48 ≤ (s[k].toNat : Int) ∧ (s[k].toNat : Int) ≤ 57 := by simpa [dig8, digB] using hd
          obtain ⟨d1, d2⟩ := hd'
          have HD := Lib.hid hd; clear hd
          go_wp2
          go_round
          case rel => exact ⟨k + 1, by go_num, by omega, by rw [take_all hks, hA.out, HD.out]; exact rfl⟩
          case measure => simp [intOf]; omega
        · have HR : Hid (rrestZ s most = (0, 3)) := if_pos (all_bad hks (Bool.eq_false_iff.2 hd))
          have hd' := byte_lo hks (Bool.eq_false_iff.2 hd)
          clear hd
          by_cases hd1 : (s[k].toNat : Int) < 48
          · clear hd'
            go_wp2
            go_ret2
            exact ⟨by rw [HR.out]; rfl, rfl⟩
          · have hd2 : 57 < (s[k].toNat : Int) := by omega
            have hd3 : 48 ≤ (s[k].toNat : Int) := by omega
            clear hd'
            go_wp2
            go_ret2
            exact ⟨by rw [HR.out]; rfl, rfl⟩
      · have hN := all_done hks hA.out
        have HN := Lib.hid hN; clear hN
        by_cases hm0 : most < 0
        · have HR : Hid (rrestZ s most = (0, 2)) := by unfold rrestZ; rw [if_neg (by rw [HN.out]; simp), if_pos (Or.inl hm0)]; exact rfl
          go_wp2
          go_ret2
          exact ⟨by rw [HR.out]; rfl, rfl⟩
        · by_cases h19 : 19 < s.size
          · have HR : Hid (rrestZ s most = (0, 2)) := by unfold rrestZ; rw [if_neg (by rw [HN.out]; simp), if_pos (Or.inr h19)]; exact rfl
            have g2 : (19 : Int) < (s.size : Int) := by omega
            go_wp2
            go_ret2
            exact ⟨by rw [HR.out]; rfl, rfl⟩
          · have HR : Hid (rrestZ s most = if most < (valL s.data.toList 0 : Nat) then (0, 2) else (((valL s.data.toList 0 : Nat) : Int), 0)) := by
              unfold rrestZ; rw [if_neg (by rw [HN.out]; simp), if_neg (by rintro (h | h) <;> contradiction)]; exact rfl
            have g2 : (s.size : Int) ≤ 19 := by omega
            go_wp2
            go_loop [7, 8] (fun u a => ∃ k n : Nat, a = .int .i64 k ∧ u = .int .u64 n ∧ k ≤ s.size ∧ Hid (valL (s.data.toList.drop k) n = valL s.data.toList 0 ∧ n < 10 ^ k)) (fun _ a => s.size - (intOf a).toNat)
            case atStart => exact ⟨0, 0, rfl, rfl, by omega, rfl, by decide⟩
            case round =>
              clear hk hks hA
              obtain ⟨k, n, rfl, rfl, hk, hV⟩ := hrel
              by_cases hks : k < s.size
              · obtain ⟨d1, d2⟩ := num_at HN.out hks
                have hV2 := hV.out.1
                rw [drop_at hks, valL] at hV2
                have hn18 : n < 1000000000000000000 := by
                  have h10 : 10 ^ k ≤ 10 ^ 18 := Nat.pow_le_pow_right (by omega) (by omega)
                  have := hV.out.2
                  have e : (10 : Nat) ^ 18 = 1000000000000000000 := rfl
                  omega
                have hn' : 10 * n + (s[k].toNat - 48) < 10 ^ (k + 1) := by rw [Nat.pow_succ]; have := hV.out.2; omega
                have m1 : IntKind.u64.wrap (10 * (n : Int)) = 10 * (n : Int) := IntWalk.u64_in _ (by omega)
                have m2 : IntKind.u64.wrap (10 * (n : Int) + ((s[k].toNat : Int) - 48)) = 10 * (n : Int) + ((s[k].toNat : Int) - 48) := IntWalk.u64_in _ (by omega)
                have m3 : IntKind.u64.wrap ((s[k].toNat : Int) - 48) = (s[k].toNat : Int) - 48 := IntWalk.u64_in _ (by omega)
                have m4 : 10 * (n : Int) + ((s[k].toNat : Int) - 48) = ((10 * n + (s[k].toNat - 48) : Nat) : Int) := by omega
                have HV := Lib.hid (And.intro hV2 hn'); clear hV2 hn' hn18 hV
                have M4 := Lib.hid m4; clear m4
                have g3 : (k : Int) < (s.size : Int) := by omega
                go_wp2
                go_round
                case rel => exact ⟨k + 1, 10 * n + (s[k].toNat - 48), by go_num, by rw [M4.out], by omega, HV⟩
                case measure => simp [intOf]; omega
              · have hV2 := hV.out.1
                rw [drop_end hks, valL] at hV2
                have hR2 := HR.out
                rw [← hV2] at hR2
                have hu : IntKind.u64.wrap most = most := IntWalk.u64_in _ (by have := hM.out; omega)
                clear hV2 HR hV
                by_cases hlt : most < (n : Int)
                · rw [if_pos hlt] at hR2
                  have HR := Lib.hid hR2; clear hR2
                  go_wp2
                  go_ret2
                  exact ⟨by rw [HR.out]; rfl, rfl⟩
                · rw [if_neg hlt] at hR2
                  have HR := Lib.hid hR2; clear hR2
                  have hle : (n : Int) ≤ most := by omega
                  have hi : IntKind.i64.wrap (n : Int) = (n : Int) := IntWalk.i64_in _ (by have := hM.out; omega)
                  clear hlt
                  go_wp2
                  go_ret2
                  exact ⟨by rw [HR.out]; rfl, rfl⟩

theorem rRead_any (s : ByteArray) (most : Int) (w : World) (hs : s.size ≤ 300) (hm : most ≤ 9223372036854775807) :
    Calls Tryd.prog 19 #[.string s, .int .i64 most] w fun e w' => e = .returned (.tuple #[.int .i64 (rreadZ s most).1, .int .i64 (rreadZ s most).2]) ∧ w = w' := by
  by_cases h : startBad s
  · rw [show rreadZ s most = (0, 3) from if_pos (Or.inl h)]
    exact rRead_bad s most w h
  · have e : rreadZ s most = rrestZ s most := by
      unfold rreadZ rrestZ
      by_cases hn : numB s = false
      · rw [if_pos (Or.inr hn), if_pos hn]
      · rw [if_neg (by rintro (h1 | h1) <;> contradiction), if_neg hn]
    rw [e]
    exact rRead_else s most w hs hm h

/-! The two agree. -/
theorem valL_mono : ∀ (l : List UInt8) (n : Nat), n ≤ valL l n
  | [], _ => Nat.le_refl _
  | c :: r, n => Nat.le_trans (by omega) (valL_mono r (10 * n + (c.toNat - 48)))
theorem valL_lo : ∀ (l : List UInt8) (n : Nat), n * 10 ^ l.length ≤ valL l n
  | [], n => by simp [valL]
  | c :: r, n => by
    have h := valL_lo r (10 * n + (c.toNat - 48))
    have e : n * 10 ^ (r.length + 1) = (10 * n) * 10 ^ r.length := by rw [Nat.pow_succ]; rw [Nat.mul_comm 10 n, Nat.mul_assoc, Nat.mul_comm 10]
    rw [List.length_cons, e, valL]
    exact Nat.le_trans (Nat.mul_le_mul_right _ (by omega)) h
theorem fold_val (most : Int) : ∀ (l : List UInt8) (n : Nat), l.all dig8 = true → (n : Int) ≤ most ∨ l ≠ [] → foldR most l n = if most < (valL l n : Nat) then (0, 2) else (((valL l n : Nat) : Int), 0)
  | [], n, _, h => by
    have : (n : Int) ≤ most := h.resolve_right (fun h => h rfl)
    rw [foldR, valL, if_neg (by omega)]
  | c :: r, n, hd, _ => by
    simp only [List.all_cons, Bool.and_eq_true] at hd
    obtain ⟨hc, hr⟩ := hd
    have hc' : 48 ≤ (c.toNat : Int) ∧ (c.toNat : Int) ≤ 57 := by simpa [dig8, digB] using hc
    have hn : ((10 * n + (c.toNat - 48) : Nat) : Int) = 10 * (n : Int) + ((c.toNat : Int) - 48) := by omega
    rw [foldR, valL]
    by_cases h1 : most < (c.toNat : Int) - 48 ∨ (most - ((c.toNat : Int) - 48)) / 10 < n
    · have := valL_mono r (10 * n + (c.toNat - 48))
      rw [if_pos h1, if_pos (by omega)]
    · rw [if_neg h1, ← hn]
      exact fold_val most r _ hr (.inl (by omega))
theorem read_eq (s : ByteArray) (most : Int) (hm : most ≤ 9223372036854775807) : readZ s most = rreadZ s most := by
  unfold readZ rreadZ
  by_cases h : startBad s ∨ numB s = false
  · rw [if_pos h, if_pos h]
  rw [if_neg h, if_neg h]
  have hs : ¬ startBad s := fun h1 => h (.inl h1)
  have hn : numB s = true := by cases hb : numB s; exact absurd (.inr hb) h; rfl
  have h0 : 0 < s.size := by
    rcases Nat.eq_zero_or_pos s.size with h1 | h1
    · exact absurd (.inl h1) hs
    · exact h1
  have hl : s.data.toList.length = s.size := Array.length_toList
  have hne : s.data.toList ≠ [] := by intro e; rw [e] at hl; simp at hl; omega
  have hf := fold_val most s.data.toList 0 hn (.inr hne)
  have hv := valL_mono s.data.toList 0
  rw [show ((0 : Nat) : Int) = 0 from rfl] at hf
  rw [hf]
  by_cases h1 : most < 0 ∨ 19 < s.size
  · rw [if_pos h1, if_pos ?_]
    rcases h1 with h1 | h1
    · omega
    · -- more than 19 digits, the first of which is none of 0
      have h48 : ¬ s[0] = 48 := fun e => hs (.inr ⟨h0, e, by omega⟩)
      have hd := num_at hn h0
      have e0 := drop_at h0
      rw [List.drop_zero] at e0
      rw [e0, valL]
      have h3 := valL_lo (s.data.toList.drop 1) (10 * 0 + (s[0].toNat - 48))
      have hl1 : (s.data.toList.drop 1).length = s.size - 1 := by rw [List.length_drop, hl]
      rw [hl1] at h3
      have h4 : 10 ^ 19 ≤ 10 ^ (s.size - 1) := Nat.pow_le_pow_right (by omega) (by omega)
      have h5 : 1 ≤ 10 * 0 + (s[0].toNat - 48) := by
        have : s[0].toNat ≠ 48 := fun e => h48 (UInt8.toNat_inj.1 e)
        omega
      have h6 := Nat.mul_le_mul_right (10 ^ (s.size - 1)) h5
      have e19 : (10 : Nat) ^ 19 = 10000000000000000000 := rfl
      revert h3 h6
      generalize valL (s.data.toList.drop 1) (10 * 0 + (s[0].toNat - 48)) = V
      generalize (10 * 0 + (s[0].toNat - 48)) * 10 ^ (s.size - 1) = P
      intro h3 h6
      omega
  · rw [if_neg h1]
end Go.Proofs.YtmofnaeiemkbnaaDoor
