/- The statement EditApplies' body. -/
import Derived.Test.YtjbfnlnfhafafaaN
import Derived.Test.YtjbfnlnfhafafaaF
import Derived.Deep.RegionHeld3
namespace Go.Proofs.Ytjbfnlnfhafafaa
open Go.RowKit

theorem Eds.below {w w' : World} {B B' : Nat} {ao : Option Addr} {L : List Ed} (h : Eds w B ao L) (b : Below B w w') (hB : B ≤ B') : Eds w' B' ao L := by
  intro pre x rest e
  obtain ⟨g, o, e1, hg, c0, c1, c2⟩ := h pre x rest e
  exact ⟨g, o, e1, by omega, (b.cell (p := ⟨g, o + pre.length * 3, none⟩) hg).trans c0, (b.cell (p := ⟨g, o + pre.length * 3 + 1, none⟩) hg).trans c1, (b.cell (p := ⟨g, o + pre.length * 3 + 2, none⟩) hg).trans c2⟩
theorem few_mem : ∀ (L : List ByteArray) (x : ByteArray), x ∈ L → min x.size 5000 ≤ fewN L
  | [], _, h => by simp at h
  | y :: r, x, h => by
    rw [fewN]
    rcases List.mem_cons.1 h with rfl | h
    · omega
    · have := few_mem r x h; omega
theorem few1_is {x : ByteArray} (h : decide (fewN [x] ≤ 4000) = true) : x.size ≤ 4000 := by
  rw [decide_eq_true_eq] at h
  simp only [fewN] at h
  omega
theorem fewL_is {L : List Ed} (h : decide (fewN (L.map fun x => x.2.2) ≤ 4000) = true) : ∀ x ∈ L, x.2.2.size ≤ 4000 := by
  rw [decide_eq_true_eq] at h
  intro x hx
  have := few_mem (L.map fun x => x.2.2) x.2.2 (List.mem_map.2 ⟨x, hx, rfl⟩)
  omega

theorem fewL_any {ao : Option Addr} {L : List Ed} {cap : Nat} {w : World} {b : Bool} (hL : L.length ≤ 40) (ht : ∀ x ∈ L, x.2.2.size ≤ maxLen) (hS : Strs w w.heap.size ao (L.map fun x => x.2.2)) (hb : decide (fewN (L.map fun x => x.2.2) ≤ 4000) = b) :
    Calls Try.prog 8 #[.slice ao L.length cap] w fun e w' => e = .returned (.bool b) ∧ Below w.heap.size w w' := by
  have h := few_any ao (L.map fun x => x.2.2) cap w (by rw [List.length_map]; omega) (by intro x hx; obtain ⟨y, hy, rfl⟩ := List.mem_map.1 hx; have := ht y hy; unfold maxLen at this; omega) hS
  rw [List.length_map, hb] at h
  exact h

set_option maxHeartbeats 1000000 in
theorem EApplies_long (s : ByteArray) (ao : Option Addr) (L : List Ed) (cap : Nat) (w : World) (hL : 40 < L.length) :
    Calls Try.prog 3 #[.string s, .slice ao L.length cap] w fun e w' => e = .returned (.bool true) ∧ Below w.heap.size w w' := by
  go_enter Try.func3, Try.ntmps3
  go_wp2_with fail
  refine (knows_any _).mono ?_
  rintro e w2 ⟨rfl, b2⟩
  go_wp2
  go_ret
  exact ⟨rfl, b2⟩

set_option maxHeartbeats 1000000 in
theorem EApplies_few (s : ByteArray) (ao : Option Addr) (L : List Ed) (cap : Nat) (w : World) (hL : L.length ≤ 40) (hs : s.size ≤ maxLen) (hf : decide (fewN [s] ≤ 4000) = false) :
    Calls Try.prog 3 #[.string s, .slice ao L.length cap] w fun e w' => e = .returned (.bool true) ∧ Below w.heap.size w w' := by
  have HF := Lib.hid hf; clear hf
  have n1 : (w.alloc (.cells #[.string s] 9)).heap[w.heap.size]? = some (.cells #[.string s] 9 (0, 0)) := World.alloc_heap_new _ _
  have n3 := (Below.refl w.heap.size w).alloc (Nat.le_refl _) (.cells #[.string s] 9)
  go_enter Try.func3, Try.ntmps3
  go_wp2_with fail
  refine (few1_any s _ _ hs n1 HF.out).mono ?_
  rintro e w1 ⟨rfl, b1⟩
  have B1 := n3.trans (b1.mono (by simp))
  clear n1 n3 b1
  go_wp2_with fail
  refine (knows_any _).mono ?_
  rintro e w2 ⟨rfl, b2⟩
  have B2 := B1.trans (b2.mono B1.size)
  go_wp2
  go_ret
  exact ⟨rfl, B2⟩

set_option maxHeartbeats 1000000 in
theorem EApplies_ins (s : ByteArray) (ao : Option Addr) (L : List Ed) (cap : Nat) (w : World) (hL : L.length ≤ 40) (hs : s.size ≤ maxLen) (hE : Eds w w.heap.size ao L) (ht : ∀ x ∈ L, x.2.2.size ≤ maxLen) (hf : decide (fewN [s] ≤ 4000) = true) (hg : decide (fewN (L.map fun x => x.2.2) ≤ 4000) = false) :
    Calls Try.prog 3 #[.string s, .slice ao L.length cap] w fun e w' => e = .returned (.bool true) ∧ Below w.heap.size w w' := by
  have HF := Lib.hid hf; clear hf
  have HG := Lib.hid hg; clear hg
  have HE := Lib.hid hE; clear hE
  have HT := Lib.hid ht; clear ht
  have n1 : (w.alloc (.cells #[.string s] 9)).heap[w.heap.size]? = some (.cells #[.string s] 9 (0, 0)) := World.alloc_heap_new _ _
  have n3 := (Below.refl w.heap.size w).alloc (Nat.le_refl _) (.cells #[.string s] 9)
  go_enter Try.func3, Try.ntmps3
  go_wp2_with fail
  refine (few1_any s _ _ hs n1 HF.out).mono ?_
  rintro e w1 ⟨rfl, b1⟩
  have B1 := n3.trans (b1.mono (by simp))
  clear n1 n3 b1
  go_wp2_with fail
  refine (ins_any ao L cap w1 hL (HE.out.below B1 B1.size)).mono ?_
  rintro e w2 ⟨v, rfl, hv, b2⟩
  have B2 := B1.trans (b2.mono B1.size)
  obtain ⟨ao', cap', rfl, hS⟩ := strs_of_own hv (Nat.le_refl _)
  clear hv B1 b2
  have hQ := fewL_any (cap := cap') hL HT.out hS HG.out
  go_wp2_with fail
  refine hQ.mono ?_
  rintro e w3 ⟨rfl, b3⟩
  have B3 := B2.trans (b3.mono B2.size)
  clear hS hQ B2 b3
  go_wp2_with fail
  refine (knows_any _).mono ?_
  rintro e w4 ⟨rfl, b4⟩
  have B4 := B3.trans (b4.mono B3.size)
  go_wp2
  go_ret
  exact ⟨rfl, B4⟩

set_option maxHeartbeats 4000000 in
theorem EApplies_else (s : ByteArray) (ao : Option Addr) (L : List Ed) (cap : Nat) (w : World) (hL : L.length ≤ 40) (hs : s.size ≤ maxLen) (hE : Eds w w.heap.size ao L) (hf : decide (fewN [s] ≤ 4000) = true) (hg : decide (fewN (L.map fun x => x.2.2) ≤ 4000) = true) (ht : ∀ x ∈ L, x.2.2.size ≤ maxLen) :
    Calls Try.prog 3 #[.string s, .slice ao L.length cap] w fun e w' => e = .returned (.bool true) ∧ Below w.heap.size w w' := by
  have hss := few1_is hf
  have HS := Lib.hid (fewL_is hg)
  have HF := Lib.hid hf; clear hf
  have HG := Lib.hid hg; clear hg
  have HE := Lib.hid hE; clear hE
  have HT := Lib.hid ht; clear ht
  have n1 : (w.alloc (.cells #[.string s] 9)).heap[w.heap.size]? = some (.cells #[.string s] 9 (0, 0)) := World.alloc_heap_new _ _
  have n3 := (Below.refl w.heap.size w).alloc (Nat.le_refl _) (.cells #[.string s] 9)
  go_enter Try.func3, Try.ntmps3
  go_wp2_with fail
  refine (few1_any s _ _ hs n1 HF.out).mono ?_
  rintro e w1 ⟨rfl, b1⟩
  have B1 := n3.trans (b1.mono (by simp))
  clear n1 n3 b1
  go_wp2_with fail
  refine (ins_any ao L cap w1 hL (HE.out.below B1 B1.size)).mono ?_
  rintro e w2 ⟨v, rfl, hv, b2⟩
  have B2 := B1.trans (b2.mono B1.size)
  obtain ⟨ao', cap', rfl, hS⟩ := strs_of_own hv (Nat.le_refl _)
  clear hv B1 b2
  have hQ := fewL_any (cap := cap') hL HT.out hS HG.out
  go_wp2_with fail
  refine hQ.mono ?_
  rintro e w3 ⟨rfl, b3⟩
  have B3 := B2.trans (b3.mono B2.size)
  clear hS hQ B2 b3
  have hA1 := fun w' (b : Below w.heap.size w w') => Apply_any s ao L cap w' (by omega) (by omega) (fun x hx => Nat.le_trans (HS.out x hx) (by decide)) (HE.out.below b b.size)
  have hA2 := fun w' (b : Below w.heap.size w w') => rApply_any s ao L cap w' (by omega) (by omega) (fun x hx => Nat.le_trans (HS.out x hx) (by decide)) (HE.out.below b b.size)
  generalize (applyL s L).1 = ar at hA1 hA2
  generalize (applyL s L).2 = af at hA1 hA2
  have HA1 := Lib.hid hA1
  have HA2 := Lib.hid hA2
  clear hA1 hA2
  go_wp2_with fail
  refine (HA1.out _ B3).mono ?_
  rintro e w4 ⟨rfl, b4⟩
  have B4 := B3.trans (b4.mono B3.size)
  clear B3 b4
  go_wp2_with fail
  refine (HA2.out _ B4).mono ?_
  rintro e w5 ⟨rfl, b5⟩
  have B5 := B4.trans (b5.mono B4.size)
  clear B4 b5 HA1 HA2
  go_wp2_with fail
  go_loopw [9] (fun i wr => ∃ (pre rest : List Ed), i = .int .i64 pre.length ∧ Hid (pre ++ rest = L) ∧ Below w.heap.size w wr) (fun i _ => L.length - (intOf i).toNat)
  case atStart => exact ⟨[], L, rfl, rfl, B5⟩
  case round =>
    obtain ⟨pre, rest, rfl, hA, hb⟩ := hrel
    rcases rest with _ | ⟨⟨a, d, t⟩, rest⟩
    · have hL' := hA.out
      rw [List.append_nil] at hL'
      subst hL'
      go_wp2_with fail
      refine (knows_any _).mono ?_
      rintro e w7 ⟨rfl, b7⟩
      have B7 := hb.trans (b7.mono hb.size)
      go_wp2
      go_ret
      exact ⟨rfl, B7⟩
    · have hL' := hA.out
      obtain ⟨g, o, rfl, hg, p0, p1, p2⟩ := HE.out _ _ _ hL'
      have hlt : pre.length < L.length := by rw [← hL']; simp
      have q0 := (hb.cell (p := ⟨g, o + pre.length * 3, none⟩) hg).trans p0
      have q1 := (hb.cell (p := ⟨g, o + pre.length * 3 + 1, none⟩) hg).trans p1
      have q2 := (hb.cell (p := ⟨g, o + pre.length * 3 + 2, none⟩) hg).trans p2
      obtain ⟨x1, x2, x3, f, hz⟩ : ∃ x1 x2 x3 f, backZ s a d t.size = (x1, x2, x3, f) := ⟨_, _, _, _, rfl⟩
      have HZ := Lib.hid hz
      clear hL' hz B5
      generalize L.length = N at *
      have hB1 := fun w' => Back_any s t a d w' (by omega)
      have hB2 := fun w' => rBack_any s t a d w' (by omega)
      have hR1 := fun w' => Right_any s t a d w' (by omega)
      have hR2 := fun w' => rRight_any s t a d w' (by omega)
      rw [HZ.out] at hB1 hB2
      generalize rightB s.size a d = rb at hR1 hR2
      have HB1 := Lib.hid hB1; have HB2 := Lib.hid hB2; have HR1 := Lib.hid hR1; have HR2 := Lib.hid hR2
      clear hB1 hB2 hR1 hR2
      go_wp2_with fail
      refine (HB1.out _).mono ?_
      rintro e w6 ⟨rfl, b6⟩
      have B6 := hb.trans (b6.mono hb.size)
      have v7 := EdAt.new w6 x1 x2 x3
      have B7 := B6.alloc B6.size (.cells #[.int .i64 x1, .int .i64 x2, .string x3] 32)
      clear q0 q1 q2 b6
      have q0 := (B7.cell (p := ⟨g, o + pre.length * 3, none⟩) hg).trans p0
      have q1 := (B7.cell (p := ⟨g, o + pre.length * 3 + 1, none⟩) hg).trans p1
      have q2 := (B7.cell (p := ⟨g, o + pre.length * 3 + 2, none⟩) hg).trans p2
      have hz6 := B6.size
      clear B6
      go_wp2_with fail
      refine (HB2.out _).mono ?_
      rintro e w8 ⟨rfl, b8⟩
      have v8 := v7.below b8 v7.lt
      have B8 := B7.trans (b8.mono B7.size)
      have v9 := v8.alloc (.cells #[.int .i64 x1, .int .i64 x2, .string x3] 32)
      have u9 := EdAt.new w8 x1 x2 x3
      have B9 := B8.alloc B8.size (.cells #[.int .i64 x1, .int .i64 x2, .string x3] 32)
      clear q0 q1 q2 v7 B7 v8 b8
      have q0 := (B9.cell (p := ⟨g, o + pre.length * 3, none⟩) hg).trans p0
      have q1 := (B9.cell (p := ⟨g, o + pre.length * 3 + 1, none⟩) hg).trans p1
      have q2 := (B9.cell (p := ⟨g, o + pre.length * 3 + 2, none⟩) hg).trans p2
      have c0 := v9.c0; have c1 := v9.c1; have c2 := v9.c2
      have d0 := u9.c0; have d1 := u9.c1; have d2 := u9.c2
      have hz8 := B8.size
      clear B8
      go_wp2_with fail
      have hl6 : w6.heap.size < (w8.alloc (.cells #[.int .i64 x1, .int .i64 x2, .string x3] 32)).heap.size := v9.lt
      have hl8 : w8.heap.size < (w8.alloc (.cells #[.int .i64 x1, .int .i64 x2, .string x3] 32)).heap.size := u9.lt
      have hlw := B9.size
      clear HE HF HG HS HT HB1 HB2 HZ hss
      generalize hb6 : w6.heap.size = h6 at *
      generalize hb8 : w8.heap.size = h8 at *
      generalize w8.alloc (.cells #[.int .i64 x1, .int .i64 x2, .string x3] 32) = w9 at *
      generalize hbw : w.heap.size = hw at *
      have hl6' : h6 < w9.drew.heap.size := hl6
      have hl8' : h8 < w9.drew.heap.size := hl8
      have hlw' : hw ≤ w9.drew.heap.size := hlw
      go_region_held3 (fun w' => w'.cell? ⟨g, o + pre.length * 3, none⟩ = some (.int .i64 a) ∧ w'.cell? ⟨g, o + pre.length * 3 + 1, none⟩ = some (.int .i64 d) ∧ w'.cell? ⟨g, o + pre.length * 3 + 2, none⟩ = some (.string t) ∧ w'.cell? ⟨h6, 0, none⟩ = some (.int .i64 x1) ∧ w'.cell? ⟨h6, 1, none⟩ = some (.int .i64 x2) ∧ w'.cell? ⟨h6, 2, none⟩ = some (.string x3) ∧ w'.cell? ⟨h8, 0, none⟩ = some (.int .i64 x1) ∧ w'.cell? ⟨h8, 1, none⟩ = some (.int .i64 x2) ∧ w'.cell? ⟨h8, 2, none⟩ = some (.string x3) ∧ Below hw w w') (first | exact ⟨q0, q1, q2, c0, c1, c2, d0, d1, d2, below_drew B9⟩ | exact ⟨r0, r1, r2, e0, e1, e2, f0, f1, f2, B10⟩ | exact ⟨s0, s1, s2, i0, i1, i2, j0, j1, j2, B11⟩ | (go_keep))
        (first
          | (go_at_call 15; refine (HR1.out _).mono ?_; rintro e w10 ⟨rfl, b10⟩; have v10 := EdAt.below (W := w9.drew) v9 b10 hl6'; have u10 := EdAt.below (W := w9.drew) u9 b10 hl8'; have B10 := (below_drew B9).trans (b10.mono hlw'); have e0 := v10.c0; have e1 := v10.c1; have e2 := v10.c2; have f0 := u10.c0; have f1 := u10.c1; have f2 := u10.c2; have r0 := (B10.cell (p := ⟨g, o + pre.length * 3, none⟩) hg).trans p0; have r1 := (B10.cell (p := ⟨g, o + pre.length * 3 + 1, none⟩) hg).trans p1; have r2 := (B10.cell (p := ⟨g, o + pre.length * 3 + 2, none⟩) hg).trans p2; have hw10 := B10.size; clear b10)
          | (go_at_call 16; refine (HR2.out _).mono ?_; rintro e w11 ⟨rfl, b11⟩; have v11 := v10.below b11 v10.lt; have u11 := u10.below b11 u10.lt; have B11 := B10.trans (b11.mono (by rw [← hbw]; exact hw10)); have i0 := v11.c0; have i1 := v11.c1; have i2 := v11.c2; have j0 := u11.c0; have j1 := u11.c1; have j2 := u11.c2; have s0 := (B11.cell (p := ⟨g, o + pre.length * 3, none⟩) hg).trans p0; have s1 := (B11.cell (p := ⟨g, o + pre.length * 3 + 1, none⟩) hg).trans p1; have s2 := (B11.cell (p := ⟨g, o + pre.length * 3 + 2, none⟩) hg).trans p2; clear b11))
      all_goals
        subst hbw
        go_wp2
        go_roundw
      case rel => exact ⟨pre ++ [(a, d, t)], rest, by simp, Lib.hid (by rw [List.append_assoc]; exact hA.out), B11⟩
      case measure => simp [intOf]; omega
theorem EApplies_any (s : ByteArray) (ao : Option Addr) (L : List Ed) (cap : Nat) (w : World) (hs : s.size ≤ maxLen) (hE : Eds w w.heap.size ao L) (ht : ∀ x ∈ L, x.2.2.size ≤ maxLen) :
    Calls Try.prog 3 #[.string s, .slice ao L.length cap] w fun e w' => e = .returned (.bool true) ∧ Below w.heap.size w w' := by
  by_cases hL : L.length ≤ 40
  · by_cases hf : decide (fewN [s] ≤ 4000) = true
    · by_cases hg : decide (fewN (L.map fun x => x.2.2) ≤ 4000) = true
      · exact EApplies_else s ao L cap w hL hs hE hf hg ht
      · exact EApplies_ins s ao L cap w hL hs hE ht hf (Bool.eq_false_iff.2 hg)
    · exact EApplies_few s ao L cap w hL hs (Bool.eq_false_iff.2 hf)
  · exact EApplies_long s ao L cap w (by omega)
end Go.Proofs.Ytjbfnlnfhafafaa
