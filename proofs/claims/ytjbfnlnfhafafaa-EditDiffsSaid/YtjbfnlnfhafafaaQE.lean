/- The statement EditDiffs' body: one text twice. -/
import Derived.Test.YtjbfnlnfhafafaaQ
import Derived.Deep.RegionHeld3
namespace Go.Proofs.Ytjbfnlnfhafafaa
open Go.RowKit

set_option maxHeartbeats 4000000 in
set_option maxRecDepth 100000 in
theorem EDiffs_eq (a : ByteArray) (w : World) (ha : a.size ≤ maxLen) (hf : decide (fewN [a, a] ≤ 4000) = true) :
    Calls Try.prog 6 #[.string a, .string a] w fun e w' => e = .returned (.bool true) ∧ Below w.heap.size w w' := by
  have hss := few2_is hf
  have HF := Lib.hid hf; clear hf
  obtain ⟨p1, p2⟩ := preN_le a a
  have hA1 := apply1 (s := a) (a := preN a a) (d := a.size - preN a a - tailN a a) (t := a.extract (preN a a) (a.size - tailN a a)) (by omega) (by rw [ByteArray.size_extract]; omega)
  rw [diff_join] at hA1
  have hD := fun w => Diff_any a a w (by omega) (by omega)
  have hD2 := fun w => rDiff_any a a w (by omega) (by omega)
  obtain ⟨hD0, hM0⟩ := diff_same a
  rw [hD0, hM0] at hA1 hD hD2
  have HA1 := Lib.hid hA1
  have HD := Lib.hid hD
  have HD2 := Lib.hid hD2
  clear hA1 hD hD2 hD0 hM0 p1 p2
  generalize preN a a = i at *
  have n1 : (w.alloc (.cells #[.string a, .string a] 9)).heap[w.heap.size]? = some (.cells #[.string a, .string a] 9 (0, 0)) := World.alloc_heap_new _ _
  have n3 := (Below.refl w.heap.size w).alloc (Nat.le_refl _) (.cells #[.string a, .string a] 9)
  go_enter Try.func6, Try.ntmps6
  go_wp2_with fail
  refine (few2_any a a _ _ ha ha n1 HF.out).mono ?_
  rintro e w1 ⟨rfl, b1⟩
  have B1 := n3.trans (b1.mono (by simp))
  clear n1 n3 b1
  go_wp2_with fail
  refine (HD.out _).mono ?_
  rintro e w2 ⟨rfl, b2⟩
  have B2 := B1.trans (b2.mono B1.size)
  clear B1 b2
  obtain ⟨m0, m1, m2, m3⟩ := two_new w2 i (0 : Nat) i (0 : Nat) ⟨#[]⟩ ⟨#[]⟩
  have B3 := B2.trans (m3.mono B2.size)
  go_wp2_with fail
  refine (Apply1_any a ⟨#[]⟩ i (0 : Nat) (w2.heap.size + 1) _ (by omega) (by decide) m1).mono ?_
  rintro e w4 ⟨rfl, b4⟩
  rw [HA1.out]
  have y4 := m0.below b4 m0.lt
  have B4 := B3.trans (b4.mono B3.size)
  have hz2 := B2.size
  clear m0 m1 m2 m3 B2 B3 b4
  have c0 := y4.c0; have c1 := y4.c1; have c2 := y4.c2
  go_wp2_with fail
  have hl1 : w2.heap.size < w4.drew.heap.size := y4.lt
  have hl3 : w.heap.size ≤ w4.drew.heap.size := B4.size
  clear HD HF HA1 hss ha hz2
  generalize hb1 : w.heap.size = h1 at *
  generalize hb2 : w2.heap.size = h2 at *
  go_region_held3 (fun w' => w'.cell? ⟨h2, 0, none⟩ = some (.int .i64 i) ∧ w'.cell? ⟨h2, 1, none⟩ = some (.int .i64 0) ∧ w'.cell? ⟨h2, 2, none⟩ = some (.string ⟨#[]⟩) ∧ Below h1 w w') (first | exact ⟨c0, c1, c2, below_drew B4⟩ | exact ⟨e0, e1, e2, B6⟩ | exact ⟨g0, g1, g2, B7⟩ | (go_keep))
    (first
      | (go_at_call 20; refine (HD2.out _).mono ?_; rintro e w6 ⟨rfl, b6⟩; have y6 := EdAt.below (W := w4.drew) y4 b6 hl1; have B6 := (below_drew B4).trans (b6.mono hl3); have e0 := y6.c0; have e1 := y6.c1; have e2 := y6.c2; have hw6 := B6.size; clear b6)
      | (go_at_call 10; refine (knows_any _).mono ?_; rintro e w7 ⟨rfl, b7⟩; have y7 := y6.below b7 y6.lt; have B7 := B6.trans (b7.mono (by rw [← hb1]; exact hw6)); have g0 := y7.c0; have g1 := y7.c1; have g2 := y7.c2; clear b7))
  all_goals
    go_wp2
    go_ret
    exact ⟨rfl, by rw [hb1]; exact B7⟩
end Go.Proofs.Ytjbfnlnfhafafaa
