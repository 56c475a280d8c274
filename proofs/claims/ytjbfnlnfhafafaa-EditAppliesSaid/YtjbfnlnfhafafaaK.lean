/- The statements' fixed examples (edit) hold. -/
import Derived.Test.YtjbfnlnfhafafaaJ
import Derived.Test.YtjbfnlnfhafafaaF
import Derived.Deep.RegionHeld3
namespace Go.Proofs.Ytjbfnlnfhafafaa
open Go.RowKit

theorem Eds.mono {W : World} {B B' : Nat} {ao : Option Addr} {L : List Ed} (h : Eds W B ao L) (hB : B ≤ B') : Eds W B' ao L := fun pre x rest e => by
  obtain ⟨g, o, h1, h2, h3⟩ := h pre x rest e
  exact ⟨g, o, h1, by omega, h3⟩
theorem eds_at {W : World} {g : Nat} {a d : Int} {t : ByteArray} (h : EdAt W g a d t) : Eds W W.heap.size (some ⟨g, 0, none⟩) [(a, d, t)] := by
  rintro pre y rest e
  rcases pre with _ | ⟨x, pre⟩
  · simp at e
    obtain ⟨rfl, rfl⟩ := e
    exact ⟨_, 0, rfl, h.lt, h.c0, h.c1, h.c2⟩
  · have := congrArg List.length e; simp at this
/-- Apply with one edit. -/
theorem Apply1_any (s t : ByteArray) (a d : Int) (g : Nat) (w : World) (hs : s.size ≤ 10000000) (ht : t.size ≤ 10000000) (h : EdAt w g a d t) :
    Calls Try.prog 11 #[.string s, .slice (some ⟨g, 0, none⟩) 1 1] w fun e w' => e = .returned (.tuple #[.string (applyL s [(a, d, t)]).1, .int .i64 (applyL s [(a, d, t)]).2]) ∧ Below w.heap.size w w' :=
  Apply_any s (some ⟨g, 0, none⟩) [(a, d, t)] 1 w hs (by simp) (by simpa using ht) (eds_at h)

theorem k_apply : applyL ⟨#[97, 98, 99, 100]⟩ [(1, 2, ⟨#[120]⟩)] = (⟨#[97, 120, 100]⟩, 0) := by kernel_rfl
theorem k_back : backZ ⟨#[97, 98, 99, 100]⟩ 1 2 (ByteArray.mk #[120]).size = (1, 1, ⟨#[98, 99]⟩, true) := by kernel_rfl
theorem k_shift1 : shiftZ 1 2 (ByteArray.mk #[120]).size 3 = (2, true) := by kernel_rfl
theorem k_shift2 : shiftZ 1 2 (ByteArray.mk #[120]).size 2 = (0, false) := by kernel_rfl
theorem k_pre : preN ⟨#[97, 98, 99, 100]⟩ ⟨#[97, 120, 100]⟩ = 1 := by kernel_rfl
theorem k_tail : tailN ⟨#[97, 98, 99, 100]⟩ ⟨#[97, 120, 100]⟩ = 1 := by kernel_rfl
theorem k_mid : (ByteArray.mk #[97, 120, 100]).extract 1 ((ByteArray.mk #[97, 120, 100]).size - 1) = ⟨#[120]⟩ := by kernel_rfl

theorem Diff_k (W : World) : Calls Try.prog 19 #[.string ⟨#[97, 98, 99, 100]⟩, .string ⟨#[97, 120, 100]⟩] W fun e w' => e = .returned (edV 1 2 ⟨#[120]⟩) ∧ Below W.heap.size W w' := by
  refine (Diff_any _ _ W (by decide) (by decide)).mono ?_
  rintro e w' ⟨rfl, b⟩
  refine ⟨?_, b⟩
  rw [k_pre, k_tail, k_mid]
  rfl

set_option maxHeartbeats 2000000 in
set_option maxRecDepth 100000 in
theorem knows_any (w : World) : Calls Try.prog 10 #[] w fun e w' => e = .returned (.bool true) ∧ Below w.heap.size w w' := by
  obtain ⟨n0, n1, n2, n3⟩ := two_new w 1 2 1 2 ⟨#[120]⟩ ⟨#[120]⟩
  go_enter Try.func10, Try.ntmps10
  go_wp2_with fail
  refine (Apply1_any _ _ _ _ _ _ (by decide) (by decide) n1).mono ?_
  rintro e w1 ⟨rfl, b1⟩
  rw [k_apply]
  rw [n2] at b1
  have y1 := n0.below b1 (by omega)
  have B1 := n3.trans (b1.mono (by omega))
  clear n0 n1 n2 n3 b1
  have c0 := y1.c0; have c1 := y1.c1; have c2 := y1.c2
  go_wp2_with fail
  refine (Back_any _ _ _ _ _ (by decide)).mono ?_
  rintro e w2 ⟨rfl, b2⟩
  rw [k_back]
  have y2 := y1.below b2 y1.lt
  have B2 := B1.trans (b2.mono B1.size)
  have hz2 := B2.size
  clear y1 B1 b2 c0 c1 c2
  have z2 := EdAt.new w2 1 1 ⟨#[98, 99]⟩
  have y3 := y2.alloc (.cells #[.int .i64 1, .int .i64 1, .string ⟨#[98, 99]⟩] 32)
  have B3 := B2.alloc hz2 (.cells #[.int .i64 1, .int .i64 1, .string ⟨#[98, 99]⟩] 32)
  have c0 := y3.c0; have c1 := y3.c1; have c2 := y3.c2
  go_wp2_with fail
  refine (Shift_any _ _ _ _ _).mono ?_
  rintro e w4 ⟨rfl, b4⟩
  rw [k_shift1]
  have y4 := y3.below b4 y3.lt
  have z4 := z2.below b4 z2.lt
  have B4 := B3.trans (b4.mono B3.size)
  clear y2 B2 hz2 z2 y3 B3 b4 c0 c1 c2
  have c0 := y4.c0; have c1 := y4.c1; have c2 := y4.c2
  go_wp2_with fail
  refine (Shift_any _ _ _ _ _).mono ?_
  rintro e w5 ⟨rfl, b5⟩
  rw [k_shift2]
  have y5 := y4.below b5 y4.lt
  have z5 := z4.below b5 z4.lt
  have B5 := B4.trans (b5.mono B4.size)
  clear y4 B4 z4 b5 c0 c1 c2
  have c0 := y5.c0; have c1 := y5.c1; have c2 := y5.c2
  have d0 := z5.c0; have d1 := z5.c1; have d2 := z5.c2
  go_wp2_with fail
  have hl1 : w.heap.size < w5.drew.heap.size := y5.lt
  have hl2 : w2.heap.size < w5.drew.heap.size := z5.lt
  have hl3 : w.heap.size ≤ w5.drew.heap.size := B5.size
  generalize hb1 : w.heap.size = h1 at *
  generalize hb2 : w2.heap.size = h2 at *
  go_region_held3 (fun w' => w'.cell? ⟨h1, 0, none⟩ = some (.int .i64 1) ∧ w'.cell? ⟨h1, 1, none⟩ = some (.int .i64 2) ∧ w'.cell? ⟨h1, 2, none⟩ = some (.string ⟨#[120]⟩) ∧ w'.cell? ⟨h2, 0, none⟩ = some (.int .i64 1) ∧ w'.cell? ⟨h2, 1, none⟩ = some (.int .i64 1) ∧ w'.cell? ⟨h2, 2, none⟩ = some (.string ⟨#[98, 99]⟩) ∧ Below h1 w w') (first | exact ⟨c0, c1, c2, d0, d1, d2, below_drew B5⟩ | exact ⟨e0, e1, e2, g0, g1, g2, B6⟩ | (go_keep))
    (first | (go_at_call 19; refine (Diff_k _).mono ?_; rintro e w6 ⟨rfl, b6⟩; have y6 := EdAt.below (W := w5.drew) y5 b6 hl1; have z6 := EdAt.below (W := w5.drew) z5 b6 hl2; have B6 := (below_drew B5).trans (b6.mono hl3); have e0 := y6.c0; have e1 := y6.c1; have e2 := y6.c2; have g0 := z6.c0; have g1 := z6.c1; have g2 := z6.c2; clear b6 y6 z6))
  all_goals
    go_wp2
    go_ret
    exact ⟨rfl, by rw [hb1]; exact B6⟩
end Go.Proofs.Ytjbfnlnfhafafaa
