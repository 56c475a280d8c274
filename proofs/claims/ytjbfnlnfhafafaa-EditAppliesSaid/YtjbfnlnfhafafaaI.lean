/- package edit: Diff; the reference's Diff. -/
import Derived.Test.YtjbfnlnfhafafaaH
import Derived.Deep.RegionWith
namespace Go.Proofs.Ytjbfnlnfhafafaa
open Go.RowKit

/-- What Diff answers: offset, bytes deleted, text. -/
def sufN (a b : ByteArray) : Nat := cpreL a.data.toList.reverse b.data.toList.reverse
def preN (a b : ByteArray) : Nat := cpreL a.data.toList b.data.toList
theorem preN_le (a b : ByteArray) : preN a b ≤ a.size ∧ preN a b ≤ b.size := by
  have := cpreL_le a.data.toList b.data.toList
  rwa [Array.length_toList, Array.length_toList] at this
theorem sufN_le (a b : ByteArray) : sufN a b ≤ a.size ∧ sufN a b ≤ b.size := by
  have := cpreL_le a.data.toList.reverse b.data.toList.reverse
  rwa [List.length_reverse, List.length_reverse, Array.length_toList, Array.length_toList] at this
def tailN (a b : ByteArray) : Nat := sufN (a.extract (preN a b) a.size) (b.extract (preN a b) b.size)

set_option maxHeartbeats 1000000 in
theorem DiffFn_any (s : ByteArray) (i k x y : Nat) (w : World) (hx : w.cell? ⟨x, 0, none⟩ = some (.int .i64 i)) (hy : w.cell? ⟨y, 0, none⟩ = some (.int .i64 k)) (hs : s.size ≤ 10000000) (h : i + k ≤ s.size) :
    Calls Try.prog 28 #[.string s, .pointer (some ⟨x, 0, none⟩), .pointer (some ⟨y, 0, none⟩)] w fun e w' => e = .returned (.string (s.extract i (s.size - k))) ∧ w = w' := by
  have hsl := slc s i (s.size - k) ((s.size : Int) - k) (by omega) (by omega) (by omega)
  go_enter Try.func28, Try.ntmps28
  go_wp2
  go_ret
  exact ⟨rfl, rfl⟩

theorem DiffFn0_any (s : ByteArray) (i x y : Nat) (w : World) (hx : w.cell? ⟨x, 0, none⟩ = some (.int .i64 i)) (hy : w.cell? ⟨y, 0, none⟩ = some (.int .i64 0)) (hs : s.size ≤ 10000000) (h : i ≤ s.size) :
    Calls Try.prog 28 #[.string s, .pointer (some ⟨x, 0, none⟩), .pointer (some ⟨y, 0, none⟩)] w fun e w' => e = .returned (.string (s.extract i s.size)) ∧ w = w' := DiffFn_any s i 0 x y w hx hy hs (by omega)
theorem box_two (w : World) (u v : Value) (t : TypeId) : Boxed ((w.alloc (.cells #[u] t)).alloc (.cells #[v] t)) w.heap.size t u ∧ Boxed ((w.alloc (.cells #[u] t)).alloc (.cells #[v] t)) (w.heap.size + 1) t v ∧
    ((w.alloc (.cells #[u] t)).alloc (.cells #[v] t)).heap.size = w.heap.size + 2 ∧ Below w.heap.size w ((w.alloc (.cells #[u] t)).alloc (.cells #[v] t)) := by
  refine ⟨(Boxed.new w t u).alloc _, ?_, by simp, ((Below.refl _ w).alloc (Nat.le_refl _) _).alloc (by simp) _⟩
  have := Boxed.new (w.alloc (.cells #[u] t)) t v
  rwa [World.size_alloc] at this

set_option maxHeartbeats 2000000 in
theorem Diff_any (a b : ByteArray) (w : World) (ha : a.size ≤ 10000000) (hb : b.size ≤ 10000000) :
    Calls Try.prog 19 #[.string a, .string b] w fun e w' => e = .returned (edV (preN a b) (a.size - preN a b - tailN a b : Nat) (b.extract (preN a b) (b.size - tailN a b))) ∧ Below w.heap.size w w' := by
  obtain ⟨p1, p2⟩ := preN_le a b
  have ea : (a.extract (preN a b) a.size).size = a.size - preN a b := by rw [ByteArray.size_extract]; omega
  have eb : (b.extract (preN a b) b.size).size = b.size - preN a b := by rw [ByteArray.size_extract]; omega
  obtain ⟨q1, q2⟩ := sufN_le (a.extract (preN a b) a.size) (b.extract (preN a b) b.size)
  have hsuf := fun w => commonSuffix_any (a.extract (preN a b) a.size) (b.extract (preN a b) b.size) w (by omega) (by omega)
  have hpre := fun w => commonPrefix_any a b w ha hb
  rw [ea] at q1
  rw [eb] at q2
  have hq : tailN a b = sufN (a.extract (preN a b) a.size) (b.extract (preN a b) b.size) := rfl
  rw [← hq] at q1 q2
  change ∀ w, Calls Try.prog 29 _ w fun e w' => e = .returned (.int .i64 (tailN a b : Nat)) ∧ _ at hsuf
  change ∀ w, Calls Try.prog 27 _ w fun e w' => e = .returned (.int .i64 (preN a b : Nat)) ∧ _ at hpre
  have ed : (a.extract (preN a b) (a.size - tailN a b)).size = a.size - preN a b - tailN a b := by rw [ByteArray.size_extract]; omega
  clear hq
  generalize tailN a b = k at *
  generalize preN a b = i at *
  have y0 := EdAt.new w 0 0 ⟨#[]⟩
  have nb := (Below.refl w.heap.size w).alloc (Nat.le_refl _) (.cells #[.int .i64 0, .int .i64 0, .string ⟨#[]⟩] 32)
  have hz0 : (w.alloc (.cells #[.int .i64 0, .int .i64 0, .string ⟨#[]⟩] 32)).heap.size = w.heap.size + 1 := by simp
  go_enter Try.func19, Try.ntmps19
  go_wp2_with fail
  refine (hpre _).mono ?_
  rintro e w1 ⟨rfl, b1⟩
  rw [hz0] at b1
  have y1 := y0.below b1 (by omega)
  have B1 := nb.trans (b1.mono (by omega))
  have hs1 := b1.size
  rw [hz0] at hs1
  clear y0 nb b1 hz0
  obtain ⟨x1, x2, x3, x4⟩ := box_two w1 (.int .i64 i) (.int .i64 0) 3
  have B2 := B1.trans (x4.mono (by omega))
  have y2 : EdAt ((w1.alloc (.cells #[.int .i64 i] 3)).alloc (.cells #[.int .i64 0] 3)) w.heap.size 0 0 ⟨#[]⟩ := (y1.alloc _).alloc _
  have c1 := x1.cell
  have c2 := x2.cell
  clear y1 B1 x4
  go_wp2_with fail
  refine (DiffFn0_any a i _ _ _ c1 c2 ha p1).mono ?_
  rintro e _ ⟨rfl, rfl⟩
  go_wp2_with fail
  refine (DiffFn0_any b i _ _ _ c1 c2 hb p2).mono ?_
  rintro e _ ⟨rfl, rfl⟩
  go_wp2_with fail
  refine (hsuf _).mono ?_
  rintro e w3 ⟨rfl, b3⟩
  rw [x3] at b3
  have z1 : Boxed w3 w1.heap.size 3 (.int .i64 i) := (b3.block _ (by omega)).trans x1
  have z2 : Boxed w3 (w1.heap.size + 1) 3 (.int .i64 0) := (b3.block _ (by omega)).trans x2
  have y3 := y2.below b3 (by omega)
  have B3 := B2.trans (b3.mono (by omega))
  clear x1 x2 x3 c1 c2 y2 B2 b3
  have c3 := z2.cell
  have c4 := z2.frozen
  go_wp2_with fail
  have d2 : Boxed (w3.setCell ⟨w1.heap.size + 1, 0, none⟩ (.int .i64 k)) (w1.heap.size + 1) 3 (.int .i64 k) := z2.set _
  have d1 : Boxed (w3.setCell ⟨w1.heap.size + 1, 0, none⟩ (.int .i64 k)) w1.heap.size 3 (.int .i64 i) := by
    unfold Boxed at *
    rw [Below.heap_setCell _ _ _ _ (by simp)]
    exact z1
  have y4 : EdAt (w3.setCell ⟨w1.heap.size + 1, 0, none⟩ (.int .i64 k)) w.heap.size 0 0 ⟨#[]⟩ := by
    unfold EdAt at *
    rw [Below.heap_setCell _ _ _ _ (by simp; omega)]
    exact y3
  have B4 : Below w.heap.size w (w3.setCell ⟨w1.heap.size + 1, 0, none⟩ (.int .i64 k)) := B3.setCell (p := ⟨w1.heap.size + 1, 0, none⟩) (by simp; omega) _
  clear c3 c4 z1 z2 y3 B3
  generalize w3.setCell ⟨w1.heap.size + 1, 0, none⟩ (.int .i64 k) = w4 at *
  have e1 := d1.cell
  have e2 := d2.cell
  have f0 := y4.c0; have f1 := y4.c1; have f2 := y4.c2
  have r0 := y4.fr 0; have r1 := y4.fr 1; have r2 := y4.fr 2
  go_region_with (first
    | (go_at_call_of 28 a; refine (DiffFn_any a i k _ _ _ ?_ ?_ ha (by omega)).mono ?_; exact e1; exact e2; rintro e _ ⟨rfl, rfl⟩)
    | (go_at_call_of 28 b; refine (DiffFn_any b i k _ _ _ ?_ ?_ hb (by omega)).mono ?_; exact e1; exact e2; rintro e _ ⟨rfl, rfl⟩))
  all_goals
    go_wp2
    refine bodyPost_ret (v := edV i (a.size - i - k : Nat) (b.extract i (b.size - k))) ?_ rfl ⟨rfl, below_drew (below_set3 B4 (Nat.le_refl _))⟩
    have t := y4.set (a' := i) (d' := (a.size - i - k : Nat)) (t' := b.extract i (b.size - k))
    have t0 := t.c0
    have t1 := t.c1
    have t2 := t.c2
    simp [results, Try.f19, go_sem, t0, t1, t2]
end Go.Proofs.Ytjbfnlnfhafafaa
