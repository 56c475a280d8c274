/- Small functions of package charset: overlap, clip, Of's comparison. -/
import Derived.Test.YtpmcnmlpkpoopaaM
namespace Go.Proofs.Ytpmcnmlpkpoopaa
open Go.RowKit

/-- A range as a value, and as a block. -/
abbrev rgV (r : Rg) : Value := .agg #[.int .i32 r.1, .int .i32 r.2]
def RgAt (W : World) (b : Nat) (r : Rg) : Prop := W.heap[b]? = some (.cells #[.int .i32 r.1, .int .i32 r.2] 41 (0, 0))
theorem RgAt.c0 {W : World} {b : Nat} {r : Rg} (h : RgAt W b r) : W.cell? ⟨b, 0, none⟩ = some (.int .i32 r.1) := by rw [Lib.cell_of_heap h]; rfl
theorem RgAt.c1 {W : World} {b : Nat} {r : Rg} (h : RgAt W b r) : W.cell? ⟨b, 1, none⟩ = some (.int .i32 r.2) := by rw [Lib.cell_of_heap h]; rfl
theorem RgAt.fr {W : World} {b : Nat} {r : Rg} (h : RgAt W b r) (j : Nat) : W.frozen? ⟨b, j, none⟩ = false := Lib.frozen_of_heap h j
theorem RgAt.below {B : Nat} {W W' : World} {b : Nat} {r : Rg} (h : RgAt W b r) (hb : Below B W W') (hB : b < B) : RgAt W' b r := (hb.block _ hB).trans h
theorem RgAt.new (W : World) (r : Rg) : RgAt (W.alloc (.cells #[.int .i32 r.1, .int .i32 r.2] 41)) W.heap.size r := World.alloc_heap_new _ _
theorem RgAt.lt {W : World} {b : Nat} {r : Rg} (h : RgAt W b r) : b < W.heap.size := (Array.getElem?_eq_some_iff.1 h).1
theorem RgAt.alloc {W : World} {b : Nat} {r : Rg} (h : RgAt W b r) (o : Obj) : RgAt (W.alloc o) b r := (Below.heap_alloc _ _ _ h.lt).trans h
theorem RgAt.set {W : World} {b : Nat} {r : Rg} (h : RgAt W b r) (q : Rg) : RgAt ((W.setCell ⟨b, 0, none⟩ (.int .i32 q.1)).setCell ⟨b, 1, none⟩ (.int .i32 q.2)) b q := by
  have h' : W.heap[b]? = some (.cells #[.int .i32 r.1, .int .i32 r.2] 41 (0, 0)) := h
  simp [RgAt, World.setCell, Array.getElem?_modify, h']
theorem below_set2 {B : Nat} {w W : World} {b : Nat} {x y : Value} (h : Below B w W) (hb : B ≤ b) : Below B w ((W.setCell ⟨b, 0, none⟩ x).setCell ⟨b, 1, none⟩ y) :=
  (h.setCell (p := ⟨b, 0, none⟩) hb _).setCell (p := ⟨b, 1, none⟩) hb _
/-- Two and three ranges laid, one behind the other. -/
theorem rg_new2 (w : World) (a b : Rg) : RgAt ((w.alloc (.cells #[.int .i32 a.1, .int .i32 a.2] 41)).alloc (.cells #[.int .i32 b.1, .int .i32 b.2] 41)) w.heap.size a ∧
    RgAt ((w.alloc (.cells #[.int .i32 a.1, .int .i32 a.2] 41)).alloc (.cells #[.int .i32 b.1, .int .i32 b.2] 41)) (w.heap.size + 1) b ∧
    ((w.alloc (.cells #[.int .i32 a.1, .int .i32 a.2] 41)).alloc (.cells #[.int .i32 b.1, .int .i32 b.2] 41)).heap.size = w.heap.size + 2 ∧
    Below w.heap.size w ((w.alloc (.cells #[.int .i32 a.1, .int .i32 a.2] 41)).alloc (.cells #[.int .i32 b.1, .int .i32 b.2] 41)) := by
  refine ⟨(RgAt.new w a).alloc _, ?_, by simp, ((Below.refl _ w).alloc (Nat.le_refl _) _).alloc (by simp) _⟩
  have := RgAt.new (w.alloc (.cells #[.int .i32 a.1, .int .i32 a.2] 41)) b
  rwa [World.size_alloc] at this

theorem rg_new3 (w : World) (a b c : Rg) :
    Below w.heap.size w (((w.alloc (.cells #[.int .i32 a.1, .int .i32 a.2] 41)).alloc (.cells #[.int .i32 b.1, .int .i32 b.2] 41)).alloc (.cells #[.int .i32 c.1, .int .i32 c.2] 41)) ∧
    (((w.alloc (.cells #[.int .i32 a.1, .int .i32 a.2] 41)).alloc (.cells #[.int .i32 b.1, .int .i32 b.2] 41)).alloc (.cells #[.int .i32 c.1, .int .i32 c.2] 41)).heap.size = w.heap.size + 1 + 1 + 1 ∧
    (((w.alloc (.cells #[.int .i32 a.1, .int .i32 a.2] 41)).alloc (.cells #[.int .i32 b.1, .int .i32 b.2] 41)).alloc (.cells #[.int .i32 c.1, .int .i32 c.2] 41)).cell? ⟨w.heap.size + 1 + 1, 0, none⟩ = some (.int .i32 c.1) ∧
    (((w.alloc (.cells #[.int .i32 a.1, .int .i32 a.2] 41)).alloc (.cells #[.int .i32 b.1, .int .i32 b.2] 41)).alloc (.cells #[.int .i32 c.1, .int .i32 c.2] 41)).cell? ⟨w.heap.size + 1 + 1, 1, none⟩ = some (.int .i32 c.2) := by
  obtain ⟨_, _, n2, n3⟩ := rg_new2 w a b
  have x := RgAt.new ((w.alloc (.cells #[.int .i32 a.1, .int .i32 a.2] 41)).alloc (.cells #[.int .i32 b.1, .int .i32 b.2] 41)) c
  rw [n2] at x
  exact ⟨n3.alloc n3.size _, by simp, x.c0, x.c1⟩

set_option maxHeartbeats 1000000 in
theorem overlap_any (a b : Rg) (w : World) :
    Calls Try.prog 41 #[rgV a, rgV b] w fun e w' => e = .returned (rgV (ovR a b)) ∧ Below w.heap.size w w' := by
  obtain ⟨a1, a2⟩ := a
  obtain ⟨b1, b2⟩ := b
  rcases Int.lt_or_le a1 b1 with h | h <;> rcases Int.lt_or_le b2 a2 with k | k
  · rw [show ovR (a1, a2) (b1, b2) = (b1, b2) by simp only [ovR, Prod.mk.injEq]; omega]
    obtain ⟨B, z2, e0, e1⟩ := rg_new3 w (a1, a2) (b1, b2) (b1, b2)
    dsimp only at B z2 e0 e1
    go_enter Try.func41, Try.ntmps41
    go_wp2
    refine bodyPost_ret (v := rgV (b1, b2)) ?_ rfl ⟨rfl, B⟩
    simp [results, Try.f41, go_sem, e0, e1]
  · rw [show ovR (a1, a2) (b1, b2) = (b1, a2) by simp only [ovR, Prod.mk.injEq]; omega]
    obtain ⟨B, z2, e0, e1⟩ := rg_new3 w (a1, a2) (b1, b2) (b1, a2)
    dsimp only at B z2 e0 e1
    go_enter Try.func41, Try.ntmps41
    go_wp2
    refine bodyPost_ret (v := rgV (b1, a2)) ?_ rfl ⟨rfl, B⟩
    simp [results, Try.f41, go_sem, e0, e1]
  · rw [show ovR (a1, a2) (b1, b2) = (a1, b2) by simp only [ovR, Prod.mk.injEq]; omega]
    obtain ⟨B, z2, e0, e1⟩ := rg_new3 w (a1, a2) (b1, b2) (a1, b2)
    dsimp only at B z2 e0 e1
    go_enter Try.func41, Try.ntmps41
    go_wp2
    refine bodyPost_ret (v := rgV (a1, b2)) ?_ rfl ⟨rfl, B⟩
    simp [results, Try.f41, go_sem, e0, e1]
  · rw [show ovR (a1, a2) (b1, b2) = (a1, a2) by simp only [ovR, Prod.mk.injEq]; omega]
    obtain ⟨B, z2, e0, e1⟩ := rg_new3 w (a1, a2) (b1, b2) (a1, a2)
    dsimp only at B z2 e0 e1
    go_enter Try.func41, Try.ntmps41
    go_wp2
    refine bodyPost_ret (v := rgV (a1, a2)) ?_ rfl ⟨rfl, B⟩
    simp [results, Try.f41, go_sem, e0, e1]

set_option maxHeartbeats 1000000 in
theorem clip_any (r : Rg) (w : World) :
    Calls Try.prog 31 #[rgV r] w fun e w' => e = .returned (rgV (clipR r)) ∧ Below w.heap.size w w' := by
  have x1 := RgAt.new w r
  have x2 := RgAt.new (w.alloc (.cells #[.int .i32 r.1, .int .i32 r.2] 41)) (0, 0)
  have B := ((Below.refl _ w).alloc (Nat.le_refl _) (.cells #[.int .i32 r.1, .int .i32 r.2] 41)).alloc (by simp) (.cells #[.int .i32 0, .int .i32 0] 41)
  have x3 := x1.alloc (.cells #[.int .i32 0, .int .i32 0] 41)
  rw [World.size_alloc] at x2
  have c0 := x3.c0; have c1 := x3.c1
  have hz : ((w.alloc (.cells #[.int .i32 r.1, .int .i32 r.2] 41)).alloc (.cells #[.int .i32 0, .int .i32 0] 41)).heap.size = w.heap.size + 2 := by simp
  clear x1 x3
  go_enter Try.func31, Try.ntmps31
  go_wp2_with fail
  refine (overlap_any r (0, 1114111) _).mono ?_
  rintro e w1 ⟨rfl, b1⟩
  rw [hz] at b1
  have x4 := x2.below b1 (by omega)
  have B1 := B.trans (b1.mono (by omega))
  have f0 := x4.fr 0; have f1 := x4.fr 1
  have g0 := x4.c0; have g1 := x4.c1
  clear x2 B c0 c1 b1
  go_wp2
  refine bodyPost_ret (v := rgV (clipR r)) ?_ rfl ⟨rfl, below_set2 B1 (by omega)⟩
  have t := x4.set (ovR r (0, 1114111))
  have t0 := t.c0; have t1 := t.c1
  simp [results, Try.f31, go_sem, t0, t1, clipR]

/-- The answer of cmp.Compare. -/
def cmpZ (a b : Int) : Int := if a < b then -1 else if b < a then 1 else 0
set_option maxHeartbeats 1000000 in
theorem isNaN_any (a : Int) (w : World) : Calls Try.prog 53 #[.int .i32 a] w fun e w' => e = .returned (.bool false) ∧ w = w' := by
  go_enter Try.func53, Try.ntmps53
  go_wp2
  go_ret
  exact ⟨rb (by simp), rfl⟩
set_option maxHeartbeats 1000000 in
theorem Compare_any (a b : Int) (w : World) : Calls Try.prog 34 #[.int .i32 a, .int .i32 b] w fun e w' => e = .returned (.int .i64 (cmpZ a b)) ∧ w = w' := by
  have hw : ∀ x : Int, Hid (x = cmpZ a b) → Hid (Ending.returned (.int .i64 x) = .returned (.int .i64 (cmpZ a b))) := fun x h => by
    have h' := h.out; exact Lib.hid (by rw [h'])
  rcases Int.lt_trichotomy a b with h | h | h
  · have HX := hw (-1) (Lib.hid (by unfold cmpZ; rw [if_pos h]))
    clear hw
    go_enter Try.func34, Try.ntmps34
    go_wp2_with fail
    refine (isNaN_any _ _).mono ?_
    rintro e _ ⟨rfl, rfl⟩
    go_wp2_with fail
    refine (isNaN_any _ _).mono ?_
    rintro e _ ⟨rfl, rfl⟩
    go_wp2
    go_ret
    exact ⟨HX.out, rfl⟩
  · subst h
    have HX := hw 0 (Lib.hid (by unfold cmpZ; rw [if_neg (by omega), if_neg (by omega)]))
    clear hw
    go_enter Try.func34, Try.ntmps34
    go_wp2_with fail
    refine (isNaN_any _ _).mono ?_
    rintro e _ ⟨rfl, rfl⟩
    go_wp2_with fail
    refine (isNaN_any _ _).mono ?_
    rintro e _ ⟨rfl, rfl⟩
    go_wp2
    go_ret
    exact ⟨HX.out, rfl⟩
  · have HX := hw 1 (Lib.hid (by unfold cmpZ; rw [if_neg (by omega), if_pos h]))
    clear hw
    go_enter Try.func34, Try.ntmps34
    go_wp2_with fail
    refine (isNaN_any _ _).mono ?_
    rintro e _ ⟨rfl, rfl⟩
    go_wp2_with fail
    refine (isNaN_any _ _).mono ?_
    rintro e _ ⟨rfl, rfl⟩
    go_wp2
    go_ret
    exact ⟨HX.out, rfl⟩
end Go.Proofs.Ytpmcnmlpkpoopaa
