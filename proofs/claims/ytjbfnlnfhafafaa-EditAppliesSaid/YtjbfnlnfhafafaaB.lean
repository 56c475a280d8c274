/- package edit: Back, Shift; the reference's. Conditions: the texts are not too long; the numbers fit. -/
import Derived.Test.YtjbfnlnfhafafaaA
import Derived.Lib.Builder
import Derived.RangeFuncRecord
import Derived.RegionTactic
import Derived.BigRegion
namespace Go.Proofs.Ytjbfnlnfhafafaa
open Go.RowKit

/-- An edit as a value, and as a block. -/
abbrev edV (a d : Int) (t : ByteArray) : Value := .agg #[.int .i64 a, .int .i64 d, .string t]
def EdAt (W : World) (b : Nat) (a d : Int) (t : ByteArray) : Prop := W.heap[b]? = some (.cells #[.int .i64 a, .int .i64 d, .string t] 32 (0, 0))
theorem EdAt.c0 {W : World} {b : Nat} {a d : Int} {t : ByteArray} (h : EdAt W b a d t) : W.cell? ⟨b, 0, none⟩ = some (.int .i64 a) := by rw [Lib.cell_of_heap h]; rfl
theorem EdAt.c1 {W : World} {b : Nat} {a d : Int} {t : ByteArray} (h : EdAt W b a d t) : W.cell? ⟨b, 1, none⟩ = some (.int .i64 d) := by rw [Lib.cell_of_heap h]; rfl
theorem EdAt.c2 {W : World} {b : Nat} {a d : Int} {t : ByteArray} (h : EdAt W b a d t) : W.cell? ⟨b, 2, none⟩ = some (.string t) := by rw [Lib.cell_of_heap h]; rfl
theorem EdAt.fr {W : World} {b : Nat} {a d : Int} {t : ByteArray} (h : EdAt W b a d t) (j : Nat) : W.frozen? ⟨b, j, none⟩ = false := Lib.frozen_of_heap h j
theorem EdAt.below {B : Nat} {W W' : World} {b : Nat} {a d : Int} {t : ByteArray} (h : EdAt W b a d t) (hb : Below B W W') (hB : b < B) : EdAt W' b a d t := (hb.block _ hB).trans h
theorem EdAt.new (W : World) (a d : Int) (t : ByteArray) : EdAt (W.alloc (.cells #[.int .i64 a, .int .i64 d, .string t] 32)) W.heap.size a d t := World.alloc_heap_new _ _
theorem EdAt.lt {W : World} {b : Nat} {a d : Int} {t : ByteArray} (h : EdAt W b a d t) : b < W.heap.size := (Array.getElem?_eq_some_iff.1 h).1
theorem EdAt.alloc {W : World} {b : Nat} {a d : Int} {t : ByteArray} (h : EdAt W b a d t) (o : Obj) : EdAt (W.alloc o) b a d t := (Below.heap_alloc _ _ _ h.lt).trans h
/-- A new edit in place of an old one. -/
theorem EdAt.set {W : World} {b : Nat} {a d a' d' : Int} {t t' : ByteArray} (h : EdAt W b a d t) : EdAt (((W.setCell ⟨b, 0, none⟩ (.int .i64 a')).setCell ⟨b, 1, none⟩ (.int .i64 d')).setCell ⟨b, 2, none⟩ (.string t')) b a' d' t' := by
  have h' : W.heap[b]? = some (.cells #[.int .i64 a, .int .i64 d, .string t] 32 (0, 0)) := h
  simp [EdAt, World.setCell, Array.getElem?_modify, h']
theorem below_set3 {B : Nat} {w W : World} {b : Nat} {x y z : Value} (h : Below B w W) (hb : B ≤ b) : Below B w (((W.setCell ⟨b, 0, none⟩ x).setCell ⟨b, 1, none⟩ y).setCell ⟨b, 2, none⟩ z) :=
  ((h.setCell (p := ⟨b, 0, none⟩) hb _).setCell (p := ⟨b, 1, none⟩) hb _).setCell (p := ⟨b, 2, none⟩) hb _
/-- Two edits laid, one behind the other. -/
theorem two_new (w : World) (a d a' d' : Int) (t t' : ByteArray) :
    EdAt ((w.alloc (.cells #[.int .i64 a, .int .i64 d, .string t] 32)).alloc (.cells #[.int .i64 a', .int .i64 d', .string t'] 32)) w.heap.size a d t ∧
    EdAt ((w.alloc (.cells #[.int .i64 a, .int .i64 d, .string t] 32)).alloc (.cells #[.int .i64 a', .int .i64 d', .string t'] 32)) (w.heap.size + 1) a' d' t' ∧
    ((w.alloc (.cells #[.int .i64 a, .int .i64 d, .string t] 32)).alloc (.cells #[.int .i64 a', .int .i64 d', .string t'] 32)).heap.size = w.heap.size + 2 ∧
    Below w.heap.size w ((w.alloc (.cells #[.int .i64 a, .int .i64 d, .string t] 32)).alloc (.cells #[.int .i64 a', .int .i64 d', .string t'] 32)) := by
  refine ⟨(EdAt.new w a d t).alloc _, ?_, by simp, ((Below.refl _ w).alloc (Nat.le_refl _) _).alloc (by simp) _⟩
  have := EdAt.new (w.alloc (.cells #[.int .i64 a, .int .i64 d, .string t] 32)) a' d' t'
  rwa [World.size_alloc] at this

theorem below_drew {B : Nat} {w W : World} (h : Below B w W) : Below B w W.drew := ⟨h.os, h.tape, h.output, h.size, h.block⟩
/-- A slice of a text, at two places inside. -/
theorem slc (s : ByteArray) (a b : Nat) (z : Int) (hz : z = b) (h1 : a ≤ b) (h2 : b ≤ s.size) (w : World) : (Instr.slice 9 (.string s) (some (.int .i64 (a : Int))) (some (.int .i64 z)) none).run Try.prog w = .ok (.string (s.extract a b)) w := by
  subst hz
  exact run_slice_string w 9 s .i64 .i64 a b Try.underlying9 (by omega) (by omega) (by omega)

set_option maxHeartbeats 1000000 in
theorem Back_no (s t : ByteArray) (a d : Int) (w : World) (hs : s.size ≤ 10000000) (hr : rightB s.size a d = false) :
    Calls Try.prog 13 #[.string s, edV a d t] w fun e w' => e = .returned (.tuple #[edV 0 0 ⟨#[]⟩, .bool false]) ∧ Below w.heap.size w w' := by
  obtain ⟨n0, n1, n2, n3⟩ := two_new w a d 0 0 t ⟨#[]⟩
  have HR := Lib.hid hr; clear hr
  go_enter Try.func13, Try.ntmps13
  go_wp2_with fail
  refine (Right_any s t a d _ hs).mono ?_
  rintro e w1 ⟨rfl, b1⟩
  rw [HR.out]
  rw [n2] at b1
  have z1 := n1.below b1 (by omega)
  have f0 := z1.fr 0
  have f1 := z1.fr 1
  have f2 := z1.fr 2
  have c0 := z1.c0
  have c1 := z1.c1
  have c2 := z1.c2
  have B := n3.trans (b1.mono (by omega))
  clear n0 n1 n2 n3 b1
  go_wp2
  refine bodyPost_ret (v := .tuple #[edV 0 0 ⟨#[]⟩, .bool false]) ?_ rfl ⟨rfl, below_set3 B (by omega)⟩
  have t := z1.set (a' := 0) (d' := 0) (t' := ⟨#[]⟩)
  have t0 := t.c0
  have t1 := t.c1
  have t2 := t.c2
  simp [results, Try.f13, go_sem, t0, t1, t2]

set_option maxHeartbeats 1000000 in
theorem Back_yes (s t : ByteArray) (a d : Nat) (w : World) (hs : s.size ≤ 10000000) (hr : a + d ≤ s.size) :
    Calls Try.prog 13 #[.string s, edV a d t] w fun e w' => e = .returned (.tuple #[edV a t.size (s.extract a (a + d)), .bool true]) ∧ Below w.heap.size w w' := by
  obtain ⟨n0, n1, n2, n3⟩ := two_new w a d 0 0 t ⟨#[]⟩
  have HR : Hid (rightB s.size a d = true) := Lib.hid (decide_eq_true (by omega))
  have hsl := slc s a (a + d) (a + d) (by omega) (by omega) hr
  go_enter Try.func13, Try.ntmps13
  go_wp2_with fail
  refine (Right_any s t a d _ hs).mono ?_
  rintro e w1 ⟨rfl, b1⟩
  rw [HR.out]
  rw [n2] at b1
  have y0 := n0.below b1 (by omega)
  have z1 := n1.below b1 (by omega)
  have e0 := y0.c0
  have e1 := y0.c1
  have e2 := y0.c2
  have f0 := z1.fr 0
  have f1 := z1.fr 1
  have f2 := z1.fr 2
  have c0 := z1.c0
  have c1 := z1.c1
  have c2 := z1.c2
  have B := n3.trans (b1.mono (by omega))
  clear n0 n1 n2 n3 b1 y0
  go_wp2
  go_region
  go_wp2
  refine bodyPost_ret (v := .tuple #[edV a t.size (s.extract a (a + d)), .bool true]) ?_ rfl ⟨rfl, below_drew (below_set3 B (by omega))⟩
  have t := z1.set (a' := a) (d' := t.size) (t' := s.extract a (a + d))
  have t0 := t.c0
  have t1 := t.c1
  have t2 := t.c2
  simp [results, Try.f13, go_sem, t0, t1, t2]

set_option maxHeartbeats 1000000 in
theorem rBack_no (s t : ByteArray) (a d : Int) (w : World) (hs : s.size ≤ 10000000) (hr : rightB s.size a d = false) :
    Calls Try.prog 14 #[.string s, edV a d t] w fun e w' => e = .returned (.tuple #[edV 0 0 ⟨#[]⟩, .bool false]) ∧ Below w.heap.size w w' := by
  obtain ⟨n0, n1, n2, n3⟩ := two_new w a d 0 0 t ⟨#[]⟩
  have HR := Lib.hid hr; clear hr
  go_enter Try.func14, Try.ntmps14
  go_wp2_with fail
  refine (rRight_any s t a d _ hs).mono ?_
  rintro e w1 ⟨rfl, b1⟩
  rw [HR.out]
  rw [n2] at b1
  have z1 := n1.below b1 (by omega)
  have f0 := z1.fr 0
  have f1 := z1.fr 1
  have f2 := z1.fr 2
  have c0 := z1.c0
  have c1 := z1.c1
  have c2 := z1.c2
  have B := n3.trans (b1.mono (by omega))
  clear n0 n1 n2 n3 b1
  go_wp2
  refine bodyPost_ret (v := .tuple #[edV 0 0 ⟨#[]⟩, .bool false]) ?_ rfl ⟨rfl, below_set3 B (by omega)⟩
  have t := z1.set (a' := 0) (d' := 0) (t' := ⟨#[]⟩)
  have t0 := t.c0
  have t1 := t.c1
  have t2 := t.c2
  simp [results, Try.f14, go_sem, t0, t1, t2]

set_option maxHeartbeats 1000000 in
theorem rBack_yes (s t : ByteArray) (a d : Nat) (w : World) (hs : s.size ≤ 10000000) (hr : a + d ≤ s.size) :
    Calls Try.prog 14 #[.string s, edV a d t] w fun e w' => e = .returned (.tuple #[edV a t.size (s.extract a (a + d)), .bool true]) ∧ Below w.heap.size w w' := by
  obtain ⟨n0, n1, n2, n3⟩ := two_new w a d 0 0 t ⟨#[]⟩
  have HR : Hid (rightB s.size a d = true) := Lib.hid (decide_eq_true (by omega))
  have hsl := slc s a (a + d) (a + d) (by omega) (by omega) hr
  go_enter Try.func14, Try.ntmps14
  go_wp2_with fail
  refine (rRight_any s t a d _ hs).mono ?_
  rintro e w1 ⟨rfl, b1⟩
  rw [HR.out]
  rw [n2] at b1
  have y0 := n0.below b1 (by omega)
  have z1 := n1.below b1 (by omega)
  have e0 := y0.c0
  have e1 := y0.c1
  have e2 := y0.c2
  have f0 := z1.fr 0
  have f1 := z1.fr 1
  have f2 := z1.fr 2
  have c0 := z1.c0
  have c1 := z1.c1
  have c2 := z1.c2
  have B := n3.trans (b1.mono (by omega))
  clear n0 n1 n2 n3 b1 y0
  go_wp2
  go_region
  go_wp2
  refine bodyPost_ret (v := .tuple #[edV a t.size (s.extract a (a + d)), .bool true]) ?_ rfl ⟨rfl, below_drew (below_set3 B (by omega))⟩
  have t := z1.set (a' := a) (d' := t.size) (t' := s.extract a (a + d))
  have t0 := t.c0
  have t1 := t.c1
  have t2 := t.c2
  simp [results, Try.f14, go_sem, t0, t1, t2]

/-- What Back answers. -/
def backZ (s : ByteArray) (a d : Int) (n : Nat) : Int × Int × ByteArray × Bool := if rightB s.size a d then (a, n, s.extract a.toNat (a.toNat + d.toNat), true) else (0, 0, ⟨#[]⟩, false)
theorem right_nat {n : Nat} {a d : Int} (h : rightB n a d = true) : ∃ x y : Nat, a = x ∧ d = y ∧ x + y ≤ n := by
  rw [rightB, decide_eq_true_eq] at h
  exact ⟨a.toNat, d.toNat, by omega, by omega, by omega⟩
theorem Back_any (s t : ByteArray) (a d : Int) (w : World) (hs : s.size ≤ 10000000) :
    Calls Try.prog 13 #[.string s, edV a d t] w fun e w' => e = .returned (.tuple #[edV (backZ s a d t.size).1 (backZ s a d t.size).2.1 (backZ s a d t.size).2.2.1, .bool (backZ s a d t.size).2.2.2]) ∧ Below w.heap.size w w' := by
  unfold backZ
  by_cases h : rightB s.size a d = true
  · rw [if_pos h]
    obtain ⟨x, y, rfl, rfl, hxy⟩ := right_nat h
    exact Back_yes s t x y w hs hxy
  · rw [if_neg h]
    exact Back_no s t a d w hs (Bool.eq_false_iff.2 h)
theorem rBack_any (s t : ByteArray) (a d : Int) (w : World) (hs : s.size ≤ 10000000) :
    Calls Try.prog 14 #[.string s, edV a d t] w fun e w' => e = .returned (.tuple #[edV (backZ s a d t.size).1 (backZ s a d t.size).2.1 (backZ s a d t.size).2.2.1, .bool (backZ s a d t.size).2.2.2]) ∧ Below w.heap.size w w' := by
  unfold backZ
  by_cases h : rightB s.size a d = true
  · rw [if_pos h]
    obtain ⟨x, y, rfl, rfl, hxy⟩ := right_nat h
    exact rBack_yes s t x y w hs hxy
  · rw [if_neg h]
    exact rBack_no s t a d w hs (Bool.eq_false_iff.2 h)

/-- What Shift answers. -/
def shiftZ (a d : Int) (n : Nat) (k : Int) : Int × Bool :=
  if smallB a d n = false ∨ inB k = false then (0, false) else if k ≤ a then (k, true) else if a + d ≤ k then (k - d + n, true) else (0, false)
theorem small_is {a d : Int} {n : Nat} (h : smallB a d n = true) : (0 ≤ a ∧ a ≤ 65536) ∧ (0 ≤ d ∧ d ≤ 65536) ∧ n ≤ 65536 := by
  simp only [smallB, inB, Bool.and_eq_true, decide_eq_true_eq] at h
  omega
theorem inB_is {k : Int} (h : inB k = true) : 0 ≤ k ∧ k ≤ 65536 := by
  simp only [inB, decide_eq_true_eq] at h
  omega

set_option maxHeartbeats 2000000 in
theorem Shift_any (a d : Int) (t : ByteArray) (k : Int) (w : World) :
    Calls Try.prog 21 #[edV a d t, .int .i64 k] w fun e w' => e = .returned (.tuple #[.int .i64 (shiftZ a d t.size k).1, .bool (shiftZ a d t.size k).2]) ∧ Below w.heap.size w w' := by
  have n0 := EdAt.new w a d t
  have nb := (Below.refl w.heap.size w).alloc (Nat.le_refl _) (.cells #[.int .i64 a, .int .i64 d, .string t] 32)
  have hne : w.heap.size < (w.alloc (.cells #[.int .i64 a, .int .i64 d, .string t] 32)).heap.size := by simp
  by_cases h1 : smallB a d t.size = true
  · by_cases h2 : inB k = true
    · obtain ⟨⟨p1, p2⟩, ⟨p3, p4⟩, p5⟩ := small_is h1
      obtain ⟨p6, p7⟩ := inB_is h2
      by_cases h3 : k ≤ a
      · have HZ : Hid (shiftZ a d t.size k = (k, true)) := by unfold shiftZ; rw [if_neg (by rw [h1, h2]; decide), if_pos h3]; exact rfl
        have H1 := Lib.hid h1; have H2 := Lib.hid h2; clear h1 h2
        go_enter Try.func21, Try.ntmps21
        go_wp2_with fail
        refine (isSmall_any a d t _).mono ?_
        rintro e w1 ⟨rfl, b1⟩
        rw [H1.out]
        have y := n0.below b1 hne
        have y0 := y.c0; have y1 := y.c1; have y2 := y.c2
        have B := nb.trans (b1.mono (by omega))
        clear n0 nb hne b1 y
        go_wp2_with fail
        refine (inText_is H2.out _).mono ?_
        rintro e _ ⟨rfl, rfl⟩
        go_wp2
        go_ret2
        exact ⟨by rw [HZ.out]; rfl, B⟩
      · by_cases h4 : a + d ≤ k
        · have HZ : Hid (shiftZ a d t.size k = (k - d + t.size, true)) := by unfold shiftZ; rw [if_neg (by rw [h1, h2]; decide), if_neg h3, if_pos h4]; exact rfl
          have H1 := Lib.hid h1; have H2 := Lib.hid h2; clear h1 h2
          go_enter Try.func21, Try.ntmps21
          go_wp2_with fail
          refine (isSmall_any a d t _).mono ?_
          rintro e w1 ⟨rfl, b1⟩
          rw [H1.out]
          have y := n0.below b1 hne
          have y0 := y.c0; have y1 := y.c1; have y2 := y.c2
          have B := nb.trans (b1.mono (by omega))
          clear n0 nb hne b1 y
          go_wp2_with fail
          refine (inText_is H2.out _).mono ?_
          rintro e _ ⟨rfl, rfl⟩
          go_wp2
          go_ret2
          exact ⟨by rw [HZ.out]; rfl, B⟩
        · have HZ : Hid (shiftZ a d t.size k = (0, false)) := by unfold shiftZ; rw [if_neg (by rw [h1, h2]; decide), if_neg h3, if_neg h4]; exact rfl
          have H1 := Lib.hid h1; have H2 := Lib.hid h2; clear h1 h2
          go_enter Try.func21, Try.ntmps21
          go_wp2_with fail
          refine (isSmall_any a d t _).mono ?_
          rintro e w1 ⟨rfl, b1⟩
          rw [H1.out]
          have y := n0.below b1 hne
          have y0 := y.c0; have y1 := y.c1; have y2 := y.c2
          have B := nb.trans (b1.mono (by omega))
          clear n0 nb hne b1 y
          go_wp2_with fail
          refine (inText_is H2.out _).mono ?_
          rintro e _ ⟨rfl, rfl⟩
          go_wp2
          go_ret2
          exact ⟨by rw [HZ.out]; rfl, B⟩
    · have H2 := Lib.hid (Bool.eq_false_iff.2 h2); clear h2
      have HZ : Hid (shiftZ a d t.size k = (0, false)) := by unfold shiftZ; rw [if_pos (.inr H2.out)]; exact rfl
      have H1 := Lib.hid h1; clear h1
      go_enter Try.func21, Try.ntmps21
      go_wp2_with fail
      refine (isSmall_any a d t _).mono ?_
      rintro e w1 ⟨rfl, b1⟩
      rw [H1.out]
      have y := n0.below b1 hne
      have B := nb.trans (b1.mono (by omega))
      clear n0 nb hne b1 y
      go_wp2_with fail
      refine (inText_is H2.out _).mono ?_
      rintro e _ ⟨rfl, rfl⟩
      go_wp2
      go_ret2
      exact ⟨by rw [HZ.out]; rfl, B⟩
  · have H1 := Lib.hid (Bool.eq_false_iff.2 h1); clear h1
    have HZ : Hid (shiftZ a d t.size k = (0, false)) := by unfold shiftZ; rw [if_pos (.inl H1.out)]; exact rfl
    go_enter Try.func21, Try.ntmps21
    go_wp2_with fail
    refine (isSmall_any a d t _).mono ?_
    rintro e w1 ⟨rfl, b1⟩
    rw [H1.out]
    have B := nb.trans (b1.mono (by omega))
    clear n0 nb hne b1
    go_wp2
    go_ret2
    exact ⟨by rw [HZ.out]; rfl, B⟩
set_option maxHeartbeats 2000000 in
theorem rShift_any (a d : Int) (t : ByteArray) (k : Int) (w : World) (ht : t.size ≤ 10000000) :
    Calls Try.prog 22 #[edV a d t, .int .i64 k] w fun e w' => e = .returned (.tuple #[.int .i64 (shiftZ a d t.size k).1, .bool (shiftZ a d t.size k).2]) ∧ Below w.heap.size w w' := by
  have n0 := EdAt.new w a d t
  have nb := (Below.refl w.heap.size w).alloc (Nat.le_refl _) (.cells #[.int .i64 a, .int .i64 d, .string t] 32)
  have hne : w.heap.size < (w.alloc (.cells #[.int .i64 a, .int .i64 d, .string t] 32)).heap.size := by simp
  by_cases h1 : smallB a d t.size = true
  · by_cases h2 : inB k = true
    · obtain ⟨⟨p1, p2⟩, ⟨p3, p4⟩, p5⟩ := small_is h1
      obtain ⟨p6, p7⟩ := inB_is h2
      by_cases h3 : k ≤ a
      · have HZ : Hid (shiftZ a d t.size k = (k, true)) := by unfold shiftZ; rw [if_neg (by rw [h1, h2]; decide), if_pos h3]; exact rfl
        have H1 := Lib.hid h1; have H2 := Lib.hid h2; clear h1 h2
        go_enter Try.func22, Try.ntmps22
        go_wp2_with fail
        refine (rSmall_any a d t _ (by omega)).mono ?_
        rintro e w1 ⟨rfl, b1⟩
        rw [H1.out]
        have y := n0.below b1 hne
        have y0 := y.c0; have y1 := y.c1; have y2 := y.c2
        have B := nb.trans (b1.mono (by omega))
        clear n0 nb hne b1 y
        go_wp2
        go_ret2
        exact ⟨by rw [HZ.out]; rfl, B⟩
      · by_cases h4 : a + d ≤ k
        · have HZ : Hid (shiftZ a d t.size k = (k - d + t.size, true)) := by unfold shiftZ; rw [if_neg (by rw [h1, h2]; decide), if_neg h3, if_pos h4]; exact rfl
          have H1 := Lib.hid h1; have H2 := Lib.hid h2; clear h1 h2
          go_enter Try.func22, Try.ntmps22
          go_wp2_with fail
          refine (rSmall_any a d t _ (by omega)).mono ?_
          rintro e w1 ⟨rfl, b1⟩
          rw [H1.out]
          have y := n0.below b1 hne
          have y0 := y.c0; have y1 := y.c1; have y2 := y.c2
          have B := nb.trans (b1.mono (by omega))
          clear n0 nb hne b1 y
          go_wp2
          go_ret2
          exact ⟨by rw [HZ.out]; rfl, B⟩
        · have HZ : Hid (shiftZ a d t.size k = (0, false)) := by unfold shiftZ; rw [if_neg (by rw [h1, h2]; decide), if_neg h3, if_neg h4]; exact rfl
          have H1 := Lib.hid h1; have H2 := Lib.hid h2; clear h1 h2
          go_enter Try.func22, Try.ntmps22
          go_wp2_with fail
          refine (rSmall_any a d t _ (by omega)).mono ?_
          rintro e w1 ⟨rfl, b1⟩
          rw [H1.out]
          have y := n0.below b1 hne
          have y0 := y.c0; have y1 := y.c1; have y2 := y.c2
          have B := nb.trans (b1.mono (by omega))
          clear n0 nb hne b1 y
          go_wp2
          go_ret2
          exact ⟨by rw [HZ.out]; rfl, B⟩
    · have h2' : k < 0 ∨ 65536 < k := by
        have := Bool.eq_false_iff.2 h2
        rw [inB, decide_eq_false_iff_not] at this
        omega
      have H2 := Lib.hid (Bool.eq_false_iff.2 h2); clear h2
      have HZ : Hid (shiftZ a d t.size k = (0, false)) := by unfold shiftZ; rw [if_pos (.inr H2.out)]; exact rfl
      have H1 := Lib.hid h1; clear h1
      go_enter Try.func22, Try.ntmps22
      go_wp2_with fail
      refine (rSmall_any a d t _ (by omega)).mono ?_
      rintro e w1 ⟨rfl, b1⟩
      rw [H1.out]
      have y := n0.below b1 hne
      have B := nb.trans (b1.mono (by omega))
      clear n0 nb hne b1 y
      rcases h2' with h2' | h2'
      · go_wp2
        go_ret2
        exact ⟨by rw [HZ.out]; rfl, B⟩
      · go_wp2
        go_ret2
        exact ⟨by rw [HZ.out]; rfl, B⟩
  · have H1 := Lib.hid (Bool.eq_false_iff.2 h1); clear h1
    have HZ : Hid (shiftZ a d t.size k = (0, false)) := by unfold shiftZ; rw [if_pos (.inl H1.out)]; exact rfl
    go_enter Try.func22, Try.ntmps22
    go_wp2_with fail
    refine (rSmall_any a d t _ (by omega)).mono ?_
    rintro e w1 ⟨rfl, b1⟩
    rw [H1.out]
    have B := nb.trans (b1.mono (by omega))
    clear n0 nb hne b1
    go_wp2
    go_ret2
    exact ⟨by rw [HZ.out]; rfl, B⟩
end Go.Proofs.Ytjbfnlnfhafafaa
