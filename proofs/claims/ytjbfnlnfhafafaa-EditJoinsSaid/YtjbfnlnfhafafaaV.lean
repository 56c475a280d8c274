/- The reference's Join answers an edit: as edit.Join. -/
import Derived.Test.YtjbfnlnfhafafaaU
namespace Go.Proofs.Ytjbfnlnfhafafaa
open Go.RowKit

theorem EdAt.set2 {W : World} {b : Nat} {a d : Int} {t t' : ByteArray} (h : EdAt W b a d t) : EdAt (W.setCell ⟨b, 2, none⟩ (.string t')).drew b a d t' := by
  have h' : W.heap[b]? = some (.cells #[.int .i64 a, .int .i64 d, .string t] 32 (0, 0)) := h
  show (W.setCell ⟨b, 2, none⟩ (.string t')).heap[b]? = _
  simp [World.setCell, Array.getElem?_modify, h']
theorem EdAt.other {W : World} {b c : Nat} {a d : Int} {t : ByteArray} {x : Value} (h : EdAt W b a d t) (hc : b ≠ c) : EdAt (W.setCell ⟨c, 2, none⟩ x).drew b a d t := by
  show (W.setCell ⟨c, 2, none⟩ x).heap[b]? = _
  rw [Below.heap_setCell _ _ _ _ (by simpa using hc)]
  exact h
theorem ext_nil0 (t : ByteArray) : t.extract 0 0 = ⟨#[]⟩ := by apply bl_ext; rw [bl_extract]; simp [bl]
theorem ext_nil1 (t : ByteArray) : t.extract t.size t.size = ⟨#[]⟩ := by apply bl_ext; rw [bl_extract]; simp [bl]
theorem nil_append (u : ByteArray) : ⟨#[]⟩ ++ u = u := by apply bl_ext; rw [bl_append]; simp [bl]
theorem append_nil (u : ByteArray) : u ++ ⟨#[]⟩ = u := by apply bl_ext; rw [bl_append]; simp [bl]

set_option maxHeartbeats 4000000 in
theorem rJoin_lt_pos (a d b e : Nat) (t u : ByteArray) (w : World) (pa : a ≤ 65536) (pd : d ≤ 65536) (pb : b ≤ 65536) (pe : e ≤ 65536) (ht : t.size ≤ 65536) (hu : u.size ≤ 65536) (h1 : b ≤ a + t.size) (h2 : a ≤ b + e) (hab : b < a) (hte : a + t.size < b + e) :
    Calls Try.prog 18 #[edV a d t, edV b e u] w fun r w' => r = .returned (.tuple #[edV (min a b : Nat) (joinD a d t.size b e : Nat) (joinI a t b e u), .bool true]) ∧ Below w.heap.size w w' := by
  have HAB := Lib.hid hab; have HTE := Lib.hid hte; clear hab hte
  obtain ⟨n0, n1, n2, n3, n4⟩ := two_ed w a d b e t u _ rfl
  have H1 : Hid (smallB a d t.size = true) := Lib.hid (by simp only [smallB, inB, Bool.and_eq_true, decide_eq_true_eq]; omega)
  have H2 : Hid (smallB b e u.size = true) := Lib.hid (by simp only [smallB, inB, Bool.and_eq_true, decide_eq_true_eq]; omega)
  go_enter Try.func18, Try.ntmps18
  go_wp2_with fail
  refine (rSmall_any a d t _ (by omega)).mono ?_
  rintro r w1 ⟨rfl, b1⟩
  rw [H1.out]
  rw [n3] at b1
  have x0 := n0.below b1 (by omega)
  have x1 := n1.below b1 (by omega)
  have x2 := n2.below b1 (by omega)
  have B1 := n4.trans (b1.mono (by omega))
  clear n0 n1 n2 n3 n4 b1
  have c0 := x1.c0; have c1 := x1.c1; have c2 := x1.c2
  go_wp2_with fail
  refine (rSmall_any b e u _ (by omega)).mono ?_
  rintro r w2 ⟨rfl, b2⟩
  rw [H2.out]
  have y0 := x0.below b2 x0.lt
  have y1 := x1.below b2 x1.lt
  have y2 := x2.below b2 x2.lt
  have B2 := B1.trans (b2.mono B1.size)
  clear x0 x1 x2 B1 b2 c0 c1 c2
  have c0 := y0.c0; have c1 := y0.c1; have c2 := y0.c2
  have d0 := y1.c0; have d1 := y1.c1; have d2 := y1.c2
  have e0 := y2.c0; have e1 := y2.c1; have e2 := y2.c2
  have f0 := y2.fr 0; have f1 := y2.fr 1; have f2 := y2.fr 2
  go_wp2_with fail
  go_quiet (fail)
  have z2 : EdAt (w2.drewN nq) (w.heap.size + 2) 0 0 ⟨#[]⟩ := y2
  have z0 : EdAt (w2.drewN nq) w.heap.size a d t := y0
  have z1 : EdAt (w2.drewN nq) (w.heap.size + 1) b e u := y1
  have B3 : Below w.heap.size w (w2.drewN nq) := below_drewN _ B2
  clear y0 y1 y2 B2 c0 c1 c2 d0 d1 d2 e0 e1 e2 f0 f1 f2
  generalize w2.drewN nq = w3 at z0 z1 z2 B3 ⊢
  have hab := HAB.out
  have hte := HTE.out
  have g1 : (b < a) = True := eq_true (by omega)
  have g2 : (a < b) = False := eq_false (by omega)
  have g3 : ((0 : Int) < (a : Int) - b) = True := eq_true (by omega)
  have g4 : ((0 : Int) < (b : Int) + e - ((a : Int) + t.size)) = True := eq_true (by omega)
  have g5 : ((b : Int) + e < (a : Int) + t.size) = False := eq_false (by omega)
  have g6 : ((a : Int) + t.size < (b : Int) + e) = True := eq_true (by omega)
  have HAT : Hid (((min a b : Nat) : Int) = b) := Lib.hid (by omega)
  have HDD : Hid (((joinD a d t.size b e : Nat) : Int) = (d : Int) + (((a : Int) - b) + ((b : Int) + e - ((a : Int) + t.size)))) := Lib.hid (by unfold joinD; omega)
  have HJ : Hid (joinI a t b e u = u) := Lib.hid (by
    unfold joinI
    rw [show b - a = 0 by omega, ext_nil0, nil_append]
    rw [show min (b + e - a) t.size = t.size by omega, ext_nil1, append_nil])
  have c0 := z0.c0; have c1 := z0.c1; have c2 := z0.c2
  have d0 := z1.c0; have d1 := z1.c1; have d2 := z1.c2
  have hl := z2.lt
  have p0 := fun X => (z0.alloc X).c0; have p1 := fun X => (z0.alloc X).c1; have p2 := fun X => (z0.alloc X).c2
  have q0 := fun X => (z1.alloc X).c0; have q1 := fun X => (z1.alloc X).c1; have q2 := fun X => (z1.alloc X).c2
  have r0 := fun X => (z2.alloc X).c0; have r1 := fun X => (z2.alloc X).c1; have r2 := fun X => (z2.alloc X).c2
  have s3 := fun X => (z2.alloc X).fr 0; have s4 := fun X => (z2.alloc X).fr 1; have s5 := fun X => (z2.alloc X).fr 2
  have e0 := z2.c0; have e1 := z2.c1; have e2 := z2.c2
  have f0 := z2.fr 0; have f1 := z2.fr 1; have f2 := z2.fr 2
  have m0 : (w.heap.size = w3.heap.size) = False := eq_false (by omega)
  have m1 : (w.heap.size + 1 = w3.heap.size) = False := eq_false (by omega)
  have m2 : (w.heap.size + 1 + 1 = w3.heap.size) = False := eq_false (by omega)
  have m3 : (w3.heap.size = w.heap.size) = False := eq_false (by omega)
  have m4 : (w3.heap.size = w.heap.size + 1) = False := eq_false (by omega)
  have m5 : (w3.heap.size = w.heap.size + 1 + 1) = False := eq_false (by omega)
  go_wp2_with fail
  refine bodyPost_ret (v := .tuple #[edV b ((d : Int) + (((a : Int) - b) + ((b : Int) + e - ((a : Int) + t.size)))) (u), .bool true]) ?_ rfl ⟨by first | rw [HAT.out, HDD.out, HJ.out] | rw [HDD.out, HJ.out], by exact Below.alloc (below_set3 B3 (by omega)) (below_set3 B3 (by omega)).size _⟩
  have tt := (z2.set (a' := b) (d' := (d : Int) + (((a : Int) - b) + ((b : Int) + e - ((a : Int) + t.size)))) (t' := u)).alloc (.cells #[.int .i64 b, .int .i64 ((d : Int) + (((a : Int) - b) + ((b : Int) + e - ((a : Int) + t.size)))), .string u] 32)
  have tt0 := tt.c0
  have tt1 := tt.c1
  have tt2 := tt.c2
  simp [results, Try.f18, go_sem, tt0, tt1, tt2]

set_option maxHeartbeats 4000000 in
theorem rJoin_lt_zer (a d b e : Nat) (t u : ByteArray) (w : World) (pa : a ≤ 65536) (pd : d ≤ 65536) (pb : b ≤ 65536) (pe : e ≤ 65536) (ht : t.size ≤ 65536) (hu : u.size ≤ 65536) (h1 : b ≤ a + t.size) (h2 : a ≤ b + e) (hab : b < a) (hte : a + t.size = b + e) :
    Calls Try.prog 18 #[edV a d t, edV b e u] w fun r w' => r = .returned (.tuple #[edV (min a b : Nat) (joinD a d t.size b e : Nat) (joinI a t b e u), .bool true]) ∧ Below w.heap.size w w' := by
  have HAB := Lib.hid hab; have HTE := Lib.hid hte; clear hab hte
  obtain ⟨n0, n1, n2, n3, n4⟩ := two_ed w a d b e t u _ rfl
  have H1 : Hid (smallB a d t.size = true) := Lib.hid (by simp only [smallB, inB, Bool.and_eq_true, decide_eq_true_eq]; omega)
  have H2 : Hid (smallB b e u.size = true) := Lib.hid (by simp only [smallB, inB, Bool.and_eq_true, decide_eq_true_eq]; omega)
  go_enter Try.func18, Try.ntmps18
  go_wp2_with fail
  refine (rSmall_any a d t _ (by omega)).mono ?_
  rintro r w1 ⟨rfl, b1⟩
  rw [H1.out]
  rw [n3] at b1
  have x0 := n0.below b1 (by omega)
  have x1 := n1.below b1 (by omega)
  have x2 := n2.below b1 (by omega)
  have B1 := n4.trans (b1.mono (by omega))
  clear n0 n1 n2 n3 n4 b1
  have c0 := x1.c0; have c1 := x1.c1; have c2 := x1.c2
  go_wp2_with fail
  refine (rSmall_any b e u _ (by omega)).mono ?_
  rintro r w2 ⟨rfl, b2⟩
  rw [H2.out]
  have y0 := x0.below b2 x0.lt
  have y1 := x1.below b2 x1.lt
  have y2 := x2.below b2 x2.lt
  have B2 := B1.trans (b2.mono B1.size)
  clear x0 x1 x2 B1 b2 c0 c1 c2
  have c0 := y0.c0; have c1 := y0.c1; have c2 := y0.c2
  have d0 := y1.c0; have d1 := y1.c1; have d2 := y1.c2
  have e0 := y2.c0; have e1 := y2.c1; have e2 := y2.c2
  have f0 := y2.fr 0; have f1 := y2.fr 1; have f2 := y2.fr 2
  go_wp2_with fail
  go_quiet (fail)
  have z2 : EdAt (w2.drewN nq) (w.heap.size + 2) 0 0 ⟨#[]⟩ := y2
  have z0 : EdAt (w2.drewN nq) w.heap.size a d t := y0
  have z1 : EdAt (w2.drewN nq) (w.heap.size + 1) b e u := y1
  have B3 : Below w.heap.size w (w2.drewN nq) := below_drewN _ B2
  clear y0 y1 y2 B2 c0 c1 c2 d0 d1 d2 e0 e1 e2 f0 f1 f2
  generalize w2.drewN nq = w3 at z0 z1 z2 B3 ⊢
  have hab := HAB.out
  have hte := HTE.out
  have g1 : (b < a) = True := eq_true (by omega)
  have g2 : (a < b) = False := eq_false (by omega)
  have g3 : ((0 : Int) < (a : Int) - b) = True := eq_true (by omega)
  have g4 : ((0 : Int) < (b : Int) + e - ((a : Int) + t.size)) = False := eq_false (by omega)
  have g5 : ((b : Int) + e < (a : Int) + t.size) = False := eq_false (by omega)
  have g6 : ((a : Int) + t.size < (b : Int) + e) = False := eq_false (by omega)
  have HAT : Hid (((min a b : Nat) : Int) = b) := Lib.hid (by omega)
  have HDD : Hid (((joinD a d t.size b e : Nat) : Int) = (d : Int) + (((a : Int) - b))) := Lib.hid (by unfold joinD; omega)
  have HJ : Hid (joinI a t b e u = u) := Lib.hid (by
    unfold joinI
    rw [show b - a = 0 by omega, ext_nil0, nil_append]
    rw [show min (b + e - a) t.size = t.size by omega, ext_nil1, append_nil])
  have c0 := z0.c0; have c1 := z0.c1; have c2 := z0.c2
  have d0 := z1.c0; have d1 := z1.c1; have d2 := z1.c2
  have hl := z2.lt
  have p0 := fun X => (z0.alloc X).c0; have p1 := fun X => (z0.alloc X).c1; have p2 := fun X => (z0.alloc X).c2
  have q0 := fun X => (z1.alloc X).c0; have q1 := fun X => (z1.alloc X).c1; have q2 := fun X => (z1.alloc X).c2
  have r0 := fun X => (z2.alloc X).c0; have r1 := fun X => (z2.alloc X).c1; have r2 := fun X => (z2.alloc X).c2
  have s3 := fun X => (z2.alloc X).fr 0; have s4 := fun X => (z2.alloc X).fr 1; have s5 := fun X => (z2.alloc X).fr 2
  have e0 := z2.c0; have e1 := z2.c1; have e2 := z2.c2
  have f0 := z2.fr 0; have f1 := z2.fr 1; have f2 := z2.fr 2
  have m0 : (w.heap.size = w3.heap.size) = False := eq_false (by omega)
  have m1 : (w.heap.size + 1 = w3.heap.size) = False := eq_false (by omega)
  have m2 : (w.heap.size + 1 + 1 = w3.heap.size) = False := eq_false (by omega)
  have m3 : (w3.heap.size = w.heap.size) = False := eq_false (by omega)
  have m4 : (w3.heap.size = w.heap.size + 1) = False := eq_false (by omega)
  have m5 : (w3.heap.size = w.heap.size + 1 + 1) = False := eq_false (by omega)
  clear hte
  go_wp2_with fail
  refine bodyPost_ret (v := .tuple #[edV b ((d : Int) + (((a : Int) - b))) (u), .bool true]) ?_ rfl ⟨by first | rw [HAT.out, HDD.out, HJ.out] | rw [HDD.out, HJ.out], by exact Below.alloc (below_set3 B3 (by omega)) (below_set3 B3 (by omega)).size _⟩
  have tt := (z2.set (a' := b) (d' := (d : Int) + (((a : Int) - b))) (t' := u)).alloc (.cells #[.int .i64 b, .int .i64 ((d : Int) + (((a : Int) - b))), .string u] 32)
  have tt0 := tt.c0
  have tt1 := tt.c1
  have tt2 := tt.c2
  simp [results, Try.f18, go_sem, tt0, tt1, tt2]

set_option maxHeartbeats 4000000 in
theorem rJoin_lt_neg (a d b e : Nat) (t u : ByteArray) (w : World) (pa : a ≤ 65536) (pd : d ≤ 65536) (pb : b ≤ 65536) (pe : e ≤ 65536) (ht : t.size ≤ 65536) (hu : u.size ≤ 65536) (h1 : b ≤ a + t.size) (h2 : a ≤ b + e) (hab : b < a) (hte : b + e < a + t.size) :
    Calls Try.prog 18 #[edV a d t, edV b e u] w fun r w' => r = .returned (.tuple #[edV (min a b : Nat) (joinD a d t.size b e : Nat) (joinI a t b e u), .bool true]) ∧ Below w.heap.size w w' := by
  have HAB := Lib.hid hab; have HTE := Lib.hid hte; clear hab hte
  obtain ⟨n0, n1, n2, n3, n4⟩ := two_ed w a d b e t u _ rfl
  have H1 : Hid (smallB a d t.size = true) := Lib.hid (by simp only [smallB, inB, Bool.and_eq_true, decide_eq_true_eq]; omega)
  have H2 : Hid (smallB b e u.size = true) := Lib.hid (by simp only [smallB, inB, Bool.and_eq_true, decide_eq_true_eq]; omega)
  go_enter Try.func18, Try.ntmps18
  go_wp2_with fail
  refine (rSmall_any a d t _ (by omega)).mono ?_
  rintro r w1 ⟨rfl, b1⟩
  rw [H1.out]
  rw [n3] at b1
  have x0 := n0.below b1 (by omega)
  have x1 := n1.below b1 (by omega)
  have x2 := n2.below b1 (by omega)
  have B1 := n4.trans (b1.mono (by omega))
  clear n0 n1 n2 n3 n4 b1
  have c0 := x1.c0; have c1 := x1.c1; have c2 := x1.c2
  go_wp2_with fail
  refine (rSmall_any b e u _ (by omega)).mono ?_
  rintro r w2 ⟨rfl, b2⟩
  rw [H2.out]
  have y0 := x0.below b2 x0.lt
  have y1 := x1.below b2 x1.lt
  have y2 := x2.below b2 x2.lt
  have B2 := B1.trans (b2.mono B1.size)
  clear x0 x1 x2 B1 b2 c0 c1 c2
  have c0 := y0.c0; have c1 := y0.c1; have c2 := y0.c2
  have d0 := y1.c0; have d1 := y1.c1; have d2 := y1.c2
  have e0 := y2.c0; have e1 := y2.c1; have e2 := y2.c2
  have f0 := y2.fr 0; have f1 := y2.fr 1; have f2 := y2.fr 2
  go_wp2_with fail
  go_quiet (fail)
  have z2 : EdAt (w2.drewN nq) (w.heap.size + 2) 0 0 ⟨#[]⟩ := y2
  have z0 : EdAt (w2.drewN nq) w.heap.size a d t := y0
  have z1 : EdAt (w2.drewN nq) (w.heap.size + 1) b e u := y1
  have B3 : Below w.heap.size w (w2.drewN nq) := below_drewN _ B2
  clear y0 y1 y2 B2 c0 c1 c2 d0 d1 d2 e0 e1 e2 f0 f1 f2
  generalize w2.drewN nq = w3 at z0 z1 z2 B3 ⊢
  have hab := HAB.out
  have hte := HTE.out
  have g1 : (b < a) = True := eq_true (by omega)
  have g2 : (a < b) = False := eq_false (by omega)
  have g3 : ((0 : Int) < (a : Int) - b) = True := eq_true (by omega)
  have g4 : ((0 : Int) < (b : Int) + e - ((a : Int) + t.size)) = False := eq_false (by omega)
  have g5 : ((b : Int) + e < (a : Int) + t.size) = True := eq_true (by omega)
  have g6 : ((a : Int) + t.size < (b : Int) + e) = False := eq_false (by omega)
  have s2 := slc1 t (b + e - a) ((b : Int) + e - a) (by omega) (by omega)
  have HAT : Hid (((min a b : Nat) : Int) = b) := Lib.hid (by omega)
  have HDD : Hid (((joinD a d t.size b e : Nat) : Int) = (d : Int) + (((a : Int) - b))) := Lib.hid (by unfold joinD; omega)
  obtain ⟨rs, hrs⟩ : ∃ rs, t.extract (b + e - a) t.size = rs := ⟨_, rfl⟩
  have hr1 : rs.size ≤ 65536 := by rw [← hrs, ByteArray.size_extract]; omega
  rw [hrs] at s2
  have HJ : Hid (joinI a t b e u = u ++ rs) := Lib.hid (by
    unfold joinI
    rw [show b - a = 0 by omega, ext_nil0, nil_append]
    rw [show min (b + e - a) t.size = b + e - a by omega, hrs])
  clear hrs
  have c0 := z0.c0; have c1 := z0.c1; have c2 := z0.c2
  have d0 := z1.c0; have d1 := z1.c1; have d2 := z1.c2
  have hl := z2.lt
  have p0 := fun X => (z0.alloc X).c0; have p1 := fun X => (z0.alloc X).c1; have p2 := fun X => (z0.alloc X).c2
  have q0 := fun X => (z1.alloc X).c0; have q1 := fun X => (z1.alloc X).c1; have q2 := fun X => (z1.alloc X).c2
  have r0 := fun X => (z2.alloc X).c0; have r1 := fun X => (z2.alloc X).c1; have r2 := fun X => (z2.alloc X).c2
  have s3 := fun X => (z2.alloc X).fr 0; have s4 := fun X => (z2.alloc X).fr 1; have s5 := fun X => (z2.alloc X).fr 2
  have m0 : (w.heap.size = w3.heap.size) = False := eq_false (by omega)
  have m1 : (w.heap.size + 1 = w3.heap.size) = False := eq_false (by omega)
  have m2 : (w.heap.size + 1 + 1 = w3.heap.size) = False := eq_false (by omega)
  have m3 : (w3.heap.size = w.heap.size) = False := eq_false (by omega)
  have m4 : (w3.heap.size = w.heap.size + 1) = False := eq_false (by omega)
  have m5 : (w3.heap.size = w.heap.size + 1 + 1) = False := eq_false (by omega)
  go_wp2_with fail
  have v4 := EdAt.new w3 b ((d : Int) + (((a : Int) - b))) u
  have x0 := z0.alloc (.cells #[.int .i64 b, .int .i64 ((d : Int) + (((a : Int) - b))), .string u] 32)
  have x1 := z1.alloc (.cells #[.int .i64 b, .int .i64 ((d : Int) + (((a : Int) - b))), .string u] 32)
  have x2 := z2.alloc (.cells #[.int .i64 b, .int .i64 ((d : Int) + (((a : Int) - b))), .string u] 32)
  have B4 := B3.alloc B3.size (.cells #[.int .i64 b, .int .i64 ((d : Int) + (((a : Int) - b))), .string u] 32)
  clear c0 c1 c2 d0 d1 d2 p0 p1 p2 q0 q1 q2 r0 r1 r2 s3 s4 s5 z0 z1 z2 B3
  generalize w3.alloc (.cells #[.int .i64 b, .int .i64 ((d : Int) + (((a : Int) - b))), .string u] 32) = w4 at v4 x0 x1 x2 B4 ⊢
  generalize hH : w3.heap.size = h3 at *
  have HH := Lib.hid hH
  clear hH
  have hc1 : (9223372036854775807 < u.size) = False := eq_false (by omega)
  have hc3 : (9223372036854775807 < u.size + rs.size) = False := eq_false (by omega)
  have c0 := x0.c0; have c1 := x0.c1; have c2 := x0.c2
  have d0 := x1.c0; have d1 := x1.c1; have d2 := x1.c2
  have r0 := x2.c0; have r1 := x2.c1; have r2 := x2.c2
  have s3 := x2.fr 0; have s4 := x2.fr 1; have s5 := x2.fr 2
  have t0 := v4.c0; have t1 := v4.c1; have t2 := v4.c2; have t5 := v4.fr 2
  go_region
  go_wp2_with fail
  clear c0 c1 c2 d0 d1 d2 r0 r1 r2 s3 s4 s5 t0 t1 t2 t5
  have x2' : EdAt (w4.setCell ⟨h3, 2, none⟩ (.string (u ++ rs))) (w.heap.size + 2) 0 0 ⟨#[]⟩ := x2.other (by omega)
  have B4' : Below w.heap.size w (w4.setCell ⟨h3, 2, none⟩ (.string (u ++ rs))) := B4.setCell (p := ⟨h3, 2, none⟩) (by simp; omega) _
  clear v4 x0 x1 x2 B4
  generalize (w4.setCell ⟨h3, 2, none⟩ (.string (u ++ rs))) = w6 at x2' B4' ⊢
  have x2 := x2'; have B4 := B4'
  clear x2' B4'
  refine bodyPost_ret (v := .tuple #[edV b ((d : Int) + (((a : Int) - b))) (u ++ rs), .bool true]) ?_ rfl ⟨by first | rw [HAT.out, HDD.out, HJ.out] | rw [HDD.out, HJ.out], by first | exact below_set3 B4 (by omega) | exact below_drew (below_set3 B4 (by omega))⟩
  have tt := x2.set (a' := b) (d' := (d : Int) + (((a : Int) - b))) (t' := u ++ rs)
  have tt0 := tt.c0
  have tt1 := tt.c1
  have tt2 := tt.c2
  simp [results, Try.f18, go_sem, tt0, tt1, tt2]

set_option maxHeartbeats 4000000 in
theorem rJoin_eq_pos (a d b e : Nat) (t u : ByteArray) (w : World) (pa : a ≤ 65536) (pd : d ≤ 65536) (pb : b ≤ 65536) (pe : e ≤ 65536) (ht : t.size ≤ 65536) (hu : u.size ≤ 65536) (h1 : b ≤ a + t.size) (h2 : a ≤ b + e) (hab : b = a) (hte : a + t.size < b + e) :
    Calls Try.prog 18 #[edV a d t, edV b e u] w fun r w' => r = .returned (.tuple #[edV (min a b : Nat) (joinD a d t.size b e : Nat) (joinI a t b e u), .bool true]) ∧ Below w.heap.size w w' := by
  have HAB := Lib.hid hab; have HTE := Lib.hid hte; clear hab hte
  obtain ⟨n0, n1, n2, n3, n4⟩ := two_ed w a d b e t u _ rfl
  have H1 : Hid (smallB a d t.size = true) := Lib.hid (by simp only [smallB, inB, Bool.and_eq_true, decide_eq_true_eq]; omega)
  have H2 : Hid (smallB b e u.size = true) := Lib.hid (by simp only [smallB, inB, Bool.and_eq_true, decide_eq_true_eq]; omega)
  go_enter Try.func18, Try.ntmps18
  go_wp2_with fail
  refine (rSmall_any a d t _ (by omega)).mono ?_
  rintro r w1 ⟨rfl, b1⟩
  rw [H1.out]
  rw [n3] at b1
  have x0 := n0.below b1 (by omega)
  have x1 := n1.below b1 (by omega)
  have x2 := n2.below b1 (by omega)
  have B1 := n4.trans (b1.mono (by omega))
  clear n0 n1 n2 n3 n4 b1
  have c0 := x1.c0; have c1 := x1.c1; have c2 := x1.c2
  go_wp2_with fail
  refine (rSmall_any b e u _ (by omega)).mono ?_
  rintro r w2 ⟨rfl, b2⟩
  rw [H2.out]
  have y0 := x0.below b2 x0.lt
  have y1 := x1.below b2 x1.lt
  have y2 := x2.below b2 x2.lt
  have B2 := B1.trans (b2.mono B1.size)
  clear x0 x1 x2 B1 b2 c0 c1 c2
  have c0 := y0.c0; have c1 := y0.c1; have c2 := y0.c2
  have d0 := y1.c0; have d1 := y1.c1; have d2 := y1.c2
  have e0 := y2.c0; have e1 := y2.c1; have e2 := y2.c2
  have f0 := y2.fr 0; have f1 := y2.fr 1; have f2 := y2.fr 2
  go_wp2_with fail
  go_quiet (fail)
  have z2 : EdAt (w2.drewN nq) (w.heap.size + 2) 0 0 ⟨#[]⟩ := y2
  have z0 : EdAt (w2.drewN nq) w.heap.size a d t := y0
  have z1 : EdAt (w2.drewN nq) (w.heap.size + 1) b e u := y1
  have B3 : Below w.heap.size w (w2.drewN nq) := below_drewN _ B2
  clear y0 y1 y2 B2 c0 c1 c2 d0 d1 d2 e0 e1 e2 f0 f1 f2
  generalize w2.drewN nq = w3 at z0 z1 z2 B3 ⊢
  have hab := HAB.out
  have hte := HTE.out
  have hab2 : a = b := hab.symm
  subst hab2
  have g4 : ((0 : Int) < (a : Int) + e - ((a : Int) + t.size)) = True := eq_true (by omega)
  have g5 : ((a : Int) + e < (a : Int) + t.size) = False := eq_false (by omega)
  have g6 : ((a : Int) + t.size < (a : Int) + e) = True := eq_true (by omega)
  have HAT : Hid (((min a a : Nat) : Int) = a) := Lib.hid (by omega)
  have HDD : Hid (((joinD a d t.size a e : Nat) : Int) = (d : Int) + (((a : Int) + e - ((a : Int) + t.size)))) := Lib.hid (by unfold joinD; omega)
  have HJ : Hid (joinI a t a e u = u) := Lib.hid (by
    unfold joinI
    rw [show a - a = 0 by omega, ext_nil0, nil_append]
    rw [show min (a + e - a) t.size = t.size by omega, ext_nil1, append_nil])
  have c0 := z0.c0; have c1 := z0.c1; have c2 := z0.c2
  have d0 := z1.c0; have d1 := z1.c1; have d2 := z1.c2
  have hl := z2.lt
  have p0 := fun X => (z0.alloc X).c0; have p1 := fun X => (z0.alloc X).c1; have p2 := fun X => (z0.alloc X).c2
  have q0 := fun X => (z1.alloc X).c0; have q1 := fun X => (z1.alloc X).c1; have q2 := fun X => (z1.alloc X).c2
  have r0 := fun X => (z2.alloc X).c0; have r1 := fun X => (z2.alloc X).c1; have r2 := fun X => (z2.alloc X).c2
  have s3 := fun X => (z2.alloc X).fr 0; have s4 := fun X => (z2.alloc X).fr 1; have s5 := fun X => (z2.alloc X).fr 2
  have e0 := z2.c0; have e1 := z2.c1; have e2 := z2.c2
  have f0 := z2.fr 0; have f1 := z2.fr 1; have f2 := z2.fr 2
  have m0 : (w.heap.size = w3.heap.size) = False := eq_false (by omega)
  have m1 : (w.heap.size + 1 = w3.heap.size) = False := eq_false (by omega)
  have m2 : (w.heap.size + 1 + 1 = w3.heap.size) = False := eq_false (by omega)
  have m3 : (w3.heap.size = w.heap.size) = False := eq_false (by omega)
  have m4 : (w3.heap.size = w.heap.size + 1) = False := eq_false (by omega)
  have m5 : (w3.heap.size = w.heap.size + 1 + 1) = False := eq_false (by omega)
  clear HAB
  go_wp2_with fail
  refine bodyPost_ret (v := .tuple #[edV a ((d : Int) + (((a : Int) + e - ((a : Int) + t.size)))) (u), .bool true]) ?_ rfl ⟨by first | rw [HAT.out, HDD.out, HJ.out] | rw [HDD.out, HJ.out], by exact Below.alloc (below_set3 B3 (by omega)) (below_set3 B3 (by omega)).size _⟩
  have tt := (z2.set (a' := a) (d' := (d : Int) + (((a : Int) + e - ((a : Int) + t.size)))) (t' := u)).alloc (.cells #[.int .i64 a, .int .i64 ((d : Int) + (((a : Int) + e - ((a : Int) + t.size)))), .string u] 32)
  have tt0 := tt.c0
  have tt1 := tt.c1
  have tt2 := tt.c2
  simp [results, Try.f18, go_sem, tt0, tt1, tt2]

set_option maxHeartbeats 4000000 in
theorem rJoin_eq_zer (a d b e : Nat) (t u : ByteArray) (w : World) (pa : a ≤ 65536) (pd : d ≤ 65536) (pb : b ≤ 65536) (pe : e ≤ 65536) (ht : t.size ≤ 65536) (hu : u.size ≤ 65536) (h1 : b ≤ a + t.size) (h2 : a ≤ b + e) (hab : b = a) (hte : a + t.size = b + e) :
    Calls Try.prog 18 #[edV a d t, edV b e u] w fun r w' => r = .returned (.tuple #[edV (min a b : Nat) (joinD a d t.size b e : Nat) (joinI a t b e u), .bool true]) ∧ Below w.heap.size w w' := by
  have HAB := Lib.hid hab; have HTE := Lib.hid hte; clear hab hte
  obtain ⟨n0, n1, n2, n3, n4⟩ := two_ed w a d b e t u _ rfl
  have H1 : Hid (smallB a d t.size = true) := Lib.hid (by simp only [smallB, inB, Bool.and_eq_true, decide_eq_true_eq]; omega)
  have H2 : Hid (smallB b e u.size = true) := Lib.hid (by simp only [smallB, inB, Bool.and_eq_true, decide_eq_true_eq]; omega)
  go_enter Try.func18, Try.ntmps18
  go_wp2_with fail
  refine (rSmall_any a d t _ (by omega)).mono ?_
  rintro r w1 ⟨rfl, b1⟩
  rw [H1.out]
  rw [n3] at b1
  have x0 := n0.below b1 (by omega)
  have x1 := n1.below b1 (by omega)
  have x2 := n2.below b1 (by omega)
  have B1 := n4.trans (b1.mono (by omega))
  clear n0 n1 n2 n3 n4 b1
  have c0 := x1.c0; have c1 := x1.c1; have c2 := x1.c2
  go_wp2_with fail
  refine (rSmall_any b e u _ (by omega)).mono ?_
  rintro r w2 ⟨rfl, b2⟩
  rw [H2.out]
  have y0 := x0.below b2 x0.lt
  have y1 := x1.below b2 x1.lt
  have y2 := x2.below b2 x2.lt
  have B2 := B1.trans (b2.mono B1.size)
  clear x0 x1 x2 B1 b2 c0 c1 c2
  have c0 := y0.c0; have c1 := y0.c1; have c2 := y0.c2
  have d0 := y1.c0; have d1 := y1.c1; have d2 := y1.c2
  have e0 := y2.c0; have e1 := y2.c1; have e2 := y2.c2
  have f0 := y2.fr 0; have f1 := y2.fr 1; have f2 := y2.fr 2
  go_wp2_with fail
  go_quiet (fail)
  have z2 : EdAt (w2.drewN nq) (w.heap.size + 2) 0 0 ⟨#[]⟩ := y2
  have z0 : EdAt (w2.drewN nq) w.heap.size a d t := y0
  have z1 : EdAt (w2.drewN nq) (w.heap.size + 1) b e u := y1
  have B3 : Below w.heap.size w (w2.drewN nq) := below_drewN _ B2
  clear y0 y1 y2 B2 c0 c1 c2 d0 d1 d2 e0 e1 e2 f0 f1 f2
  generalize w2.drewN nq = w3 at z0 z1 z2 B3 ⊢
  have hab := HAB.out
  have hte := HTE.out
  have hab2 : a = b := hab.symm
  subst hab2
  have g4 : ((0 : Int) < (a : Int) + e - ((a : Int) + t.size)) = False := eq_false (by omega)
  have g5 : ((a : Int) + e < (a : Int) + t.size) = False := eq_false (by omega)
  have g6 : ((a : Int) + t.size < (a : Int) + e) = False := eq_false (by omega)
  have HAT : Hid (((min a a : Nat) : Int) = a) := Lib.hid (by omega)
  have HDD : Hid (((joinD a d t.size a e : Nat) : Int) = (d : Int)) := Lib.hid (by unfold joinD; omega)
  have HJ : Hid (joinI a t a e u = u) := Lib.hid (by
    unfold joinI
    rw [show a - a = 0 by omega, ext_nil0, nil_append]
    rw [show min (a + e - a) t.size = t.size by omega, ext_nil1, append_nil])
  have c0 := z0.c0; have c1 := z0.c1; have c2 := z0.c2
  have d0 := z1.c0; have d1 := z1.c1; have d2 := z1.c2
  have hl := z2.lt
  have p0 := fun X => (z0.alloc X).c0; have p1 := fun X => (z0.alloc X).c1; have p2 := fun X => (z0.alloc X).c2
  have q0 := fun X => (z1.alloc X).c0; have q1 := fun X => (z1.alloc X).c1; have q2 := fun X => (z1.alloc X).c2
  have r0 := fun X => (z2.alloc X).c0; have r1 := fun X => (z2.alloc X).c1; have r2 := fun X => (z2.alloc X).c2
  have s3 := fun X => (z2.alloc X).fr 0; have s4 := fun X => (z2.alloc X).fr 1; have s5 := fun X => (z2.alloc X).fr 2
  have e0 := z2.c0; have e1 := z2.c1; have e2 := z2.c2
  have f0 := z2.fr 0; have f1 := z2.fr 1; have f2 := z2.fr 2
  have m0 : (w.heap.size = w3.heap.size) = False := eq_false (by omega)
  have m1 : (w.heap.size + 1 = w3.heap.size) = False := eq_false (by omega)
  have m2 : (w.heap.size + 1 + 1 = w3.heap.size) = False := eq_false (by omega)
  have m3 : (w3.heap.size = w.heap.size) = False := eq_false (by omega)
  have m4 : (w3.heap.size = w.heap.size + 1) = False := eq_false (by omega)
  have m5 : (w3.heap.size = w.heap.size + 1 + 1) = False := eq_false (by omega)
  clear hte
  clear HAB
  go_wp2_with fail
  refine bodyPost_ret (v := .tuple #[edV a ((d : Int)) (u), .bool true]) ?_ rfl ⟨by first | rw [HAT.out, HDD.out, HJ.out] | rw [HDD.out, HJ.out], by exact Below.alloc (below_set3 B3 (by omega)) (below_set3 B3 (by omega)).size _⟩
  have tt := (z2.set (a' := a) (d' := (d : Int)) (t' := u)).alloc (.cells #[.int .i64 a, .int .i64 ((d : Int)), .string u] 32)
  have tt0 := tt.c0
  have tt1 := tt.c1
  have tt2 := tt.c2
  simp [results, Try.f18, go_sem, tt0, tt1, tt2]

set_option maxHeartbeats 4000000 in
theorem rJoin_eq_neg (a d b e : Nat) (t u : ByteArray) (w : World) (pa : a ≤ 65536) (pd : d ≤ 65536) (pb : b ≤ 65536) (pe : e ≤ 65536) (ht : t.size ≤ 65536) (hu : u.size ≤ 65536) (h1 : b ≤ a + t.size) (h2 : a ≤ b + e) (hab : b = a) (hte : b + e < a + t.size) :
    Calls Try.prog 18 #[edV a d t, edV b e u] w fun r w' => r = .returned (.tuple #[edV (min a b : Nat) (joinD a d t.size b e : Nat) (joinI a t b e u), .bool true]) ∧ Below w.heap.size w w' := by
  have HAB := Lib.hid hab; have HTE := Lib.hid hte; clear hab hte
  obtain ⟨n0, n1, n2, n3, n4⟩ := two_ed w a d b e t u _ rfl
  have H1 : Hid (smallB a d t.size = true) := Lib.hid (by simp only [smallB, inB, Bool.and_eq_true, decide_eq_true_eq]; omega)
  have H2 : Hid (smallB b e u.size = true) := Lib.hid (by simp only [smallB, inB, Bool.and_eq_true, decide_eq_true_eq]; omega)
  go_enter Try.func18, Try.ntmps18
  go_wp2_with fail
  refine (rSmall_any a d t _ (by omega)).mono ?_
  rintro r w1 ⟨rfl, b1⟩
  rw [H1.out]
  rw [n3] at b1
  have x0 := n0.below b1 (by omega)
  have x1 := n1.below b1 (by omega)
  have x2 := n2.below b1 (by omega)
  have B1 := n4.trans (b1.mono (by omega))
  clear n0 n1 n2 n3 n4 b1
  have c0 := x1.c0; have c1 := x1.c1; have c2 := x1.c2
  go_wp2_with fail
  refine (rSmall_any b e u _ (by omega)).mono ?_
  rintro r w2 ⟨rfl, b2⟩
  rw [H2.out]
  have y0 := x0.below b2 x0.lt
  have y1 := x1.below b2 x1.lt
  have y2 := x2.below b2 x2.lt
  have B2 := B1.trans (b2.mono B1.size)
  clear x0 x1 x2 B1 b2 c0 c1 c2
  have c0 := y0.c0; have c1 := y0.c1; have c2 := y0.c2
  have d0 := y1.c0; have d1 := y1.c1; have d2 := y1.c2
  have e0 := y2.c0; have e1 := y2.c1; have e2 := y2.c2
  have f0 := y2.fr 0; have f1 := y2.fr 1; have f2 := y2.fr 2
  go_wp2_with fail
  go_quiet (fail)
  have z2 : EdAt (w2.drewN nq) (w.heap.size + 2) 0 0 ⟨#[]⟩ := y2
  have z0 : EdAt (w2.drewN nq) w.heap.size a d t := y0
  have z1 : EdAt (w2.drewN nq) (w.heap.size + 1) b e u := y1
  have B3 : Below w.heap.size w (w2.drewN nq) := below_drewN _ B2
  clear y0 y1 y2 B2 c0 c1 c2 d0 d1 d2 e0 e1 e2 f0 f1 f2
  generalize w2.drewN nq = w3 at z0 z1 z2 B3 ⊢
  have hab := HAB.out
  have hte := HTE.out
  have hab2 : a = b := hab.symm
  subst hab2
  have g4 : ((0 : Int) < (a : Int) + e - ((a : Int) + t.size)) = False := eq_false (by omega)
  have g5 : ((a : Int) + e < (a : Int) + t.size) = True := eq_true (by omega)
  have g6 : ((a : Int) + t.size < (a : Int) + e) = False := eq_false (by omega)
  have s2 := slc1 t (a + e - a) ((a : Int) + e - a) (by omega) (by omega)
  have HAT : Hid (((min a a : Nat) : Int) = a) := Lib.hid (by omega)
  have HDD : Hid (((joinD a d t.size a e : Nat) : Int) = (d : Int)) := Lib.hid (by unfold joinD; omega)
  obtain ⟨rs, hrs⟩ : ∃ rs, t.extract (a + e - a) t.size = rs := ⟨_, rfl⟩
  have hr1 : rs.size ≤ 65536 := by rw [← hrs, ByteArray.size_extract]; omega
  rw [hrs] at s2
  have HJ : Hid (joinI a t a e u = u ++ rs) := Lib.hid (by
    unfold joinI
    rw [show a - a = 0 by omega, ext_nil0, nil_append]
    rw [show min (a + e - a) t.size = a + e - a by omega, hrs])
  clear hrs
  have c0 := z0.c0; have c1 := z0.c1; have c2 := z0.c2
  have d0 := z1.c0; have d1 := z1.c1; have d2 := z1.c2
  have hl := z2.lt
  have p0 := fun X => (z0.alloc X).c0; have p1 := fun X => (z0.alloc X).c1; have p2 := fun X => (z0.alloc X).c2
  have q0 := fun X => (z1.alloc X).c0; have q1 := fun X => (z1.alloc X).c1; have q2 := fun X => (z1.alloc X).c2
  have r0 := fun X => (z2.alloc X).c0; have r1 := fun X => (z2.alloc X).c1; have r2 := fun X => (z2.alloc X).c2
  have s3 := fun X => (z2.alloc X).fr 0; have s4 := fun X => (z2.alloc X).fr 1; have s5 := fun X => (z2.alloc X).fr 2
  have m0 : (w.heap.size = w3.heap.size) = False := eq_false (by omega)
  have m1 : (w.heap.size + 1 = w3.heap.size) = False := eq_false (by omega)
  have m2 : (w.heap.size + 1 + 1 = w3.heap.size) = False := eq_false (by omega)
  have m3 : (w3.heap.size = w.heap.size) = False := eq_false (by omega)
  have m4 : (w3.heap.size = w.heap.size + 1) = False := eq_false (by omega)
  have m5 : (w3.heap.size = w.heap.size + 1 + 1) = False := eq_false (by omega)
  clear HAB
  go_wp2_with fail
  have v4 := EdAt.new w3 a ((d : Int)) u
  have x0 := z0.alloc (.cells #[.int .i64 a, .int .i64 ((d : Int)), .string u] 32)
  have x1 := z1.alloc (.cells #[.int .i64 a, .int .i64 ((d : Int)), .string u] 32)
  have x2 := z2.alloc (.cells #[.int .i64 a, .int .i64 ((d : Int)), .string u] 32)
  have B4 := B3.alloc B3.size (.cells #[.int .i64 a, .int .i64 ((d : Int)), .string u] 32)
  clear c0 c1 c2 d0 d1 d2 p0 p1 p2 q0 q1 q2 r0 r1 r2 s3 s4 s5 z0 z1 z2 B3
  generalize w3.alloc (.cells #[.int .i64 a, .int .i64 ((d : Int)), .string u] 32) = w4 at v4 x0 x1 x2 B4 ⊢
  generalize hH : w3.heap.size = h3 at *
  have HH := Lib.hid hH
  clear hH
  have hc1 : (9223372036854775807 < u.size) = False := eq_false (by omega)
  have hc3 : (9223372036854775807 < u.size + rs.size) = False := eq_false (by omega)
  have c0 := x0.c0; have c1 := x0.c1; have c2 := x0.c2
  have d0 := x1.c0; have d1 := x1.c1; have d2 := x1.c2
  have r0 := x2.c0; have r1 := x2.c1; have r2 := x2.c2
  have s3 := x2.fr 0; have s4 := x2.fr 1; have s5 := x2.fr 2
  have t0 := v4.c0; have t1 := v4.c1; have t2 := v4.c2; have t5 := v4.fr 2
  go_region
  go_wp2_with fail
  clear c0 c1 c2 d0 d1 d2 r0 r1 r2 s3 s4 s5 t0 t1 t2 t5
  have x2' : EdAt (w4.setCell ⟨h3, 2, none⟩ (.string (u ++ rs))) (w.heap.size + 2) 0 0 ⟨#[]⟩ := x2.other (by omega)
  have B4' : Below w.heap.size w (w4.setCell ⟨h3, 2, none⟩ (.string (u ++ rs))) := B4.setCell (p := ⟨h3, 2, none⟩) (by simp; omega) _
  clear v4 x0 x1 x2 B4
  generalize (w4.setCell ⟨h3, 2, none⟩ (.string (u ++ rs))) = w6 at x2' B4' ⊢
  have x2 := x2'; have B4 := B4'
  clear x2' B4'
  refine bodyPost_ret (v := .tuple #[edV a ((d : Int)) (u ++ rs), .bool true]) ?_ rfl ⟨by first | rw [HAT.out, HDD.out, HJ.out] | rw [HDD.out, HJ.out], by first | exact below_set3 B4 (by omega) | exact below_drew (below_set3 B4 (by omega))⟩
  have tt := x2.set (a' := a) (d' := (d : Int)) (t' := u ++ rs)
  have tt0 := tt.c0
  have tt1 := tt.c1
  have tt2 := tt.c2
  simp [results, Try.f18, go_sem, tt0, tt1, tt2]

set_option maxHeartbeats 4000000 in
theorem rJoin_gt_pos (a d b e : Nat) (t u : ByteArray) (w : World) (pa : a ≤ 65536) (pd : d ≤ 65536) (pb : b ≤ 65536) (pe : e ≤ 65536) (ht : t.size ≤ 65536) (hu : u.size ≤ 65536) (h1 : b ≤ a + t.size) (h2 : a ≤ b + e) (hab : a < b) (hte : a + t.size < b + e) :
    Calls Try.prog 18 #[edV a d t, edV b e u] w fun r w' => r = .returned (.tuple #[edV (min a b : Nat) (joinD a d t.size b e : Nat) (joinI a t b e u), .bool true]) ∧ Below w.heap.size w w' := by
  have HAB := Lib.hid hab; have HTE := Lib.hid hte; clear hab hte
  obtain ⟨n0, n1, n2, n3, n4⟩ := two_ed w a d b e t u _ rfl
  have H1 : Hid (smallB a d t.size = true) := Lib.hid (by simp only [smallB, inB, Bool.and_eq_true, decide_eq_true_eq]; omega)
  have H2 : Hid (smallB b e u.size = true) := Lib.hid (by simp only [smallB, inB, Bool.and_eq_true, decide_eq_true_eq]; omega)
  go_enter Try.func18, Try.ntmps18
  go_wp2_with fail
  refine (rSmall_any a d t _ (by omega)).mono ?_
  rintro r w1 ⟨rfl, b1⟩
  rw [H1.out]
  rw [n3] at b1
  have x0 := n0.below b1 (by omega)
  have x1 := n1.below b1 (by omega)
  have x2 := n2.below b1 (by omega)
  have B1 := n4.trans (b1.mono (by omega))
  clear n0 n1 n2 n3 n4 b1
  have c0 := x1.c0; have c1 := x1.c1; have c2 := x1.c2
  go_wp2_with fail
  refine (rSmall_any b e u _ (by omega)).mono ?_
  rintro r w2 ⟨rfl, b2⟩
  rw [H2.out]
  have y0 := x0.below b2 x0.lt
  have y1 := x1.below b2 x1.lt
  have y2 := x2.below b2 x2.lt
  have B2 := B1.trans (b2.mono B1.size)
  clear x0 x1 x2 B1 b2 c0 c1 c2
  have c0 := y0.c0; have c1 := y0.c1; have c2 := y0.c2
  have d0 := y1.c0; have d1 := y1.c1; have d2 := y1.c2
  have e0 := y2.c0; have e1 := y2.c1; have e2 := y2.c2
  have f0 := y2.fr 0; have f1 := y2.fr 1; have f2 := y2.fr 2
  go_wp2_with fail
  go_quiet (fail)
  have z2 : EdAt (w2.drewN nq) (w.heap.size + 2) 0 0 ⟨#[]⟩ := y2
  have z0 : EdAt (w2.drewN nq) w.heap.size a d t := y0
  have z1 : EdAt (w2.drewN nq) (w.heap.size + 1) b e u := y1
  have B3 : Below w.heap.size w (w2.drewN nq) := below_drewN _ B2
  clear y0 y1 y2 B2 c0 c1 c2 d0 d1 d2 e0 e1 e2 f0 f1 f2
  generalize w2.drewN nq = w3 at z0 z1 z2 B3 ⊢
  have hab := HAB.out
  have hte := HTE.out
  have g1 : (b < a) = False := eq_false (by omega)
  have g2 : (a < b) = True := eq_true (by omega)
  have g3 : ((0 : Int) < (a : Int) - b) = False := eq_false (by omega)
  have g4 : ((0 : Int) < (b : Int) + e - ((a : Int) + t.size)) = True := eq_true (by omega)
  have g5 : ((b : Int) + e < (a : Int) + t.size) = False := eq_false (by omega)
  have g6 : ((a : Int) + t.size < (b : Int) + e) = True := eq_true (by omega)
  have s1 := slc0z t (b - a) ((b : Int) - a) (by omega) (by omega)
  have HAT : Hid (((min a b : Nat) : Int) = a) := Lib.hid (by omega)
  have HDD : Hid (((joinD a d t.size b e : Nat) : Int) = (d : Int) + (((b : Int) + e - ((a : Int) + t.size)))) := Lib.hid (by unfold joinD; omega)
  obtain ⟨ls, hls⟩ : ∃ ls, t.extract 0 (b - a) = ls := ⟨_, rfl⟩
  have hl1 : ls.size ≤ 65536 := by rw [← hls, ByteArray.size_extract]; omega
  rw [hls] at s1
  have HJ : Hid (joinI a t b e u = ls ++ u) := Lib.hid (by
    unfold joinI
    rw [hls]
    rw [show min (b + e - a) t.size = t.size by omega, ext_nil1, append_nil])
  clear hls
  have c0 := z0.c0; have c1 := z0.c1; have c2 := z0.c2
  have d0 := z1.c0; have d1 := z1.c1; have d2 := z1.c2
  have hl := z2.lt
  have p0 := fun X => (z0.alloc X).c0; have p1 := fun X => (z0.alloc X).c1; have p2 := fun X => (z0.alloc X).c2
  have q0 := fun X => (z1.alloc X).c0; have q1 := fun X => (z1.alloc X).c1; have q2 := fun X => (z1.alloc X).c2
  have r0 := fun X => (z2.alloc X).c0; have r1 := fun X => (z2.alloc X).c1; have r2 := fun X => (z2.alloc X).c2
  have s3 := fun X => (z2.alloc X).fr 0; have s4 := fun X => (z2.alloc X).fr 1; have s5 := fun X => (z2.alloc X).fr 2
  have m0 : (w.heap.size = w3.heap.size) = False := eq_false (by omega)
  have m1 : (w.heap.size + 1 = w3.heap.size) = False := eq_false (by omega)
  have m2 : (w.heap.size + 1 + 1 = w3.heap.size) = False := eq_false (by omega)
  have m3 : (w3.heap.size = w.heap.size) = False := eq_false (by omega)
  have m4 : (w3.heap.size = w.heap.size + 1) = False := eq_false (by omega)
  have m5 : (w3.heap.size = w.heap.size + 1 + 1) = False := eq_false (by omega)
  go_wp2_with fail
  have v4 := EdAt.new w3 a ((d : Int) + (((b : Int) + e - ((a : Int) + t.size)))) u
  have x0 := z0.alloc (.cells #[.int .i64 a, .int .i64 ((d : Int) + (((b : Int) + e - ((a : Int) + t.size)))), .string u] 32)
  have x1 := z1.alloc (.cells #[.int .i64 a, .int .i64 ((d : Int) + (((b : Int) + e - ((a : Int) + t.size)))), .string u] 32)
  have x2 := z2.alloc (.cells #[.int .i64 a, .int .i64 ((d : Int) + (((b : Int) + e - ((a : Int) + t.size)))), .string u] 32)
  have B4 := B3.alloc B3.size (.cells #[.int .i64 a, .int .i64 ((d : Int) + (((b : Int) + e - ((a : Int) + t.size)))), .string u] 32)
  clear c0 c1 c2 d0 d1 d2 p0 p1 p2 q0 q1 q2 r0 r1 r2 s3 s4 s5 z0 z1 z2 B3
  generalize w3.alloc (.cells #[.int .i64 a, .int .i64 ((d : Int) + (((b : Int) + e - ((a : Int) + t.size)))), .string u] 32) = w4 at v4 x0 x1 x2 B4 ⊢
  generalize hH : w3.heap.size = h3 at *
  have HH := Lib.hid hH
  clear hH
  have hc1 : (9223372036854775807 < u.size) = False := eq_false (by omega)
  have hc2 : (9223372036854775807 < ls.size + u.size) = False := eq_false (by omega)
  have c0 := x0.c0; have c1 := x0.c1; have c2 := x0.c2
  have d0 := x1.c0; have d1 := x1.c1; have d2 := x1.c2
  have r0 := x2.c0; have r1 := x2.c1; have r2 := x2.c2
  have s3 := x2.fr 0; have s4 := x2.fr 1; have s5 := x2.fr 2
  have t0 := v4.c0; have t1 := v4.c1; have t2 := v4.c2; have t5 := v4.fr 2
  go_region
  go_wp2_with fail
  clear c0 c1 c2 d0 d1 d2 r0 r1 r2 s3 s4 s5 t0 t1 t2 t5
  have x2' : EdAt (w4.setCell ⟨h3, 2, none⟩ (.string (ls ++ u))) (w.heap.size + 2) 0 0 ⟨#[]⟩ := x2.other (by omega)
  have B4' : Below w.heap.size w (w4.setCell ⟨h3, 2, none⟩ (.string (ls ++ u))) := B4.setCell (p := ⟨h3, 2, none⟩) (by simp; omega) _
  clear v4 x0 x1 x2 B4
  generalize (w4.setCell ⟨h3, 2, none⟩ (.string (ls ++ u))) = w5 at x2' B4' ⊢
  have x2 := x2'; have B4 := B4'
  clear x2' B4'
  refine bodyPost_ret (v := .tuple #[edV a ((d : Int) + (((b : Int) + e - ((a : Int) + t.size)))) (ls ++ u), .bool true]) ?_ rfl ⟨by first | rw [HAT.out, HDD.out, HJ.out] | rw [HDD.out, HJ.out], by first | exact below_set3 B4 (by omega) | exact below_drew (below_set3 B4 (by omega))⟩
  have tt := x2.set (a' := a) (d' := (d : Int) + (((b : Int) + e - ((a : Int) + t.size)))) (t' := ls ++ u)
  have tt0 := tt.c0
  have tt1 := tt.c1
  have tt2 := tt.c2
  simp [results, Try.f18, go_sem, tt0, tt1, tt2]

set_option maxHeartbeats 4000000 in
theorem rJoin_gt_zer (a d b e : Nat) (t u : ByteArray) (w : World) (pa : a ≤ 65536) (pd : d ≤ 65536) (pb : b ≤ 65536) (pe : e ≤ 65536) (ht : t.size ≤ 65536) (hu : u.size ≤ 65536) (h1 : b ≤ a + t.size) (h2 : a ≤ b + e) (hab : a < b) (hte : a + t.size = b + e) :
    Calls Try.prog 18 #[edV a d t, edV b e u] w fun r w' => r = .returned (.tuple #[edV (min a b : Nat) (joinD a d t.size b e : Nat) (joinI a t b e u), .bool true]) ∧ Below w.heap.size w w' := by
  have HAB := Lib.hid hab; have HTE := Lib.hid hte; clear hab hte
  obtain ⟨n0, n1, n2, n3, n4⟩ := two_ed w a d b e t u _ rfl
  have H1 : Hid (smallB a d t.size = true) := Lib.hid (by simp only [smallB, inB, Bool.and_eq_true, decide_eq_true_eq]; omega)
  have H2 : Hid (smallB b e u.size = true) := Lib.hid (by simp only [smallB, inB, Bool.and_eq_true, decide_eq_true_eq]; omega)
  go_enter Try.func18, Try.ntmps18
  go_wp2_with fail
  refine (rSmall_any a d t _ (by omega)).mono ?_
  rintro r w1 ⟨rfl, b1⟩
  rw [H1.out]
  rw [n3] at b1
  have x0 := n0.below b1 (by omega)
  have x1 := n1.below b1 (by omega)
  have x2 := n2.below b1 (by omega)
  have B1 := n4.trans (b1.mono (by omega))
  clear n0 n1 n2 n3 n4 b1
  have c0 := x1.c0; have c1 := x1.c1; have c2 := x1.c2
  go_wp2_with fail
  refine (rSmall_any b e u _ (by omega)).mono ?_
  rintro r w2 ⟨rfl, b2⟩
  rw [H2.out]
  have y0 := x0.below b2 x0.lt
  have y1 := x1.below b2 x1.lt
  have y2 := x2.below b2 x2.lt
  have B2 := B1.trans (b2.mono B1.size)
  clear x0 x1 x2 B1 b2 c0 c1 c2
  have c0 := y0.c0; have c1 := y0.c1; have c2 := y0.c2
  have d0 := y1.c0; have d1 := y1.c1; have d2 := y1.c2
  have e0 := y2.c0; have e1 := y2.c1; have e2 := y2.c2
  have f0 := y2.fr 0; have f1 := y2.fr 1; have f2 := y2.fr 2
  go_wp2_with fail
  go_quiet (fail)
  have z2 : EdAt (w2.drewN nq) (w.heap.size + 2) 0 0 ⟨#[]⟩ := y2
  have z0 : EdAt (w2.drewN nq) w.heap.size a d t := y0
  have z1 : EdAt (w2.drewN nq) (w.heap.size + 1) b e u := y1
  have B3 : Below w.heap.size w (w2.drewN nq) := below_drewN _ B2
  clear y0 y1 y2 B2 c0 c1 c2 d0 d1 d2 e0 e1 e2 f0 f1 f2
  generalize w2.drewN nq = w3 at z0 z1 z2 B3 ⊢
  have hab := HAB.out
  have hte := HTE.out
  have g1 : (b < a) = False := eq_false (by omega)
  have g2 : (a < b) = True := eq_true (by omega)
  have g3 : ((0 : Int) < (a : Int) - b) = False := eq_false (by omega)
  have g4 : ((0 : Int) < (b : Int) + e - ((a : Int) + t.size)) = False := eq_false (by omega)
  have g5 : ((b : Int) + e < (a : Int) + t.size) = False := eq_false (by omega)
  have g6 : ((a : Int) + t.size < (b : Int) + e) = False := eq_false (by omega)
  have s1 := slc0z t (b - a) ((b : Int) - a) (by omega) (by omega)
  have HAT : Hid (((min a b : Nat) : Int) = a) := Lib.hid (by omega)
  have HDD : Hid (((joinD a d t.size b e : Nat) : Int) = (d : Int)) := Lib.hid (by unfold joinD; omega)
  obtain ⟨ls, hls⟩ : ∃ ls, t.extract 0 (b - a) = ls := ⟨_, rfl⟩
  have hl1 : ls.size ≤ 65536 := by rw [← hls, ByteArray.size_extract]; omega
  rw [hls] at s1
  have HJ : Hid (joinI a t b e u = ls ++ u) := Lib.hid (by
    unfold joinI
    rw [hls]
    rw [show min (b + e - a) t.size = t.size by omega, ext_nil1, append_nil])
  clear hls
  have c0 := z0.c0; have c1 := z0.c1; have c2 := z0.c2
  have d0 := z1.c0; have d1 := z1.c1; have d2 := z1.c2
  have hl := z2.lt
  have p0 := fun X => (z0.alloc X).c0; have p1 := fun X => (z0.alloc X).c1; have p2 := fun X => (z0.alloc X).c2
  have q0 := fun X => (z1.alloc X).c0; have q1 := fun X => (z1.alloc X).c1; have q2 := fun X => (z1.alloc X).c2
  have r0 := fun X => (z2.alloc X).c0; have r1 := fun X => (z2.alloc X).c1; have r2 := fun X => (z2.alloc X).c2
  have s3 := fun X => (z2.alloc X).fr 0; have s4 := fun X => (z2.alloc X).fr 1; have s5 := fun X => (z2.alloc X).fr 2
  have m0 : (w.heap.size = w3.heap.size) = False := eq_false (by omega)
  have m1 : (w.heap.size + 1 = w3.heap.size) = False := eq_false (by omega)
  have m2 : (w.heap.size + 1 + 1 = w3.heap.size) = False := eq_false (by omega)
  have m3 : (w3.heap.size = w.heap.size) = False := eq_false (by omega)
  have m4 : (w3.heap.size = w.heap.size + 1) = False := eq_false (by omega)
  have m5 : (w3.heap.size = w.heap.size + 1 + 1) = False := eq_false (by omega)
  clear hte
  go_wp2_with fail
  have v4 := EdAt.new w3 a ((d : Int)) u
  have x0 := z0.alloc (.cells #[.int .i64 a, .int .i64 ((d : Int)), .string u] 32)
  have x1 := z1.alloc (.cells #[.int .i64 a, .int .i64 ((d : Int)), .string u] 32)
  have x2 := z2.alloc (.cells #[.int .i64 a, .int .i64 ((d : Int)), .string u] 32)
  have B4 := B3.alloc B3.size (.cells #[.int .i64 a, .int .i64 ((d : Int)), .string u] 32)
  clear c0 c1 c2 d0 d1 d2 p0 p1 p2 q0 q1 q2 r0 r1 r2 s3 s4 s5 z0 z1 z2 B3
  generalize w3.alloc (.cells #[.int .i64 a, .int .i64 ((d : Int)), .string u] 32) = w4 at v4 x0 x1 x2 B4 ⊢
  generalize hH : w3.heap.size = h3 at *
  have HH := Lib.hid hH
  clear hH
  have hc1 : (9223372036854775807 < u.size) = False := eq_false (by omega)
  have hc2 : (9223372036854775807 < ls.size + u.size) = False := eq_false (by omega)
  have c0 := x0.c0; have c1 := x0.c1; have c2 := x0.c2
  have d0 := x1.c0; have d1 := x1.c1; have d2 := x1.c2
  have r0 := x2.c0; have r1 := x2.c1; have r2 := x2.c2
  have s3 := x2.fr 0; have s4 := x2.fr 1; have s5 := x2.fr 2
  have t0 := v4.c0; have t1 := v4.c1; have t2 := v4.c2; have t5 := v4.fr 2
  go_region
  go_wp2_with fail
  clear c0 c1 c2 d0 d1 d2 r0 r1 r2 s3 s4 s5 t0 t1 t2 t5
  have x2' : EdAt (w4.setCell ⟨h3, 2, none⟩ (.string (ls ++ u))) (w.heap.size + 2) 0 0 ⟨#[]⟩ := x2.other (by omega)
  have B4' : Below w.heap.size w (w4.setCell ⟨h3, 2, none⟩ (.string (ls ++ u))) := B4.setCell (p := ⟨h3, 2, none⟩) (by simp; omega) _
  clear v4 x0 x1 x2 B4
  generalize (w4.setCell ⟨h3, 2, none⟩ (.string (ls ++ u))) = w5 at x2' B4' ⊢
  have x2 := x2'; have B4 := B4'
  clear x2' B4'
  refine bodyPost_ret (v := .tuple #[edV a ((d : Int)) (ls ++ u), .bool true]) ?_ rfl ⟨by first | rw [HAT.out, HDD.out, HJ.out] | rw [HDD.out, HJ.out], by first | exact below_set3 B4 (by omega) | exact below_drew (below_set3 B4 (by omega))⟩
  have tt := x2.set (a' := a) (d' := (d : Int)) (t' := ls ++ u)
  have tt0 := tt.c0
  have tt1 := tt.c1
  have tt2 := tt.c2
  simp [results, Try.f18, go_sem, tt0, tt1, tt2]

set_option maxHeartbeats 4000000 in
theorem rJoin_gt_neg (a d b e : Nat) (t u : ByteArray) (w : World) (pa : a ≤ 65536) (pd : d ≤ 65536) (pb : b ≤ 65536) (pe : e ≤ 65536) (ht : t.size ≤ 65536) (hu : u.size ≤ 65536) (h1 : b ≤ a + t.size) (h2 : a ≤ b + e) (hab : a < b) (hte : b + e < a + t.size) :
    Calls Try.prog 18 #[edV a d t, edV b e u] w fun r w' => r = .returned (.tuple #[edV (min a b : Nat) (joinD a d t.size b e : Nat) (joinI a t b e u), .bool true]) ∧ Below w.heap.size w w' := by
  have HAB := Lib.hid hab; have HTE := Lib.hid hte; clear hab hte
  obtain ⟨n0, n1, n2, n3, n4⟩ := two_ed w a d b e t u _ rfl
  have H1 : Hid (smallB a d t.size = true) := Lib.hid (by simp only [smallB, inB, Bool.and_eq_true, decide_eq_true_eq]; omega)
  have H2 : Hid (smallB b e u.size = true) := Lib.hid (by simp only [smallB, inB, Bool.and_eq_true, decide_eq_true_eq]; omega)
  go_enter Try.func18, Try.ntmps18
  go_wp2_with fail
  refine (rSmall_any a d t _ (by omega)).mono ?_
  rintro r w1 ⟨rfl, b1⟩
  rw [H1.out]
  rw [n3] at b1
  have x0 := n0.below b1 (by omega)
  have x1 := n1.below b1 (by omega)
  have x2 := n2.below b1 (by omega)
  have B1 := n4.trans (b1.mono (by omega))
  clear n0 n1 n2 n3 n4 b1
  have c0 := x1.c0; have c1 := x1.c1; have c2 := x1.c2
  go_wp2_with fail
  refine (rSmall_any b e u _ (by omega)).mono ?_
  rintro r w2 ⟨rfl, b2⟩
  rw [H2.out]
  have y0 := x0.below b2 x0.lt
  have y1 := x1.below b2 x1.lt
  have y2 := x2.below b2 x2.lt
  have B2 := B1.trans (b2.mono B1.size)
  clear x0 x1 x2 B1 b2 c0 c1 c2
  have c0 := y0.c0; have c1 := y0.c1; have c2 := y0.c2
  have d0 := y1.c0; have d1 := y1.c1; have d2 := y1.c2
  have e0 := y2.c0; have e1 := y2.c1; have e2 := y2.c2
  have f0 := y2.fr 0; have f1 := y2.fr 1; have f2 := y2.fr 2
  go_wp2_with fail
  go_quiet (fail)
  have z2 : EdAt (w2.drewN nq) (w.heap.size + 2) 0 0 ⟨#[]⟩ := y2
  have z0 : EdAt (w2.drewN nq) w.heap.size a d t := y0
  have z1 : EdAt (w2.drewN nq) (w.heap.size + 1) b e u := y1
  have B3 : Below w.heap.size w (w2.drewN nq) := below_drewN _ B2
  clear y0 y1 y2 B2 c0 c1 c2 d0 d1 d2 e0 e1 e2 f0 f1 f2
  generalize w2.drewN nq = w3 at z0 z1 z2 B3 ⊢
  have hab := HAB.out
  have hte := HTE.out
  have g1 : (b < a) = False := eq_false (by omega)
  have g2 : (a < b) = True := eq_true (by omega)
  have g3 : ((0 : Int) < (a : Int) - b) = False := eq_false (by omega)
  have g4 : ((0 : Int) < (b : Int) + e - ((a : Int) + t.size)) = False := eq_false (by omega)
  have g5 : ((b : Int) + e < (a : Int) + t.size) = True := eq_true (by omega)
  have g6 : ((a : Int) + t.size < (b : Int) + e) = False := eq_false (by omega)
  have s1 := slc0z t (b - a) ((b : Int) - a) (by omega) (by omega)
  have s2 := slc1 t (b + e - a) ((b : Int) + e - a) (by omega) (by omega)
  have HAT : Hid (((min a b : Nat) : Int) = a) := Lib.hid (by omega)
  have HDD : Hid (((joinD a d t.size b e : Nat) : Int) = (d : Int)) := Lib.hid (by unfold joinD; omega)
  obtain ⟨ls, hls⟩ : ∃ ls, t.extract 0 (b - a) = ls := ⟨_, rfl⟩
  have hl1 : ls.size ≤ 65536 := by rw [← hls, ByteArray.size_extract]; omega
  rw [hls] at s1
  obtain ⟨rs, hrs⟩ : ∃ rs, t.extract (b + e - a) t.size = rs := ⟨_, rfl⟩
  have hr1 : rs.size ≤ 65536 := by rw [← hrs, ByteArray.size_extract]; omega
  rw [hrs] at s2
  have HJ : Hid (joinI a t b e u = ls ++ u ++ rs) := Lib.hid (by
    unfold joinI
    rw [hls]
    rw [show min (b + e - a) t.size = b + e - a by omega, hrs])
  clear hls
  clear hrs
  have c0 := z0.c0; have c1 := z0.c1; have c2 := z0.c2
  have d0 := z1.c0; have d1 := z1.c1; have d2 := z1.c2
  have hl := z2.lt
  have p0 := fun X => (z0.alloc X).c0; have p1 := fun X => (z0.alloc X).c1; have p2 := fun X => (z0.alloc X).c2
  have q0 := fun X => (z1.alloc X).c0; have q1 := fun X => (z1.alloc X).c1; have q2 := fun X => (z1.alloc X).c2
  have r0 := fun X => (z2.alloc X).c0; have r1 := fun X => (z2.alloc X).c1; have r2 := fun X => (z2.alloc X).c2
  have s3 := fun X => (z2.alloc X).fr 0; have s4 := fun X => (z2.alloc X).fr 1; have s5 := fun X => (z2.alloc X).fr 2
  have m0 : (w.heap.size = w3.heap.size) = False := eq_false (by omega)
  have m1 : (w.heap.size + 1 = w3.heap.size) = False := eq_false (by omega)
  have m2 : (w.heap.size + 1 + 1 = w3.heap.size) = False := eq_false (by omega)
  have m3 : (w3.heap.size = w.heap.size) = False := eq_false (by omega)
  have m4 : (w3.heap.size = w.heap.size + 1) = False := eq_false (by omega)
  have m5 : (w3.heap.size = w.heap.size + 1 + 1) = False := eq_false (by omega)
  go_wp2_with fail
  have v4 := EdAt.new w3 a ((d : Int)) u
  have x0 := z0.alloc (.cells #[.int .i64 a, .int .i64 ((d : Int)), .string u] 32)
  have x1 := z1.alloc (.cells #[.int .i64 a, .int .i64 ((d : Int)), .string u] 32)
  have x2 := z2.alloc (.cells #[.int .i64 a, .int .i64 ((d : Int)), .string u] 32)
  have B4 := B3.alloc B3.size (.cells #[.int .i64 a, .int .i64 ((d : Int)), .string u] 32)
  clear c0 c1 c2 d0 d1 d2 p0 p1 p2 q0 q1 q2 r0 r1 r2 s3 s4 s5 z0 z1 z2 B3
  generalize w3.alloc (.cells #[.int .i64 a, .int .i64 ((d : Int)), .string u] 32) = w4 at v4 x0 x1 x2 B4 ⊢
  generalize hH : w3.heap.size = h3 at *
  have HH := Lib.hid hH
  clear hH
  have hc1 : (9223372036854775807 < u.size) = False := eq_false (by omega)
  have hc2 : (9223372036854775807 < ls.size + u.size) = False := eq_false (by omega)
  have hc3 : (9223372036854775807 < u.size + rs.size) = False := eq_false (by omega)
  have hc4 : (9223372036854775807 < ls.size + u.size + rs.size) = False := eq_false (by omega)
  have hc5 : (9223372036854775807 < (ls ++ u).size + rs.size) = False := eq_false (by rw [ByteArray.size_append]; omega)
  have c0 := x0.c0; have c1 := x0.c1; have c2 := x0.c2
  have d0 := x1.c0; have d1 := x1.c1; have d2 := x1.c2
  have r0 := x2.c0; have r1 := x2.c1; have r2 := x2.c2
  have s3 := x2.fr 0; have s4 := x2.fr 1; have s5 := x2.fr 2
  have t0 := v4.c0; have t1 := v4.c1; have t2 := v4.c2; have t5 := v4.fr 2
  go_region
  go_wp2_with fail
  clear c0 c1 c2 d0 d1 d2 r0 r1 r2 s3 s4 s5 t0 t1 t2 t5
  have v4' : EdAt (w4.setCell ⟨h3, 2, none⟩ (.string (ls ++ u))).drew h3 a ((d : Int)) (ls ++ u) := v4.set2
  have x0' : EdAt (w4.setCell ⟨h3, 2, none⟩ (.string (ls ++ u))).drew w.heap.size a d t := x0.other (by omega)
  have x1' : EdAt (w4.setCell ⟨h3, 2, none⟩ (.string (ls ++ u))).drew (w.heap.size + 1) b e u := x1.other (by omega)
  have x2' : EdAt (w4.setCell ⟨h3, 2, none⟩ (.string (ls ++ u))).drew (w.heap.size + 2) 0 0 ⟨#[]⟩ := x2.other (by omega)
  have B4' : Below w.heap.size w (w4.setCell ⟨h3, 2, none⟩ (.string (ls ++ u))).drew := below_drew (B4.setCell (p := ⟨h3, 2, none⟩) (by simp; omega) _)
  clear v4 x0 x1 x2 B4
  generalize (w4.setCell ⟨h3, 2, none⟩ (.string (ls ++ u))).drew = w5 at v4' x0' x1' x2' B4' ⊢
  have v4 := v4'; have x0 := x0'; have x1 := x1'; have x2 := x2'; have B4 := B4'
  clear v4' x0' x1' x2' B4'
  have c0 := x0.c0; have c1 := x0.c1; have c2 := x0.c2
  have d0 := x1.c0; have d1 := x1.c1; have d2 := x1.c2
  have r0 := x2.c0; have r1 := x2.c1; have r2 := x2.c2
  have s3 := x2.fr 0; have s4 := x2.fr 1; have s5 := x2.fr 2
  have t0 := v4.c0; have t1 := v4.c1; have t2 := v4.c2; have t5 := v4.fr 2
  go_region
  go_wp2_with fail
  clear c0 c1 c2 d0 d1 d2 r0 r1 r2 s3 s4 s5 t0 t1 t2 t5
  have x2' : EdAt (w5.setCell ⟨h3, 2, none⟩ (.string (ls ++ u ++ rs))) (w.heap.size + 2) 0 0 ⟨#[]⟩ := x2.other (by omega)
  have B4' : Below w.heap.size w (w5.setCell ⟨h3, 2, none⟩ (.string (ls ++ u ++ rs))) := B4.setCell (p := ⟨h3, 2, none⟩) (by simp; omega) _
  clear v4 x0 x1 x2 B4
  generalize (w5.setCell ⟨h3, 2, none⟩ (.string (ls ++ u ++ rs))) = w6 at x2' B4' ⊢
  have x2 := x2'; have B4 := B4'
  clear x2' B4'
  refine bodyPost_ret (v := .tuple #[edV a ((d : Int)) (ls ++ u ++ rs), .bool true]) ?_ rfl ⟨by first | rw [HAT.out, HDD.out, HJ.out] | rw [HDD.out, HJ.out], by first | exact below_set3 B4 (by omega) | exact below_drew (below_set3 B4 (by omega))⟩
  have tt := x2.set (a' := a) (d' := (d : Int)) (t' := ls ++ u ++ rs)
  have tt0 := tt.c0
  have tt1 := tt.c1
  have tt2 := tt.c2
  simp [results, Try.f18, go_sem, tt0, tt1, tt2]

theorem rJoin_yes (a d b e : Nat) (t u : ByteArray) (w : World) (pa : a ≤ 65536) (pd : d ≤ 65536) (pb : b ≤ 65536) (pe : e ≤ 65536) (ht : t.size ≤ 65536) (hu : u.size ≤ 65536) (h1 : b ≤ a + t.size) (h2 : a ≤ b + e) :
    Calls Try.prog 18 #[edV a d t, edV b e u] w fun r w' => r = .returned (.tuple #[edV (min a b : Nat) (joinD a d t.size b e : Nat) (joinI a t b e u), .bool true]) ∧ Below w.heap.size w w' := by
  rcases Nat.lt_trichotomy b a with hab | hab | hab
  · rcases Nat.lt_trichotomy (a + t.size) (b + e) with hte | hte | hte
    · exact rJoin_lt_pos a d b e t u w pa pd pb pe ht hu h1 h2 hab hte
    · exact rJoin_lt_zer a d b e t u w pa pd pb pe ht hu h1 h2 hab hte
    · exact rJoin_lt_neg a d b e t u w pa pd pb pe ht hu h1 h2 hab hte
  · rcases Nat.lt_trichotomy (a + t.size) (b + e) with hte | hte | hte
    · exact rJoin_eq_pos a d b e t u w pa pd pb pe ht hu h1 h2 hab hte
    · exact rJoin_eq_zer a d b e t u w pa pd pb pe ht hu h1 h2 hab hte
    · exact rJoin_eq_neg a d b e t u w pa pd pb pe ht hu h1 h2 hab hte
  · rcases Nat.lt_trichotomy (a + t.size) (b + e) with hte | hte | hte
    · exact rJoin_gt_pos a d b e t u w pa pd pb pe ht hu h1 h2 hab hte
    · exact rJoin_gt_zer a d b e t u w pa pd pb pe ht hu h1 h2 hab hte
    · exact rJoin_gt_neg a d b e t u w pa pd pb pe ht hu h1 h2 hab hte
end Go.Proofs.Ytjbfnlnfhafafaa
