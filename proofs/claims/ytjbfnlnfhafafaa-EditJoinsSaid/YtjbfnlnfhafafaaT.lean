/- package edit: Join; the reference's Join. -/
import Derived.Test.YtjbfnlnfhafafaaN
import Derived.Test.YtjbfnlnfhafafaaJ
import Derived.StillTailTactics
import Derived.IntWalk
namespace Go.Proofs.Ytjbfnlnfhafafaa
open Go.RowKit

/-- Join answers an edit. -/
def joinC (a d : Int) (n : Nat) (b e : Int) (m : Nat) : Bool := smallB a d n && smallB b e m && touchB a n b e
theorem two_ed (w : World) (a d b e : Int) (t u : ByteArray) (x : Obj) (hx : x = .cells #[.int .i64 0, .int .i64 0, .string ⟨#[]⟩] 32) :
    EdAt (((w.alloc (.cells #[.int .i64 a, .int .i64 d, .string t] 32)).alloc (.cells #[.int .i64 b, .int .i64 e, .string u] 32)).alloc x) w.heap.size a d t ∧
    EdAt (((w.alloc (.cells #[.int .i64 a, .int .i64 d, .string t] 32)).alloc (.cells #[.int .i64 b, .int .i64 e, .string u] 32)).alloc x) (w.heap.size + 1) b e u ∧
    EdAt (((w.alloc (.cells #[.int .i64 a, .int .i64 d, .string t] 32)).alloc (.cells #[.int .i64 b, .int .i64 e, .string u] 32)).alloc x) (w.heap.size + 2) 0 0 ⟨#[]⟩ ∧
    (((w.alloc (.cells #[.int .i64 a, .int .i64 d, .string t] 32)).alloc (.cells #[.int .i64 b, .int .i64 e, .string u] 32)).alloc x).heap.size = w.heap.size + 3 ∧
    Below w.heap.size w (((w.alloc (.cells #[.int .i64 a, .int .i64 d, .string t] 32)).alloc (.cells #[.int .i64 b, .int .i64 e, .string u] 32)).alloc x) := by
  subst hx
  obtain ⟨n0, n1, n2, n3⟩ := two_new w a d b e t u
  refine ⟨n0.alloc _, n1.alloc _, ?_, by simp, n3.alloc n3.size _⟩
  have := EdAt.new ((w.alloc (.cells #[.int .i64 a, .int .i64 d, .string t] 32)).alloc (.cells #[.int .i64 b, .int .i64 e, .string u] 32)) 0 0 ⟨#[]⟩
  rwa [n2] at this

set_option maxHeartbeats 1000000 in
theorem Join_no (a d b e : Int) (t u : ByteArray) (w : World) (ht : t.size ≤ 65536) (hc : joinC a d t.size b e u.size = false) :
    Calls Try.prog 17 #[edV a d t, edV b e u] w fun r w' => r = .returned (.tuple #[edV 0 0 ⟨#[]⟩, .bool false]) ∧ Below w.heap.size w w' := by
  obtain ⟨n0, n1, n2, n3, n4⟩ := two_ed w a d b e t u _ rfl
  by_cases h1 : smallB a d t.size = true
  · by_cases h2 : smallB b e u.size = true
    · have h3 : touchB a t.size b e = false := by rw [joinC, h1, h2] at hc; exact hc
      obtain ⟨⟨p1, p2⟩, ⟨p3, p4⟩, p5⟩ := small_is h1
      obtain ⟨⟨p6, p7⟩, ⟨p8, p9⟩, p10⟩ := small_is h2
      have H1 := Lib.hid h1; have H2 := Lib.hid h2; have H3 := Lib.hid h3; clear h1 h2 h3 hc
      go_enter Try.func17, Try.ntmps17
      go_wp2_with fail
      refine (isSmall_any a d t _).mono ?_
      rintro r w1 ⟨rfl, b1⟩
      rw [H1.out]
      rw [n3] at b1
      have x0 := n0.below b1 (by omega)
      have x1 := n1.below b1 (by omega)
      have x2 := n2.below b1 (by omega)
      have B1 := n4.trans (b1.mono (by omega))
      clear n0 n1 n2 n3 n4 b1
      have c0 := x1.c0; have c1 := x1.c1; have c2 := x1.c2
      go_wp2_with fail
      refine (isSmall_any b e u _).mono ?_
      rintro r w2 ⟨rfl, b2⟩
      rw [H2.out]
      have y0 := x0.below b2 x0.lt
      have y1 := x1.below b2 x1.lt
      have y2 := x2.below b2 x2.lt
      have B2 := B1.trans (b2.mono B1.size)
      clear x0 x1 x2 B1 b2 c0 c1 c2
      have c0 := y0.c0; have c1 := y0.c1; have c2 := y0.c2
      have d0 := y1.c0; have d1 := y1.c1; have d2 := y1.c2
      go_wp2_with fail
      refine (touches_any a d b e t u _ ⟨p1, p2⟩ ⟨p6, p7⟩ ⟨p8, p9⟩ ht).mono ?_
      rintro r w3 ⟨rfl, b3⟩
      rw [H3.out]
      have z2 := y2.below b3 y2.lt
      have B3 := B2.trans (b3.mono B2.size)
      clear y0 y1 y2 B2 b3 c0 c1 c2 d0 d1 d2
      have f0 := z2.fr 0; have f1 := z2.fr 1; have f2 := z2.fr 2
      have c0 := z2.c0; have c1 := z2.c1; have c2 := z2.c2
      go_wp2
      refine bodyPost_ret (v := .tuple #[edV 0 0 ⟨#[]⟩, .bool false]) ?_ rfl ⟨rfl, below_set3 B3 (by omega)⟩
      have t := z2.set (a' := 0) (d' := 0) (t' := ⟨#[]⟩)
      have t0 := t.c0
      have t1 := t.c1
      have t2 := t.c2
      simp [results, Try.f17, go_sem, t0, t1, t2]
    · have H1 := Lib.hid h1; have H2 := Lib.hid (Bool.eq_false_iff.2 h2); clear h1 h2 hc
      go_enter Try.func17, Try.ntmps17
      go_wp2_with fail
      refine (isSmall_any a d t _).mono ?_
      rintro r w1 ⟨rfl, b1⟩
      rw [H1.out]
      rw [n3] at b1
      have x1 := n1.below b1 (by omega)
      have x2 := n2.below b1 (by omega)
      have B1 := n4.trans (b1.mono (by omega))
      clear n0 n1 n2 n3 n4 b1
      have c0 := x1.c0; have c1 := x1.c1; have c2 := x1.c2
      go_wp2_with fail
      refine (isSmall_any b e u _).mono ?_
      rintro r w2 ⟨rfl, b2⟩
      rw [H2.out]
      have z2 := x2.below b2 x2.lt
      have B3 := B1.trans (b2.mono B1.size)
      clear x1 x2 B1 b2 c0 c1 c2
      have f0 := z2.fr 0; have f1 := z2.fr 1; have f2 := z2.fr 2
      have c0 := z2.c0; have c1 := z2.c1; have c2 := z2.c2
      go_wp2
      refine bodyPost_ret (v := .tuple #[edV 0 0 ⟨#[]⟩, .bool false]) ?_ rfl ⟨rfl, below_set3 B3 (by omega)⟩
      have t := z2.set (a' := 0) (d' := 0) (t' := ⟨#[]⟩)
      have t0 := t.c0
      have t1 := t.c1
      have t2 := t.c2
      simp [results, Try.f17, go_sem, t0, t1, t2]
  · have H1 := Lib.hid (Bool.eq_false_iff.2 h1); clear h1 hc
    go_enter Try.func17, Try.ntmps17
    go_wp2_with fail
    refine (isSmall_any a d t _).mono ?_
    rintro r w1 ⟨rfl, b1⟩
    rw [H1.out]
    rw [n3] at b1
    have z2 := n2.below b1 (by omega)
    have B3 := n4.trans (b1.mono (by omega))
    clear n0 n1 n2 n3 n4 b1
    have f0 := z2.fr 0; have f1 := z2.fr 1; have f2 := z2.fr 2
    have c0 := z2.c0; have c1 := z2.c1; have c2 := z2.c2
    go_wp2
    refine bodyPost_ret (v := .tuple #[edV 0 0 ⟨#[]⟩, .bool false]) ?_ rfl ⟨rfl, below_set3 B3 (by omega)⟩
    have t := z2.set (a' := 0) (d' := 0) (t' := ⟨#[]⟩)
    have t0 := t.c0
    have t1 := t.c1
    have t2 := t.c2
    simp [results, Try.f17, go_sem, t0, t1, t2]

/-- What Join answers. -/
def joinD (a d n b e : Nat) : Nat := d + (a - b) + (b + e - (a + n))
def joinI (a : Nat) (t : ByteArray) (b e : Nat) (u : ByteArray) : ByteArray := t.extract 0 (b - a) ++ u ++ t.extract (min (b + e - a) t.size) t.size

set_option maxHeartbeats 4000000 in
theorem Join_yes (a d b e : Nat) (t u : ByteArray) (w : World) (pa : a ≤ 65536) (pd : d ≤ 65536) (pb : b ≤ 65536) (pe : e ≤ 65536) (ht : t.size ≤ 65536) (hu : u.size ≤ 65536) (h1 : b ≤ a + t.size) (h2 : a ≤ b + e) :
    Calls Try.prog 17 #[edV a d t, edV b e u] w fun r w' => r = .returned (.tuple #[edV (min a b : Nat) (joinD a d t.size b e : Nat) (joinI a t b e u), .bool true]) ∧ Below w.heap.size w w' := by
  obtain ⟨n0, n1, n2, n3, n4⟩ := two_ed w a d b e t u _ rfl
  have H1 : Hid (smallB a d t.size = true) := Lib.hid (by simp only [smallB, inB, Bool.and_eq_true, decide_eq_true_eq]; omega)
  have H2 : Hid (smallB b e u.size = true) := Lib.hid (by simp only [smallB, inB, Bool.and_eq_true, decide_eq_true_eq]; omega)
  have H3 : Hid (touchB a t.size b e = true) := Lib.hid (decide_eq_true (by omega))
  go_enter Try.func17, Try.ntmps17
  go_wp2_with fail
  refine (isSmall_any a d t _).mono ?_
  rintro r w1 ⟨rfl, b1⟩
  rw [H1.out]
  rw [n3] at b1
  have x0 := n0.below b1 (by omega)
  have x1 := n1.below b1 (by omega)
  have x2 := n2.below b1 (by omega)
  have B1 := n4.trans (b1.mono (by omega))
  clear n0 n1 n2 n3 n4 b1
  have c0 := x1.c0; have c1 := x1.c1; have c2 := x1.c2
  go_wp2_with fail
  refine (isSmall_any b e u _).mono ?_
  rintro r w2 ⟨rfl, b2⟩
  rw [H2.out]
  have y0 := x0.below b2 x0.lt
  have y1 := x1.below b2 x1.lt
  have y2 := x2.below b2 x2.lt
  have B2 := B1.trans (b2.mono B1.size)
  clear x0 x1 x2 B1 b2 c0 c1 c2
  have c0 := y0.c0; have c1 := y0.c1; have c2 := y0.c2
  have d0 := y1.c0; have d1 := y1.c1; have d2 := y1.c2
  go_wp2_with fail
  refine (touches_any a d b e t u _ ⟨by omega, by omega⟩ ⟨by omega, by omega⟩ ⟨by omega, by omega⟩ ht).mono ?_
  rintro r w3 ⟨rfl, b3⟩
  rw [H3.out]
  have z0 := y0.below b3 y0.lt
  have z1 := y1.below b3 y1.lt
  have z2 := y2.below b3 y2.lt
  have B3 := B2.trans (b3.mono B2.size)
  clear y0 y1 y2 B2 b3 c0 c1 c2 d0 d1 d2
  have f0 := z2.fr 0; have f1 := z2.fr 1; have f2 := z2.fr 2
  have c0 := z0.c0; have c1 := z0.c1; have c2 := z0.c2
  have d0 := z1.c0; have d1 := z1.c1; have d2 := z1.c2
  have e0 := z2.c0; have e1 := z2.c1; have e2 := z2.c2
  go_wp2_with fail
  go_quiet (fail)
  go_wp2_with fail
  have q1 : -65536 ≤ (b : Int) - a := by omega
  have q2 : (b : Int) - a ≤ t.size := by omega
  have q3 : 0 ≤ (b : Int) + e - a := by omega
  have q4 : (b : Int) + e - a ≤ 200000 := by omega
  generalize nq = n1 at *
  generalize hF : (b : Int) - a = fr at *
  generalize hG : (b : Int) + e - a = tt at *
  have HF := Lib.hid hF
  have HG := Lib.hid hG
  clear hF hG
  by_cases hfr : fr < 0
  · by_cases htt : (t.size : Int) < tt
    · have hba : b < a := by have := HF.out; omega
      have s1 := slc0z t (b - a) (if 0 < fr then fr else 0) (by have := HF.out; split <;> omega) (by omega)
      have s2 := slc1 t (min (b + e - a) t.size) (if (t.size : Int) < tt then (t.size : Int) else tt) (by have := HG.out; split <;> omega) (by omega)
      have r1 := slc0z t (b - a) 0 (by have := HF.out; omega) (by omega)
      have r2 := slc1 t (min (b + e - a) t.size) t.size (by have := HG.out; omega) (by omega)
      have g1 : (0 : Int) < -fr := by omega
      have g2 : (0 : Int) < tt - t.size := by omega
      have k1 : IntKind.i64.wrap ((d : Int) + -fr) = (d : Int) + -fr := IntWalk.i64_in _ (by omega)
      have k2 : IntKind.i64.wrap (((d : Int) + -fr) + (tt - t.size)) = ((d : Int) + -fr) + (tt - t.size) := IntWalk.i64_in _ (by omega)
      have hAT : ((min a b : Nat) : Int) = b := by omega
      have hDD : ((joinD a d t.size b e : Nat) : Int) = ((d : Int) + -fr) + (tt - t.size) := by have := HF.out; have := HG.out; unfold joinD; omega
      have HAT := Lib.hid hAT; have HDD := Lib.hid hDD
      clear hAT hDD
      have hls : (t.extract 0 (b - a)).size ≤ 65536 := by rw [ByteArray.size_extract]; omega
      have hrs : (t.extract (min (b + e - a) t.size) t.size).size ≤ 65536 := by rw [ByteArray.size_extract]; omega
      have HJ : Hid (t.extract 0 (b - a) ++ u ++ t.extract (min (b + e - a) t.size) t.size = joinI a t b e u) := rfl
      generalize t.extract 0 (b - a) = ls at *
      generalize t.extract (min (b + e - a) t.size) t.size = rs at *
      have hc1 : (9223372036854775807 < ls.size + u.size) = False := eq_false (by omega)
      have hc2 : (9223372036854775807 < ls.size + u.size + rs.size) = False := eq_false (by omega)
      have hc3 : (9223372036854775807 < (ls ++ u).size + rs.size) = False := eq_false (by rw [ByteArray.size_append]; omega)
      go_quiet (fail)
      go_wp2_with fail
      try rw [World.drewN_drewN]
      have z0' : EdAt (w3.drewN (n1 + nq)) w.heap.size a d t := z0
      have z1' : EdAt (w3.drewN (n1 + nq)) (w.heap.size + 1) b e u := z1
      have z2' : EdAt (w3.drewN (n1 + nq)) (w.heap.size + 2) 0 0 ⟨#[]⟩ := z2
      have B4 : Below w.heap.size w (w3.drewN (n1 + nq)) := below_drewN _ B3
      clear c0 c1 c2 d0 d1 d2 e0 e1 e2 f0 f1 f2 z0 z1 z2 B3
      generalize w3.drewN (n1 + nq) = w5 at z0' z1' z2' B4 ⊢
      have c0 := z0'.c0; have c1 := z0'.c1; have c2 := z0'.c2
      have d0 := z1'.c0; have d1 := z1'.c1; have d2 := z1'.c2
      have e0 := z2'.c0; have e1 := z2'.c1; have e2 := z2'.c2
      go_still_tail 29, (by kernel_rfl)
      change wpList _ _ _ _ _ w5.drew
      have B5 := below_drew B4
      have z3 : EdAt w5.drew (w.heap.size + 2) 0 0 ⟨#[]⟩ := z2'
      clear c0 c1 c2 d0 d1 d2 e0 e1 e2 z0' z1' z2' B4
      generalize w5.drew = w6 at z3 B5 ⊢
      have f0 := z3.fr 0; have f1 := z3.fr 1; have f2 := z3.fr 2
      have e0 := z3.c0; have e1 := z3.c1; have e2 := z3.c2
      go_wp2
      all_goals
        refine bodyPost_ret (v := .tuple #[edV b (((d : Int) + -fr) + (tt - t.size)) (ls ++ u ++ rs), .bool true]) ?_ rfl ⟨by rw [HAT.out, HDD.out, HJ.out], below_set3 B5 (by omega)⟩
        have t' := z3.set (a' := b) (d' := ((d : Int) + -fr) + (tt - t.size)) (t' := ls ++ u ++ rs)
        have t0 := t'.c0
        have t1 := t'.c1
        have t2 := t'.c2
        simp [results, Try.f17, go_sem, t0, t1, t2]
    · have hba : b < a := by have := HF.out; omega
      have s1 := slc0z t (b - a) (if 0 < fr then fr else 0) (by have := HF.out; split <;> omega) (by omega)
      have s2 := slc1 t (min (b + e - a) t.size) (if (t.size : Int) < tt then (t.size : Int) else tt) (by have := HG.out; split <;> omega) (by omega)
      have r1 := slc0z t (b - a) 0 (by have := HF.out; omega) (by omega)
      have r2 := slc1 t (min (b + e - a) t.size) tt (by have := HG.out; omega) (by omega)
      have g1 : (0 : Int) < -fr := by omega
      have g2 : ((0 : Int) < tt - t.size) = False := eq_false (by omega)
      have g2' : ((t.size : Int) < tt) = False := eq_false (by omega)
      have k1 : IntKind.i64.wrap ((d : Int) + -fr) = (d : Int) + -fr := IntWalk.i64_in _ (by omega)
      have k2 : IntKind.i64.wrap ((d : Int) + -fr) = ((d : Int) + -fr) := IntWalk.i64_in _ (by omega)
      have hAT : ((min a b : Nat) : Int) = b := by omega
      have hDD : ((joinD a d t.size b e : Nat) : Int) = ((d : Int) + -fr) := by have := HF.out; have := HG.out; unfold joinD; omega
      have HAT := Lib.hid hAT; have HDD := Lib.hid hDD
      clear hAT hDD
      have hls : (t.extract 0 (b - a)).size ≤ 65536 := by rw [ByteArray.size_extract]; omega
      have hrs : (t.extract (min (b + e - a) t.size) t.size).size ≤ 65536 := by rw [ByteArray.size_extract]; omega
      have HJ : Hid (t.extract 0 (b - a) ++ u ++ t.extract (min (b + e - a) t.size) t.size = joinI a t b e u) := rfl
      generalize t.extract 0 (b - a) = ls at *
      generalize t.extract (min (b + e - a) t.size) t.size = rs at *
      have hc1 : (9223372036854775807 < ls.size + u.size) = False := eq_false (by omega)
      have hc2 : (9223372036854775807 < ls.size + u.size + rs.size) = False := eq_false (by omega)
      have hc3 : (9223372036854775807 < (ls ++ u).size + rs.size) = False := eq_false (by rw [ByteArray.size_append]; omega)
      go_quiet (fail)
      go_wp2_with fail
      try rw [World.drewN_drewN]
      have z0' : EdAt (w3.drewN (n1 + nq)) w.heap.size a d t := z0
      have z1' : EdAt (w3.drewN (n1 + nq)) (w.heap.size + 1) b e u := z1
      have z2' : EdAt (w3.drewN (n1 + nq)) (w.heap.size + 2) 0 0 ⟨#[]⟩ := z2
      have B4 : Below w.heap.size w (w3.drewN (n1 + nq)) := below_drewN _ B3
      clear c0 c1 c2 d0 d1 d2 e0 e1 e2 f0 f1 f2 z0 z1 z2 B3
      generalize w3.drewN (n1 + nq) = w5 at z0' z1' z2' B4 ⊢
      have c0 := z0'.c0; have c1 := z0'.c1; have c2 := z0'.c2
      have d0 := z1'.c0; have d1 := z1'.c1; have d2 := z1'.c2
      have e0 := z2'.c0; have e1 := z2'.c1; have e2 := z2'.c2
      go_still_tail 29, (by kernel_rfl)
      change wpList _ _ _ _ _ w5.drew
      have B5 := below_drew B4
      have z3 : EdAt w5.drew (w.heap.size + 2) 0 0 ⟨#[]⟩ := z2'
      clear c0 c1 c2 d0 d1 d2 e0 e1 e2 z0' z1' z2' B4
      generalize w5.drew = w6 at z3 B5 ⊢
      have f0 := z3.fr 0; have f1 := z3.fr 1; have f2 := z3.fr 2
      have e0 := z3.c0; have e1 := z3.c1; have e2 := z3.c2
      go_wp2
      all_goals
        refine bodyPost_ret (v := .tuple #[edV b (((d : Int) + -fr)) (ls ++ u ++ rs), .bool true]) ?_ rfl ⟨by rw [HAT.out, HDD.out, HJ.out], below_set3 B5 (by omega)⟩
        have t' := z3.set (a' := b) (d' := ((d : Int) + -fr)) (t' := ls ++ u ++ rs)
        have t0 := t'.c0
        have t1 := t'.c1
        have t2 := t'.c2
        simp [results, Try.f17, go_sem, t0, t1, t2]
  · by_cases htt : (t.size : Int) < tt
    · have hba : ¬ b < a := by have := HF.out; omega
      have s1 := slc0z t (b - a) (if 0 < fr then fr else 0) (by have := HF.out; split <;> omega) (by omega)
      have s2 := slc1 t (min (b + e - a) t.size) (if (t.size : Int) < tt then (t.size : Int) else tt) (by have := HG.out; split <;> omega) (by omega)
      have r1 := slc0z t (b - a) fr (by have := HF.out; omega) (by omega)
      have r2 := slc1 t (min (b + e - a) t.size) t.size (by have := HG.out; omega) (by omega)
      have g1 : ((0 : Int) < -fr) = False := eq_false (by omega)
      have g1' : (fr < 0) = False := eq_false (by omega)
      have g2 : (0 : Int) < tt - t.size := by omega
      have k1 : IntKind.i64.wrap (d : Int) = (d : Int) := IntWalk.i64_in _ (by omega)
      have k2 : IntKind.i64.wrap ((d : Int) + (tt - t.size)) = (d : Int) + (tt - t.size) := IntWalk.i64_in _ (by omega)
      have hAT : ((min a b : Nat) : Int) = a := by omega
      have hDD : ((joinD a d t.size b e : Nat) : Int) = (d : Int) + (tt - t.size) := by have := HF.out; have := HG.out; unfold joinD; omega
      have HAT := Lib.hid hAT; have HDD := Lib.hid hDD
      clear hAT hDD
      have hls : (t.extract 0 (b - a)).size ≤ 65536 := by rw [ByteArray.size_extract]; omega
      have hrs : (t.extract (min (b + e - a) t.size) t.size).size ≤ 65536 := by rw [ByteArray.size_extract]; omega
      have HJ : Hid (t.extract 0 (b - a) ++ u ++ t.extract (min (b + e - a) t.size) t.size = joinI a t b e u) := rfl
      generalize t.extract 0 (b - a) = ls at *
      generalize t.extract (min (b + e - a) t.size) t.size = rs at *
      have hc1 : (9223372036854775807 < ls.size + u.size) = False := eq_false (by omega)
      have hc2 : (9223372036854775807 < ls.size + u.size + rs.size) = False := eq_false (by omega)
      have hc3 : (9223372036854775807 < (ls ++ u).size + rs.size) = False := eq_false (by rw [ByteArray.size_append]; omega)
      go_quiet (fail)
      go_wp2_with fail
      try rw [World.drewN_drewN]
      have z0' : EdAt (w3.drewN (n1 + nq)) w.heap.size a d t := z0
      have z1' : EdAt (w3.drewN (n1 + nq)) (w.heap.size + 1) b e u := z1
      have z2' : EdAt (w3.drewN (n1 + nq)) (w.heap.size + 2) 0 0 ⟨#[]⟩ := z2
      have B4 : Below w.heap.size w (w3.drewN (n1 + nq)) := below_drewN _ B3
      clear c0 c1 c2 d0 d1 d2 e0 e1 e2 f0 f1 f2 z0 z1 z2 B3
      generalize w3.drewN (n1 + nq) = w5 at z0' z1' z2' B4 ⊢
      have c0 := z0'.c0; have c1 := z0'.c1; have c2 := z0'.c2
      have d0 := z1'.c0; have d1 := z1'.c1; have d2 := z1'.c2
      have e0 := z2'.c0; have e1 := z2'.c1; have e2 := z2'.c2
      go_still_tail 29, (by kernel_rfl)
      change wpList _ _ _ _ _ w5.drew
      have B5 := below_drew B4
      have z3 : EdAt w5.drew (w.heap.size + 2) 0 0 ⟨#[]⟩ := z2'
      clear c0 c1 c2 d0 d1 d2 e0 e1 e2 z0' z1' z2' B4
      generalize w5.drew = w6 at z3 B5 ⊢
      have f0 := z3.fr 0; have f1 := z3.fr 1; have f2 := z3.fr 2
      have e0 := z3.c0; have e1 := z3.c1; have e2 := z3.c2
      go_wp2
      all_goals
        refine bodyPost_ret (v := .tuple #[edV a ((d : Int) + (tt - t.size)) (ls ++ u ++ rs), .bool true]) ?_ rfl ⟨by rw [HAT.out, HDD.out, HJ.out], below_set3 B5 (by omega)⟩
        have t' := z3.set (a' := a) (d' := (d : Int) + (tt - t.size)) (t' := ls ++ u ++ rs)
        have t0 := t'.c0
        have t1 := t'.c1
        have t2 := t'.c2
        simp [results, Try.f17, go_sem, t0, t1, t2]
    · have hba : ¬ b < a := by have := HF.out; omega
      have s1 := slc0z t (b - a) (if 0 < fr then fr else 0) (by have := HF.out; split <;> omega) (by omega)
      have s2 := slc1 t (min (b + e - a) t.size) (if (t.size : Int) < tt then (t.size : Int) else tt) (by have := HG.out; split <;> omega) (by omega)
      have r1 := slc0z t (b - a) fr (by have := HF.out; omega) (by omega)
      have r2 := slc1 t (min (b + e - a) t.size) tt (by have := HG.out; omega) (by omega)
      have g1 : ((0 : Int) < -fr) = False := eq_false (by omega)
      have g1' : (fr < 0) = False := eq_false (by omega)
      have g2 : ((0 : Int) < tt - t.size) = False := eq_false (by omega)
      have g2' : ((t.size : Int) < tt) = False := eq_false (by omega)
      have k1 : IntKind.i64.wrap (d : Int) = (d : Int) := IntWalk.i64_in _ (by omega)
      have hAT : ((min a b : Nat) : Int) = a := by omega
      have hDD : ((joinD a d t.size b e : Nat) : Int) = (d : Int) := by have := HF.out; have := HG.out; unfold joinD; omega
      have HAT := Lib.hid hAT; have HDD := Lib.hid hDD
      clear hAT hDD
      have hls : (t.extract 0 (b - a)).size ≤ 65536 := by rw [ByteArray.size_extract]; omega
      have hrs : (t.extract (min (b + e - a) t.size) t.size).size ≤ 65536 := by rw [ByteArray.size_extract]; omega
      have HJ : Hid (t.extract 0 (b - a) ++ u ++ t.extract (min (b + e - a) t.size) t.size = joinI a t b e u) := rfl
      generalize t.extract 0 (b - a) = ls at *
      generalize t.extract (min (b + e - a) t.size) t.size = rs at *
      have hc1 : (9223372036854775807 < ls.size + u.size) = False := eq_false (by omega)
      have hc2 : (9223372036854775807 < ls.size + u.size + rs.size) = False := eq_false (by omega)
      have hc3 : (9223372036854775807 < (ls ++ u).size + rs.size) = False := eq_false (by rw [ByteArray.size_append]; omega)
      go_quiet (fail)
      go_wp2_with fail
      try rw [World.drewN_drewN]
      have z0' : EdAt (w3.drewN (n1 + nq)) w.heap.size a d t := z0
      have z1' : EdAt (w3.drewN (n1 + nq)) (w.heap.size + 1) b e u := z1
      have z2' : EdAt (w3.drewN (n1 + nq)) (w.heap.size + 2) 0 0 ⟨#[]⟩ := z2
      have B4 : Below w.heap.size w (w3.drewN (n1 + nq)) := below_drewN _ B3
      clear c0 c1 c2 d0 d1 d2 e0 e1 e2 f0 f1 f2 z0 z1 z2 B3
      generalize w3.drewN (n1 + nq) = w5 at z0' z1' z2' B4 ⊢
      have c0 := z0'.c0; have c1 := z0'.c1; have c2 := z0'.c2
      have d0 := z1'.c0; have d1 := z1'.c1; have d2 := z1'.c2
      have e0 := z2'.c0; have e1 := z2'.c1; have e2 := z2'.c2
      go_still_tail 29, (by kernel_rfl)
      change wpList _ _ _ _ _ w5.drew
      have B5 := below_drew B4
      have z3 : EdAt w5.drew (w.heap.size + 2) 0 0 ⟨#[]⟩ := z2'
      clear c0 c1 c2 d0 d1 d2 e0 e1 e2 z0' z1' z2' B4
      generalize w5.drew = w6 at z3 B5 ⊢
      have f0 := z3.fr 0; have f1 := z3.fr 1; have f2 := z3.fr 2
      have e0 := z3.c0; have e1 := z3.c1; have e2 := z3.c2
      go_wp2
      all_goals
        refine bodyPost_ret (v := .tuple #[edV a ((d : Int)) (ls ++ u ++ rs), .bool true]) ?_ rfl ⟨by rw [HAT.out, HDD.out, HJ.out], below_set3 B5 (by omega)⟩
        have t' := z3.set (a' := a) (d' := (d : Int)) (t' := ls ++ u ++ rs)
        have t0 := t'.c0
        have t1 := t'.c1
        have t2 := t'.c2
        simp [results, Try.f17, go_sem, t0, t1, t2]
end Go.Proofs.Ytjbfnlnfhafafaa
