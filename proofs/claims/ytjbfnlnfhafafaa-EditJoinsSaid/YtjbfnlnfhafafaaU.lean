/- The reference's Join: it answers as edit.Join. -/
import Derived.Test.YtjbfnlnfhafafaaT
namespace Go.Proofs.Ytjbfnlnfhafafaa
open Go.RowKit

set_option maxHeartbeats 1000000 in
theorem rJoin_no (a d b e : Int) (t u : ByteArray) (w : World) (ht : t.size ≤ 65536) (hu : u.size ≤ 65536) (hc : joinC a d t.size b e u.size = false) :
    Calls Try.prog 18 #[edV a d t, edV b e u] w fun r w' => r = .returned (.tuple #[edV 0 0 ⟨#[]⟩, .bool false]) ∧ Below w.heap.size w w' := by
  obtain ⟨n0, n1, n2, n3, n4⟩ := two_ed w a d b e t u _ rfl
  by_cases h1 : smallB a d t.size = true
  · by_cases h2 : smallB b e u.size = true
    · have h3 : touchB a t.size b e = false := by rw [joinC, h1, h2] at hc; exact hc
      obtain ⟨⟨p1, p2⟩, ⟨p3, p4⟩, p5⟩ := small_is h1
      obtain ⟨⟨p6, p7⟩, ⟨p8, p9⟩, p10⟩ := small_is h2
      have H1 := Lib.hid h1; have H2 := Lib.hid h2; have H3 := Lib.hid h3; clear h1 h2 h3 hc
      go_enter Try.func18, Try.ntmps18
      go_wp2_with fail
      refine (rSmall_any a d t _ (by omega)).mono ?_
      rintro r w1 ⟨rfl, b1⟩
      rw [H1.out]
      rw [n3] at b1
      have x0 := n0.below b1 (by omega)
      have x1 := n1.below b1 (by omega)
      have x2 := n2.below b1 (by omega)
      have B1 := n4.trans (b1.mono (by omega))
      clear n0 n1 n2 n3 n4 b1
      have c0 := x1.c0; have c1 := x1.c1; have c2 := x1.c2
      go_wp2_with fail
      refine (rSmall_any b e u _ (by omega)).mono ?_
      rintro r w2 ⟨rfl, b2⟩
      rw [H2.out]
      have y0 := x0.below b2 x0.lt
      have y1 := x1.below b2 x1.lt
      have y2 := x2.below b2 x2.lt
      have B2 := B1.trans (b2.mono B1.size)
      clear x0 x1 x2 B1 b2 c0 c1 c2
      have c0 := y0.c0; have c1 := y0.c1; have c2 := y0.c2
      have d0 := y1.c0; have d1 := y1.c1; have d2 := y1.c2
      have e0 := y2.c0; have e1 := y2.c1; have e2 := y2.c2
      have f0 := y2.fr 0; have f1 := y2.fr 1; have f2 := y2.fr 2
      have h4 := H3.out
      rw [touchB, decide_eq_false_iff_not] at h4
      by_cases hb : a + t.size < b
      · go_wp2_with fail
        go_quiet (fail)
        have z2 : EdAt (w2.drewN nq) (w.heap.size + 2) 0 0 ⟨#[]⟩ := y2
        have z0 : EdAt (w2.drewN nq) w.heap.size a d t := y0
        have z1 : EdAt (w2.drewN nq) (w.heap.size + 1) b e u := y1
        have B3 : Below w.heap.size w (w2.drewN nq) := below_drewN _ B2
        clear y0 y1 y2 B2 c0 c1 c2 d0 d1 d2 e0 e1 e2 f0 f1 f2
        generalize w2.drewN nq = w3 at z0 z1 z2 B3 ⊢
        have f0 := z2.fr 0; have f1 := z2.fr 1; have f2 := z2.fr 2
        have c0 := z2.c0; have c1 := z2.c1; have c2 := z2.c2
        have e0 := z0.c0; have d0 := z1.c0
        go_wp2
        refine bodyPost_ret (v := .tuple #[edV 0 0 ⟨#[]⟩, .bool false]) ?_ rfl ⟨rfl, below_set3 B3 (by omega)⟩
        have t := z2.set (a' := 0) (d' := 0) (t' := ⟨#[]⟩)
        have t0 := t.c0
        have t1 := t.c1
        have t2 := t.c2
        simp [results, Try.f18, go_sem, t0, t1, t2]
      · have hb2 : b + e < a := by omega
        go_wp2_with fail
        go_quiet (fail)
        have z2 : EdAt (w2.drewN nq) (w.heap.size + 2) 0 0 ⟨#[]⟩ := y2
        have z0 : EdAt (w2.drewN nq) w.heap.size a d t := y0
        have z1 : EdAt (w2.drewN nq) (w.heap.size + 1) b e u := y1
        have B3 : Below w.heap.size w (w2.drewN nq) := below_drewN _ B2
        clear y0 y1 y2 B2 c0 c1 c2 d0 d1 d2 e0 e1 e2 f0 f1 f2
        generalize w2.drewN nq = w3 at z0 z1 z2 B3 ⊢
        have f0 := z2.fr 0; have f1 := z2.fr 1; have f2 := z2.fr 2
        have c0 := z2.c0; have c1 := z2.c1; have c2 := z2.c2
        have e0 := z0.c0; have d0 := z1.c0
        go_wp2
        refine bodyPost_ret (v := .tuple #[edV 0 0 ⟨#[]⟩, .bool false]) ?_ rfl ⟨rfl, below_set3 B3 (by omega)⟩
        have t := z2.set (a' := 0) (d' := 0) (t' := ⟨#[]⟩)
        have t0 := t.c0
        have t1 := t.c1
        have t2 := t.c2
        simp [results, Try.f18, go_sem, t0, t1, t2]
    · have H1 := Lib.hid h1; have H2 := Lib.hid (Bool.eq_false_iff.2 h2); clear h1 h2 hc
      go_enter Try.func18, Try.ntmps18
      go_wp2_with fail
      refine (rSmall_any a d t _ (by omega)).mono ?_
      rintro r w1 ⟨rfl, b1⟩
      rw [H1.out]
      rw [n3] at b1
      have x1 := n1.below b1 (by omega)
      have x2 := n2.below b1 (by omega)
      have B1 := n4.trans (b1.mono (by omega))
      clear n0 n1 n2 n3 n4 b1
      have c0 := x1.c0; have c1 := x1.c1; have c2 := x1.c2
      go_wp2_with fail
      refine (rSmall_any b e u _ (by omega)).mono ?_
      rintro r w2 ⟨rfl, b2⟩
      rw [H2.out]
      have z2 := x2.below b2 x2.lt
      have B3 := B1.trans (b2.mono B1.size)
      clear x1 x2 B1 b2 c0 c1 c2
      have f0 := z2.fr 0; have f1 := z2.fr 1; have f2 := z2.fr 2
      have c0 := z2.c0; have c1 := z2.c1; have c2 := z2.c2
      go_wp2
      refine bodyPost_ret (v := .tuple #[edV 0 0 ⟨#[]⟩, .bool false]) ?_ rfl ⟨rfl, below_set3 B3 (by omega)⟩
      have t := z2.set (a' := 0) (d' := 0) (t' := ⟨#[]⟩)
      have t0 := t.c0
      have t1 := t.c1
      have t2 := t.c2
      simp [results, Try.f18, go_sem, t0, t1, t2]
  · have H1 := Lib.hid (Bool.eq_false_iff.2 h1); clear h1 hc
    go_enter Try.func18, Try.ntmps18
    go_wp2_with fail
    refine (rSmall_any a d t _ (by omega)).mono ?_
    rintro r w1 ⟨rfl, b1⟩
    rw [H1.out]
    rw [n3] at b1
    have z2 := n2.below b1 (by omega)
    have B3 := n4.trans (b1.mono (by omega))
    clear n0 n1 n2 n3 n4 b1
    have f0 := z2.fr 0; have f1 := z2.fr 1; have f2 := z2.fr 2
    have c0 := z2.c0; have c1 := z2.c1; have c2 := z2.c2
    go_wp2
    refine bodyPost_ret (v := .tuple #[edV 0 0 ⟨#[]⟩, .bool false]) ?_ rfl ⟨rfl, below_set3 B3 (by omega)⟩
    have t := z2.set (a' := 0) (d' := 0) (t' := ⟨#[]⟩)
    have t0 := t.c0
    have t1 := t.c1
    have t2 := t.c2
    simp [results, Try.f18, go_sem, t0, t1, t2]

end Go.Proofs.Ytjbfnlnfhafafaa
