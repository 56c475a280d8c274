/- The statement EditJoins' body. -/
import Derived.Test.YtjbfnlnfhafafaaWJ
namespace Go.Proofs.Ytjbfnlnfhafafaa
open Go.RowKit

theorem strs_at3 {W : World} {g : Nat} {x y z : ByteArray} (h : W.heap[g]? = some (.cells #[.string x, .string y, .string z] 9 (0, 0))) : Strs W W.heap.size (some ⟨g, 0, none⟩) [x, y, z] := by
  rintro pre v rest e
  rcases pre with _ | ⟨a, _ | ⟨b, _ | ⟨c, pre⟩⟩⟩
  · simp at e
    obtain ⟨rfl, rfl⟩ := e
    exact ⟨_, 0, rfl, (Array.getElem?_eq_some_iff.1 h).1, by rw [Lib.cell_of_heap h]; rfl⟩
  · simp at e
    obtain ⟨rfl, rfl, rfl⟩ := e
    exact ⟨_, 0, rfl, (Array.getElem?_eq_some_iff.1 h).1, by rw [Lib.cell_of_heap h]; rfl⟩
  · simp at e
    obtain ⟨rfl, rfl, rfl, rfl⟩ := e
    exact ⟨_, 0, rfl, (Array.getElem?_eq_some_iff.1 h).1, by rw [Lib.cell_of_heap h]; rfl⟩
  · have := congrArg List.length e; simp at this
theorem few3_any (x y z : ByteArray) (g : Nat) (w : World) (hx : x.size ≤ maxLen) (hy : y.size ≤ maxLen) (hz : z.size ≤ maxLen) (h : w.heap[g]? = some (.cells #[.string x, .string y, .string z] 9 (0, 0))) {b : Bool} (hb : decide (fewN [x, y, z] ≤ 4000) = b) :
    Calls Try.prog 8 #[.slice (some ⟨g, 0, none⟩) 3 3] w fun e w' => e = .returned (.bool b) ∧ Below w.heap.size w w' := by
  rw [← hb]
  exact few_any (some ⟨g, 0, none⟩) [x, y, z] 3 w (by simp) (by unfold maxLen at hx hy hz; simp; omega) (strs_at3 h)
theorem few3_is {x y z : ByteArray} (h : decide (fewN [x, y, z] ≤ 4000) = true) : x.size + y.size + z.size ≤ 4000 := by
  rw [decide_eq_true_eq] at h
  simp only [fewN] at h
  omega
/-- Two edits and three texts, laid one behind the other. -/
theorem ed2_str (w : World) (a d b e : Int) (t u x y z : ByteArray) :
    EdAt (((w.alloc (.cells #[.int .i64 a, .int .i64 d, .string t] 32)).alloc (.cells #[.int .i64 b, .int .i64 e, .string u] 32)).alloc (.cells #[.string x, .string y, .string z] 9)) w.heap.size a d t ∧
    EdAt (((w.alloc (.cells #[.int .i64 a, .int .i64 d, .string t] 32)).alloc (.cells #[.int .i64 b, .int .i64 e, .string u] 32)).alloc (.cells #[.string x, .string y, .string z] 9)) (w.heap.size + 1) b e u ∧
    (((w.alloc (.cells #[.int .i64 a, .int .i64 d, .string t] 32)).alloc (.cells #[.int .i64 b, .int .i64 e, .string u] 32)).alloc (.cells #[.string x, .string y, .string z] 9)).heap[w.heap.size + 1 + 1]? = some (.cells #[.string x, .string y, .string z] 9 (0, 0)) ∧
    (((w.alloc (.cells #[.int .i64 a, .int .i64 d, .string t] 32)).alloc (.cells #[.int .i64 b, .int .i64 e, .string u] 32)).alloc (.cells #[.string x, .string y, .string z] 9)).heap.size = w.heap.size + 3 ∧
    Below w.heap.size w (((w.alloc (.cells #[.int .i64 a, .int .i64 d, .string t] 32)).alloc (.cells #[.int .i64 b, .int .i64 e, .string u] 32)).alloc (.cells #[.string x, .string y, .string z] 9)) := by
  obtain ⟨n0, n1, n2, n3⟩ := two_new w a d b e t u
  refine ⟨n0.alloc _, n1.alloc _, ?_, by simp, n3.alloc n3.size _⟩
  have := World.alloc_heap_new ((w.alloc (.cells #[.int .i64 a, .int .i64 d, .string t] 32)).alloc (.cells #[.int .i64 b, .int .i64 e, .string u] 32)) (.cells #[.string x, .string y, .string z] 9)
  rwa [n2] at this

/-- Apply with two edits. -/
theorem Apply2_any (s t u : ByteArray) (a d b e : Int) (g : Nat) (w : World) (hs : s.size ≤ 10000000) (ht : t.size ≤ 10000000) (hu : u.size ≤ 10000000) (hg : g = w.heap.size) :
    Calls Try.prog 11 #[.string s, .slice (some ⟨g, 0, none⟩) 2 2] (w.alloc (.cells #[.int .i64 a, .int .i64 d, .string t, .int .i64 b, .int .i64 e, .string u] 32)) fun r w' => r = .returned (.tuple #[.string (applyL s [(a, d, t), (b, e, u)]).1, .int .i64 (applyL s [(a, d, t), (b, e, u)]).2]) ∧ Below (w.heap.size + 1) (w.alloc (.cells #[.int .i64 a, .int .i64 d, .string t, .int .i64 b, .int .i64 e, .string u] 32)) w' := by
  subst hg
  have := Apply_any s (some ⟨w.heap.size, 0, none⟩) [(a, d, t), (b, e, u)] 2 (w.alloc (.cells #[.int .i64 a, .int .i64 d, .string t, .int .i64 b, .int .i64 e, .string u] 32)) hs (by simp) (by simp; exact ⟨ht, hu⟩) (by rw [World.size_alloc]; exact eds_two w a d b e t u)
  rwa [World.size_alloc] at this
theorem joinZ_true {a d b e : Nat} {t u : ByteArray} {x y : Int} {z : ByteArray} (h : joinZ a d t b e u = (x, y, z, true)) : joinC a d t.size b e u.size = true ∧ x = ((min a b : Nat) : Int) ∧ y = ((joinD a d t.size b e : Nat) : Int) ∧ z = joinI a t b e u := by
  rw [joinZ] at h
  split at h
  · rename_i hc
    simp only [Int.toNat_natCast, Prod.mk.injEq] at h
    exact ⟨hc, h.1.symm, h.2.1.symm, h.2.2.1.symm⟩
  · simp at h

set_option maxHeartbeats 1000000 in
theorem EJoins_few (s t u : ByteArray) (a d b e : Int) (w : World) (hs : s.size ≤ maxLen) (ht : t.size ≤ maxLen) (hu : u.size ≤ maxLen) (hf : decide (fewN [s, t, u] ≤ 4000) = false) :
    Calls Try.prog 5 #[.string s, edV a d t, edV b e u] w fun e w' => e = .returned (.bool true) ∧ Below w.heap.size w w' := by
  have HF := Lib.hid hf; clear hf
  obtain ⟨n0, n1, n2, n3, n4⟩ := ed2_str w a d b e t u s t u
  go_enter Try.func5, Try.ntmps5
  go_wp2_with fail
  refine (few3_any s t u _ _ hs ht hu n2 HF.out).mono ?_
  rintro r w1 ⟨rfl, b1⟩
  rw [n3] at b1
  have B1 := n4.trans (b1.mono (by omega))
  clear n0 n1 n2 n3 n4 b1
  go_wp2_with fail
  refine (knows_any _).mono ?_
  rintro r w2 ⟨rfl, b2⟩
  have B2 := B1.trans (b2.mono B1.size)
  go_wp2
  go_ret
  exact ⟨rfl, B2⟩

set_option maxHeartbeats 1000000 in
theorem EJoins_else (s t u : ByteArray) (a d b e : Int) (w : World) (hs : s.size ≤ maxLen) (ht : t.size ≤ maxLen) (hu : u.size ≤ maxLen) (hf : decide (fewN [s, t, u] ≤ 4000) = true) :
    Calls Try.prog 5 #[.string s, edV a d t, edV b e u] w fun e w' => e = .returned (.bool true) ∧ Below w.heap.size w w' := by
  have hss := few3_is hf
  have HF := Lib.hid hf; clear hf
  obtain ⟨n0, n1, n2, n3, n4⟩ := ed2_str w a d b e t u s t u
  obtain ⟨x, y, z, f, hz⟩ : ∃ x y z f, joinZ a d t b e u = (x, y, z, f) := ⟨_, _, _, _, rfl⟩
  have HZ := Lib.hid hz; clear hz
  go_enter Try.func5, Try.ntmps5
  go_wp2_with fail
  refine (few3_any s t u _ _ hs ht hu n2 HF.out).mono ?_
  rintro r w1 ⟨rfl, b1⟩
  rw [n3] at b1
  have x1 := n0.below b1 (by omega)
  have y1 := n1.below b1 (by omega)
  have B1 := n4.trans (b1.mono (by omega))
  clear n0 n1 n2 n3 n4 b1
  have c0 := x1.c0; have c1 := x1.c1; have c2 := x1.c2
  have d0 := y1.c0; have d1 := y1.c1; have d2 := y1.c2
  go_wp2_with fail
  refine (Join_any a d b e t u _ (by omega) (by omega) HZ.out).mono ?_
  rintro r w2 ⟨rfl, b2⟩
  have x2 := x1.below b2 x1.lt
  have y2 := y1.below b2 y1.lt
  have B2 := B1.trans (b2.mono B1.size)
  have v3 := EdAt.new w2 x y z
  have x3 := x2.alloc (.cells #[.int .i64 x, .int .i64 y, .string z] 32)
  have y3 := y2.alloc (.cells #[.int .i64 x, .int .i64 y, .string z] 32)
  have B3 := B2.alloc B2.size (.cells #[.int .i64 x, .int .i64 y, .string z] 32)
  have hz2 := B2.size
  clear x1 y1 B1 b2 c0 c1 c2 d0 d1 d2 x2 y2 B2
  have c0 := x3.c0; have c1 := x3.c1; have c2 := x3.c2
  have d0 := y3.c0; have d1 := y3.c1; have d2 := y3.c2
  go_wp2_with fail
  refine (rJoin_any a d b e t u _ (by omega) (by omega) HZ.out).mono ?_
  rintro r w4 ⟨rfl, b4⟩
  have x4 := x3.below b4 x3.lt
  have y4 := y3.below b4 y3.lt
  have v4 := v3.below b4 v3.lt
  have B4 := B3.trans (b4.mono B3.size)
  have v5 := EdAt.new w4 x y z
  have x5 := x4.alloc (.cells #[.int .i64 x, .int .i64 y, .string z] 32)
  have y5 := y4.alloc (.cells #[.int .i64 x, .int .i64 y, .string z] 32)
  have u5 := v4.alloc (.cells #[.int .i64 x, .int .i64 y, .string z] 32)
  have B5 := B4.alloc B4.size (.cells #[.int .i64 x, .int .i64 y, .string z] 32)
  have hz4 := B4.size
  clear x3 y3 v3 B3 b4 c0 c1 c2 d0 d1 d2 x4 y4 v4 B4
  have c0 := x5.c0; have c1 := x5.c1; have c2 := x5.c2
  have d0 := y5.c0; have d1 := y5.c1; have d2 := y5.c2
  have e0 := u5.c0; have e1 := u5.c1; have e2 := u5.c2
  have f0 := v5.c0; have f1 := v5.c1; have f2 := v5.c2
  have hA := Apply2_any s t u a d b e (w4.heap.size + 1) (w4.alloc (.cells #[.int .i64 x, .int .i64 y, .string z] 32)) (by omega) (by omega) (by omega) (by simp)
  have x6 := x5.alloc (.cells #[.int .i64 a, .int .i64 d, .string t, .int .i64 b, .int .i64 e, .string u] 32)
  have u6 := u5.alloc (.cells #[.int .i64 a, .int .i64 d, .string t, .int .i64 b, .int .i64 e, .string u] 32)
  have B6 := B5.alloc B5.size (.cells #[.int .i64 a, .int .i64 d, .string t, .int .i64 b, .int .i64 e, .string u] 32)
  have HA := Lib.hid hA; clear hA
  go_wp2_with fail
  refine (HA.out).mono ?_
  rintro r w7 ⟨rfl, b7⟩
  have hlu := u5.lt
  rw [World.size_alloc] at b7 hlu
  have u7 := u6.below b7 (by omega)
  have B7 := B6.trans (b7.mono (by omega))
  clear HA x5 y5 v5 u5 B5 x6 u6 B6 b7 c0 c1 c2 d0 d1 d2 e0 e1 e2 f0 f1 f2 hz2 hz4 hlu
  have e0 := u7.c0; have e1 := u7.c1; have e2 := u7.c2
  rcases apply_ff s t u a d b e with hf | ⟨a, d, b, e, rfl, rfl, rfl, rfl, h1, h2, h3, h4⟩
  · obtain ⟨v, g, hv⟩ : ∃ v g, applyL s [(a, d, t), (b, e, u)] = (v, g) := ⟨_, _, rfl⟩
    rw [hv] at hf ⊢
    have hf' : g ≠ 0 := hf
    have hfb : (g != 0) = true := by rw [bne_iff_ne]; exact hf'
    clear hf hf' hv
    go_wp2_with fail
    refine (knows_any _).mono ?_
    rintro r w8 ⟨rfl, b8⟩
    have B8 := B7.trans (b8.mono B7.size)
    go_wp2
    go_ret
    exact ⟨rfl, B8⟩
  · rw [h4]
    cases f
    · clear h4 h1 h2 h3
      go_wp2_with fail
      refine (knows_any _).mono ?_
      rintro r w8 ⟨rfl, b8⟩
      have B8 := B7.trans (b8.mono B7.size)
      go_wp2
      go_ret
      exact ⟨rfl, B8⟩
    · obtain ⟨p1, rfl, rfl, rfl⟩ := joinZ_true HZ.out
      obtain ⟨_, _, p2, p3⟩ := join_c p1
      have hj := apply_join h1 h2 h3 p2 p3
      have HJ := Lib.hid hj
      have hzs : (joinI a t b e u).size ≤ 10000000 := by
        unfold joinI
        rw [ByteArray.size_append, ByteArray.size_append, ByteArray.size_extract, ByteArray.size_extract]
        omega
      clear h4 h1 h2 h3 hj p1 p2 p3
      generalize joinT (joinT s a d t) b e u = J at *
      generalize ((min a b : Nat) : Int) = x at *
      generalize ((joinD a d t.size b e : Nat) : Int) = y at *
      generalize joinI a t b e u = z at *
      have q7 := EdAt.new w7 x y z
      have B8 := B7.alloc B7.size (.cells #[.int .i64 x, .int .i64 y, .string z] 32)
      go_wp2_with fail
      refine (Apply1_any s z x y w7.heap.size _ (by omega) hzs q7).mono ?_
      rintro r w9 ⟨rfl, b9⟩
      rw [HJ.out]
      have B9 := B8.trans (b9.mono B8.size)
      clear q7 B8 b9 B7 u7 e0 e1 e2
      go_wp2_with fail
      refine (knows_any _).mono ?_
      rintro r w10 ⟨rfl, b10⟩
      have B10 := B9.trans (b10.mono B9.size)
      go_wp2
      go_ret
      exact ⟨rfl, B10⟩
theorem EJoins_any (s t : ByteArray) (a d : Int) (u : ByteArray) (b e : Int) (w : World) (hs : s.size ≤ maxLen) (ht : t.size ≤ maxLen) (_ : -9223372036854775808 ≤ a ∧ a ≤ 9223372036854775807) (_ : -9223372036854775808 ≤ d ∧ d ≤ 9223372036854775807) (hu : u.size ≤ maxLen) (_ : -9223372036854775808 ≤ b ∧ b ≤ 9223372036854775807) (_ : -9223372036854775808 ≤ e ∧ e ≤ 9223372036854775807) :
    Calls Try.prog 5 #[.string s, edV a d t, edV b e u] w fun r w' => r = .returned (.bool true) ∧ Below w.heap.size w w' := by
  by_cases hf : decide (fewN [s, t, u] ≤ 4000) = true
  · exact EJoins_else s t u a d b e w hs ht hu hf
  · exact EJoins_few s t u a d b e w hs ht hu (Bool.eq_false_iff.2 hf)
end Go.Proofs.Ytjbfnlnfhafafaa
