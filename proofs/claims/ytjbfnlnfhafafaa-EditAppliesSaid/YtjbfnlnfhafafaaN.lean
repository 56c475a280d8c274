/- The statement EditBack's body. -/
import Derived.Test.YtjbfnlnfhafafaaK
import Derived.Test.YtjbfnlnfhafafaaM
namespace Go.Proofs.Ytjbfnlnfhafafaa
open Go.RowKit

theorem strs_at1 {W : World} {g : Nat} {x : ByteArray} (h : W.heap[g]? = some (.cells #[.string x] 9 (0, 0))) : Strs W W.heap.size (some ⟨g, 0, none⟩) [x] := by
  rintro pre y rest e
  rcases pre with _ | ⟨a, pre⟩
  · simp at e
    obtain ⟨rfl, rfl⟩ := e
    exact ⟨_, 0, rfl, (Array.getElem?_eq_some_iff.1 h).1, by rw [Lib.cell_of_heap h]; rfl⟩
  · have := congrArg List.length e; simp at this
theorem strs_at2 {W : World} {g : Nat} {x y : ByteArray} (h : W.heap[g]? = some (.cells #[.string x, .string y] 9 (0, 0))) : Strs W W.heap.size (some ⟨g, 0, none⟩) [x, y] := by
  rintro pre z rest e
  rcases pre with _ | ⟨a, _ | ⟨b, pre⟩⟩
  · simp at e
    obtain ⟨rfl, rfl⟩ := e
    exact ⟨_, 0, rfl, (Array.getElem?_eq_some_iff.1 h).1, by rw [Lib.cell_of_heap h]; rfl⟩
  · simp at e
    obtain ⟨rfl, rfl, rfl⟩ := e
    exact ⟨_, 0, rfl, (Array.getElem?_eq_some_iff.1 h).1, by rw [Lib.cell_of_heap h]; rfl⟩
  · have := congrArg List.length e; simp at this
/-- few of one, of two texts. -/
theorem few1_any (x : ByteArray) (g : Nat) (w : World) (hx : x.size ≤ maxLen) (h : w.heap[g]? = some (.cells #[.string x] 9 (0, 0))) {b : Bool} (hb : decide (fewN [x] ≤ 4000) = b) :
    Calls Try.prog 8 #[.slice (some ⟨g, 0, none⟩) 1 1] w fun e w' => e = .returned (.bool b) ∧ Below w.heap.size w w' := by
  rw [← hb]
  exact few_any (some ⟨g, 0, none⟩) [x] 1 w (by simp) (by unfold maxLen at hx; simp; omega) (strs_at1 h)
theorem few2_any (x y : ByteArray) (g : Nat) (w : World) (hx : x.size ≤ maxLen) (hy : y.size ≤ maxLen) (h : w.heap[g]? = some (.cells #[.string x, .string y] 9 (0, 0))) {b : Bool} (hb : decide (fewN [x, y] ≤ 4000) = b) :
    Calls Try.prog 8 #[.slice (some ⟨g, 0, none⟩) 2 2] w fun e w' => e = .returned (.bool b) ∧ Below w.heap.size w w' := by
  rw [← hb]
  exact few_any (some ⟨g, 0, none⟩) [x, y] 2 w (by simp) (by unfold maxLen at hx hy; simp; omega) (strs_at2 h)
theorem few2_is {x y : ByteArray} (h : decide (fewN [x, y] ≤ 4000) = true) : x.size + y.size ≤ 4000 := by
  rw [decide_eq_true_eq] at h
  simp only [fewN] at h
  omega

/-- An edit and a pair of texts, laid one behind the other. -/
theorem ed_str (w : World) (a d : Int) (t x y : ByteArray) :
    EdAt ((w.alloc (.cells #[.int .i64 a, .int .i64 d, .string t] 32)).alloc (.cells #[.string x, .string y] 9)) w.heap.size a d t ∧
    ((w.alloc (.cells #[.int .i64 a, .int .i64 d, .string t] 32)).alloc (.cells #[.string x, .string y] 9)).heap[w.heap.size + 1]? = some (.cells #[.string x, .string y] 9 (0, 0)) ∧
    ((w.alloc (.cells #[.int .i64 a, .int .i64 d, .string t] 32)).alloc (.cells #[.string x, .string y] 9)).heap.size = w.heap.size + 2 ∧
    Below w.heap.size w ((w.alloc (.cells #[.int .i64 a, .int .i64 d, .string t] 32)).alloc (.cells #[.string x, .string y] 9)) := by
  refine ⟨(EdAt.new w a d t).alloc _, ?_, by simp, ((Below.refl _ w).alloc (Nat.le_refl _) _).alloc (by simp) _⟩
  have := World.alloc_heap_new (w.alloc (.cells #[.int .i64 a, .int .i64 d, .string t] 32)) (.cells #[.string x, .string y] 9)
  rwa [World.size_alloc] at this

set_option maxHeartbeats 1000000 in
theorem EBack_few (s t : ByteArray) (a d : Int) (w : World) (hs : s.size ≤ maxLen) (ht : t.size ≤ maxLen) (hf : decide (fewN [s, t] ≤ 4000) = false) :
    Calls Try.prog 4 #[.string s, edV a d t] w fun e w' => e = .returned (.bool true) ∧ Below w.heap.size w w' := by
  have HF := Lib.hid hf; clear hf
  obtain ⟨n0, n1, n2, n3⟩ := ed_str w a d t s t
  go_enter Try.func4, Try.ntmps4
  go_wp2_with fail
  refine (few2_any s t _ _ hs ht n1 HF.out).mono ?_
  rintro e w1 ⟨rfl, b1⟩
  rw [n2] at b1
  have B1 := n3.trans (b1.mono (by omega))
  clear n0 n1 n2 n3 b1
  go_wp2_with fail
  refine (knows_any _).mono ?_
  rintro e w2 ⟨rfl, b2⟩
  have B2 := B1.trans (b2.mono B1.size)
  go_wp2
  go_ret
  exact ⟨rfl, B2⟩

set_option maxHeartbeats 1000000 in
theorem EBack_no (s t : ByteArray) (a d : Int) (w : World) (hs : s.size ≤ maxLen) (ht : t.size ≤ maxLen) (hf : decide (fewN [s, t] ≤ 4000) = true) (hr : rightB s.size a d = false) :
    Calls Try.prog 4 #[.string s, edV a d t] w fun e w' => e = .returned (.bool true) ∧ Below w.heap.size w w' := by
  have hss := few2_is hf
  have HF := Lib.hid hf; clear hf
  have HR := Lib.hid hr; clear hr
  obtain ⟨n0, n1, n2, n3⟩ := ed_str w a d t s t
  go_enter Try.func4, Try.ntmps4
  go_wp2_with fail
  refine (few2_any s t _ _ hs ht n1 HF.out).mono ?_
  rintro e w1 ⟨rfl, b1⟩
  rw [n2] at b1
  have y1 := n0.below b1 (by omega)
  have B1 := n3.trans (b1.mono (by omega))
  clear n0 n1 n2 n3 b1
  have c0 := y1.c0; have c1 := y1.c1; have c2 := y1.c2
  go_wp2_with fail
  refine (Right_any s t a d _ (by omega)).mono ?_
  rintro e w2 ⟨rfl, b2⟩
  rw [HR.out]
  have B2 := B1.trans (b2.mono B1.size)
  clear y1 B1 b2 c0 c1 c2
  go_wp2_with fail
  refine (knows_any _).mono ?_
  rintro e w3 ⟨rfl, b3⟩
  have B3 := B2.trans (b3.mono B2.size)
  go_wp2
  go_ret
  exact ⟨rfl, B3⟩

set_option maxHeartbeats 4000000 in
set_option maxRecDepth 100000 in
theorem EBack_yes (s t : ByteArray) (a d : Nat) (w : World) (hs : s.size ≤ maxLen) (ht : t.size ≤ maxLen) (hf : decide (fewN [s, t] ≤ 4000) = true) (hr : a + d ≤ s.size) :
    Calls Try.prog 4 #[.string s, edV a d t] w fun e w' => e = .returned (.bool true) ∧ Below w.heap.size w w' := by
  have hss := few2_is hf
  have HF := Lib.hid hf; clear hf
  have HR : Hid (rightB s.size a d = true) := Lib.hid (decide_eq_true (by omega))
  have hJ := join_size t hr
  have hA1 := Lib.hid (apply1 (t := t) hr (by omega))
  have hB1 := Lib.hid (back1 (n := t.size) hr)
  have hms : (s.extract a (a + d)).size = d := by rw [ByteArray.size_extract]; omega
  have hA2 := Lib.hid (apply1 (s := joinT s a d t) (a := a) (d := t.size) (t := s.extract a (a + d)) (by omega) (by omega))
  have hB2 := Lib.hid (back1 (s := joinT s a d t) (a := a) (d := t.size) (n := (s.extract a (a + d)).size) (by omega))
  have hA3 := hA2.out
  rw [join_back t hr] at hA3
  have hB3 := hB2.out
  rw [join_mid t hr, hms] at hB3
  have HA2 := Lib.hid hA3
  have HB2 := Lib.hid hB3
  clear hA2 hA3 hB2 hB3
  have hms' := Lib.hid hms
  clear hms
  have htb : t.size ≤ 4000 := by omega
  have hJb : (joinT s a d t).size ≤ 10000000 := by omega
  have hMb : (s.extract a (a + d)).size ≤ 10000000 := by rw [hms'.out]; omega
  have HJ := Lib.hid hJ; clear hJ
  generalize joinT s a d t = J at *
  generalize s.extract a (a + d) = M at *
  obtain ⟨n0, n1, n2, n3⟩ := ed_str w a d t s t
  go_enter Try.func4, Try.ntmps4
  go_wp2_with fail
  refine (few2_any s t _ _ hs ht n1 HF.out).mono ?_
  rintro e w1 ⟨rfl, b1⟩
  rw [n2] at b1
  have y1 := n0.below b1 (by omega)
  have B1 := n3.trans (b1.mono (by omega))
  clear n0 n1 n2 n3 b1
  have c0 := y1.c0; have c1 := y1.c1; have c2 := y1.c2
  go_wp2_with fail
  refine (Right_any s t a d _ (by omega)).mono ?_
  rintro e w2 ⟨rfl, b2⟩
  rw [HR.out]
  have y2 := y1.below b2 y1.lt
  have B2 := B1.trans (b2.mono B1.size)
  clear y1 B1 b2 c0 c1 c2
  have c0 := y2.c0; have c1 := y2.c1; have c2 := y2.c2
  have z2 := EdAt.new w2 a d t
  have y2' := y2.alloc (.cells #[.int .i64 a, .int .i64 d, .string t] 32)
  have B2' := B2.alloc B2.size (.cells #[.int .i64 a, .int .i64 d, .string t] 32)
  go_wp2_with fail
  refine (Apply1_any s t a d w2.heap.size _ (by omega) (by omega) z2).mono ?_
  rintro e w3 ⟨rfl, b3⟩
  rw [hA1.out]
  have y3 := y2'.below b3 y2'.lt
  have B3 := B2'.trans (b3.mono B2'.size)
  clear y2 B2 z2 y2' B2' b3 c0 c1 c2
  have c0 := y3.c0; have c1 := y3.c1; have c2 := y3.c2
  go_wp2_with fail
  refine (Back_any s t a d _ (by omega)).mono ?_
  rintro e w4 ⟨rfl, b4⟩
  rw [hB1.out]
  have y4 := y3.below b4 y3.lt
  have B4 := B3.trans (b4.mono B3.size)
  clear y3 B3 b4 c0 c1 c2
  obtain ⟨m0, m1, m2, m3⟩ := two_new w4 a t.size a t.size M M
  have y5 := (y4.alloc (.cells #[.int .i64 a, .int .i64 t.size, .string M] 32)).alloc (.cells #[.int .i64 a, .int .i64 t.size, .string M] 32)
  have B5 := B4.trans (m3.mono B4.size)
  have hz4 := B4.size
  have hl4 := y4.lt
  clear y4 B4
  go_wp2_with fail
  refine (Apply1_any J M a t.size (w4.heap.size + 1) _ hJb hMb m1).mono ?_
  rintro e w6 ⟨rfl, b6⟩
  rw [HA2.out]
  have y6 := y5.below b6 y5.lt
  have v6 := m0.below b6 m0.lt
  have B6 := B5.trans (b6.mono B5.size)
  have hs6 := b6.size
  rw [m2] at hs6
  clear y5 m0 m1 m2 m3 B5 b6
  have c0 := v6.c0; have c1 := v6.c1; have c2 := v6.c2
  go_wp2_with fail
  refine (Back_any J M a t.size _ hJb).mono ?_
  rintro e w7 ⟨rfl, b7⟩
  rw [hms'.out]
  rw [HB2.out]
  have y7 := y6.below b7 y6.lt
  have B7 := B6.trans (b7.mono B6.size)
  have hs7 := b7.size
  have q7 := EdAt.new w7 a d t
  have y8 := y7.alloc (.cells #[.int .i64 a, .int .i64 d, .string t] 32)
  have B8 := B7.alloc B7.size (.cells #[.int .i64 a, .int .i64 d, .string t] 32)
  clear y6 v6 B6 b7 c0 c1 c2 y7 B7
  have c0 := y8.c0; have c1 := y8.c1; have c2 := y8.c2
  have d0 := q7.c0; have d1 := q7.c1; have d2 := q7.c2
  go_wp2_with fail
  refine (knows_any _).mono ?_
  rintro e w9 ⟨rfl, b9⟩
  have B9 := B8.trans (b9.mono B8.size)
  go_wp2
  go_ret
  exact ⟨rfl, B9⟩

theorem EBack_any (s t : ByteArray) (a d : Int) (w : World) (hs : s.size ≤ maxLen) (ht : t.size ≤ maxLen) (_ : -9223372036854775808 ≤ a ∧ a ≤ 9223372036854775807) (_ : -9223372036854775808 ≤ d ∧ d ≤ 9223372036854775807) :
    Calls Try.prog 4 #[.string s, edV a d t] w fun e w' => e = .returned (.bool true) ∧ Below w.heap.size w w' := by
  by_cases hf : decide (fewN [s, t] ≤ 4000) = true
  · by_cases hr : rightB s.size a d = true
    · obtain ⟨x, y, rfl, rfl, hxy⟩ := right_nat hr
      exact EBack_yes s t x y w hs ht hf hxy
    · exact EBack_no s t a d w hs ht hf (Bool.eq_false_iff.2 hr)
  · exact EBack_few s t a d w hs ht (Bool.eq_false_iff.2 hf)
end Go.Proofs.Ytjbfnlnfhafafaa
