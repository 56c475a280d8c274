/- The reference's SameRunes over two lists that hold the same runes; the statement TextRunes' body. -/
import Derived.Test.YtfanaocengmpjaaDoorTB
import Derived.Test.YtfanaocengmpjaaDoorK
import Derived.BigQuiet
namespace Go.Proofs.YtfanaocengmpjaaDoor
open Go.RowKit Go.Shelf

/-- The slice at ao holds the runes L. -/
def View (W : World) (ao : Option Addr) (L : List (Nat × Nat × Nat)) : Prop := ∀ pre x rest, pre ++ x :: rest = L → ∃ g, ao = some ⟨g, 0, none⟩ ∧
  W.cell? ⟨g, pre.length * 3, none⟩ = some (.int .i32 x.1) ∧ W.cell? ⟨g, pre.length * 3 + 1, none⟩ = some (.int .i64 x.2.1) ∧ W.cell? ⟨g, pre.length * 3 + 2, none⟩ = some (.int .i64 x.2.2)
theorem view_of_own {w0 : World} {b : Nat} {v : Value} {L : List (Nat × Nat × Nat)} (h : w0.ownsRow b 36 3 v L.length (runeCells L)) :
    ∃ ao cap, v = .slice ao L.length cap ∧ ∀ W, Below w0.heap.size w0 W → View W ao L := by
  obtain ⟨ao, cap, hv, hc⟩ := own_view3 h
  exact ⟨ao, cap, hv, fun W hb pre x rest e => by
    obtain ⟨g, h1, _, h2, h3⟩ := hc pre x rest e
    exact ⟨g, h1, h3 W (hb.block g h2)⟩⟩

set_option maxHeartbeats 4000000 in
set_option maxRecDepth 100000 in
theorem rSame_any (L : List (Nat × Nat × Nat)) (a1 a2 : Option Addr) (c1 c2 : Nat) (W : World) (hN : L.length ≤ 300) (h1 : View W a1 L) (h2 : View W a2 L) :
    Calls Tryd.prog 13 #[.slice a1 L.length c1, .slice a2 L.length c2] W fun e w' => e = .returned (.bool true) ∧ Below W.heap.size W w' := by
  have H1 := Lib.hid h1; clear h1
  have H2 := Lib.hid h2; clear h2
  go_enter Tryd.func13, Tryd.ntmps13
  go_wp2
  go_loopw [5] (fun i wr => ∃ pre rest : List (Nat × Nat × Nat), i = .int .i64 pre.length ∧ Hid (pre ++ rest = L) ∧ ∃ n, wr = W.drewN n) (fun i _ => L.length - (intOf i).toNat)
  case atStart => exact ⟨[], L, rfl, rfl, 0, rfl⟩
  case round =>
    obtain ⟨pre, rest, rfl, hA, n, rfl⟩ := hrel
    have hL := hA.out
    rcases rest with _ | ⟨x, rest⟩
    · rw [List.append_nil] at hL
      subst hL
      go_wp2
      go_ret
      exact ⟨rfl, ⟨rfl, rfl, rfl, Nat.le_refl _, fun _ _ => rfl⟩⟩
    · obtain ⟨g1, rfl, p0, p1, p2⟩ := H1.out _ _ _ hL
      obtain ⟨g2, rfl, q0, q1, q2⟩ := H2.out _ _ _ hL
      have hlt : pre.length < L.length := by rw [← hL]; simp
      clear hL
      generalize L.length = N at *
      go_wp2
      go_quiet (fail)
      go_wp2
      exact ⟨⟨pre ++ [x], rest, by simp, Lib.hid (by rw [List.append_assoc]; exact hA.out), _, rfl⟩, by simp [intOf]; omega⟩

set_option maxHeartbeats 4000000 in
theorem TRunes_few (s : ByteArray) (x : Int) (w : World) (hs : 300 < s.size) (hT : Lib.Utf8Tabs 0 1 w) :
    Calls Tryd.prog 3 #[.string s, .int .i64 x] w fun e w' => e = .returned (.bool true) ∧ Below w.heap.size w w' := by
  have HT := Lib.hid hT; clear hT
  go_enter Tryd.func3, Tryd.ntmps3
  go_wp2_with fail
  refine (few_no _ _ hs).mono ?_
  rintro e _ ⟨rfl, rfl⟩
  go_wp2_with fail
  refine (knows_any _ HT.out).mono ?_
  rintro e w1 ⟨rfl, b1⟩
  go_wp2
  go_ret
  exact ⟨rfl, b1⟩

set_option maxHeartbeats 4000000 in
theorem TRunes_else (s : ByteArray) (x : Int) (w : World) (hs : s.size ≤ 300) (hT : Lib.Utf8Tabs 0 1 w) :
    Calls Tryd.prog 3 #[.string s, .int .i64 x] w fun e w' => e = .returned (.bool true) ∧ Below w.heap.size w w' := by
  have HT := Lib.hid hT; clear hT
  have hN : (runesL s).length ≤ 300 := Nat.le_trans (runesL_length s _ _) hs
  go_enter Tryd.func3, Tryd.ntmps3
  go_wp2_with fail
  refine (few_yes _ _ hs).mono ?_
  rintro e _ ⟨rfl, rfl⟩
  go_wp2_with fail
  refine (Position_any s x _ hs).mono ?_
  rintro e w1 ⟨rfl, b1⟩
  obtain ⟨l1, c1, f1, hp⟩ : ∃ l1 c1 f1, posZ s x = (l1, c1, f1) := ⟨_, _, _, rfl⟩
  rw [hp]
  have hz1 := b1.size
  have B2 := b1.alloc hz1 (.cells #[.int .i64 l1, .int .i64 c1] 25)
  have y1 := World.alloc_heap_new w1 (.cells #[.int .i64 l1, .int .i64 c1] 25)
  go_wp2_with fail
  refine (rPosition_any s x _ hs).mono ?_
  rintro e w2 ⟨rfl, b2⟩
  rw [hp]
  have B3 := B2.trans (b2.mono B2.size)
  have hz3 := B3.size
  have B4 := B3.alloc hz3 (.cells #[.int .i64 l1, .int .i64 c1] 25)
  have hlt1 : w1.heap.size < w2.heap.size := by have := b2.size; simp at this; omega
  have y2 : (w2.alloc (.cells #[.int .i64 l1, .int .i64 c1] 25)).heap[w1.heap.size]? = some (.cells #[.int .i64 l1, .int .i64 c1] 25 (0, 0)) := by
    rw [Below.heap_alloc _ _ _ hlt1]
    exact (b2.block _ (by simp)).trans y1
  have y3 := World.alloc_heap_new w2 (.cells #[.int .i64 l1, .int .i64 c1] 25)
  clear hp b1 b2 y1
  go_wp2_with fail
  refine (Runes_any s _ hs).mono ?_
  rintro e w5 ⟨v, rfl, own5, b5⟩
  obtain ⟨a5, k5, rfl, V5⟩ := view_of_own own5
  have B5 := B4.trans (b5.mono B4.size)
  clear own5
  have V5 := Lib.hid V5
  go_wp2_with fail
  refine (rRunes_any s _ hs).mono ?_
  rintro e w6 ⟨v, rfl, own6, b6⟩
  obtain ⟨a6, k6, rfl, V6⟩ := view_of_own own6
  have B6 := B5.trans (b6.mono B5.size)
  clear own6
  have V6 := Lib.hid V6
  go_wp2_with fail
  refine (rSame_any (runesL s) a5 a6 k5 k6 _ hN (V5.out _ b6) (V6.out _ (Below.refl _ _))).mono ?_
  rintro e w7 ⟨rfl, b7⟩
  have B7 := B6.trans (b7.mono B6.size)
  have s5 := b5.size
  have s6 := b6.size
  simp at s5
  have z2 : w7.heap[w1.heap.size]? = some (.cells #[.int .i64 l1, .int .i64 c1] 25 (0, 0)) := (b7.block _ (by omega)).trans ((b6.block _ (by omega)).trans ((b5.block _ (by simp; omega)).trans y2))
  have z3 : w7.heap[w2.heap.size]? = some (.cells #[.int .i64 l1, .int .i64 c1] 25 (0, 0)) := (b7.block _ (by omega)).trans ((b6.block _ (by omega)).trans ((b5.block _ (by simp)).trans y3))
  have p0 : w7.cell? ⟨w1.heap.size, 0, none⟩ = some (.int .i64 l1) := by rw [Lib.cell_of_heap z2]; rfl
  have p1 : w7.cell? ⟨w1.heap.size, 1, none⟩ = some (.int .i64 c1) := by rw [Lib.cell_of_heap z2]; rfl
  have q0 : w7.cell? ⟨w2.heap.size, 0, none⟩ = some (.int .i64 l1) := by rw [Lib.cell_of_heap z3]; rfl
  have q1 : w7.cell? ⟨w2.heap.size, 1, none⟩ = some (.int .i64 c1) := by rw [Lib.cell_of_heap z3]; rfl
  clear V5 V6 b5 b6 b7 y2 y3 z2 z3 B2 B3 B4 B5 B6
  go_wp2_with fail
  refine (knows_any _ (Utf8Tabs_below HT.out B7)).mono ?_
  rintro e w8 ⟨rfl, b8⟩
  have B8 := B7.trans (b8.mono B7.size)
  go_wp2
  go_ret
  exact ⟨rfl, B8⟩

theorem TRunes_any (s : ByteArray) (x : Int) (w : World) (hT : Lib.Utf8Tabs 0 1 w) :
    Calls Tryd.prog 3 #[.string s, .int .i64 x] w fun e w' => e = .returned (.bool true) ∧ Below w.heap.size w w' := by
  by_cases hs : s.size ≤ 300
  · exact TRunes_else s x w hs hT
  · exact TRunes_few s x w (by omega) hT
end Go.Proofs.YtfanaocengmpjaaDoor
