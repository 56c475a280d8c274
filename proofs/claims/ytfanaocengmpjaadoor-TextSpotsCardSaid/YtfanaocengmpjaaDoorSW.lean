/- The statement TextSpots' body: every text and every two offsets. -/
import Derived.Test.YtfanaocengmpjaaDoorSM
import Derived.Test.YtfanaocengmpjaaDoorK
namespace Go.Proofs.YtfanaocengmpjaaDoor
open Go.RowKit

theorem own_view {w0 : World} {b : Nat} {v : Value} {L : List (Nat × Nat × Nat)} (h : w0.ownsRow b 36 3 v L.length (runeCells L)) :
    ∃ ao cap, v = .slice ao L.length cap ∧ ∀ pre x rest, pre ++ x :: rest = L → ∃ g, ao = some ⟨g, 0, none⟩ ∧ g < w0.heap.size ∧ ∀ wr : World, wr.heap[g]? = w0.heap[g]? →
      wr.cell? ⟨g, pre.length * 3 + 1, none⟩ = some (.int .i64 x.2.1) ∧ wr.cell? ⟨g, pre.length * 3 + 2, none⟩ = some (.int .i64 x.2.2) := by
  obtain ⟨h1, ⟨rfl, h2⟩ | ⟨g, cap, cur, rfl, h3, h4, h5, h6, h7, h8⟩⟩ := h
  · refine ⟨none, 0, by rw [h2], fun pre x rest e => ?_⟩
    have hh := congrArg List.length e
    simp at hh; omega
  · refine ⟨_, cap, rfl, fun pre x rest e => ⟨g, rfl, (Array.getElem?_eq_some_iff.1 h4).1, fun wr hk => ?_⟩⟩
    have hc := runeCells_at pre rest x
    have hlen := congrArg List.length e
    simp only [List.length_append, List.length_cons] at hlen
    rw [e, ← h8, List.getElem?_take, List.getElem?_take, List.getElem?_take, if_pos (by omega), if_pos (by omega), if_pos (by omega)] at hc
    obtain ⟨_, c1, c2⟩ := hc
    rw [Array.getElem?_toList] at c1 c2
    exact ⟨by rw [Lib.cell_of_heap (hk.trans h4)]; exact c1, by rw [Lib.cell_of_heap (hk.trans h4)]; exact c2⟩

theorem runes_length (s : ByteArray) : ∀ f pos, (runesFrom s f pos).length ≤ f
  | 0, _ => Nat.le_refl _
  | f + 1, pos => by
    rw [runesFrom]
    split
    · have := runes_length s f (pos + (Utf8.decode s pos).2)
      simp; omega
    · simp

theorem posZ_true {s : ByteArray} {k : Int} {l c : Nat} (h : posZ s k = (l, c, true)) : posL k (bounds s) = some (l, c) := by
  unfold posZ at h
  split at h
  · rename_i p hp
    rw [hp]
    simp only [Prod.mk.injEq] at h
    rw [← h.1, ← h.2.1]
  · simp at h

set_option maxHeartbeats 4000000 in
theorem Spots_few (s : ByteArray) (x c : Int) (w : World) (hs : 300 < s.size) (hT : Lib.Utf8Tabs 0 1 w) :
    Calls Tryd.prog 5 #[.string s, .int .i64 x, .int .i64 c] w fun e w' => e = .returned (.bool true) ∧ Below w.heap.size w w' := by
  have HT := Lib.hid hT; clear hT
  go_enter Tryd.func5, Tryd.ntmps5
  go_wp2_with fail
  refine (few_no _ _ hs).mono ?_
  rintro e _ ⟨rfl, rfl⟩
  go_wp2_with fail
  refine (knows_any _ HT.out).mono ?_
  rintro e w1 ⟨rfl, b1⟩
  go_wp2
  go_ret
  exact ⟨rfl, b1⟩

set_option maxHeartbeats 8000000 in
set_option maxRecDepth 100000 in
theorem Spots_else (s : ByteArray) (x c : Int) (w : World) (hs : s.size ≤ 300) (hT : Lib.Utf8Tabs 0 1 w) :
    Calls Tryd.prog 5 #[.string s, .int .i64 x, .int .i64 c] w fun e w' => e = .returned (.bool true) ∧ Below w.heap.size w w' := by
  have HT := Lib.hid hT; clear hT
  go_enter Tryd.func5, Tryd.ntmps5
  go_wp2_with fail
  refine (few_yes _ _ hs).mono ?_
  rintro e _ ⟨rfl, rfl⟩
  go_wp2_with fail
  refine (Runes_any _ _ hs).mono ?_
  rintro e w0 ⟨v, rfl, hown, b0⟩
  obtain ⟨ao, cap, rfl, hcells⟩ := own_view hown
  clear hown
  have hz0 := b0.size
  have HC := Lib.hid hcells; clear hcells
  go_wp2_with fail
  go_loopw [8, 9] (fun a i wr => ∃ (pre : List (Nat × Nat × Nat)) (f pos : Nat), i = .int .i64 pre.length ∧ a = .int .i64 pos ∧ Hid (pre ++ runesFrom s f pos = runesL s) ∧ pos ≤ s.size ∧ s.size ≤ pos + f ∧ pre.length ≤ pos ∧ Below w0.heap.size w0 wr) (fun a _ _ => s.size - (intOf a).toNat)
  case atStart => exact ⟨[], s.size, 0, rfl, rfl, rfl, by omega, by omega, by simp, Below.refl _ _⟩
  case round =>
    obtain ⟨pre, f, pos, rfl, rfl, hA, hp, hf, hl, hb⟩ := hrel
    rcases runes_rest hp hf with ⟨he, hr⟩ | ⟨g, rfl, hps, hr⟩
    · have hL := hA.out
      rw [hr, List.append_nil] at hL
      subst hL
      have hB := b0.trans (hb.mono hz0)
      subst he
      clear hA hr HC
      go_wp2_with fail
      refine (Position_any s x _ hs).mono ?_
      rintro e w1 ⟨rfl, b1⟩
      have B1 := hB.trans (b1.mono hB.size)
      have hz1 := B1.size
      obtain ⟨l1, c1, f1, hp1⟩ : ∃ l1 c1 f1, posZ s x = (l1, c1, f1) := ⟨_, _, _, rfl⟩
      rw [hp1]
      have B2 := B1.alloc hz1 (.cells #[.int .i64 l1, .int .i64 c1] 25)
      have y1 := World.alloc_heap_new w1 (.cells #[.int .i64 l1, .int .i64 c1] 25)
      go_wp2_with fail
      refine (Position_any s c _ hs).mono ?_
      rintro e w2 ⟨rfl, b2⟩
      obtain ⟨l2, c2, f2, hp2⟩ : ∃ l2 c2 f2, posZ s c = (l2, c2, f2) := ⟨_, _, _, rfl⟩
      rw [hp2]
      have B3 := B2.trans (b2.mono B2.size)
      have hz3 := B3.size
      have B4 := B3.alloc hz3 (.cells #[.int .i64 l2, .int .i64 c2] 25)
      have hlt1 : w1.heap.size < w2.heap.size := by have := b2.size; simp at this; omega
      have y2 : (w2.alloc (.cells #[.int .i64 l2, .int .i64 c2] 25)).heap[w1.heap.size]? = some (.cells #[.int .i64 l1, .int .i64 c1] 25 (0, 0)) := by
        rw [Below.heap_alloc _ _ _ hlt1]
        exact (b2.block _ (by simp)).trans y1
      have y3 := World.alloc_heap_new w2 (.cells #[.int .i64 l2, .int .i64 c2] 25)
      have z0 : (w2.alloc (.cells #[.int .i64 l2, .int .i64 c2] 25)).cell? ⟨w1.heap.size, 0, none⟩ = some (.int .i64 l1) := by rw [Lib.cell_of_heap y2]; rfl
      have z1 : (w2.alloc (.cells #[.int .i64 l2, .int .i64 c2] 25)).cell? ⟨w1.heap.size, 1, none⟩ = some (.int .i64 c1) := by rw [Lib.cell_of_heap y2]; rfl
      have z2 : (w2.alloc (.cells #[.int .i64 l2, .int .i64 c2] 25)).cell? ⟨w2.heap.size, 0, none⟩ = some (.int .i64 l2) := by rw [Lib.cell_of_heap y3]; rfl
      have z3 : (w2.alloc (.cells #[.int .i64 l2, .int .i64 c2] 25)).cell? ⟨w2.heap.size, 1, none⟩ = some (.int .i64 c2) := by rw [Lib.cell_of_heap y3]; rfl
      clear y1 y2 y3 b1 b2 hb b0 hB
      cases f1 with
      | false =>
        clear z0 z1 z2 z3 hp1 hp2
        go_wp2_with fail
        refine (knows_any _ (Utf8Tabs_below HT.out B4)).mono ?_
        rintro e w3 ⟨rfl, b3⟩
        have B5 := B4.trans (b3.mono B4.size)
        go_wp2
        go_ret
        exact ⟨rfl, B5⟩
      | true =>
      cases f2 with
      | false =>
        clear z0 z1 z2 z3 hp1 hp2
        go_wp2_with fail
        refine (knows_any _ (Utf8Tabs_below HT.out B4)).mono ?_
        rintro e w3 ⟨rfl, b3⟩
        have B5 := B4.trans (b3.mono B4.size)
        go_wp2
        go_ret
        exact ⟨rfl, B5⟩
      | true =>
        have hor := pos_order s x c _ _ (posZ_true hp1) (posZ_true hp2)
        dsimp only at hor
        clear hp1 hp2
        rcases hor with ⟨h1, h2⟩ | ⟨h1, h2 | ⟨h2, h3⟩⟩ | ⟨h1, h2 | ⟨h2, h3⟩⟩
        · obtain ⟨rfl, rfl⟩ := Prod.mk.inj h2
          subst h1
          go_wp2_with fail
          refine (knows_any _ (Utf8Tabs_below HT.out B4)).mono ?_
          rintro e w3 ⟨rfl, b3⟩
          have B5 := B4.trans (b3.mono B4.size)
          go_wp2
          go_ret
          exact ⟨rfl, B5⟩
        · have d1 : decide (x < c) = true := decide_eq_true h1
          have d2 : decide (l1 < l2) = true := decide_eq_true (by omega)
          clear h1 h2
          go_wp2_with fail
          refine (knows_any _ (Utf8Tabs_below HT.out B4)).mono ?_
          rintro e w3 ⟨rfl, b3⟩
          have B5 := B4.trans (b3.mono B4.size)
          go_wp2
          go_ret
          exact ⟨rfl, B5⟩
        · subst h2
          have d1 : decide (x < c) = true := decide_eq_true h1
          have d4 : decide (c1 < c2) = true := decide_eq_true (by omega)
          clear h1 h3
          go_wp2_with fail
          refine (knows_any _ (Utf8Tabs_below HT.out B4)).mono ?_
          rintro e w3 ⟨rfl, b3⟩
          have B5 := B4.trans (b3.mono B4.size)
          go_wp2
          go_ret
          exact ⟨rfl, B5⟩
        · have d1 : decide (x < c) = false := decide_eq_false (by omega)
          have d2 : decide (l1 < l2) = false := decide_eq_false (by omega)
          have d3 : ¬ l1 = l2 := by omega
          clear h1 h2
          go_wp2_with fail
          refine (knows_any _ (Utf8Tabs_below HT.out B4)).mono ?_
          rintro e w3 ⟨rfl, b3⟩
          have B5 := B4.trans (b3.mono B4.size)
          go_wp2
          go_ret
          exact ⟨rfl, B5⟩
        · subst h2
          have d1 : decide (x < c) = false := decide_eq_false (by omega)
          have d4 : decide (c1 < c2) = false := decide_eq_false (by omega)
          clear h1 h3
          go_wp2_with fail
          refine (knows_any _ (Utf8Tabs_below HT.out B4)).mono ?_
          rintro e w3 ⟨rfl, b3⟩
          have B5 := B4.trans (b3.mono B4.size)
          go_wp2
          go_ret
          exact ⟨rfl, B5⟩
    · obtain ⟨d1, d2, d3⟩ := decode_facts s pos hps
      have hL := hA.out
      rw [hr] at hL
      obtain ⟨blk, rfl, hblk, hcl⟩ := HC.out _ _ _ hL
      have hlt : pre.length < (runesL s).length := by rw [← hL]; simp
      obtain ⟨ln, cl, hpos, hplc⟩ := rune_found s _ (by rw [← hL]; simp : ((Utf8.decode s pos).1, pos, (Utf8.decode s pos).2) ∈ runesL s)
      have HL := Lib.hid hL; clear hL hr hA
      have hc1 := (hcl wr (hb.block _ hblk)).1
      have hl2 : (runesL s).length ≤ 300 := Nat.le_trans (runes_length s _ _) hs
      generalize hn : (runesL s).length = N at *
      clear hn
      go_wp2_with fail
      refine (Position_any s pos _ hs).mono ?_
      rintro e w1 ⟨rfl, b1⟩
      rw [hpos]
      have B1 := hb.trans (b1.mono hb.size)
      have hz1 := B1.size
      have B2 := B1.alloc hz1 (.cells #[.int .i64 ln, .int .i64 cl] 25)
      have x1 := World.alloc_heap_new w1 (.cells #[.int .i64 ln, .int .i64 cl] 25)
      have c0 : (w1.alloc (.cells #[.int .i64 ln, .int .i64 cl] 25)).cell? ⟨w1.heap.size, 0, none⟩ = some (.int .i64 ln) := by rw [Lib.cell_of_heap x1]; rfl
      have c1 : (w1.alloc (.cells #[.int .i64 ln, .int .i64 cl] 25)).cell? ⟨w1.heap.size, 1, none⟩ = some (.int .i64 cl) := by rw [Lib.cell_of_heap x1]; rfl
      clear x1
      go_wp2_with fail
      refine (Place_any s ln cl _ hs).mono ?_
      rintro e w2 ⟨rfl, b2⟩
      rw [hplc]
      have B3 := B2.trans (b2.mono B2.size)
      obtain ⟨hc1', hc2'⟩ := hcl w2 (B3.block _ hblk)
      clear c0 c1 hpos hplc hc1
      generalize (Utf8.decode s pos).2 = n at *
      go_wp2
      exact ⟨⟨pre ++ [((Utf8.decode s pos).1, pos, n)], g, pos + n, by simp, by simp, Lib.hid (by rw [List.append_assoc]; exact HL.out), d2, by omega, by simp; omega, B3⟩, by simp [intOf]; omega⟩

theorem Spots_any (s : ByteArray) (x c : Int) (w : World) (hT : Lib.Utf8Tabs 0 1 w) :
    Calls Tryd.prog 5 #[.string s, .int .i64 x, .int .i64 c] w fun e w' => e = .returned (.bool true) ∧ Below w.heap.size w w' := by
  by_cases hs : s.size ≤ 300
  · exact Spots_else s x c w hs hT
  · exact Spots_few s x c w (by omega) hT
end Go.Proofs.YtfanaocengmpjaaDoor
