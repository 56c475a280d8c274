/- charset.Inter's callback: a slice is cut, ranges are found. -/
import Derived.Test.YtpmcnmlpkpoopaaIM
namespace Go.Proofs.Ytpmcnmlpkpoopaa
open Go.RowKit Go.Shelf

/-- The slice at ao holds the ranges L, in a block from b1 on, below b2. -/
def Rg2 (W : World) (b1 b2 : Nat) (ao : Option Addr) (L : List Rg) : Prop := ∀ pre x rest, pre ++ x :: rest = L → ∃ g o, ao = some ⟨g, o, none⟩ ∧ b1 ≤ g ∧ g < b2 ∧
  W.cell? ⟨g, o + pre.length * 2, none⟩ = some (.int .i32 x.1) ∧ W.cell? ⟨g, o + pre.length * 2 + 1, none⟩ = some (.int .i32 x.2)
theorem Rg2.same {W W' : World} {b1 b2 : Nat} {ao : Option Addr} {L : List Rg} (h : Rg2 W b1 b2 ao L) (hb : ∀ k, b1 ≤ k → k < b2 → W'.heap[k]? = W.heap[k]?) : Rg2 W' b1 b2 ao L := fun pre x rest e => by
  obtain ⟨g, o, h1, h2, h3, h4, h5⟩ := h pre x rest e
  exact ⟨g, o, h1, h2, h3, (World.cell?_of_block (w := W) (a := ⟨g, o + pre.length * 2, none⟩) (hb g h2 h3)).trans h4, (World.cell?_of_block (w := W) (a := ⟨g, o + pre.length * 2 + 1, none⟩) (hb g h2 h3)).trans h5⟩
theorem Rg2.tail {W : World} {b1 b2 cap : Nat} {g o : Nat} {q : Rg} {R : List Rg} (h : Rg2 W b1 b2 (some ⟨g, o, none⟩) (q :: R)) (hc : R.length + 1 ≤ cap) :
    ∃ a', (∀ w : World, (Instr.slice 24 (.slice (some ⟨g, o, none⟩) (R.length + 1) cap) (some (.int .i64 1)) none none).run Try.prog w = .ok (.slice a' R.length (cap - 1)) w) ∧ Rg2 W b1 b2 a' R := by
  have hrun : ∀ w : World, (Instr.slice 24 (.slice (some ⟨g, o, none⟩) (R.length + 1) cap) (some (.int .i64 1)) none none).run Try.prog w = .ok (.slice (if cap = 1 then some ⟨g, o, none⟩ else some ⟨g, o + 2, none⟩) R.length (cap - 1)) w := fun w => by
    have hu : Try.prog.underlying 24 = some (.slice (Try.prog.elem 24)) := by kernel_rfl
    have hs : (sizeOf (Try.prog.elem 24)).run Try.prog w = .ok 2 w := Try.sizeOf41 w
    rw [run_slice_l w 24 (some ⟨g, o, none⟩) (R.length + 1) cap hu .i64 1 (by omega) (by omega), hs]
    simp [sliced, Result.andThen, Addr.add]
  refine ⟨_, hrun, fun pre x rest e => ?_⟩
  have hl : 1 ≤ R.length := by rw [← e]; simp; omega
  obtain ⟨g', o', h1, h2, h3, h4, h5⟩ := h (q :: pre) x rest (by rw [List.cons_append, e])
  obtain ⟨rfl, rfl⟩ : g = g' ∧ o = o' := by simpa using h1
  rw [List.length_cons] at h4 h5
  refine ⟨g, o + 2, by rw [if_neg (by omega)], h2, h3, ?_, ?_⟩
  · rw [show o + 2 + pre.length * 2 = o + (pre.length + 1) * 2 by omega]; exact h4
  · rw [show o + 2 + pre.length * 2 + 1 = o + (pre.length + 1) * 2 + 1 by omega]; exact h5
theorem rg2_of_own {w : World} {base : Nat} {v : Value} {L : List Rg} (h : w.ownsRow base 41 2 v L.length (rgCells L)) :
    ∃ ao cap, v = .slice ao L.length cap ∧ L.length ≤ cap ∧ Rg2 w base w.heap.size ao L := by
  have hv := own_view h
  obtain ⟨h1, ⟨rfl, h2⟩ | ⟨g, cap, cur, rfl, h3, h4, h5, h6, h7, h8⟩⟩ := h
  · refine ⟨none, 0, by rw [h2], by omega, fun pre x rest e => ?_⟩
    rw [← e] at h2
    simp at h2
  · refine ⟨_, cap, rfl, h5, fun pre x rest e => ?_⟩
    obtain ⟨ao, cap', e1, hc⟩ := hv
    obtain ⟨g', e2, e3, e4, e5⟩ := hc pre x rest e
    obtain ⟨e6, e7⟩ : some (⟨g, 0, none⟩ : Addr) = ao ∧ cap = cap' := by simpa using e1
    rw [← e6] at e2
    obtain rfl : g = g' := by simpa using e2
    refine ⟨g, 0, rfl, h3, e4, ?_⟩
    rw [Nat.zero_add]
    exact e5 w rfl

/-- How long the slice in a cell is. -/
def lenAt (W : World) (c : Nat) : Nat := match W.cell? ⟨c, 0, none⟩ with
  | some (.slice _ n _) => n
  | _ => 0

theorem lenAt_of {W : World} {c n cap : Nat} {a : Option Addr} {t : TypeId} (h : W.heap[c]? = some (.cells #[.slice a n cap] t (0, 0))) : lenAt W c = n := by
  unfold lenAt
  rw [Lib.cell_of_heap h]
  rfl
set_option maxHeartbeats 4000000 in
set_option maxRecDepth 100000 in
theorem InterFn_gap (x : Rg) (c0 c1 : Nat) (v : Value) (F R : List Rg) (ao : Option Addr) (cap : Nat) (W : World) (h : Held c0 (c1 + 3) v F W) (hc1 : W.heap[c1]? = some (.cells #[.slice ao R.length cap] 24 (0, 0))) (hcap : R.length ≤ cap)
    (hR : Rg2 W (c0 + 1) c1 ao R) (h01 : c0 < c1) (hb : c1 + 3 ≤ W.heap.size) :
    Calls Try.prog 44 #[rgV x, .bool false, .pointer (some ⟨c1, 0, none⟩), .pointer (some ⟨c0, 0, none⟩)] W fun e W' => e = .returned (.tuple #[]) ∧ ∃ v' ao' cap', Held c0 (c1 + 3) v' (F) W' ∧
      W'.heap[c1]? = some (.cells #[.slice ao' (dropR x.1 R).length cap'] 24 (0, 0)) ∧ (dropR x.1 R).length ≤ cap' ∧ Rg2 W' (c0 + 1) c1 ao' (dropR x.1 R) ∧ W.heap.size ≤ W'.heap.size ∧
      (∀ k, k < W.heap.size → k ≠ c0 → k ≠ c1 → v.ownBlock ≠ some k → W'.heap[k]? = W.heap[k]?) ∧ (W'.os = W.os ∧ W'.tape = W.tape ∧ W'.output = W.output) ∧ ∀ k, v'.ownBlock = some k → v.ownBlock = some k ∨ W.heap.size ≤ k := by
  obtain ⟨lo, hi⟩ := x
  have y0 := RgAt.new W (lo, hi)
  have g0 : W.grownBy (W.alloc (.cells #[.int .i32 lo, .int .i32 hi] 41)) (some c1) := grown_alloc _ _ _
  have hz1 : (W.alloc (.cells #[.int .i32 lo, .int .i32 hi] 41)).heap.size = W.heap.size + 1 := by simp
  have q1 := (Below.heap_alloc W (.cells #[.int .i32 lo, .int .i32 hi] 41) c1 (by omega)).trans hc1
  have HR := Lib.hid hR; have HH := Lib.hid h
  clear hR h
  go_enter Try.func44, Try.ntmps44
  go_wp2_with fail
  go_loopw [19] (fun _ wr => ∃ (R1 : List Rg) (a1 : Option Addr) (cap1 : Nat), Hid (dropR lo R1 = dropR lo R) ∧ Hid (wr.heap[c1]? = some (.cells #[.slice a1 R1.length cap1] 24 (0, 0))) ∧ R1.length ≤ cap1 ∧ Hid (Rg2 W (c0 + 1) c1 a1 R1) ∧
    Hid (W.grownBy wr (some c1)) ∧ Hid (RgAt wr W.heap.size (lo, hi))) (fun _ wr => lenAt wr c1)
  case atStart => exact ⟨R, ao, cap, rfl, q1, hcap, HR, g0, y0⟩
  case round =>
    obtain ⟨R1, a1, cap1, hD, hC, hcp, hR1, hG, hY⟩ := hrel
    have b0 : wr.cell? ⟨W.heap.size, 0, none⟩ = some (.int .i32 lo) := hY.out.c0
    have b1 : wr.cell? ⟨W.heap.size, 1, none⟩ = some (.int .i32 hi) := hY.out.c1
    have d0 : wr.cell? ⟨c1, 0, none⟩ = some (.slice a1 R1.length cap1) := by rw [Lib.cell_of_heap hC.out]; rfl
    have d1 : wr.frozen? ⟨c1, 0, none⟩ = false := Lib.frozen_of_heap hC.out 0
    have hl1 := lenAt_of hC.out
    rcases R1 with _ | ⟨⟨p1, p2⟩, R1⟩
    · have hDD : Hid (dropR lo R = []) := hD.out.symm
      clear hl1
      go_wp2
      go_quiet (fail)
      go_wp2
      refine wp_loop_rounds 1 ?_
      rw [rounds_succ]
      go_wp2
      go_quiet (fail)
      go_wp2
      go_end0
      refine ⟨rfl, v, _, cap1, ?_, by rw [hDD.out]; exact hC.out, by rw [hDD.out]; exact hcp, by rw [hDD.out]; exact hR1.out.same (fun k h1 h2 => hG.out.block k (by omega) (by simp; omega)), hG.out.size, fun k h1 h2 h3 h4 => hG.out.block k h1 (by simpa using h3), ⟨hG.out.os, hG.out.tape, hG.out.output⟩, fun k e => .inl e⟩
      exact HH.out.keep (row := c1) (grown_drewN (grown_drewN hG.out _) _) (by omega) (fun e => by have := (HH.out.own.lt _ e).1; omega)

    · obtain ⟨g, o, rfl, hg1, hg2, p0, p1'⟩ := hR1.out [] (p1, p2) R1 rfl
      have e0 : wr.cell? ⟨g, o, none⟩ = some (.int .i32 p1) := (World.cell?_of_block (a := ⟨g, o, none⟩) (hG.out.block g (by omega) (by simp; omega))).trans p0
      have e1 : wr.cell? ⟨g, o + 1, none⟩ = some (.int .i32 p2) := (World.cell?_of_block (a := ⟨g, o + 1, none⟩) (hG.out.block g (by omega) (by simp; omega))).trans p1'
      obtain ⟨a2, hs2, hR2⟩ := hR1.out.tail (cap := cap1) (by simpa using hcp)
      have hlt : (0 : Int) < (R1.length : Int) + 1 := by omega
      have hdp : decide ((0 : Int) < (R1.length : Int) + 1) = true := decide_eq_true hlt
      by_cases hp : p2 < lo
      · have hD2 : Hid (dropR lo R1 = dropR lo R) := Lib.hid (by rw [← hD.out, dropR, if_pos hp])
        have hdl : decide (p2 < lo) = true := decide_eq_true hp
        have HR2 := Lib.hid hR2
        have hC2 : Hid ((wr.setCell ⟨c1, 0, none⟩ (.slice a2 R1.length (cap1 - 1))).heap[c1]? = some (.cells #[.slice a2 R1.length (cap1 - 1)] 24 (0, 0))) := Lib.hid (by simp [World.setCell, Array.getElem?_modify, hC.out])
        have hY2 : Hid (RgAt (wr.setCell ⟨c1, 0, none⟩ (.slice a2 R1.length (cap1 - 1))) W.heap.size (lo, hi)) := Lib.hid ((Below.heap_setCell _ _ _ _ (by show W.heap.size ≠ c1; omega)).trans hY.out)
        have hl2 := lenAt_of hC2.out
        have HL1 := Lib.hid hl1; have HL2 := Lib.hid hl2
        clear hR2 p0 p1' hp hl1 hl2
        go_wp2
        go_quiet (fail)
        rename_i nq
        go_wp2
        go_roundw
        case rel => exact ⟨R1, a2, cap1 - 1, hD2, hC2, by simp at hcp; omega, HR2, Lib.hid (grown_trans (grown_drewN hG.out nq) grown_set), hY2⟩
        case measure =>
          have h1 := HL1.out
          have h2 := HL2.out
          have h3 : lenAt ((wr.drewN nq).setCell ⟨c1, 0, none⟩ (.slice a2 R1.length (cap1 - 1))) c1 = R1.length := h2
          rw [h3, h1, List.length_cons]
          omega
      · have hDD : Hid (dropR lo R = (p1, p2) :: R1) := Lib.hid (by rw [← hD.out, dropR, if_neg hp])
        have hdl : decide (p2 < lo) = false := decide_eq_false hp
        clear hp hs2 hR2 hl1 p0 p1'
        go_wp2
        go_quiet (fail)
        go_wp2
        refine wp_loop_rounds 1 ?_
        rw [rounds_succ]
        go_wp2
        go_quiet (fail)
        go_wp2
        go_end0
        refine ⟨rfl, v, _, cap1, ?_, by rw [hDD.out]; exact hC.out, by rw [hDD.out]; exact hcp, by rw [hDD.out]; exact hR1.out.same (fun k h1 h2 => hG.out.block k (by omega) (by simp; omega)), hG.out.size, fun k h1 h2 h3 h4 => hG.out.block k h1 (by simpa using h3), ⟨hG.out.os, hG.out.tape, hG.out.output⟩, fun k e => .inl e⟩
        exact HH.out.keep (row := c1) (grown_drewN (grown_drewN hG.out _) _) (by omega) (fun e => by have := (HH.out.own.lt _ e).1; omega)
end Go.Proofs.Ytpmcnmlpkpoopaa
