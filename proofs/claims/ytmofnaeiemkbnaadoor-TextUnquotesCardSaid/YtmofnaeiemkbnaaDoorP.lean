/- The iterator of package text's boundaries: it yields the rune boundaries of a text of at most 300 bytes with their positions, for a loop body that keeps the iterator's own blocks. -/
import Derived.Test.YtmofnaeiemkbnaaDoorL
import Derived.Test.YtmofnaeiemkbnaaDoorU
namespace Go.Proofs.YtmofnaeiemkbnaaDoor
open Go.RowKit Go.Shelf
attribute [local go_sem] Oper.semAt_some

/-- The line and the column behind the rune r. -/
def nextL (r line : Nat) : Nat := if r = 10 then line + 1 else line
def nextC (r col : Nat) : Nat := if r = 10 then 1 else col + 1
theorem nextL_le (r line : Nat) : nextL r line ≤ line + 1 := by unfold nextL; split <;> omega
theorem nextC_le (r col : Nat) : nextC r col ≤ col + 1 := by unfold nextC; split <;> omega

/-- The rune boundaries from place pos on: offset, line, column. -/
def boundsFrom (s : ByteArray) : Nat → Nat → Nat → Nat → List (Nat × Nat × Nat)
  | 0, _, _, _ => []
  | f + 1, pos, line, col => (pos, line, col) ::
      if pos < s.size then boundsFrom s f (pos + (Utf8.decode s pos).2) (nextL (Utf8.decode s pos).1 line) (nextC (Utf8.decode s pos).1 col) else []
def bounds (s : ByteArray) : List (Nat × Nat × Nat) := boundsFrom s (s.size + 1) 0 1 1

abbrev posV (line col : Nat) : Value := .agg #[.int .i64 line, .int .i64 col]

theorem behind_any (line col : Nat) (r : Nat) (w : World) (hl : line ≤ 1000) (hc : col ≤ 1000) :
    Calls Tryd.prog 47 #[posV line col, .int .i32 r] w fun e w' => e = .returned (posV (nextL r line) (nextC r col)) ∧ w.grownBy w' none := by
  have hg : ∀ (a b : Obj), w.grownBy ((w.alloc a).alloc b) none := fun a b => ⟨rfl, rfl, rfl, by simp; omega, fun k hk _ => by rw [Below.heap_alloc _ _ _ (by simp; omega), Below.heap_alloc _ _ _ hk]⟩
  by_cases h : r = 10
  · have e1 : ((r : Int) == 10) = true := by rw [beq_iff_eq]; omega
    have ep : posV (line + 1) 1 = .agg #[.int .i64 ((line : Int) + 1), .int .i64 1] := rfl
    rw [nextL, nextC, if_pos h, if_pos h, ep]
    clear h ep
    go_enter Tryd.func47, Tryd.ntmps47
    go_wp2
    exact bodyPost_ret (v := .agg #[.int .i64 ((line : Int) + 1), .int .i64 1]) (by simp [results, Tryd.results47, go_sem]) rfl ⟨rfl, hg _ _⟩
  · have e1 : ((r : Int) == 10) = false := by rw [beq_eq_false_iff_ne]; omega
    have ep : posV line (col + 1) = .agg #[.int .i64 (line : Int), .int .i64 ((col : Int) + 1)] := rfl
    rw [nextL, nextC, if_neg h, if_neg h, ep]
    clear h ep
    go_enter Tryd.func47, Tryd.ntmps47
    go_wp2
    exact bodyPost_ret (v := .agg #[.int .i64 (line : Int), .int .i64 ((col : Int) + 1)]) (by simp [results, Tryd.results47, go_sem]) rfl ⟨rfl, hg _ _⟩

theorem boundaries_any (s : ByteArray) (w : World) : Calls Tryd.prog 28 #[.string s] w fun e w' =>
    e = .returned (.func (.func 46) #[] #[.pointer (some ⟨w.heap.size, 0, none⟩)]) ∧ w' = w.alloc (.cells #[.string s] 9) := by
  go_enter Tryd.func28, Tryd.ntmps28
  go_wp2
  go_ret
  exact ⟨rfl, rfl⟩

/-- Where the iterator stands. -/
structure AtBound (s : ByteArray) (pre : List (Nat × Nat × Nat)) (f pos line col : Nat) : Prop where
  all : pre ++ boundsFrom s f pos line col = bounds s
  fuel : s.size + 1 ≤ pos + f
  le : pos ≤ s.size
  l1 : line ≤ pos + 1
  c1 : col ≤ pos + 1
theorem AtBound.cons {s : ByteArray} {pre : List (Nat × Nat × Nat)} {f pos line col : Nat} (h : AtBound s pre f pos line col) : ∃ f', f = f' + 1 ∧ pre ++ ((pos, line, col) ::
      if pos < s.size then boundsFrom s f' (pos + (Utf8.decode s pos).2) (nextL (Utf8.decode s pos).1 line) (nextC (Utf8.decode s pos).1 col) else []) = bounds s := by
  have h1 := h.all
  have h2 := h.fuel
  have h3 := h.le
  obtain ⟨f', rfl⟩ : ∃ f', f = f' + 1 := ⟨f - 1, by omega⟩
  exact ⟨f', rfl, h1⟩
theorem AtBound.lt {s : ByteArray} {pre : List (Nat × Nat × Nat)} {f pos line col : Nat} (h : AtBound s pre f pos line col) : pre.length < (bounds s).length := by
  obtain ⟨f', _, h2⟩ := h.cons
  rw [← h2, List.length_append, List.length_cons]; omega
theorem AtBound.next {s : ByteArray} {pre : List (Nat × Nat × Nat)} {f pos line col : Nat} (h : AtBound s pre f pos line col) (hp : pos < s.size) :
    ∃ f', AtBound s (pre ++ [(pos, line, col)]) f' (pos + (Utf8.decode s pos).2) (nextL (Utf8.decode s pos).1 line) (nextC (Utf8.decode s pos).1 col) := by
  obtain ⟨f', hf, h2⟩ := h.cons
  obtain ⟨d1, d2, _⟩ := decode_facts s pos hp
  have := h.fuel; have := h.l1; have := h.c1
  rw [if_pos hp] at h2
  refine ⟨f', by rw [List.append_assoc]; exact h2, by omega, by omega, ?_, ?_⟩
  · have := nextL_le (Utf8.decode s pos).1 line; omega
  · have := nextC_le (Utf8.decode s pos).1 col; omega
theorem AtBound.last {s : ByteArray} {pre : List (Nat × Nat × Nat)} {f pos line col : Nat} (h : AtBound s pre f pos line col) (hp : ¬ pos < s.size) : pre ++ [(s.size, line, col)] = bounds s := by
  obtain ⟨f', _, h2⟩ := h.cons
  have := h.le
  obtain rfl : pos = s.size := by omega
  rwa [if_neg hp] at h2
theorem AtBound.prefix {s : ByteArray} {pre : List (Nat × Nat × Nat)} {f pos line col : Nat} (h : AtBound s pre f pos line col) : pre ++ [(pos, line, col)] <+: bounds s := by
  obtain ⟨f', _, h2⟩ := h.cons
  exact ⟨_, by rw [List.append_assoc]; exact h2⟩

set_option maxRecDepth 100000 in
set_option maxHeartbeats 2000000 in
theorem boundariesFn_in (n : Nat) (hn : 2 ≤ n) (l Bs n₁ : Nat) (s : ByteArray) (hs : s.size ≤ 300) (h1 : n₁ ≤ Bs) (J Jx : List (Nat × Nat × Nat) → World → Prop)
    (W : World) (hW : n₁ ≤ W.heap.size) (hJ : Stays W.heap.size J)
    (hY : ∀ pre (x : Nat × Nat × Nat) W1, J pre W1 → pre.length < (bounds s).length → YieldAt Fence.wide (n - 1) Tryd.prog l #[.int .i64 x.1, posV x.2.1 x.2.2] W1 fun e W' =>
      (e = .returned (.bool true) ∧ J (pre ++ [x]) W' ∧ KpA n₁ W1 W') ∨ (e = .returned (.bool false) ∧ Jx (pre ++ [x]) W'))
    (hcs : Boxed W Bs 9 (.string s)) (h0 : J [] W) :
    CallsIn Fence.wide n Tryd.prog 46 #[.func (.yield l) #[] #[], .pointer (some ⟨Bs, 0, none⟩)] W fun e W' => (∃ v, e = .returned v) ∧
      ((∃ ys, ys = bounds s ∧ J ys W') ∨ (∃ pre, pre <+: bounds s ∧ Jx pre W')) := by
  have hn1 : 1 ≤ n := by omega
  have hlt := hcs.lt
  have cs := (hcs.alloc (.cells #[.int .i64 1, .int .i64 1] 25)).cell
  refine callsIn_of_wp Tryd.func46 rfl trivial ?_ rfl
  simp only [Tryd.ntmps46, List.size_toArray, List.length_cons, List.length_nil, Nat.reduceAdd, Nat.reduceSub, Array.replicate_succ, Array.replicate_zero, List.push_toArray, List.append_toArray, List.nil_append, List.cons_append]
  gi_wp2
  gi_loopw [] (fun wr => ∃ (pre : List (Nat × Nat × Nat)) (f pos line col : Nat), wr.heap[W.heap.size]? = some (.cells #[.int .i64 line, .int .i64 col] 25 (0, 0)) ∧ wr.heap[W.heap.size + 1]? = some (.stringIter s pos) ∧ Boxed wr Bs 9 (.string s) ∧ Hid (AtBound s pre f pos line col) ∧ J pre wr)
    (fun wr => s.size - wr.iterPos (W.heap.size + 1))
  case atStart =>
    have g1 : W.grownBy ((W.alloc (.cells #[.int .i64 1, .int .i64 1] 25)).iter s 0) none := ⟨rfl, rfl, rfl, by simp [World.iter]; omega, fun k hk _ => by
      rw [show ((W.alloc (.cells #[.int .i64 1, .int .i64 1] 25)).iter s 0).heap[k]? = _ from Below.heap_alloc _ _ _ (by simp; omega)]
      exact Below.heap_alloc _ _ _ hk⟩
    refine ⟨[], s.size + 1, 0, 1, 1, ?_, ?_, hcs.kept g1 (by simp), ⟨rfl, by omega, by omega, by omega, by omega⟩, hJ _ _ _ none h0 g1 (fun r e => by cases e)⟩
    · rw [show ((W.alloc (.cells #[.int .i64 1, .int .i64 1] 25)).iter s 0).heap[W.heap.size]? = _ from Below.heap_alloc _ _ _ (by simp)]
      exact World.alloc_heap_new _ _
    · have := World.iter_heap (W.alloc (.cells #[.int .i64 1, .int .i64 1] 25)) s 0
      simpa using this
  case round =>
    obtain ⟨pre, f, pos, line, col, hp, hit, hbs, hA, hj⟩ := hrel
    have hl := hA.l1; have hc := hA.c1; have hle := hA.le
    have hPlt : W.heap.size + 1 < wr.heap.size := (Array.getElem?_eq_some_iff.1 hit).1
    by_cases hps : pos < s.size
    · have hnx : ∀ ty, (Instr.next (.pointer (some ⟨W.heap.size + 1, 0, none⟩)) true ty).run Tryd.prog wr = _ := fun ty => Lib.run_next_any_at wr (W.heap.size + 1) s pos ty hit hps
      obtain ⟨f', hN⟩ := AtBound.next hA hps
      have HN := Lib.hid hN; clear hN
      have hlen := AtBound.lt hA
      obtain ⟨W1, hW1⟩ : ∃ W1, W1 = wr.iterAt (W.heap.size + 1) s (pos + (Utf8.decode s pos).2) := ⟨_, rfl⟩
      have g1 : wr.grownBy W1 (some (W.heap.size + 1)) := by
        rw [hW1]; exact ⟨rfl, rfl, rfl, by rw [Lib.iterAt_size]; exact Nat.le_refl _, fun k _ hk => Lib.iterAt_other _ _ _ _ _ (fun e => hk (by rw [e]))⟩
      have hj1 : J pre W1 := hJ _ _ _ _ hj g1 (fun r e => by cases e; omega)
      have hp1 : W1.heap[W.heap.size]? = some (.cells #[.int .i64 line, .int .i64 col] 25 (0, 0)) := (g1.block _ (by omega) (by simp)).trans hp
      have hb1 : Boxed W1 Bs 9 (.string s) := hbs.kept g1 (by simp; omega)
      have hi1 : W1.heap[W.heap.size + 1]? = some (.stringIter s (pos + (Utf8.decode s pos).2)) := by rw [hW1]; exact Lib.iterAt_heap _ _ _ _ _ hit
      have c0 : W1.cell? ⟨W.heap.size, 0, none⟩ = some (.int .i64 line) := by rw [Lib.cell_of_heap hp1]; rfl
      have c1 : W1.cell? ⟨W.heap.size, 1, none⟩ = some (.int .i64 col) := by rw [Lib.cell_of_heap hp1]; rfl
      obtain ⟨fn, tmps, assign, body, hy, hR⟩ := hY pre (pos, line, col) W1 hj1 hlen
      dsimp only [posV] at hy
      rw [← hW1] at hnx
      clear hW1 hlen
      gi_wp2
      refine hR.mono ?_
      rintro e W3 (⟨rfl, hJ3, hk3⟩ | ⟨rfl, hx3⟩)
      · have hp3 := hk3.2 _ _ hW hp1 (.inl rfl) (fun _ _ h => by cases h)
        have hb3 : Boxed W3 Bs 9 (.string s) := hk3.2 _ _ h1 hb1 (.inl rfl) (fun _ _ h => by cases h)
        have hi3 := hk3.2 _ _ (by omega) hi1 (.inr rfl) (fun _ _ h => by cases h)
        have d0 : W3.cell? ⟨W.heap.size, 0, none⟩ = some (.int .i64 line) := by rw [Lib.cell_of_heap hp3]; rfl
        have d1 : W3.cell? ⟨W.heap.size, 1, none⟩ = some (.int .i64 col) := by rw [Lib.cell_of_heap hp3]; rfl
        clear hy hR
        gi_wp2_with (refine ⟨trivial, ?_⟩; gi_at_call 47; refine (callsIn_wide.2 (behind_any line col (Utf8.decode s pos).1 _ (by omega) (by omega))).mono ?_)
        rintro e W4 ⟨rfl, g4⟩
        have hp4 : W4.heap[W.heap.size]? = some (.cells #[.int .i64 line, .int .i64 col] 25 (0, 0)) := (g4.block _ (Array.getElem?_eq_some_iff.1 hp3).1 (by simp)).trans hp3
        have e0 : W4.cell? ⟨W.heap.size, 0, none⟩ = some (.int .i64 line) := by rw [Lib.cell_of_heap hp4]; rfl
        have e1 : W4.cell? ⟨W.heap.size, 1, none⟩ = some (.int .i64 col) := by rw [Lib.cell_of_heap hp4]; rfl
        have f0 : W4.frozen? ⟨W.heap.size, 0, none⟩ = false := Lib.frozen_of_heap hp4 0
        have f1 : W4.frozen? ⟨W.heap.size, 1, none⟩ = false := Lib.frozen_of_heap hp4 1
        gi_wp2
        obtain ⟨L, hLd⟩ : ∃ L, L = nextL (Utf8.decode s pos).1 line := ⟨_, rfl⟩
        obtain ⟨C, hCd⟩ : ∃ C, C = nextC (Utf8.decode s pos).1 col := ⟨_, rfl⟩
        have hN' := HN.out
        rw [← hLd, ← hCd] at hN' ⊢
        obtain ⟨W5, hW5⟩ : ∃ W5, W5 = (W4.setCell ⟨W.heap.size, 0, none⟩ (.int .i64 (L : Int))).setCell ⟨W.heap.size, 1, none⟩ (.int .i64 (C : Int)) := ⟨_, rfl⟩
        have g5 : W3.grownBy W5 (some W.heap.size) := by
          rw [hW5]
          exact ⟨g4.os, g4.tape, g4.output, by simp only [World.setCell, Array.size_modify]; exact g4.size, fun k hk hne => by
            rw [Below.heap_setCell _ _ _ _ (fun e => hne (by rw [e])), Below.heap_setCell _ _ _ _ (fun e => hne (by rw [e]))]
            exact g4.block k hk (by simp)⟩
        have hp5 : W5.heap[W.heap.size]? = some (.cells #[.int .i64 (L : Int), .int .i64 (C : Int)] 25 (0, 0)) := by
          rw [hW5]; simp [World.setCell, Array.getElem?_modify, hp4]
        have hi5 := (g5.block _ (Array.getElem?_eq_some_iff.1 hi3).1 (by simp)).trans hi3
        rw [← hW5]
        exact ⟨⟨pre ++ [(pos, line, col)], f', pos + (Utf8.decode s pos).2, L, C, hp5, hi5, hb3.kept g5 (by simp; omega), hN', hJ _ _ _ _ hJ3 g5 (fun r e => by cases e; omega)⟩, by
          simp only [World.iterPos, hi5, hit]
          have := (decode_facts s pos hps).1
          omega⟩
      · gi_wp2
        refine bodyPost_ret (results_none rfl _ _ _) rfl ?_
        exact ⟨⟨_, rfl⟩, .inr ⟨_, AtBound.prefix hA, hx3⟩⟩
    · have hnx : ∀ ty, (Instr.next (.pointer (some ⟨W.heap.size + 1, 0, none⟩)) true ty).run Tryd.prog wr = _ := fun ty => Lib.run_next_end_at wr (W.heap.size + 1) s pos ty hit hps
      have hlen := AtBound.lt hA
      have cb := hbs.cell
      have c0 : wr.cell? ⟨W.heap.size, 0, none⟩ = some (.int .i64 line) := by rw [Lib.cell_of_heap hp]; rfl
      have c1 : wr.cell? ⟨W.heap.size, 1, none⟩ = some (.int .i64 col) := by rw [Lib.cell_of_heap hp]; rfl
      obtain ⟨fn, tmps, assign, body, hy, hR⟩ := hY pre (s.size, line, col) wr hj hlen
      dsimp only [posV] at hy
      clear hlen
      gi_wp2
      refine hR.mono ?_
      rintro e W3 (⟨rfl, hJ3, hk3⟩ | ⟨rfl, hx3⟩)
      · clear hk3
        gi_wp2
        go_end0
        rw [AtBound.last hA hps] at hJ3
        exact ⟨⟨_, rfl⟩, .inl ⟨_, rfl, hJ3⟩⟩
      · gi_wp2
        go_end0
        rw [AtBound.last hA hps] at hx3
        exact ⟨⟨_, rfl⟩, .inr ⟨_, List.prefix_refl _, hx3⟩⟩

/-- A value of boundaries, ranged over. -/
theorem boundaries_seq (n : Nat) (hn : 2 ≤ n) (Bs n₁ : Nat) (s : ByteArray) (hs : s.size ≤ 300) (h1 : n₁ ≤ Bs) (w : World) (hw : n₁ ≤ w.heap.size) (hcs : Boxed w Bs 9 (.string s)) :
    SeqCells n Tryd.prog 46 #[.pointer (some ⟨Bs, 0, none⟩)] (fun x : Nat × Nat × Nat => #[.int .i64 x.1, posV x.2.1 x.2.2]) (KpA n₁) (fun ys => ys = bounds s) (fun pre => pre <+: bounds s) (bounds s).length w :=
  fun l J Jx W hW hJ _ hY h0 => boundariesFn_in n hn l Bs n₁ s hs h1 J Jx W (Nat.le_trans hw hW.size) hJ hY ((hW.block Bs hcs.lt).trans hcs) h0
end Go.Proofs.YtmofnaeiemkbnaaDoor
