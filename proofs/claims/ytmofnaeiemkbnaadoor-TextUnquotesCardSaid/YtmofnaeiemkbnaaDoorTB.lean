/- The reference's Position: every offset of every text of at most 300 bytes; it answers as text.Position. -/
import Derived.Test.YtmofnaeiemkbnaaDoorTA
import Derived.Test.YtmofnaeiemkbnaaDoorSM
namespace Go.Proofs.YtmofnaeiemkbnaaDoor
open Go.RowKit Go.Shelf

theorem own_view3 {w0 : World} {b : Nat} {v : Value} {L : List (Nat × Nat × Nat)} (h : w0.ownsRow b 36 3 v L.length (runeCells L)) :
    ∃ ao cap, v = .slice ao L.length cap ∧ ∀ pre x rest, pre ++ x :: rest = L → ∃ g, ao = some ⟨g, 0, none⟩ ∧ b ≤ g ∧ g < w0.heap.size ∧ ∀ wr : World, wr.heap[g]? = w0.heap[g]? →
      wr.cell? ⟨g, pre.length * 3, none⟩ = some (.int .i32 x.1) ∧ wr.cell? ⟨g, pre.length * 3 + 1, none⟩ = some (.int .i64 x.2.1) ∧ wr.cell? ⟨g, pre.length * 3 + 2, none⟩ = some (.int .i64 x.2.2) := by
  obtain ⟨h1, ⟨rfl, h2⟩ | ⟨g, cap, cur, rfl, h3, h4, h5, h6, h7, h8⟩⟩ := h
  · refine ⟨none, 0, by rw [h2], fun pre x rest e => ?_⟩
    have hh := congrArg List.length e
    simp at hh; omega
  · refine ⟨_, cap, rfl, fun pre x rest e => ⟨g, rfl, h3, (Array.getElem?_eq_some_iff.1 h4).1, fun wr hk => ?_⟩⟩
    have hc := runeCells_at pre rest x
    have hlen := congrArg List.length e
    simp only [List.length_append, List.length_cons] at hlen
    rw [e, ← h8, List.getElem?_take, List.getElem?_take, List.getElem?_take, if_pos (by omega), if_pos (by omega), if_pos (by omega)] at hc
    obtain ⟨c0, c1, c2⟩ := hc
    rw [Array.getElem?_toList] at c0 c1 c2
    exact ⟨by rw [Lib.cell_of_heap (hk.trans h4)]; exact c0, by rw [Lib.cell_of_heap (hk.trans h4)]; exact c1, by rw [Lib.cell_of_heap (hk.trans h4)]; exact c2⟩

theorem runesL_length (s : ByteArray) : ∀ f pos, (runesFrom s f pos).length ≤ f
  | 0, _ => Nat.le_refl _
  | f + 1, pos => by
    rw [runesFrom]
    split
    · have := runesL_length s f (pos + (Utf8.decode s pos).2)
      simp; omega
    · simp

def NotAt (k : Int) (L : List (Nat × Nat × Nat)) : Prop := ∀ y ∈ L, (y.1 : Int) ≠ k
theorem posZ_hit {s : ByteArray} {k : Int} {pos l c : Nat} (hm : (pos, l, c) ∈ bounds s) (hk : (pos : Int) = k) : posZ s k = (l, c, true) := by
  rw [posZ, ← hk, show posL (pos : Int) (bounds s) = some (l, c) from posL_mem (bounds_pw s) hm]
theorem posZ_miss {s : ByteArray} {k : Int} (h : NotAt k (bounds s)) : posZ s k = (0, 0, false) := by
  rw [posZ]
  cases hp : posL k (bounds s) with
  | none => rfl
  | some p => obtain ⟨x, hx, e, _⟩ := posL_some hp; exact absurd e (h x hx)
theorem AtBound.mem {s : ByteArray} {pre : List (Nat × Nat × Nat)} {f pos line col : Nat} (h : AtBound s pre f pos line col) : (pos, line, col) ∈ bounds s := by
  obtain ⟨t, ht⟩ := h.prefix
  rw [← ht]; simp

theorem pos_set2 {W : World} {b l0 c0 : Nat} {l c : Int} (h : PosBlock W b l0 c0) : ((W.setCell ⟨b, 0, none⟩ (.int .i64 l)).setCell ⟨b, 1, none⟩ (.int .i64 c)).heap[b]? = some (.cells #[.int .i64 l, .int .i64 c] 25 (0, 0)) := by
  have h' : W.heap[b]? = some (.cells #[.int .i64 l0, .int .i64 c0] 25 (0, 0)) := h
  simp [World.setCell, Array.getElem?_modify, h']
theorem pos_set1 {W : World} {b l0 c0 : Nat} {c : Int} (h : PosBlock W b l0 c0) : (W.setCell ⟨b, 1, none⟩ (.int .i64 c)).heap[b]? = some (.cells #[.int .i64 l0, .int .i64 c] 25 (0, 0)) := by
  have h' : W.heap[b]? = some (.cells #[.int .i64 l0, .int .i64 c0] 25 (0, 0)) := h
  simp [World.setCell, Array.getElem?_modify, h']

set_option maxHeartbeats 8000000 in
set_option maxRecDepth 100000 in
theorem rPosition_any (s : ByteArray) (k : Int) (w : World) (hs : s.size ≤ 300) :
    Calls Tryd.prog 12 #[.string s, .int .i64 k] w fun e w' => e = .returned (.tuple #[posV (posZ s k).1 (posZ s k).2.1, .bool (posZ s k).2.2]) ∧ Below w.heap.size w w' := by
  go_enter Tryd.func12, Tryd.ntmps12
  go_wp2_with fail
  refine (rRunes_any _ _ hs).mono ?_
  rintro e w0 ⟨v, rfl, hown, b0⟩
  have e2 : ((w.alloc (Obj.cells #[Value.int IntKind.i64 0, Value.int IntKind.i64 0] 25)).alloc (Obj.cells #[Value.int IntKind.i64 1, Value.int IntKind.i64 1] 25)).heap.size = w.heap.size + 2 := by simp
  have xp0 : PosBlock ((w.alloc (Obj.cells #[Value.int IntKind.i64 0, Value.int IntKind.i64 0] 25)).alloc (Obj.cells #[Value.int IntKind.i64 1, Value.int IntKind.i64 1] 25)) w.heap.size 0 0 := by
    rw [PosBlock, Below.heap_alloc _ _ _ (by simp)]; exact World.alloc_heap_new _ _
  have xp1 : PosBlock ((w.alloc (Obj.cells #[Value.int IntKind.i64 0, Value.int IntKind.i64 0] 25)).alloc (Obj.cells #[Value.int IntKind.i64 1, Value.int IntKind.i64 1] 25)) (w.heap.size + 1) 1 1 := by
    have := World.alloc_heap_new (w.alloc (Obj.cells #[Value.int IntKind.i64 0, Value.int IntKind.i64 0] 25)) (Obj.cells #[Value.int IntKind.i64 1, Value.int IntKind.i64 1] 25)
    rw [World.size_alloc] at this; exact this
  rw [e2] at hown b0
  have y0 : PosBlock w0 w.heap.size 0 0 := (b0.block _ (by omega)).trans xp0
  have y1 : PosBlock w0 (w.heap.size + 1) 1 1 := (b0.block _ (by omega)).trans xp1
  have hB0 : Below w.heap.size w w0 := (((Below.refl _ w).alloc (Nat.le_refl _) _).alloc (by simp) _).trans (b0.mono (by omega))
  have hz0 := b0.size
  rw [e2] at hz0
  clear e2 xp0 xp1 b0
  obtain ⟨ao, cap, rfl, hcells⟩ := own_view3 hown
  clear hown
  have HC := Lib.hid hcells; clear hcells
  have hN : (runesL s).length ≤ 300 := Nat.le_trans (runesL_length s _ _) hs
  go_wp2_with fail
  go_loopw [8] (fun i wr => ∃ (pre : List (Nat × Nat × Nat)) (prb : List (Nat × Nat × Nat)) (f fb pos line col : Nat), i = .int .i64 pre.length ∧ Hid (pre ++ runesFrom s f pos = runesL s) ∧ Hid (AtBound s prb fb pos line col) ∧ Hid (NotAt k prb) ∧ pre.length ≤ pos ∧ s.size ≤ pos + f ∧
      PosBlock wr w.heap.size 0 0 ∧ PosBlock wr (w.heap.size + 1) line col ∧ Hid (∀ g, w.heap.size + 2 ≤ g → wr.heap[g]? = w0.heap[g]?) ∧ Below w.heap.size w wr) (fun i _ => (runesL s).length - (intOf i).toNat)
  case atStart => exact ⟨[], [], s.size, s.size + 1, 0, 1, 1, rfl, rfl, Lib.hid ⟨rfl, by omega, by omega, by omega, by omega⟩, Lib.hid (fun y hy => by cases hy), by simp, by omega, y0, y1, Lib.hid (fun _ _ => rfl), hB0⟩
  case round =>
    obtain ⟨pre, prb, f, fb, pos, line, col, rfl, hA, hT, hNA, hl, hf, z0, z1, hg, hb⟩ := hrel
    have hT1 := hT.out.le; have hT3 := hT.out.l1; have hT4 := hT.out.c1
    have v0 : wr.cell? ⟨w.heap.size, 0, none⟩ = some (.int .i64 0) := by rw [Lib.cell_of_heap z0]; rfl
    have v1 : wr.cell? ⟨w.heap.size, 1, none⟩ = some (.int .i64 0) := by rw [Lib.cell_of_heap z0]; rfl
    have v2 : wr.frozen? ⟨w.heap.size, 0, none⟩ = false := Lib.frozen_of_heap z0 0
    have v3 : wr.frozen? ⟨w.heap.size, 1, none⟩ = false := Lib.frozen_of_heap z0 1
    have p0 : wr.cell? ⟨w.heap.size + 1, 0, none⟩ = some (.int .i64 line) := by rw [Lib.cell_of_heap z1]; rfl
    have p1 : wr.cell? ⟨w.heap.size + 1, 1, none⟩ = some (.int .i64 col) := by rw [Lib.cell_of_heap z1]; rfl
    have p2 : wr.frozen? ⟨w.heap.size + 1, 0, none⟩ = false := Lib.frozen_of_heap z1 0
    have p3 : wr.frozen? ⟨w.heap.size + 1, 1, none⟩ = false := Lib.frozen_of_heap z1 1
    rcases runes_rest (f := f) hT1 (by omega) with ⟨he, hr⟩ | ⟨g, rfl, hps, hr⟩
    · have hL := hA.out
      rw [hr, List.append_nil] at hL
      subst hL
      clear hA hr HC
      subst he
      by_cases hk : k = (s.size : Int)
      · have HZ : Hid (posZ s k = (line, col, true)) := posZ_hit hT.out.mem hk.symm
        subst hk
        go_wp2
        refine bodyPost_ret (v := .tuple #[posV line col, .bool true]) ?_ rfl ⟨by rw [HZ.out], (hb.setCell (p := ⟨w.heap.size, 0, none⟩) (by simp) _).setCell (p := ⟨w.heap.size, 1, none⟩) (by simp) _⟩
        have t := pos_set2 (l := line) (c := col) z0
        have t0 := Lib.cell_of_heap t (j := 0)
        have t1 := Lib.cell_of_heap t (j := 1)
        simp [results, Tryd.f12, go_sem, t0, t1]
      · have hz : posZ s k = (0, 0, false) := by
          have hla := hT.out.last (by omega)
          refine posZ_miss ?_
          rw [← hla]
          intro y hy
          rcases List.mem_append.1 hy with hy | hy
          · exact hNA.out y hy
          · simp at hy; subst hy; exact fun e => hk e.symm
        have HZ := Lib.hid hz; clear hz
        go_wp2
        refine bodyPost_ret (v := .tuple #[posV 0 0, .bool false]) ?_ rfl ⟨by rw [HZ.out], (hb.setCell (p := ⟨w.heap.size, 0, none⟩) (by simp) _).setCell (p := ⟨w.heap.size, 1, none⟩) (by simp) _⟩
        have t := pos_set2 (l := 0) (c := 0) z0
        have t0 := Lib.cell_of_heap t (j := 0)
        have t1 := Lib.cell_of_heap t (j := 1)
        simp [results, Tryd.f12, go_sem, t0, t1]
    · obtain ⟨d1, d2, d3⟩ := decode_facts s pos hps
      have hL := hA.out
      rw [hr] at hL
      obtain ⟨blk, rfl, hblk0, hblk, hcl⟩ := HC.out _ _ _ hL
      obtain ⟨q0, q1, q2⟩ := hcl wr (hg.out _ hblk0)
      have hlt : pre.length < (runesL s).length := by rw [← hL]; simp
      obtain ⟨f', hnext⟩ := hT.out.next hps
      by_cases hk : (pos : Int) = k
      · have HZ : Hid (posZ s k = (line, col, true)) := posZ_hit hT.out.mem hk
        subst hk
        clear hnext hcl hL hr
        go_wp2
        refine bodyPost_ret (v := .tuple #[posV line col, .bool true]) ?_ rfl ⟨by rw [HZ.out], (hb.setCell (p := ⟨w.heap.size, 0, none⟩) (by simp) _).setCell (p := ⟨w.heap.size, 1, none⟩) (by simp) _⟩
        have t := pos_set2 (l := line) (c := col) z0
        have t0 := Lib.cell_of_heap t (j := 0)
        have t1 := Lib.cell_of_heap t (j := 1)
        simp [results, Tryd.f12, go_sem, t0, t1]
      · have HNX := Lib.hid hnext; clear hnext
        have HL := Lib.hid hL; clear hL hr hcl q2
        generalize (Utf8.decode s pos).2 = n at *
        generalize (Utf8.decode s pos).1 = r at *
        by_cases h10 : r = 10
        · subst h10
          go_wp2
          obtain ⟨W', hW'⟩ : ∃ W', W' = ((wr.setCell ⟨w.heap.size + 1, 1, none⟩ (.int .i64 ((col : Int) + 1))).setCell ⟨w.heap.size + 1, 0, none⟩ (.int .i64 ((line : Int) + 1))).setCell ⟨w.heap.size + 1, 1, none⟩ (.int .i64 1) := ⟨_, rfl⟩
          have hoth : ∀ g, g ≠ w.heap.size + 1 → W'.heap[g]? = wr.heap[g]? := fun g hne => by
            rw [hW', Below.heap_setCell _ _ _ _ (fun e => hne e), Below.heap_setCell _ _ _ _ (fun e => hne e), Below.heap_setCell _ _ _ _ (fun e => hne e)]
          have hb' : Below w.heap.size w W' := by rw [hW']; exact ((hb.setCell (p := ⟨w.heap.size + 1, 1, none⟩) (by simp) _).setCell (p := ⟨w.heap.size + 1, 0, none⟩) (by simp) _).setCell (p := ⟨w.heap.size + 1, 1, none⟩) (by simp) _
          have hp' : PosBlock W' (w.heap.size + 1) (line + 1) 1 := by
            rw [hW']
            have z1' : wr.heap[w.heap.size + 1]? = some (.cells #[.int .i64 line, .int .i64 col] 25 (0, 0)) := z1
            simp [PosBlock, World.setCell, Array.getElem?_modify, z1']
          rw [← hW']
          exact ⟨⟨pre ++ [(10, pos, n)], _, g, f', pos + n, line + 1, 1, by simp, Lib.hid (by rw [List.append_assoc]; exact HL.out), HNX, Lib.hid (fun y hy => (List.mem_append.1 hy).elim (hNA.out y) (fun h => by simp at h; subst h; exact hk)), by simp; omega, by omega, (hoth _ (by omega)).trans z0, hp', Lib.hid (fun g hg' => (hoth g (by omega)).trans (hg.out g hg')), hb'⟩, by simp [intOf]; omega⟩
        · have e10 : ((r : Int) == 10) = false := by rw [beq_eq_false_iff_ne]; omega
          go_wp2
          obtain ⟨W', hW'⟩ : ∃ W', W' = wr.setCell ⟨w.heap.size + 1, 1, none⟩ (.int .i64 ((col : Int) + 1)) := ⟨_, rfl⟩
          have hoth : ∀ g, g ≠ w.heap.size + 1 → W'.heap[g]? = wr.heap[g]? := fun g hne => by
            rw [hW', Below.heap_setCell _ _ _ _ (fun e => hne e)]
          have hb' : Below w.heap.size w W' := by rw [hW']; exact hb.setCell (p := ⟨w.heap.size + 1, 1, none⟩) (by simp) _
          have hp' : PosBlock W' (w.heap.size + 1) line (col + 1) := by
            rw [hW']
            have z1' : wr.heap[w.heap.size + 1]? = some (.cells #[.int .i64 line, .int .i64 col] 25 (0, 0)) := z1
            simp [PosBlock, World.setCell, Array.getElem?_modify, z1']
          have HNX' : Hid (AtBound s (prb ++ [(pos, line, col)]) f' (pos + n) line (col + 1)) := by
            have := HNX.out
            rwa [nextL, nextC, if_neg h10, if_neg h10] at this
          rw [← hW']
          exact ⟨⟨pre ++ [(r, pos, n)], _, g, f', pos + n, line, col + 1, by simp, Lib.hid (by rw [List.append_assoc]; exact HL.out), HNX', Lib.hid (fun y hy => (List.mem_append.1 hy).elim (hNA.out y) (fun h => by simp at h; subst h; exact hk)), by simp; omega, by omega, (hoth _ (by omega)).trans z0, hp', Lib.hid (fun g hg' => (hoth g (by omega)).trans (hg.out g hg')), hb'⟩, by simp [intOf]; omega⟩
end Go.Proofs.YtmofnaeiemkbnaaDoor
