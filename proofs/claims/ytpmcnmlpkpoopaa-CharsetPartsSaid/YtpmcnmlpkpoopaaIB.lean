/- charset.Inter's callback at a range. -/
import Derived.Test.YtpmcnmlpkpoopaaI
import Derived.StillTailTactics
namespace Go.Proofs.Ytpmcnmlpkpoopaa
open Go.RowKit Go.Shelf

/-- What the region that finds a range reads, but for the row found so far. -/
def SI (c1 b : Nat) (a1 : Option Addr) (n cap : Nat) (lo hi : Int) (g o : Nat) (q1 q2 : Int) (W : World) : Prop := W.cell? ⟨c1, 0, none⟩ = some (.slice a1 n cap) ∧ W.cell? ⟨b, 0, none⟩ = some (.int .i32 lo) ∧ W.cell? ⟨b, 1, none⟩ = some (.int .i32 hi) ∧
  W.cell? ⟨g, o, none⟩ = some (.int .i32 q1) ∧ W.cell? ⟨g, o + 1, none⟩ = some (.int .i32 q2)
theorem SI.of {c1 b : Nat} {a1 : Option Addr} {n cap : Nat} {lo hi : Int} {g o : Nat} {q1 q2 : Int} {W W' : World} (h : SI c1 b a1 n cap lo hi g o q1 q2 W) (h1 : W'.heap[c1]? = W.heap[c1]?) (h2 : W'.heap[b]? = W.heap[b]?) (h3 : W'.heap[g]? = W.heap[g]?) :
    SI c1 b a1 n cap lo hi g o q1 q2 W' :=
  ⟨(World.cell?_of_block (a := ⟨c1, 0, none⟩) h1).trans h.1, (World.cell?_of_block (a := ⟨b, 0, none⟩) h2).trans h.2.1, (World.cell?_of_block (a := ⟨b, 1, none⟩) h2).trans h.2.2.1, (World.cell?_of_block (a := ⟨g, o, none⟩) h3).trans h.2.2.2.1, (World.cell?_of_block (a := ⟨g, o + 1, none⟩) h3).trans h.2.2.2.2⟩
/-- append of one range to an own row, as a step of a region that draws. -/
theorem step_app_at {ops : Array Oper} {o : Oper} {a : Act} {K : Act → World → Prop} {Q : Exit → Act → World → Prop} {E : Prop} (hg : o.guard = none) (s x : Operand)
    (ho : o.op = .call { callee := .builtin .append, args := #[s, x], argTypes := #[24, 24] }) (base : Nat) (v : Value) (L : List Rg) (W : World) (hown : W.ownsRow base 41 2 v L.length (rgCells L)) (hs : a.eval s = v) (r : Rg) (c k : Nat)
    (hx : a.eval x = .slice (some ⟨k, 0, none⟩) 1 c) (hk : W.heap.size = k) (hn : L.length < 1000000) (hb : base ≤ W.heap.size)
    (h : ∀ v' w', w'.ownsRow base 41 2 v' (L ++ [r]).length (rgCells (L ++ [r])) → W.grownBy w' v.ownBlock → (∀ k, v'.ownBlock = some k → v.ownBlock = some k ∨ W.heap.size ≤ k) → K (a.put o.dst v') w') :
    if Region.wanted o (yielded ops a.tmps) = true then Oper.wp Try.prog o a (W.alloc (.cells #[.int .i32 r.1, .int .i32 r.2] 41)) K Q else E := by
  have hw : Region.wanted o (yielded ops a.tmps) = true := by simp [Region.wanted, hg]
  rw [if_pos hw]
  subst hk
  obtain ⟨i0, hi, hz0, hz1, hz2⟩ := info_parts infoRange
  obtain ⟨v', w', hr, h1, h2, h3⟩ := app_own_at (W.alloc (.cells #[.int .i32 r.1, .int .i32 r.2] 41)) base 24 o.type 41 i0 (.agg #[.int .i32 0, .int .i32 0]) 2 8 Try.underlying24 hi hz0 hz1 hz2 rfl (by decide) v L.length (rgCells L) (hown.alloc _) ⟨W.heap.size, 0, none⟩ 1 c [.int .i32 r.1, .int .i32 r.2] rfl
    range_row (fun u hu => by simp at hu; rcases hu with rfl | rfl <;> rfl) (by unfold maxLen; omega) (by omega) (by simp; omega)
  refine Lib.wp_append_run _ s x 24 24 ho _ _ hs hx _ _ hr (h v' w' ?_ (grown_of_alloc h2) (fun k hk => ?_))
  · rw [rgCells_app, List.length_append]
    exact h1
  · rcases h3 k hk with h | h
    · exact .inl h
    · rw [World.size_alloc] at h
      exact .inr (by omega)
theorem inter_frame {c0 : Nat} {v v2 u : Value} {W2 w0 w3 w5 : World} (hF : W2.heap.size ≤ w0.heap.size ∧ (∀ k, k < W2.heap.size → k ≠ c0 → v.ownBlock ≠ some k → w0.heap[k]? = W2.heap[k]?) ∧ (w0.os = W2.os ∧ w0.tape = W2.tape ∧ w0.output = W2.output)) (b3 : Below w0.heap.size w0 w3)
    (h2 : w3.grownBy w5 v2.ownBlock) (hV : ∀ k, v2.ownBlock = some k → v.ownBlock = some k ∨ W2.heap.size ≤ k) :
    W2.heap.size ≤ (w5.setCell ⟨c0, 0, none⟩ u).heap.size ∧ (∀ k, k < W2.heap.size → k ≠ c0 → v.ownBlock ≠ some k → (w5.setCell ⟨c0, 0, none⟩ u).heap[k]? = W2.heap[k]?) ∧ ((w5.setCell ⟨c0, 0, none⟩ u).os = W2.os ∧ (w5.setCell ⟨c0, 0, none⟩ u).tape = W2.tape ∧ (w5.setCell ⟨c0, 0, none⟩ u).output = W2.output) := by
  have h3 := b3.size
  have h4 := h2.size
  refine ⟨by simp [World.setCell]; omega, fun k hk hc hv => ?_, h2.os.trans (b3.os.trans hF.2.2.1), h2.tape.trans (b3.tape.trans hF.2.2.2.1), h2.output.trans (b3.output.trans hF.2.2.2.2)⟩
  rw [Below.heap_setCell _ _ _ _ hc, h2.block k (by omega) (fun e => by rcases hV k e.symm with h | h; exact hv h; omega), b3.block k (by omega)]
  exact hF.2.1 k hk hc hv
theorem inter_fin {c0 c1 : Nat} {v v2 : Value} {F R D p : List Rg} {lo hi : Int} {a1 : Option Addr} {cap1 : Nat} {W W2 wr2 : World} (hDD : dropR lo R = D) (hXX : hitR (lo, hi) D = p.map (ovR (lo, hi)))
    (C2 : W2.heap[c1]? = some (.cells #[.slice a1 D.length cap1] 24 (0, 0))) (hcp : D.length ≤ cap1) (HRW : Rg2 W (c0 + 1) c1 a1 D) (G2 : W.grownBy W2 (some c1)) (HVB : ∀ k, v.ownBlock = some k → c1 + 3 ≤ k ∧ k < W2.heap.size) (h01 : c0 < c1) (hb : c1 + 3 ≤ W.heap.size)
    (hH : Held c0 (c1 + 3) v2 (F ++ p.map (ovR (lo, hi))) wr2) (hF : W2.heap.size ≤ wr2.heap.size ∧ (∀ k, k < W2.heap.size → k ≠ c0 → v.ownBlock ≠ some k → wr2.heap[k]? = W2.heap[k]?) ∧ (wr2.os = W2.os ∧ wr2.tape = W2.tape ∧ wr2.output = W2.output))
    (hV : ∀ k, v2.ownBlock = some k → v.ownBlock = some k ∨ W2.heap.size ≤ k) (nq : Nat) :
    Ending.returned (.tuple #[]) = Ending.returned (.tuple #[]) ∧ ∃ v' ao' cap', Held c0 (c1 + 3) v' (F ++ hitR (lo, hi) (dropR (lo, hi).1 R)) (wr2.drewN nq) ∧
      (wr2.drewN nq).heap[c1]? = some (.cells #[.slice ao' (dropR (lo, hi).1 R).length cap'] 24 (0, 0)) ∧ (dropR (lo, hi).1 R).length ≤ cap' ∧ Rg2 (wr2.drewN nq) (c0 + 1) c1 ao' (dropR (lo, hi).1 R) ∧ W.heap.size ≤ (wr2.drewN nq).heap.size ∧
      (∀ k, k < W.heap.size → k ≠ c0 → k ≠ c1 → v.ownBlock ≠ some k → (wr2.drewN nq).heap[k]? = W.heap[k]?) ∧ ((wr2.drewN nq).os = W.os ∧ (wr2.drewN nq).tape = W.tape ∧ (wr2.drewN nq).output = W.output) ∧ ∀ k, v'.ownBlock = some k → v.ownBlock = some k ∨ W.heap.size ≤ k := by
  have hs := G2.size
  dsimp only
  rw [hDD, hXX]
  refine ⟨rfl, v2, a1, cap1, ⟨hH.cell, hH.own, hH.low⟩, ?_, hcp, ?_, ?_, fun k h1 h2 h3 h4 => ?_, ⟨hF.2.2.1.trans G2.os, hF.2.2.2.1.trans G2.tape, hF.2.2.2.2.trans G2.output⟩, fun k e => ?_⟩
  · exact (hF.2.1 c1 (by omega) (by omega) (fun e => by have := HVB _ e; omega)).trans C2
  · exact HRW.same (fun k h1 h2 => (hF.2.1 k (by omega) (by omega) (fun e => by have := HVB _ e; omega)).trans (G2.block k (by omega) (by simp; omega)))
  · exact Nat.le_trans hs hF.1
  · exact (hF.2.1 k (by omega) h2 h4).trans (G2.block k h1 (by simpa using h3))
  · rcases hV k e with h | h
    · exact .inl h
    · exact .inr (by omega)
set_option maxHeartbeats 4000000 in
set_option maxRecDepth 100000 in
theorem InterFn_in (x : Rg) (c0 c1 : Nat) (v : Value) (F R : List Rg) (ao : Option Addr) (cap : Nat) (W : World) (h : Held c0 (c1 + 3) v F W) (hc1 : W.heap[c1]? = some (.cells #[.slice ao R.length cap] 24 (0, 0))) (hcap : R.length ≤ cap)
    (hR : Rg2 W (c0 + 1) c1 ao R) (h01 : c0 < c1) (hN : F.length + R.length < 1000000) (hR5 : R.length ≤ 1000) (hb : c1 + 3 ≤ W.heap.size) :
    Calls Try.prog 44 #[rgV x, .bool true, .pointer (some ⟨c1, 0, none⟩), .pointer (some ⟨c0, 0, none⟩)] W fun e W' => e = .returned (.tuple #[]) ∧ ∃ v' ao' cap', Held c0 (c1 + 3) v' (F ++ hitR x (dropR x.1 R)) W' ∧
      W'.heap[c1]? = some (.cells #[.slice ao' (dropR x.1 R).length cap'] 24 (0, 0)) ∧ (dropR x.1 R).length ≤ cap' ∧ Rg2 W' (c0 + 1) c1 ao' (dropR x.1 R) ∧ W.heap.size ≤ W'.heap.size ∧
      (∀ k, k < W.heap.size → k ≠ c0 → k ≠ c1 → v.ownBlock ≠ some k → W'.heap[k]? = W.heap[k]?) ∧ (W'.os = W.os ∧ W'.tape = W.tape ∧ W'.output = W.output) ∧ ∀ k, v'.ownBlock = some k → v.ownBlock = some k ∨ W.heap.size ≤ k := by
  obtain ⟨lo, hi⟩ := x
  have y0 := RgAt.new W (lo, hi)
  have g0 : W.grownBy (W.alloc (.cells #[.int .i32 lo, .int .i32 hi] 41)) (some c1) := grown_alloc _ _ _
  have hz1 : (W.alloc (.cells #[.int .i32 lo, .int .i32 hi] 41)).heap.size = W.heap.size + 1 := by simp
  have q1 := (Below.heap_alloc W (.cells #[.int .i32 lo, .int .i32 hi] 41) c1 (by omega)).trans hc1
  have HR := Lib.hid hR; have HH := Lib.hid h
  clear hR h
  go_enter Try.func44, Try.ntmps44
  go_wp2_with fail
  go_loopw [19] (fun _ wr => ∃ (R1 : List Rg) (a1 : Option Addr) (cap1 : Nat), Hid (dropR lo R1 = dropR lo R) ∧ Hid (wr.heap[c1]? = some (.cells #[.slice a1 R1.length cap1] 24 (0, 0))) ∧ R1.length ≤ cap1 ∧ Hid (Rg2 W (c0 + 1) c1 a1 R1) ∧
    Hid (W.grownBy wr (some c1)) ∧ Hid (RgAt wr W.heap.size (lo, hi))) (fun _ wr => lenAt wr c1)
  case atStart => exact ⟨R, ao, cap, rfl, q1, hcap, HR, g0, y0⟩
  case round =>
    obtain ⟨R1, a1, cap1, hD, hC, hcp, hR1, hG, hY⟩ := hrel
    have b0 : wr.cell? ⟨W.heap.size, 0, none⟩ = some (.int .i32 lo) := hY.out.c0
    have b1 : wr.cell? ⟨W.heap.size, 1, none⟩ = some (.int .i32 hi) := hY.out.c1
    have d0 : wr.cell? ⟨c1, 0, none⟩ = some (.slice a1 R1.length cap1) := by rw [Lib.cell_of_heap hC.out]; rfl
    have d1 : wr.frozen? ⟨c1, 0, none⟩ = false := Lib.frozen_of_heap hC.out 0
    have hl1 := lenAt_of hC.out
    rcases R1 with _ | ⟨⟨p1, p2⟩, R1⟩
    · have hDD : Hid (dropR lo R = []) := hD.out.symm
      clear hl1
      go_wp2
      go_quiet (fail)
      go_wp2
      refine wp_loop_rounds 1 ?_
      rw [rounds_succ]
      go_wp2
      go_quiet (fail)
      go_wp2
      go_end0
      refine ⟨rfl, v, _, cap1, by rw [hDD.out]; rw [show hitR (lo, hi) [] = [] from rfl, List.append_nil]; exact HH.out.keep (row := c1) (grown_drewN (grown_drewN hG.out _) _) (by omega) (fun e => by have := (HH.out.own.lt _ e).1; omega), by rw [hDD.out]; exact hC.out, by rw [hDD.out]; exact hcp, by rw [hDD.out]; exact hR1.out.same (fun k h1 h2 => hG.out.block k (by omega) (by simp; omega)), hG.out.size, fun k h1 h2 h3 h4 => hG.out.block k h1 (by simpa using h3), ⟨hG.out.os, hG.out.tape, hG.out.output⟩, fun k e => .inl e⟩

    · obtain ⟨g, o, rfl, hg1, hg2, p0, p1'⟩ := hR1.out [] (p1, p2) R1 rfl
      have e0 : wr.cell? ⟨g, o, none⟩ = some (.int .i32 p1) := (World.cell?_of_block (a := ⟨g, o, none⟩) (hG.out.block g (by omega) (by simp; omega))).trans p0
      have e1 : wr.cell? ⟨g, o + 1, none⟩ = some (.int .i32 p2) := (World.cell?_of_block (a := ⟨g, o + 1, none⟩) (hG.out.block g (by omega) (by simp; omega))).trans p1'
      obtain ⟨a2, hs2, hR2⟩ := hR1.out.tail (cap := cap1) (by simpa using hcp)
      have hlt : (0 : Int) < (R1.length : Int) + 1 := by omega
      have hdp : decide ((0 : Int) < (R1.length : Int) + 1) = true := decide_eq_true hlt
      by_cases hp : p2 < lo
      · have hD2 : Hid (dropR lo R1 = dropR lo R) := Lib.hid (by rw [← hD.out, dropR, if_pos hp])
        have hdl : decide (p2 < lo) = true := decide_eq_true hp
        have HR2 := Lib.hid hR2
        have hC2 : Hid ((wr.setCell ⟨c1, 0, none⟩ (.slice a2 R1.length (cap1 - 1))).heap[c1]? = some (.cells #[.slice a2 R1.length (cap1 - 1)] 24 (0, 0))) := Lib.hid (by simp [World.setCell, Array.getElem?_modify, hC.out])
        have hY2 : Hid (RgAt (wr.setCell ⟨c1, 0, none⟩ (.slice a2 R1.length (cap1 - 1))) W.heap.size (lo, hi)) := Lib.hid ((Below.heap_setCell _ _ _ _ (by show W.heap.size ≠ c1; omega)).trans hY.out)
        have hl2 := lenAt_of hC2.out
        have HL1 := Lib.hid hl1; have HL2 := Lib.hid hl2
        clear hR2 p0 p1' hp hl1 hl2
        go_wp2
        go_quiet (fail)
        rename_i nq
        go_wp2
        go_roundw
        case rel => exact ⟨R1, a2, cap1 - 1, hD2, hC2, by simp at hcp; omega, HR2, Lib.hid (grown_trans (grown_drewN hG.out nq) grown_set), hY2⟩
        case measure =>
          have h1 := HL1.out
          have h2 := HL2.out
          have h3 : lenAt ((wr.drewN nq).setCell ⟨c1, 0, none⟩ (.slice a2 R1.length (cap1 - 1))) c1 = R1.length := h2
          rw [h3, h1, List.length_cons]
          omega
      · have hDD : Hid (dropR lo R = (p1, p2) :: R1) := Lib.hid (by rw [← hD.out, dropR, if_neg hp])
        have hdl : decide (p2 < lo) = false := decide_eq_false hp
        clear hp hs2 hR2 hl1 p0 p1'
        have C1 := hC.out
        have G1 := hG.out
        have Y1 := hY.out
        have H1 := HH.out.keep (row := c1) G1 (by omega) (fun e => by have := (HH.out.own.lt _ e).1; omega)
        go_wp2
        go_quiet (fail)
        rename_i nq
        have C2 : Hid ((wr.drewN nq).heap[c1]? = some (.cells #[.slice (some ⟨g, o, none⟩) ((p1, p2) :: R1).length cap1] 24 (0, 0))) := C1
        have G2 : Hid (W.grownBy (wr.drewN nq) (some c1)) := grown_drewN G1 nq
        have Y2 : Hid (RgAt (wr.drewN nq) W.heap.size (lo, hi)) := Y1
        have H2 : Hid (Held c0 (c1 + 3) v F (wr.drewN nq)) := ⟨H1.cell, H1.own, H1.low⟩
        have hRW := hR1.out
        have HRW := Lib.hid hRW
        clear C1 G1 Y1 H1 hC hG hY b0 b1 d0 d1 e0 e1 hRW hR1 hdl hdp
        generalize wr.drewN nq = W2 at *
        generalize hDe : (p1, p2) :: R1 = D at *
        have HDE := Lib.hid hDe
        have hvb : ∀ k, v.ownBlock = some k → c1 + 3 ≤ k ∧ k < W2.heap.size := fun k e => H2.out.own.lt k e
        have hWs : W.heap.size < W2.heap.size := Y2.out.lt
        have HVB := Lib.hid hvb
        have hND : D.length ≤ 1000 := by rw [← hDD.out]; have := dropR_length lo R; omega
        clear hDe hvb hlt
        go_wp2_with fail
        go_loopw [6] (fun i wr2 => ∃ (p r2 : List Rg) (v2 : Value), i = .int .i64 p.length ∧ Hid (p ++ r2 = D) ∧ Hid (hitR (lo, hi) D = p.map (ovR (lo, hi)) ++ hitR (lo, hi) r2) ∧ Hid (Held c0 (c1 + 3) v2 (F ++ p.map (ovR (lo, hi))) wr2) ∧
          Hid (W2.heap.size ≤ wr2.heap.size ∧ (∀ k, k < W2.heap.size → k ≠ c0 → v.ownBlock ≠ some k → wr2.heap[k]? = W2.heap[k]?) ∧ (wr2.os = W2.os ∧ wr2.tape = W2.tape ∧ wr2.output = W2.output)) ∧ Hid (∀ k, v2.ownBlock = some k → v.ownBlock = some k ∨ W2.heap.size ≤ k)) (fun i _ => D.length - (intOf i).toNat)
        case atStart => exact ⟨[], D, v, rfl, rfl, rfl, Lib.hid (by rw [List.map_nil, List.append_nil]; exact H2.out), Lib.hid ⟨Nat.le_refl _, fun _ _ _ _ => rfl, rfl, rfl, rfl⟩, Lib.hid (fun k e => .inl e)⟩
        case round =>
          obtain ⟨p, r2, v2, rfl, hA, hX, hH, hF, hV⟩ := hrel
          have f1 := hF.out.2.1 c1 (by omega) (by omega) (fun e => by have := HVB.out _ e; omega)
          have f2 := hF.out.2.1 W.heap.size hWs (by omega) (fun e => by have := HH.out.own.lt _ e; omega)
          have f3 : ∀ k, c0 + 1 ≤ k → k < c1 → wr.heap[k]? = W2.heap[k]? := fun k h1 h2 => hF.out.2.1 k (by omega) (by omega) (fun e => by have := HVB.out _ e; omega)
          have hC2 := f1.trans C2.out
          have hY2 : RgAt wr W.heap.size (lo, hi) := f2.trans Y2.out
          have b0 : wr.cell? ⟨W.heap.size, 0, none⟩ = some (.int .i32 lo) := hY2.c0
          have b1 : wr.cell? ⟨W.heap.size, 1, none⟩ = some (.int .i32 hi) := hY2.c1
          have d0 : wr.cell? ⟨c1, 0, none⟩ = some (.slice (some ⟨g, o, none⟩) D.length cap1) := by rw [Lib.cell_of_heap hC2]; rfl
          rcases r2 with _ | ⟨⟨q1, q2⟩, r3⟩
          · have hL := hA.out
            rw [List.append_nil] at hL
            have hpl : p.length = D.length := by rw [hL]
            have hdi : decide ((D.length : Int) < (D.length : Int)) = false := decide_eq_false (by omega)
            have hXX : Hid (hitR (lo, hi) D = p.map (ovR (lo, hi))) := Lib.hid (by have := hX.out; rw [hitR, List.append_nil] at this; exact this)
            rw [hpl]
            clear hL hpl f1 f2 f3
            go_wp2
            go_quiet (fail)
            rename_i nq2
            go_wp2
            go_end0
            exact inter_fin hDD.out hXX.out C2.out hcp HRW.out G2.out HVB.out h01 hb hH.out hF.out hV.out _
          · have hL := hA.out
            have hlt : p.length < D.length := by rw [← hL]; simp
            have hlti : (p.length : Int) < (D.length : Int) := by omega
            have hdi : decide ((p.length : Int) < (D.length : Int)) = true := decide_eq_true hlti
            obtain ⟨g', o', he, hg1, hg2, r0, r1⟩ := HRW.out p (q1, q2) r3 (by rw [hL])
            obtain ⟨rfl, rfl⟩ : g = g' ∧ o = o' := by simpa using he
            have fg := (f3 g hg1 hg2).trans (G2.out.block g (by omega) (by simp; omega))
            have e0 : wr.cell? ⟨g, o + p.length * 2, none⟩ = some (.int .i32 q1) := (World.cell?_of_block (a := ⟨g, o + p.length * 2, none⟩) fg).trans r0
            have e1 : wr.cell? ⟨g, o + p.length * 2 + 1, none⟩ = some (.int .i32 q2) := (World.cell?_of_block (a := ⟨g, o + p.length * 2 + 1, none⟩) fg).trans r1
            clear he r0 r1 f1 f2 f3 hC2
            by_cases hq : q1 ≤ hi
            · have hdq : decide (q1 ≤ hi) = true := decide_eq_true hq
              have hXX : Hid (hitR (lo, hi) D = (p ++ [(q1, q2)]).map (ovR (lo, hi)) ++ hitR (lo, hi) r3) := Lib.hid (by have := hX.out; rw [hitR, if_pos hq] at this; rw [this]; simp)
              have HL := Lib.hid hL
              clear hq hL
              generalize D.length = n at *
              go_wp2
              go_quiet (fail)
              rename_i nq2
              go_wp2_with fail
              have S0 : SI c1 W.heap.size (some ⟨g, o, none⟩) n cap1 lo hi g (o + p.length * 2) q1 q2 (wr.drewN nq).drew := ⟨d0, b0, b1, e0, e1⟩
              have H0 : Held c0 (c1 + 3) v2 (F ++ p.map (ovR (lo, hi))) (wr.drewN nq).drew := ⟨hH.out.cell, hH.out.own, hH.out.low⟩
              have hF0 : W2.heap.size ≤ (wr.drewN nq).drew.heap.size ∧ (∀ k, k < W2.heap.size → k ≠ c0 → v.ownBlock ≠ some k → (wr.drewN nq).drew.heap[k]? = W2.heap[k]?) ∧ ((wr.drewN nq).drew.os = W2.os ∧ (wr.drewN nq).drew.tape = W2.tape ∧ (wr.drewN nq).drew.output = W2.output) := hF.out
              have hV0 := hV.out
              have hov := fun w => overlap_any (lo, hi) (q1, q2) w
              have hlen : (F ++ p.map (ovR (lo, hi))).length < 1000000 := by
                have h1 := congrArg List.length HL.out
                have h2 := dropR_length lo R
                rw [hDD.out, ← h1] at h2
                simp only [List.length_append, List.length_cons] at h2
                rw [List.length_append, List.length_map]
                omega
              have hF2 : F ++ (p ++ [(q1, q2)]).map (ovR (lo, hi)) = F ++ p.map (ovR (lo, hi)) ++ [ovR (lo, hi) (q1, q2)] := by simp
              have HF2 := Lib.hid hF2
              clear hF2 d0 b0 b1 e0 e1
              generalize hu : ovR (lo, hi) (q1, q2) = u at *
              obtain ⟨u1, u2⟩ := u
              generalize hF3 : F ++ p.map (ovR (lo, hi)) = F2 at *
              have HU := Lib.hid hu; have HF3 := Lib.hid hF3
              clear hu hF3
              generalize hbb : W.heap.size = bb at *
              refine wp_region_held_drew (S := fun w' => w'.cell? ⟨c1, 0, none⟩ = some (.slice (some ⟨g, o, none⟩) n cap1) ∧ w'.cell? ⟨bb, 0, none⟩ = some (.int .i32 lo) ∧ w'.cell? ⟨bb, 1, none⟩ = some (.int .i32 hi) ∧ w'.cell? ⟨g, o + p.length * 2, none⟩ = some (.int .i32 q1) ∧ w'.cell? ⟨g, o + p.length * 2 + 1, none⟩ = some (.int .i32 q2)) (by kernel_rfl) ?_ (fun hHeld => ?_)
              · exact S0
              try dsimp only at hHeld
              generalize (wr.drewN nq).drew = w0 at *
              have hw0 : c1 + 3 ≤ w0.heap.size := by omega
              have hbw : bb < w0.heap.size := by omega
              have k0 : w0.cell? ⟨c0, 0, none⟩ = some v2 := by rw [Lib.cell_of_heap H0.cell]; rfl
              have HH0 := Lib.hid H0; have HF0 := Lib.hid hF0; have HV0 := Lib.hid hV0; have HS0 := Lib.hid S0
              clear H0 hF0 hV0 S0 hF hV hH hA hX
              refine wpAnyH_take (i := 1) (v := ?v1) rfl (by kernel_rfl) (by kernel_rfl) (by kernel_rfl) (fun _ _ _ h => h) (Or.inl ⟨by rfl, ?hy1⟩) (by assumption) ?rest1
              case hy1 => (intro W9 hSw; (try dsimp only at hSw); go_simp; try with_reducible rfl)
              try simp only [List.getElem_toArray, List.getElem_cons_zero, List.getElem_cons_succ, Act.put, List.setIfInBounds_toArray, List.set_cons_zero, List.set_cons_succ]
              refine wpAnyH_take (i := 2) (v := ?v2) rfl (by kernel_rfl) (by kernel_rfl) (by kernel_rfl) (fun _ _ _ h => h) (Or.inl ⟨by rfl, ?hy2⟩) (by assumption) ?rest2
              case hy2 => (intro W9 hSw; (try dsimp only at hSw); go_simp; try with_reducible rfl)
              try simp only [List.getElem_toArray, List.getElem_cons_zero, List.getElem_cons_succ, Act.put, List.setIfInBounds_toArray, List.set_cons_zero, List.set_cons_succ]
              refine wpAnyH_take (i := 3) (v := ?v3) rfl (by kernel_rfl) (by kernel_rfl) (by kernel_rfl) (fun _ _ _ h => h) (Or.inl ⟨by rfl, ?hy3⟩) (by assumption) ?rest3
              case hy3 => (intro W9 hSw; (try dsimp only at hSw); go_simp; try with_reducible rfl)
              try simp only [List.getElem_toArray, List.getElem_cons_zero, List.getElem_cons_succ, Act.put, List.setIfInBounds_toArray, List.set_cons_zero, List.set_cons_succ]
              refine wpAnyH_take (i := 4) (v := ?v4) rfl (by kernel_rfl) (by kernel_rfl) (by kernel_rfl) (fun _ _ _ h => h) (Or.inl ⟨by rfl, ?hy4⟩) (by assumption) ?rest4
              case hy4 => (intro W9 hSw; (try dsimp only at hSw); go_simp; try with_reducible rfl)
              try simp only [List.getElem_toArray, List.getElem_cons_zero, List.getElem_cons_succ, Act.put, List.setIfInBounds_toArray, List.set_cons_zero, List.set_cons_succ]
              refine wpAnyH_take (i := 5) (v := ?v5) rfl (by kernel_rfl) (by kernel_rfl) (by kernel_rfl) (fun _ _ _ h => h) (Or.inl ⟨by rfl, ?hy5⟩) (by assumption) ?rest5
              case hy5 => (intro W9 hSw; (try dsimp only at hSw); go_simp; try with_reducible rfl)
              try simp only [List.getElem_toArray, List.getElem_cons_zero, List.getElem_cons_succ, Act.put, List.setIfInBounds_toArray, List.set_cons_zero, List.set_cons_succ]
              refine wpAnyH_ready (rs := [0, 6]) (by kernel_rfl) (by simp) ?_
              refine AllReadyH.cons rfl (fun K hK => ?_) (AllReadyH.cons rfl (fun K hK => ?_) (AllReadyH.nil))
              · skip
                go_simp
                refine hK.out _ _ ?_ (fun hHeld => ?_)
                · exact HS0.out
                clear hK K
                try dsimp only at hHeld
                try simp only [List.getElem_toArray, List.getElem_cons_zero, List.getElem_cons_succ, Act.put, List.setIfInBounds_toArray, List.set_cons_zero, List.set_cons_succ]
                refine wpAnyH_ready (rs := [6]) (by kernel_rfl) (by simp) ?_
                refine AllReadyH.cons rfl (fun K hK => ?_) (AllReadyH.nil)
                go_simp
                refine (hov _).mono ?_
                rintro e w3 ⟨rfl, b3⟩
                have s3 := HS0.out.of (b3.block c1 (by omega)) (b3.block bb hbw) (b3.block g (by omega))
                have H3 : Held c0 (c1 + 3) v2 F2 w3 := ⟨(b3.block c0 (by omega)).trans HH0.out.cell, own_below HH0.out.own b3 (Nat.le_refl _), HH0.out.low⟩
                have k3 : w3.cell? ⟨c0, 0, none⟩ = some v2 := by rw [Lib.cell_of_heap H3.cell]; rfl
                have hw3 : c1 + 3 ≤ w3.heap.size := by have := b3.size; omega
                have HS3 := Lib.hid s3; have HH3 := Lib.hid H3; have HB3 := Lib.hid b3
                clear s3 H3 b3
                go_wp2_with fail
                refine hK.out _ _ ?_ (fun hHeld => ?_)
                · exact HS3.out
                clear hK K
                try dsimp only at hHeld
                try simp only [List.getElem_toArray, List.getElem_cons_zero, List.getElem_cons_succ, Act.put, List.setIfInBounds_toArray, List.set_cons_zero, List.set_cons_succ]
                refine wpAnyH_ready (rs := [7]) (by kernel_rfl) (by simp) ?_
                refine AllReadyH.cons rfl (fun K hK => ?_) (AllReadyH.nil)
                go_simp
                have s4 := HS3.out.of (Below.heap_alloc w3 (.cells #[.int .i32 u1, .int .i32 u2] 41) c1 (by omega)) (Below.heap_alloc w3 (.cells #[.int .i32 u1, .int .i32 u2] 41) bb (by have := HB3.out.size; omega)) (Below.heap_alloc w3 (.cells #[.int .i32 u1, .int .i32 u2] 41) g (by omega))
                have k4 : (w3.alloc (.cells #[.int .i32 u1, .int .i32 u2] 41)).cell? ⟨c0, 0, none⟩ = some v2 := (World.cell?_of_block (a := ⟨c0, 0, none⟩) (Below.heap_alloc w3 (.cells #[.int .i32 u1, .int .i32 u2] 41) c0 (by omega))).trans k3
                have HS4 := Lib.hid s4
                clear s4
                refine hK.out _ _ ?_ (fun hHeld => ?_)
                · exact HS4.out
                clear hK K
                try dsimp only at hHeld
                try simp only [List.getElem_toArray, List.getElem_cons_zero, List.getElem_cons_succ, Act.put, List.setIfInBounds_toArray, List.set_cons_zero, List.set_cons_succ]
                refine wpAnyH_ready (rs := [8]) (by kernel_rfl) (by simp) ?_
                refine AllReadyH.cons rfl (fun K hK => ?_) (AllReadyH.nil)
                refine step_app_at rfl _ _ rfl (c1 + 3) v2 F2 w3 HH3.out.own rfl (u1, u2) 1 _ rfl rfl hlen hw3 ?_
                intro v5 w5 h1 h2 h3
                obtain ⟨ao5, n5, c5, rfl⟩ := own_shape h1
                have hne5 : ∀ k, k < c1 + 3 → some k ≠ v2.ownBlock := fun k hk e => by have := (HH3.out.own.lt k e.symm).1; omega
                have hbb5 : some bb ≠ v2.ownBlock := fun e => by have h5 := HV0.out bb e.symm; rcases h5 with h5 | h5; have := HH.out.own.lt _ h5; omega; omega
                have hc5 := (h2.block c0 (by omega) (hne5 c0 (by omega))).trans HH3.out.cell
                have k5 : w5.cell? ⟨c0, 0, none⟩ = some v2 := by rw [Lib.cell_of_heap hc5]; rfl
                have f5 : w5.frozen? ⟨c0, 0, none⟩ = false := Lib.frozen_of_heap hc5 0
                have s5 := HS3.out.of (h2.block c1 (by omega) (hne5 c1 (by omega))) (h2.block bb (by have := HB3.out.size; omega) hbb5) (h2.block g (by omega) (hne5 g (by omega)))
                have s6 := s5.of (Below.heap_setCell w5 ⟨c0, 0, none⟩ (.slice ao5 n5 c5) c1 (by show c1 ≠ c0; omega)) (Below.heap_setCell w5 ⟨c0, 0, none⟩ (.slice ao5 n5 c5) bb (by show bb ≠ c0; omega)) (Below.heap_setCell w5 ⟨c0, 0, none⟩ (.slice ao5 n5 c5) g (by show g ≠ c0; omega))
                have HN : Hid (Held c0 (c1 + 3) (.slice ao5 n5 c5) (F2 ++ [(u1, u2)]) (w5.setCell ⟨c0, 0, none⟩ (.slice ao5 n5 c5))) := Lib.hid ⟨by simp [World.setCell, Array.getElem?_modify, hc5], World.ownsRow.kept (row := some c0) h1 grown_set (.inr (fun e => by have := (h1.lt c0 e).1; omega)), by omega⟩
                have HFR : Hid (W2.heap.size ≤ (w5.setCell ⟨c0, 0, none⟩ (.slice ao5 n5 c5)).heap.size ∧ (∀ k, k < W2.heap.size → k ≠ c0 → v.ownBlock ≠ some k → (w5.setCell ⟨c0, 0, none⟩ (.slice ao5 n5 c5)).heap[k]? = W2.heap[k]?) ∧ ((w5.setCell ⟨c0, 0, none⟩ (.slice ao5 n5 c5)).os = W2.os ∧ (w5.setCell ⟨c0, 0, none⟩ (.slice ao5 n5 c5)).tape = W2.tape ∧ (w5.setCell ⟨c0, 0, none⟩ (.slice ao5 n5 c5)).output = W2.output)) := Lib.hid (inter_frame HF0.out HB3.out h2 HV0.out)
                have HBL : Hid (∀ k, (Value.slice ao5 n5 c5).ownBlock = some k → v.ownBlock = some k ∨ W2.heap.size ≤ k) := Lib.hid (fun k e => by have h6 := HF0.out.1; have h7 := HB3.out.size; rcases h3 k e with h5 | h5; exact HV0.out k h5; exact .inr (by omega))
                have HS5 := Lib.hid s5; have HS6 := Lib.hid s6
                clear s5 s6 h1 h2 h3 hc5
                refine hK.out _ _ ?_ (fun hHeld => ?_)
                · exact HS5.out
                clear hK K
                try dsimp only at hHeld
                try simp only [List.getElem_toArray, List.getElem_cons_zero, List.getElem_cons_succ, Act.put, List.setIfInBounds_toArray, List.set_cons_zero, List.set_cons_succ]
                refine wpAnyH_ready (rs := [9]) (by kernel_rfl) (by simp) ?_
                refine AllReadyH.cons rfl (fun K hK => ?_) (AllReadyH.nil)
                go_simp
                refine hK.out _ _ ?_ (fun hHeld => ?_)
                · exact HS6.out
                clear hK K
                try dsimp only at hHeld
                try simp only [List.getElem_toArray, List.getElem_cons_zero, List.getElem_cons_succ, Act.put, List.setIfInBounds_toArray, List.set_cons_zero, List.set_cons_succ]
                refine wpAnyH_done (by kernel_rfl) ?_ _
                go_wp2
                subst hbb
                go_roundw
                case rel => exact ⟨p ++ [(q1, q2)], r3, _, by simp, Lib.hid (by rw [List.append_assoc]; exact HL.out), hXX, Lib.hid (by rw [HF2.out]; exact HN.out), HFR, HBL⟩
                case measure => simp [intOf]; omega
              · skip
                go_simp
                refine (hov _).mono ?_
                rintro e w3 ⟨rfl, b3⟩
                have s3 := HS0.out.of (b3.block c1 (by omega)) (b3.block bb hbw) (b3.block g (by omega))
                have H3 : Held c0 (c1 + 3) v2 F2 w3 := ⟨(b3.block c0 (by omega)).trans HH0.out.cell, own_below HH0.out.own b3 (Nat.le_refl _), HH0.out.low⟩
                have k3 : w3.cell? ⟨c0, 0, none⟩ = some v2 := by rw [Lib.cell_of_heap H3.cell]; rfl
                have hw3 : c1 + 3 ≤ w3.heap.size := by have := b3.size; omega
                have HS3 := Lib.hid s3; have HH3 := Lib.hid H3; have HB3 := Lib.hid b3
                clear s3 H3 b3
                go_wp2_with fail
                refine hK.out _ _ ?_ (fun hHeld => ?_)
                · exact HS3.out
                clear hK K
                try dsimp only at hHeld
                try simp only [List.getElem_toArray, List.getElem_cons_zero, List.getElem_cons_succ, Act.put, List.setIfInBounds_toArray, List.set_cons_zero, List.set_cons_succ]
                refine wpAnyH_ready (rs := [0, 7]) (by kernel_rfl) (by simp) ?_
                refine AllReadyH.cons rfl (fun K hK => ?_) (AllReadyH.cons rfl (fun K hK => ?_) (AllReadyH.nil))
                · skip
                  go_simp
                  refine hK.out _ _ ?_ (fun hHeld => ?_)
                  · exact HS3.out
                  clear hK K
                  try dsimp only at hHeld
                  try simp only [List.getElem_toArray, List.getElem_cons_zero, List.getElem_cons_succ, Act.put, List.setIfInBounds_toArray, List.set_cons_zero, List.set_cons_succ]
                  refine wpAnyH_ready (rs := [7]) (by kernel_rfl) (by simp) ?_
                  refine AllReadyH.cons rfl (fun K hK => ?_) (AllReadyH.nil)
                  go_simp
                  have s4 := HS3.out.of (Below.heap_alloc w3 (.cells #[.int .i32 u1, .int .i32 u2] 41) c1 (by omega)) (Below.heap_alloc w3 (.cells #[.int .i32 u1, .int .i32 u2] 41) bb (by have := HB3.out.size; omega)) (Below.heap_alloc w3 (.cells #[.int .i32 u1, .int .i32 u2] 41) g (by omega))
                  have k4 : (w3.alloc (.cells #[.int .i32 u1, .int .i32 u2] 41)).cell? ⟨c0, 0, none⟩ = some v2 := (World.cell?_of_block (a := ⟨c0, 0, none⟩) (Below.heap_alloc w3 (.cells #[.int .i32 u1, .int .i32 u2] 41) c0 (by omega))).trans k3
                  have HS4 := Lib.hid s4
                  clear s4
                  refine hK.out _ _ ?_ (fun hHeld => ?_)
                  · exact HS4.out
                  clear hK K
                  try dsimp only at hHeld
                  try simp only [List.getElem_toArray, List.getElem_cons_zero, List.getElem_cons_succ, Act.put, List.setIfInBounds_toArray, List.set_cons_zero, List.set_cons_succ]
                  refine wpAnyH_ready (rs := [8]) (by kernel_rfl) (by simp) ?_
                  refine AllReadyH.cons rfl (fun K hK => ?_) (AllReadyH.nil)
                  refine step_app_at rfl _ _ rfl (c1 + 3) v2 F2 w3 HH3.out.own rfl (u1, u2) 1 _ rfl rfl hlen hw3 ?_
                  intro v5 w5 h1 h2 h3
                  obtain ⟨ao5, n5, c5, rfl⟩ := own_shape h1
                  have hne5 : ∀ k, k < c1 + 3 → some k ≠ v2.ownBlock := fun k hk e => by have := (HH3.out.own.lt k e.symm).1; omega
                  have hbb5 : some bb ≠ v2.ownBlock := fun e => by have h5 := HV0.out bb e.symm; rcases h5 with h5 | h5; have := HH.out.own.lt _ h5; omega; omega
                  have hc5 := (h2.block c0 (by omega) (hne5 c0 (by omega))).trans HH3.out.cell
                  have k5 : w5.cell? ⟨c0, 0, none⟩ = some v2 := by rw [Lib.cell_of_heap hc5]; rfl
                  have f5 : w5.frozen? ⟨c0, 0, none⟩ = false := Lib.frozen_of_heap hc5 0
                  have s5 := HS3.out.of (h2.block c1 (by omega) (hne5 c1 (by omega))) (h2.block bb (by have := HB3.out.size; omega) hbb5) (h2.block g (by omega) (hne5 g (by omega)))
                  have s6 := s5.of (Below.heap_setCell w5 ⟨c0, 0, none⟩ (.slice ao5 n5 c5) c1 (by show c1 ≠ c0; omega)) (Below.heap_setCell w5 ⟨c0, 0, none⟩ (.slice ao5 n5 c5) bb (by show bb ≠ c0; omega)) (Below.heap_setCell w5 ⟨c0, 0, none⟩ (.slice ao5 n5 c5) g (by show g ≠ c0; omega))
                  have HN : Hid (Held c0 (c1 + 3) (.slice ao5 n5 c5) (F2 ++ [(u1, u2)]) (w5.setCell ⟨c0, 0, none⟩ (.slice ao5 n5 c5))) := Lib.hid ⟨by simp [World.setCell, Array.getElem?_modify, hc5], World.ownsRow.kept (row := some c0) h1 grown_set (.inr (fun e => by have := (h1.lt c0 e).1; omega)), by omega⟩
                  have HFR : Hid (W2.heap.size ≤ (w5.setCell ⟨c0, 0, none⟩ (.slice ao5 n5 c5)).heap.size ∧ (∀ k, k < W2.heap.size → k ≠ c0 → v.ownBlock ≠ some k → (w5.setCell ⟨c0, 0, none⟩ (.slice ao5 n5 c5)).heap[k]? = W2.heap[k]?) ∧ ((w5.setCell ⟨c0, 0, none⟩ (.slice ao5 n5 c5)).os = W2.os ∧ (w5.setCell ⟨c0, 0, none⟩ (.slice ao5 n5 c5)).tape = W2.tape ∧ (w5.setCell ⟨c0, 0, none⟩ (.slice ao5 n5 c5)).output = W2.output)) := Lib.hid (inter_frame HF0.out HB3.out h2 HV0.out)
                  have HBL : Hid (∀ k, (Value.slice ao5 n5 c5).ownBlock = some k → v.ownBlock = some k ∨ W2.heap.size ≤ k) := Lib.hid (fun k e => by have h6 := HF0.out.1; have h7 := HB3.out.size; rcases h3 k e with h5 | h5; exact HV0.out k h5; exact .inr (by omega))
                  have HS5 := Lib.hid s5; have HS6 := Lib.hid s6
                  clear s5 s6 h1 h2 h3 hc5
                  refine hK.out _ _ ?_ (fun hHeld => ?_)
                  · exact HS5.out
                  clear hK K
                  try dsimp only at hHeld
                  try simp only [List.getElem_toArray, List.getElem_cons_zero, List.getElem_cons_succ, Act.put, List.setIfInBounds_toArray, List.set_cons_zero, List.set_cons_succ]
                  refine wpAnyH_ready (rs := [9]) (by kernel_rfl) (by simp) ?_
                  refine AllReadyH.cons rfl (fun K hK => ?_) (AllReadyH.nil)
                  go_simp
                  refine hK.out _ _ ?_ (fun hHeld => ?_)
                  · exact HS6.out
                  clear hK K
                  try dsimp only at hHeld
                  try simp only [List.getElem_toArray, List.getElem_cons_zero, List.getElem_cons_succ, Act.put, List.setIfInBounds_toArray, List.set_cons_zero, List.set_cons_succ]
                  refine wpAnyH_done (by kernel_rfl) ?_ _
                  go_wp2
                  subst hbb
                  go_roundw
                  case rel => exact ⟨p ++ [(q1, q2)], r3, _, by simp, Lib.hid (by rw [List.append_assoc]; exact HL.out), hXX, Lib.hid (by rw [HF2.out]; exact HN.out), HFR, HBL⟩
                  case measure => simp [intOf]; omega
                · skip
                  go_simp
                  have s4 := HS3.out.of (Below.heap_alloc w3 (.cells #[.int .i32 u1, .int .i32 u2] 41) c1 (by omega)) (Below.heap_alloc w3 (.cells #[.int .i32 u1, .int .i32 u2] 41) bb (by have := HB3.out.size; omega)) (Below.heap_alloc w3 (.cells #[.int .i32 u1, .int .i32 u2] 41) g (by omega))
                  have k4 : (w3.alloc (.cells #[.int .i32 u1, .int .i32 u2] 41)).cell? ⟨c0, 0, none⟩ = some v2 := (World.cell?_of_block (a := ⟨c0, 0, none⟩) (Below.heap_alloc w3 (.cells #[.int .i32 u1, .int .i32 u2] 41) c0 (by omega))).trans k3
                  have HS4 := Lib.hid s4
                  clear s4
                  refine hK.out _ _ ?_ (fun hHeld => ?_)
                  · exact HS4.out
                  clear hK K
                  try dsimp only at hHeld
                  try simp only [List.getElem_toArray, List.getElem_cons_zero, List.getElem_cons_succ, Act.put, List.setIfInBounds_toArray, List.set_cons_zero, List.set_cons_succ]
                  refine wpAnyH_ready (rs := [0]) (by kernel_rfl) (by simp) ?_
                  refine AllReadyH.cons rfl (fun K hK => ?_) (AllReadyH.nil)
                  go_simp
                  refine hK.out _ _ ?_ (fun hHeld => ?_)
                  · exact HS4.out
                  clear hK K
                  try dsimp only at hHeld
                  try simp only [List.getElem_toArray, List.getElem_cons_zero, List.getElem_cons_succ, Act.put, List.setIfInBounds_toArray, List.set_cons_zero, List.set_cons_succ]
                  refine wpAnyH_ready (rs := [8]) (by kernel_rfl) (by simp) ?_
                  refine AllReadyH.cons rfl (fun K hK => ?_) (AllReadyH.nil)
                  refine step_app_at rfl _ _ rfl (c1 + 3) v2 F2 w3 HH3.out.own rfl (u1, u2) 1 _ rfl rfl hlen hw3 ?_
                  intro v5 w5 h1 h2 h3
                  obtain ⟨ao5, n5, c5, rfl⟩ := own_shape h1
                  have hne5 : ∀ k, k < c1 + 3 → some k ≠ v2.ownBlock := fun k hk e => by have := (HH3.out.own.lt k e.symm).1; omega
                  have hbb5 : some bb ≠ v2.ownBlock := fun e => by have h5 := HV0.out bb e.symm; rcases h5 with h5 | h5; have := HH.out.own.lt _ h5; omega; omega
                  have hc5 := (h2.block c0 (by omega) (hne5 c0 (by omega))).trans HH3.out.cell
                  have k5 : w5.cell? ⟨c0, 0, none⟩ = some v2 := by rw [Lib.cell_of_heap hc5]; rfl
                  have f5 : w5.frozen? ⟨c0, 0, none⟩ = false := Lib.frozen_of_heap hc5 0
                  have s5 := HS3.out.of (h2.block c1 (by omega) (hne5 c1 (by omega))) (h2.block bb (by have := HB3.out.size; omega) hbb5) (h2.block g (by omega) (hne5 g (by omega)))
                  have s6 := s5.of (Below.heap_setCell w5 ⟨c0, 0, none⟩ (.slice ao5 n5 c5) c1 (by show c1 ≠ c0; omega)) (Below.heap_setCell w5 ⟨c0, 0, none⟩ (.slice ao5 n5 c5) bb (by show bb ≠ c0; omega)) (Below.heap_setCell w5 ⟨c0, 0, none⟩ (.slice ao5 n5 c5) g (by show g ≠ c0; omega))
                  have HN : Hid (Held c0 (c1 + 3) (.slice ao5 n5 c5) (F2 ++ [(u1, u2)]) (w5.setCell ⟨c0, 0, none⟩ (.slice ao5 n5 c5))) := Lib.hid ⟨by simp [World.setCell, Array.getElem?_modify, hc5], World.ownsRow.kept (row := some c0) h1 grown_set (.inr (fun e => by have := (h1.lt c0 e).1; omega)), by omega⟩
                  have HFR : Hid (W2.heap.size ≤ (w5.setCell ⟨c0, 0, none⟩ (.slice ao5 n5 c5)).heap.size ∧ (∀ k, k < W2.heap.size → k ≠ c0 → v.ownBlock ≠ some k → (w5.setCell ⟨c0, 0, none⟩ (.slice ao5 n5 c5)).heap[k]? = W2.heap[k]?) ∧ ((w5.setCell ⟨c0, 0, none⟩ (.slice ao5 n5 c5)).os = W2.os ∧ (w5.setCell ⟨c0, 0, none⟩ (.slice ao5 n5 c5)).tape = W2.tape ∧ (w5.setCell ⟨c0, 0, none⟩ (.slice ao5 n5 c5)).output = W2.output)) := Lib.hid (inter_frame HF0.out HB3.out h2 HV0.out)
                  have HBL : Hid (∀ k, (Value.slice ao5 n5 c5).ownBlock = some k → v.ownBlock = some k ∨ W2.heap.size ≤ k) := Lib.hid (fun k e => by have h6 := HF0.out.1; have h7 := HB3.out.size; rcases h3 k e with h5 | h5; exact HV0.out k h5; exact .inr (by omega))
                  have HS5 := Lib.hid s5; have HS6 := Lib.hid s6
                  clear s5 s6 h1 h2 h3 hc5
                  refine hK.out _ _ ?_ (fun hHeld => ?_)
                  · exact HS5.out
                  clear hK K
                  try dsimp only at hHeld
                  try simp only [List.getElem_toArray, List.getElem_cons_zero, List.getElem_cons_succ, Act.put, List.setIfInBounds_toArray, List.set_cons_zero, List.set_cons_succ]
                  refine wpAnyH_ready (rs := [9]) (by kernel_rfl) (by simp) ?_
                  refine AllReadyH.cons rfl (fun K hK => ?_) (AllReadyH.nil)
                  go_simp
                  refine hK.out _ _ ?_ (fun hHeld => ?_)
                  · exact HS6.out
                  clear hK K
                  try dsimp only at hHeld
                  try simp only [List.getElem_toArray, List.getElem_cons_zero, List.getElem_cons_succ, Act.put, List.setIfInBounds_toArray, List.set_cons_zero, List.set_cons_succ]
                  refine wpAnyH_done (by kernel_rfl) ?_ _
                  go_wp2
                  subst hbb
                  go_roundw
                  case rel => exact ⟨p ++ [(q1, q2)], r3, _, by simp, Lib.hid (by rw [List.append_assoc]; exact HL.out), hXX, Lib.hid (by rw [HF2.out]; exact HN.out), HFR, HBL⟩
                  case measure => simp [intOf]; omega

            · have hdq : decide (q1 ≤ hi) = false := decide_eq_false hq
              have hXX : Hid (hitR (lo, hi) D = p.map (ovR (lo, hi))) := Lib.hid (by have := hX.out; rw [hitR, if_neg hq, List.append_nil] at this; exact this)
              clear hq
              go_wp2
              go_quiet (fail)
              rename_i nq2
              go_wp2
              go_end0
              exact inter_fin hDD.out hXX.out C2.out hcp HRW.out G2.out HVB.out h01 hb hH.out hF.out hV.out _
end Go.Proofs.Ytpmcnmlpkpoopaa
