/- charset.add: a range at the end of an own row. -/
import Derived.Test.YtpmcnmlpkpoopaaB
namespace Go.Proofs.Ytpmcnmlpkpoopaa
open Go.RowKit

theorem infoRange : (Try.prog.info? 41).map (fun i => (i.zero, i.size, i.bytes)) = some (some (.agg #[.int .i32 0, .int .i32 0]), 2, 8) := by kernel_rfl
theorem info_parts {t : TypeId} {z : Value} {n b : Nat} (h : (Try.prog.info? t).map (fun i => (i.zero, i.size, i.bytes)) = some (some z, n, b)) : ∃ i, Try.prog.info? t = some i ∧ i.zero = some z ∧ i.size = n ∧ i.bytes = b := by
  cases hi : Try.prog.info? t with
  | none => rw [hi] at h; cases h
  | some i => rw [hi] at h; simp at h; exact ⟨i, rfl, h.1, h.2.1, h.2.2⟩
theorem range_row {W : World} {r : Rg} {t : TypeId} : ∀ j u, [Value.int .i32 r.1, Value.int .i32 r.2][j]? = some u → (W.alloc (Obj.cells #[Value.int .i32 r.1, Value.int .i32 r.2] t)).cell? ((⟨W.heap.size, 0, none⟩ : Addr).add j) = some u := by
  intro j u hj
  have hb := World.alloc_heap_new W (Obj.cells #[Value.int .i32 r.1, Value.int .i32 r.2] t)
  match j, hj with
  | 0, hj => simp at hj; subst hj; rw [show ((⟨W.heap.size, 0, none⟩ : Addr).add 0) = ⟨W.heap.size, 0, none⟩ by simp [Addr.add], Lib.cell_of_heap hb]; rfl
  | 1, hj => simp at hj; subst hj; rw [show ((⟨W.heap.size, 0, none⟩ : Addr).add 1) = ⟨W.heap.size, 1, none⟩ by simp [Addr.add], Lib.cell_of_heap hb]; rfl
  | j + 2, hj => simp at hj
/-- append of one range to an own row. -/
theorem wp_app_rg {ops : Array Oper} {rest : List Oper} {o : Oper} {a : Act} {Q : Exit → Act → World → Prop} (hgd : o.guard = none) (s x : Operand)
    (ho : o.op = .call { callee := .builtin .append, args := #[s, x], argTypes := #[24, 24] })
    (base : Nat) (v : Value) (L : List Rg) (W : World) (hown : W.ownsRow base 41 2 v L.length (rgCells L)) (hs : a.eval s = v) (r : Rg) (c k : Nat)
    (hx : a.eval x = .slice (some ⟨k, 0, none⟩) 1 c) (hk : W.heap.size = k) (hn : L.length < 1000000) (hb : base ≤ W.heap.size)
    (h : ∀ v' w', w'.ownsRow base 41 2 v' (L ++ [r]).length (rgCells (L ++ [r])) → W.grownBy w' v.ownBlock → wpList Try.prog ops Q rest (a.put o.dst v') w') :
    wpList Try.prog ops Q (o :: rest) a (W.alloc (.cells #[.int .i32 r.1, .int .i32 r.2] 41)) := by
  subst hk
  obtain ⟨i0, hi, hz0, hz1, hz2⟩ := info_parts infoRange
  refine wpList_append_own _ hgd s x 24 ho base 41 i0 (.agg #[.int .i32 0, .int .i32 0]) 2 8 Try.underlying24 hi hz0 hz1 hz2 rfl (by decide) v L.length (rgCells L) hs (hown.alloc _) ⟨W.heap.size, 0, none⟩ 1 c [.int .i32 r.1, .int .i32 r.2] hx rfl
    range_row (fun u hu => by simp at hu; rcases hu with rfl | rfl <;> rfl) (by unfold maxLen; omega) (by omega) (by simp; omega) ?_
  intro v' w' h1 h2 _
  refine h v' w' ?_ ?_
  · rw [rgCells_app, List.length_append]
    exact h1
  · exact ⟨h2.os, h2.tape, h2.output, Nat.le_trans (by simp) h2.size, fun k hk hne => (h2.block k (by simp; omega) hne).trans (Below.heap_alloc _ _ _ hk)⟩

theorem own_last {w : World} {base : Nat} {v : Value} {T : List Rg} {q : Rg} (h : w.ownsRow base 41 2 v (T ++ [q]).length (rgCells (T ++ [q]))) :
    ∃ g cap, v = .slice (some ⟨g, 0, none⟩) (T.length + 1) cap ∧ base ≤ g ∧ g < w.heap.size ∧ w.cell? ⟨g, T.length * 2, none⟩ = some (.int .i32 q.1) ∧ w.cell? ⟨g, T.length * 2 + 1, none⟩ = some (.int .i32 q.2) ∧
      (∀ j, w.frozen? ⟨g, j, none⟩ = false) ∧ ∀ y : Int, (w.setCell ⟨g, T.length * 2 + 1, none⟩ (.int .i32 y)).ownsRow base 41 2 v (T ++ [(q.1, y)]).length (rgCells (T ++ [(q.1, y)])) := by
  obtain ⟨h1, ⟨rfl, h2⟩ | ⟨g, cap, cur, rfl, h3, h4, h5, h6, h7, h8⟩⟩ := h
  · simp at h2
  · have hl : (T ++ [q]).length = T.length + 1 := by simp
    rw [hl] at h5 h8 ⊢
    have hcur : ∀ j, j < (T.length + 1) * 2 → cur.toList[j]? = (rgCells (T ++ [q]))[j]? := fun j hj => by rw [← h8, List.getElem?_take_of_lt hj]
    have hT := rgCells_length T
    have hc : ∀ j u, j < (T.length + 1) * 2 → (rgCells (T ++ [q]))[j]? = some u → w.cell? ⟨g, j, none⟩ = some u := fun j u hj hu => by
      rw [Lib.cell_of_heap h4, ← Array.getElem?_toList, hcur j hj, hu]
    refine ⟨g, cap, rfl, h3, (Array.getElem?_eq_some_iff.1 h4).1, hc _ _ (by omega) ?_, hc _ _ (by omega) ?_, fun j => Lib.frozen_of_heap h4 j, fun y => ?_⟩
    · rw [rgCells_app, List.getElem?_append_right (by omega), hT, Nat.sub_self]; rfl
    · rw [rgCells_app, List.getElem?_append_right (by omega), hT, Nat.add_sub_cancel_left]; rfl
    · refine ⟨rgCells_length _, .inr ⟨g, cap, cur.setIfInBounds (T.length * 2 + 1) (.int .i32 y), by simp, h3, ?_, by simp; omega, h6, by simpa using h7, ?_⟩⟩
      · simp [World.setCell, Array.getElem?_modify, h4]
      · have hl2 : (T ++ [(q.1, y)]).length = T.length + 1 := by simp
        rw [hl2, Array.toList_setIfInBounds, List.take_set, h8, rgCells_app, rgCells_app, List.set_append, if_neg (by omega), hT, Nat.add_sub_cancel_left]
        rfl
theorem grown_drewN {w w' : World} {row : Option Nat} (h : w.grownBy w' row) (n : Nat) : w.grownBy (w'.drewN n) row := ⟨h.os, h.tape, h.output, h.size, h.block⟩
theorem grown_drew {w w' : World} {row : Option Nat} (h : w.grownBy w' row) : w.grownBy w'.drew row := ⟨h.os, h.tape, h.output, h.size, h.block⟩
theorem grown_of_alloc {w w' : World} {o : Obj} {row : Option Nat} (h : (w.alloc o).grownBy w' row) : w.grownBy w' row :=
  ⟨h.os, h.tape, h.output, Nat.le_trans (by simp) h.size, fun k hk hne => (h.block k (by simp; omega) hne).trans (Below.heap_alloc _ _ _ hk)⟩
theorem grown_set {w : World} {g o : Nat} {u : Value} : w.grownBy (w.setCell ⟨g, o, none⟩ u) (some g) :=
  ⟨rfl, rfl, rfl, by simp [World.setCell], fun k _ hne => Below.heap_setCell _ _ _ _ (fun e => hne (by rw [e]))⟩

theorem own_drewN {w : World} {b : Nat} {e : TypeId} {sz n : Nat} {v : Value} {xs : List Value} (h : w.ownsRow b e sz v n xs) (q : Nat) : (w.drewN q).ownsRow b e sz v n xs := h
theorem grown_trans {a b c : World} {row : Option Nat} (h : a.grownBy b row) (k : b.grownBy c row) : a.grownBy c row :=
  ⟨k.os.trans h.os, k.tape.trans h.tape, k.output.trans h.output, Nat.le_trans h.size k.size, fun i hi hne => (k.block i (Nat.lt_of_lt_of_le hi h.size) hne).trans (h.block i hi hne)⟩

set_option maxHeartbeats 2000000 in
theorem add_any (v : Value) (L : List Rg) (base : Nat) (r : Rg) (w : World) (h : w.ownsRow base 41 2 v L.length (rgCells L)) (hb : base ≤ w.heap.size) (hN : L.length < 1000000) (hok : ∀ q ∈ L, okR q) :
    Calls Try.prog 35 #[v, rgV r] w fun e w' => ∃ v', e = .returned v' ∧ w'.ownsRow base 41 2 v' (addL L r).length (rgCells (addL L r)) ∧ w.grownBy w' v.ownBlock := by
  have x := RgAt.new w r
  have hz : (w.alloc (.cells #[.int .i32 r.1, .int .i32 r.2] 41)).heap.size = w.heap.size + 1 := by simp
  have H := Lib.hid h
  rcases List.eq_nil_or_concat L with rfl | ⟨T, q, rfl⟩
  · have HL : Hid (addL [] r = [] ++ [r]) := rfl
    rcases h.2 with ⟨rfl, _⟩ | ⟨g, cap, cur, rfl, _⟩
    · clear h
      have x0 := x.c0; have x1 := x.c1
      go_enter Try.func35, Try.ntmps35
      go_wp2
      go_quiet (fail)
      rename_i nq
      have O1 := own_drewN (World.ownsRow.alloc H.out (.cells #[.int .i32 r.1, .int .i32 r.2] 41)) nq
      have Z1 : base ≤ ((w.alloc (.cells #[.int .i32 r.1, .int .i32 r.2] 41)).drewN nq).heap.size := by show base ≤ (w.alloc (.cells #[.int .i32 r.1, .int .i32 r.2] 41)).heap.size; omega
      have G1 : ∀ row, w.grownBy ((w.alloc (.cells #[.int .i32 r.1, .int .i32 r.2] 41)).drewN nq) row := fun row => grown_drewN (World.grownBy_alloc w _ row) nq
      have x0 := x.c0; have x1 := x.c1
      have Y0 : ((w.alloc (.cells #[.int .i32 r.1, .int .i32 r.2] 41)).drewN nq).cell? ⟨w.heap.size, 0, none⟩ = some (.int .i32 r.1) := x.c0
      have Y1 : ((w.alloc (.cells #[.int .i32 r.1, .int .i32 r.2] 41)).drewN nq).cell? ⟨w.heap.size, 1, none⟩ = some (.int .i32 r.2) := x.c1
      have W1 := Lib.hid G1
      clear G1
      generalize (w.alloc (.cells #[.int .i32 r.1, .int .i32 r.2] 41)).drewN nq = W at *
      clear x0 x1
      go_wp2_with (at_builtin; refine wp_app_rg rfl _ _ rfl base _ [] W O1 rfl r 1 _ rfl rfl hN Z1 ?_)
      intro v' w' h1 h2
      have H1 := Lib.hid h1; clear h1
      go_wp2
      go_ret
      exact ⟨_, rfl, by rw [HL.out]; exact H1.out, grown_trans (W1.out _) h2⟩
    · clear h
      have x0 := x.c0; have x1 := x.c1
      go_enter Try.func35, Try.ntmps35
      go_wp2
      go_quiet (fail)
      rename_i nq
      have O1 := own_drewN (World.ownsRow.alloc H.out (.cells #[.int .i32 r.1, .int .i32 r.2] 41)) nq
      have Z1 : base ≤ ((w.alloc (.cells #[.int .i32 r.1, .int .i32 r.2] 41)).drewN nq).heap.size := by show base ≤ (w.alloc (.cells #[.int .i32 r.1, .int .i32 r.2] 41)).heap.size; omega
      have G1 : ∀ row, w.grownBy ((w.alloc (.cells #[.int .i32 r.1, .int .i32 r.2] 41)).drewN nq) row := fun row => grown_drewN (World.grownBy_alloc w _ row) nq
      have x0 := x.c0; have x1 := x.c1
      have Y0 : ((w.alloc (.cells #[.int .i32 r.1, .int .i32 r.2] 41)).drewN nq).cell? ⟨w.heap.size, 0, none⟩ = some (.int .i32 r.1) := x.c0
      have Y1 : ((w.alloc (.cells #[.int .i32 r.1, .int .i32 r.2] 41)).drewN nq).cell? ⟨w.heap.size, 1, none⟩ = some (.int .i32 r.2) := x.c1
      have W1 := Lib.hid G1
      clear G1
      generalize (w.alloc (.cells #[.int .i32 r.1, .int .i32 r.2] 41)).drewN nq = W at *
      clear x0 x1
      go_wp2_with (at_builtin; refine wp_app_rg rfl _ _ rfl base _ [] W O1 rfl r 1 _ rfl rfl hN Z1 ?_)
      intro v' w' h1 h2
      have H1 := Lib.hid h1; clear h1
      go_wp2
      go_ret
      exact ⟨_, rfl, by rw [HL.out]; exact H1.out, grown_trans (W1.out _) h2⟩
  · rw [List.concat_eq_append] at *
    obtain ⟨g, cap, rfl, hbg, hg, c0, c1, cf, cs⟩ := own_last h
    have hq := hok q (by simp)
    have bl := (Below.refl w.heap.size w).alloc (Nat.le_refl _) (.cells #[.int .i32 r.1, .int .i32 r.2] 41)
    have d1 : (w.alloc (.cells #[.int .i32 r.1, .int .i32 r.2] 41)).cell? ⟨g, T.length * 2 + 1, none⟩ = some (.int .i32 q.2) := (bl.cell (p := ⟨g, T.length * 2 + 1, none⟩) hg).trans c1
    have df : (w.alloc (.cells #[.int .i32 r.1, .int .i32 r.2] 41)).frozen? ⟨g, T.length * 2 + 1, none⟩ = false := (bl.frozen (p := ⟨g, T.length * 2 + 1, none⟩) hg).trans (cf _)
    have hlen : (T ++ [q]).length = T.length + 1 := by simp
    have HE := Lib.hid hlen
    have hk : T.length < 1000000 := by omega
    have hneg : decide ((T.length : Int) < 0) = false := decide_eq_false (by omega)
    have hlt : (T.length : Int) < (T.length : Int) + 1 := by omega
    have hne : g ≠ w.heap.size := by omega
    clear h c0 c1 bl hok
    obtain ⟨q1, q2⟩ := q
    obtain ⟨o1, o2, o3⟩ := hq
    dsimp only at d1 o1 o2 o3 cs
    by_cases hfar : q2 + 1 < r.1
    · have HL : Hid (addL (T ++ [(q1, q2)]) r = (T ++ [(q1, q2)]) ++ [r]) := Lib.hid (by rw [addL_snoc, if_pos hfar]; simp)
      have hd : decide (q2 + 1 < r.1) = true := decide_eq_true hfar
      clear cs
      have x0 := x.c0; have x1 := x.c1
      go_enter Try.func35, Try.ntmps35
      go_wp2
      go_quiet (fail)
      rename_i nq
      have O1 := own_drewN (World.ownsRow.alloc H.out (.cells #[.int .i32 r.1, .int .i32 r.2] 41)) nq
      have Z1 : base ≤ ((w.alloc (.cells #[.int .i32 r.1, .int .i32 r.2] 41)).drewN nq).heap.size := by show base ≤ (w.alloc (.cells #[.int .i32 r.1, .int .i32 r.2] 41)).heap.size; omega
      have G1 : ∀ row, w.grownBy ((w.alloc (.cells #[.int .i32 r.1, .int .i32 r.2] 41)).drewN nq) row := fun row => grown_drewN (World.grownBy_alloc w _ row) nq
      have x0 := x.c0; have x1 := x.c1
      have Y0 : ((w.alloc (.cells #[.int .i32 r.1, .int .i32 r.2] 41)).drewN nq).cell? ⟨w.heap.size, 0, none⟩ = some (.int .i32 r.1) := x.c0
      have Y1 : ((w.alloc (.cells #[.int .i32 r.1, .int .i32 r.2] 41)).drewN nq).cell? ⟨w.heap.size, 1, none⟩ = some (.int .i32 r.2) := x.c1
      have W1 := Lib.hid G1
      clear G1
      generalize (w.alloc (.cells #[.int .i32 r.1, .int .i32 r.2] 41)).drewN nq = W at *
      clear x0 x1
      go_wp2_with (at_builtin; refine wp_app_rg rfl _ _ rfl base _ (T ++ [(q1, q2)]) W O1 rfl r 1 _ rfl rfl hN Z1 ?_)
      intro v' w' h1 h2
      have H1 := Lib.hid h1; clear h1
      go_wp2
      go_ret
      exact ⟨_, rfl, by rw [HL.out]; have e := H1.out; simp only [List.length_append, List.append_assoc, List.length_cons, List.length_nil, List.cons_append, List.nil_append] at e ⊢; exact e, grown_trans (W1.out _) h2⟩
    · have hd : decide (q2 + 1 < r.1) = false := decide_eq_false hfar
      clear cs
      have HL : Hid (addL (T ++ [(q1, q2)]) r = T ++ [(q1, max q2 r.2)]) := Lib.hid (by rw [addL_snoc, if_neg hfar])
      have x0 := x.c0; have x1 := x.c1
      go_enter Try.func35, Try.ntmps35
      go_wp2
      go_quiet (fail)
      rename_i nq
      have O1 := own_drewN (World.ownsRow.alloc H.out (.cells #[.int .i32 r.1, .int .i32 r.2] 41)) nq
      have G1 : ∀ row, w.grownBy ((w.alloc (.cells #[.int .i32 r.1, .int .i32 r.2] 41)).drewN nq) row := fun row => grown_drewN (World.grownBy_alloc w _ row) nq
      have Y0 : ((w.alloc (.cells #[.int .i32 r.1, .int .i32 r.2] 41)).drewN nq).cell? ⟨w.heap.size, 0, none⟩ = some (.int .i32 r.1) := x.c0
      have Y1 : ((w.alloc (.cells #[.int .i32 r.1, .int .i32 r.2] 41)).drewN nq).cell? ⟨w.heap.size, 1, none⟩ = some (.int .i32 r.2) := x.c1
      have W1 := Lib.hid G1
      clear G1
      generalize (w.alloc (.cells #[.int .i32 r.1, .int .i32 r.2] 41)).drewN nq = W at *
      clear x0 x1 d1 df
      obtain ⟨g2, cap2, e2, _, _, c0, c1, cf, cs⟩ := own_last O1
      obtain ⟨rfl, rfl⟩ : g = g2 ∧ cap = cap2 := by simpa using e2
      have c2 := cf (T.length * 2 + 1)
      have CS := Lib.hid (cs (max q2 r.2)); clear cs e2 O1 c0
      go_wp2
      go_region
      go_wp2
      go_ret
      exact ⟨_, rfl, by rw [HL.out]; exact CS.out, grown_trans (W1.out _) (grown_drew (grown_set (o := T.length * 2 + 1)))⟩
end Go.Proofs.Ytpmcnmlpkpoopaa
