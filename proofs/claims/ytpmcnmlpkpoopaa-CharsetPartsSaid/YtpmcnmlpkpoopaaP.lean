/- charset.piecesOf: pieces as data; its callback; any list of ranges. -/
import Derived.Test.YtpmcnmlpkpoopaaN
namespace Go.Proofs.Ytpmcnmlpkpoopaa
open Go.RowKit Go.Shelf

/-- A piece as plain data: its range, its class. -/
abbrev Pc := Rg × Int
abbrev pcV (p : Pc) : Value := .agg #[.int .i32 p.1.1, .int .i32 p.1.2, .int .i64 p.2]
def pcCells : List Pc → List Value
  | [] => []
  | p :: l => .int .i32 p.1.1 :: .int .i32 p.1.2 :: .int .i64 p.2 :: pcCells l
theorem pcCells_length : ∀ l : List Pc, (pcCells l).length = l.length * 3
  | [] => rfl
  | p :: l => by rw [pcCells, List.length_cons, List.length_cons, List.length_cons, pcCells_length l, List.length_cons]; omega
theorem pcCells_app : ∀ a b : List Pc, pcCells (a ++ b) = pcCells a ++ pcCells b
  | [], _ => rfl
  | p :: a, b => by rw [List.cons_append, pcCells, pcCells, pcCells_app a b]; rfl
theorem pcCells_at (pre : List Pc) (x : Pc) (rest : List Pc) : (pcCells (pre ++ x :: rest))[pre.length * 3]? = some (.int .i32 x.1.1) ∧ (pcCells (pre ++ x :: rest))[pre.length * 3 + 1]? = some (.int .i32 x.1.2) ∧ (pcCells (pre ++ x :: rest))[pre.length * 3 + 2]? = some (.int .i64 x.2) := by
  have h := pcCells_length pre
  rw [pcCells_app, List.getElem?_append_right (by omega), List.getElem?_append_right (by omega), List.getElem?_append_right (by omega), h, Nat.sub_self, Nat.add_sub_cancel_left, Nat.add_sub_cancel_left]
  exact ⟨rfl, rfl, rfl⟩
theorem infoPiece : (Try.prog.info? 58).map (fun i => (i.zero, i.size, i.bytes)) = some (some (.agg #[.int .i32 0, .int .i32 0, .int .i64 0]), 3, 16) := by kernel_rfl
theorem piece_row {W : World} {r : Pc} {t : TypeId} : ∀ j u, [Value.int .i32 r.1.1, Value.int .i32 r.1.2, Value.int .i64 r.2][j]? = some u → (W.alloc (Obj.cells #[Value.int .i32 r.1.1, Value.int .i32 r.1.2, Value.int .i64 r.2] t)).cell? ((⟨W.heap.size, 0, none⟩ : Addr).add j) = some u := by
  intro j u hj
  have hb := World.alloc_heap_new W (Obj.cells #[Value.int .i32 r.1.1, Value.int .i32 r.1.2, Value.int .i64 r.2] t)
  match j, hj with
  | 0, hj => simp at hj; subst hj; rw [show ((⟨W.heap.size, 0, none⟩ : Addr).add 0) = ⟨W.heap.size, 0, none⟩ by simp [Addr.add], Lib.cell_of_heap hb]; rfl
  | 1, hj => simp at hj; subst hj; rw [show ((⟨W.heap.size, 0, none⟩ : Addr).add 1) = ⟨W.heap.size, 1, none⟩ by simp [Addr.add], Lib.cell_of_heap hb]; rfl
  | 2, hj => simp at hj; subst hj; rw [show ((⟨W.heap.size, 0, none⟩ : Addr).add 2) = ⟨W.heap.size, 2, none⟩ by simp [Addr.add], Lib.cell_of_heap hb]; rfl
  | j + 3, hj => simp at hj
/-- append of one piece to an own row, and where the row lies. -/
theorem wp_app_pc {ops : Array Oper} {rest : List Oper} {o : Oper} {a : Act} {Q : Exit → Act → World → Prop} (hgd : o.guard = none) (s x : Operand)
    (ho : o.op = .call { callee := .builtin .append, args := #[s, x], argTypes := #[55, 55] })
    (base : Nat) (v : Value) (L : List Pc) (W : World) (hown : W.ownsRow base 58 3 v L.length (pcCells L)) (hs : a.eval s = v) (r : Pc) (c k : Nat)
    (hx : a.eval x = .slice (some ⟨k, 0, none⟩) 1 c) (hk : W.heap.size = k) (hn : L.length < 1000000) (hb : base ≤ W.heap.size)
    (h : ∀ v' w', w'.ownsRow base 58 3 v' (L ++ [r]).length (pcCells (L ++ [r])) → W.grownBy w' v.ownBlock → (∀ k, v'.ownBlock = some k → v.ownBlock = some k ∨ W.heap.size ≤ k) → wpList Try.prog ops Q rest (a.put o.dst v') w') :
    wpList Try.prog ops Q (o :: rest) a (W.alloc (.cells #[.int .i32 r.1.1, .int .i32 r.1.2, .int .i64 r.2] 58)) := by
  subst hk
  obtain ⟨i0, hi, hz0, hz1, hz2⟩ := info_parts infoPiece
  obtain ⟨v', w', hr, h1, h2, h3⟩ := app_own_at (W.alloc (.cells #[.int .i32 r.1.1, .int .i32 r.1.2, .int .i64 r.2] 58)) base 55 o.type 58 i0 (.agg #[.int .i32 0, .int .i32 0, .int .i64 0]) 3 16 Try.underlying55 hi hz0 hz1 hz2 rfl (by decide) v L.length (pcCells L) (hown.alloc _) ⟨W.heap.size, 0, none⟩ 1 c [.int .i32 r.1.1, .int .i32 r.1.2, .int .i64 r.2] rfl
    piece_row (fun u hu => by simp at hu; rcases hu with rfl | rfl | rfl <;> rfl) (by unfold maxLen; omega) (by omega) (by simp; omega)
  refine Lib.wpList_append_run _ hgd s x 55 55 ho _ _ hs hx _ _ hr (h v' w' ?_ (grown_of_alloc h2) (fun k hk => ?_))
  · rw [pcCells_app, List.length_append]
    exact h1
  · rcases h3 k hk with h | h
    · exact .inl h
    · rw [World.size_alloc] at h
      exact .inr (by omega)

/-- A cell that holds a slice of pieces, and the own row behind it. -/
structure HeldP (c base : Nat) (v : Value) (F : List Pc) (W : World) : Prop where
  cell : W.heap[c]? = some (.cells #[v] 55 (0, 0))
  own : W.ownsRow base 58 3 v F.length (pcCells F)
  low : c < base
theorem HeldP.lt {c base : Nat} {v : Value} {F : List Pc} {W : World} (h : HeldP c base v F W) : ∀ k, v.ownBlock = some k → k < W.heap.size := fun k e => (h.own.lt k e).2
theorem HeldP.keep {c base row : Nat} {v : Value} {F : List Pc} {W W' : World} (h : HeldP c base v F W) (hg : W.grownBy W' (some row)) (hc : c ≠ row) (hv : v.ownBlock ≠ some row) : HeldP c base v F W' :=
  ⟨(hg.block c (Array.getElem?_eq_some_iff.1 h.cell).1 (by simpa using hc)).trans h.cell, h.own.kept hg (.inr hv), h.low⟩
theorem HeldP.alloc {c base : Nat} {v : Value} {F : List Pc} {W : World} (h : HeldP c base v F W) (o : Obj) : HeldP c base v F (W.alloc o) :=
  ⟨(Below.heap_alloc _ _ _ (Array.getElem?_eq_some_iff.1 h.cell).1).trans h.cell, h.own.alloc o, h.low⟩
def clsOf (f : Bool) : Int := if f then 1 else 0

set_option maxHeartbeats 1000000 in
theorem PieceFn_any (x : Rg) (f : Bool) (c base : Nat) (v : Value) (F : List Pc) (W : World) (h : HeldP c base v F W) (hN : F.length < 1000000) (hb : base ≤ W.heap.size) :
    Calls Try.prog 70 #[rgV x, .bool f, .pointer (some ⟨c, 0, none⟩)] W fun e W' => e = .returned (.tuple #[]) ∧ ∃ v', HeldP c base v' (F ++ [(x, clsOf f)]) W' ∧ W.heap.size ≤ W'.heap.size ∧
      (∀ k, k < W.heap.size → k ≠ c → v.ownBlock ≠ some k → W'.heap[k]? = W.heap[k]?) ∧ (W'.os = W.os ∧ W'.tape = W.tape ∧ W'.output = W.output) ∧ ∀ k, v'.ownBlock = some k → v.ownBlock = some k ∨ W.heap.size ≤ k := by
  obtain ⟨x1, x2⟩ := x
  have h1 := (h.alloc (.cells #[.int .i32 x1, .int .i32 x2] 41)).alloc (.cells #[.int .i32 x1, .int .i32 x2, .int .i64 (clsOf f)] 58)
  have y := RgAt.new W (x1, x2)
  have z := World.alloc_heap_new (W.alloc (.cells #[.int .i32 x1, .int .i32 x2] 41)) (.cells #[.int .i32 x1, .int .i32 x2, .int .i64 (clsOf f)] 58)
  have hz1 : ((W.alloc (.cells #[.int .i32 x1, .int .i32 x2] 41)).alloc (.cells #[.int .i32 x1, .int .i32 x2, .int .i64 (clsOf f)] 58)).heap.size = W.heap.size + 2 := by simp
  have hblk : ∀ k, k < W.heap.size → ((W.alloc (.cells #[.int .i32 x1, .int .i32 x2] 41)).alloc (.cells #[.int .i32 x1, .int .i32 x2, .int .i64 (clsOf f)] 58)).heap[k]? = W.heap[k]? := fun k hk => (Below.heap_alloc _ _ _ (by simp; omega)).trans (Below.heap_alloc _ _ _ hk)
  rw [World.size_alloc] at z
  have hcl := (Array.getElem?_eq_some_iff.1 h.cell).1
  have c0 : ((W.alloc (.cells #[.int .i32 x1, .int .i32 x2] 41)).alloc (.cells #[.int .i32 x1, .int .i32 x2, .int .i64 (clsOf f)] 58)).cell? ⟨c, 0, none⟩ = some v := by rw [Lib.cell_of_heap h1.cell]; rfl
  have d0 := y.c0; have d1 := y.c1
  have z0 : ((W.alloc (.cells #[.int .i32 x1, .int .i32 x2] 41)).alloc (.cells #[.int .i32 x1, .int .i32 x2, .int .i64 (clsOf f)] 58)).cell? ⟨W.heap.size + 1, 0, none⟩ = some (.int .i32 x1) := by rw [Lib.cell_of_heap z]; rfl
  have z1 : ((W.alloc (.cells #[.int .i32 x1, .int .i32 x2] 41)).alloc (.cells #[.int .i32 x1, .int .i32 x2, .int .i64 (clsOf f)] 58)).cell? ⟨W.heap.size + 1, 1, none⟩ = some (.int .i32 x2) := by rw [Lib.cell_of_heap z]; rfl
  have z2 : ((W.alloc (.cells #[.int .i32 x1, .int .i32 x2] 41)).alloc (.cells #[.int .i32 x1, .int .i32 x2, .int .i64 (clsOf f)] 58)).cell? ⟨W.heap.size + 1, 2, none⟩ = some (.int .i64 (clsOf f)) := by rw [Lib.cell_of_heap z]; rfl
  have o1 := h1.own
  have HH := Lib.hid h1; have HB := Lib.hid hblk; have HL := Lib.hid h.low
  clear y h h1 hblk z
  dsimp only at d0 d1
  cases f
  · rw [show clsOf false = 0 from rfl] at *
    go_enter Try.func70, Try.ntmps70
    go_wp2_with (at_builtin; refine wp_app_pc rfl _ _ rfl base v F _ o1 rfl ((x1, x2), 0) 1 _ rfl hz1 hN (by omega) ?_)
    intro v' w' h2 h3 h4
    obtain ⟨ao', n', cap', rfl⟩ := own_shape h2
    have hc2 : w'.heap[c]? = some (.cells #[v] 55 (0, 0)) := (h3.block c (by omega) (fun e => by have := (o1.lt c e.symm).1; have := HL.out; omega)).trans HH.out.cell
    have e0 : w'.cell? ⟨c, 0, none⟩ = some v := by rw [Lib.cell_of_heap hc2]; rfl
    have e1 : w'.frozen? ⟨c, 0, none⟩ = false := Lib.frozen_of_heap hc2 0
    have e2 : (w'.setCell ⟨c, 0, none⟩ (.slice ao' n' cap')).heap[c]? = some (.cells #[.slice ao' n' cap'] 55 (0, 0)) := by simp [World.setCell, Array.getElem?_modify, hc2]
    have e3 : (w'.setCell ⟨c, 0, none⟩ (.slice ao' n' cap')).ownsRow base 58 3 (.slice ao' n' cap') (F ++ [((x1, x2), 0)]).length (pcCells (F ++ [((x1, x2), 0)])) := by rw [List.length_append]; exact World.ownsRow.kept (row := some c) h2 grown_set (.inr (fun e => by have := (h2.lt c e).1; have := HL.out; omega))
    have H2 := Lib.hid e2; have H3 := Lib.hid e3; have H4 := Lib.hid h3; have H5 := Lib.hid h4
    clear h2 h3 h4 hc2 e2 e3 o1 c0 d0 d1 z0 z1 z2
    go_wp2
    go_end0
    refine ⟨rfl, _, ⟨H2.out, H3.out, HL.out⟩, ?_, fun k hk hkc hv => ?_, ⟨H4.out.os, H4.out.tape, H4.out.output⟩, fun k e => ?_⟩
    · have := H4.out.size
      simp [World.setCell]; omega
    · rw [Below.heap_setCell _ _ _ _ hkc, H4.out.block k (by omega) (fun e => hv e.symm)]
      exact HB.out k hk
    · rcases H5.out k e with h | h
      · exact .inl h
      · exact .inr (by omega)
  · rw [show clsOf true = 1 from rfl] at *
    go_enter Try.func70, Try.ntmps70
    go_wp2_with (at_builtin; refine wp_app_pc rfl _ _ rfl base v F _ o1 rfl ((x1, x2), 1) 1 _ rfl hz1 hN (by omega) ?_)
    intro v' w' h2 h3 h4
    obtain ⟨ao', n', cap', rfl⟩ := own_shape h2
    have hc2 : w'.heap[c]? = some (.cells #[v] 55 (0, 0)) := (h3.block c (by omega) (fun e => by have := (o1.lt c e.symm).1; have := HL.out; omega)).trans HH.out.cell
    have e0 : w'.cell? ⟨c, 0, none⟩ = some v := by rw [Lib.cell_of_heap hc2]; rfl
    have e1 : w'.frozen? ⟨c, 0, none⟩ = false := Lib.frozen_of_heap hc2 0
    have e2 : (w'.setCell ⟨c, 0, none⟩ (.slice ao' n' cap')).heap[c]? = some (.cells #[.slice ao' n' cap'] 55 (0, 0)) := by simp [World.setCell, Array.getElem?_modify, hc2]
    have e3 : (w'.setCell ⟨c, 0, none⟩ (.slice ao' n' cap')).ownsRow base 58 3 (.slice ao' n' cap') (F ++ [((x1, x2), 1)]).length (pcCells (F ++ [((x1, x2), 1)])) := by rw [List.length_append]; exact World.ownsRow.kept (row := some c) h2 grown_set (.inr (fun e => by have := (h2.lt c e).1; have := HL.out; omega))
    have H2 := Lib.hid e2; have H3 := Lib.hid e3; have H4 := Lib.hid h3; have H5 := Lib.hid h4
    clear h2 h3 h4 hc2 e2 e3 o1 c0 d0 d1 z0 z1 z2
    go_wp2
    go_end0
    refine ⟨rfl, _, ⟨H2.out, H3.out, HL.out⟩, ?_, fun k hk hkc hv => ?_, ⟨H4.out.os, H4.out.tape, H4.out.output⟩, fun k e => ?_⟩
    · have := H4.out.size
      simp [World.setCell]; omega
    · rw [Below.heap_setCell _ _ _ _ hkc, H4.out.block k (by omega) (fun e => hv e.symm)]
      exact HB.out k hk
    · rcases H5.out k e with h | h
      · exact .inl h
      · exact .inr (by omega)

/-- What walk hands on, as pieces. -/
def pcsOf (d : List (Rg × Bool)) : List Pc := d.map fun x => (x.1, clsOf x.2)
theorem pcsOf_snoc (d : List (Rg × Bool)) (x : Rg × Bool) : pcsOf (d ++ [x]) = pcsOf d ++ [(x.1, clsOf x.2)] := by unfold pcsOf; rw [List.map_append]; rfl
theorem Piece_walks (w : World) : Walks 100000 70 #[.pointer (some ⟨w.heap.size, 0, none⟩)] (w.alloc (.cells #[.slice none 0 0] 55)) (.slice none 0 0) (fun d v W => HeldP w.heap.size (w.heap.size + 3) v (pcsOf d) W ∧ Below w.heap.size w W) where
  eg := enters_of Try.func70 (by kernel_rfl) rfl
  none := rfl
  start W hb := by
    rw [World.size_alloc] at hb
    refine ⟨⟨(hb.block _ (by omega)).trans (World.alloc_heap_new _ _), World.ownsRow_nil _ _ _ _, by omega⟩, ?_⟩
    exact ((Below.refl w.heap.size w).alloc (Nat.le_refl _) _).trans (hb.mono (by omega))
  lt d v W h := h.1.lt
  keep d v W W' h hv hs hg := by
    rw [World.size_alloc] at hv hg
    refine ⟨h.1.keep hg (by omega) (fun e => by have := hv _ e; omega), below_of_old h.2 hg.size (fun k hk => hg.block k (by have := h.2.size; omega) (by simp; omega)) ⟨hg.os, hg.tape, hg.output⟩⟩
  step d v W x rest l hc hl e h hv hs := by
    rw [World.size_alloc] at hs
    have hd : (pcsOf d).length < 1000000 := by
      have h2 := walk_length l 0
      rw [← e, List.length_append] at h2
      unfold pcsOf
      rw [List.length_map]
      omega
    refine (PieceFn_any x.1 x.2 w.heap.size (w.heap.size + 3) v (pcsOf d) W h.1 hd hs).mono ?_
    rintro e' W' ⟨rfl, v', k1, k2, k3, k4, k5⟩
    refine ⟨rfl, v', ⟨by rw [pcsOf_snoc]; exact k1, below_of_old h.2 k2 (fun k hk => k3 k (by have := h.2.size; omega) (by omega) (fun e => by have := h.1.own.lt k e; omega)) k4⟩, ⟨k2, fun k ha hb hne => k3 k hb (by rw [World.size_alloc] at ha; omega) hne⟩, k5⟩

set_option maxHeartbeats 1000000 in
theorem piecesOf_any (ao : Option Addr) (L : List Rg) (cap : Nat) (w : World) (hN : L.length ≤ 100000) (hR : Rgs w w.heap.size ao L) :
    Calls Try.prog 57 #[.slice ao L.length cap] w fun e w' => ∃ v l, e = .returned v ∧ IsOf L l ∧ l.length ≤ L.length ∧ w'.ownsRow w.heap.size 58 3 v (pcsOf (walkFrom 0 l)).length (pcCells (pcsOf (walkFrom 0 l))) ∧ Below w.heap.size w w' := by
  have B0 := (Below.refl w.heap.size w).alloc (Nat.le_refl _) (.cells #[.slice none 0 0] 55)
  have hw := walk_any ao L cap 70 #[.pointer (some ⟨w.heap.size, 0, none⟩)] _ _ _ 100000 (Nat.le_refl _) hN ((hR.below B0 (Nat.le_refl _)).mono B0.size) (Piece_walks w)
  have HW := Lib.hid hw
  clear hw hR B0
  go_enter Try.func57, Try.ntmps57
  go_wp2_with fail
  refine HW.out.mono ?_
  rintro e w1 ⟨rfl, l, v, h1, h2, h3, h4⟩
  have c0 : w1.cell? ⟨w.heap.size, 0, none⟩ = some v := by rw [Lib.cell_of_heap h3.cell]; rfl
  have N1 := Lib.hid h1; have O1 := own_low h3.own (Nat.le_add_right _ 3)
  obtain ⟨ao', n', c', rfl⟩ := own_shape O1
  clear h1 h3
  go_wp2
  go_ret
  exact ⟨_, _, rfl, N1.out, h2, O1, h4⟩
end Go.Proofs.Ytpmcnmlpkpoopaa
