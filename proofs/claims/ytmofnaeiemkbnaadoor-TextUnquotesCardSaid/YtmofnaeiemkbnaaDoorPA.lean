/- text.Position: every offset of every text of at most 300 bytes. -/
import Derived.Test.YtmofnaeiemkbnaaDoorP
namespace Go.Proofs.YtmofnaeiemkbnaaDoor
open Go.RowKit Go.Shelf
attribute [local go_sem] Oper.semAt_some

/-- The position at offset k, as the loop finds it. -/
def posL (k : Int) : List (Nat × Nat × Nat) → Option (Nat × Nat)
  | [] => none
  | x :: r => if (x.1 : Int) = k then some x.2 else if k < x.1 then none else posL k r
theorem posL_hit {k : Int} : ∀ {pre : List (Nat × Nat × Nat)} {x : Nat × Nat × Nat} {r : List (Nat × Nat × Nat)}, (∀ y ∈ pre, (y.1 : Int) < k) → (x.1 : Int) = k → posL k (pre ++ [x] ++ r) = some x.2
  | [], _, _, _, hx => by simp [posL, hx]
  | a :: pre, x, r, h, hx => by
    have ha := h a (by simp)
    have ih := posL_hit (pre := pre) (r := r) (fun y hy => h y (List.mem_cons_of_mem _ hy)) hx
    rw [List.cons_append, List.cons_append, posL, if_neg (by omega), if_neg (by omega)]; exact ih
theorem posL_miss {k : Int} : ∀ {pre : List (Nat × Nat × Nat)} {x : Nat × Nat × Nat} {r : List (Nat × Nat × Nat)}, (∀ y ∈ pre, (y.1 : Int) < k) → k < (x.1 : Int) → posL k (pre ++ [x] ++ r) = none
  | [], x, _, _, hx => by rw [List.nil_append, List.cons_append, posL, if_neg (by omega), if_pos hx]
  | a :: pre, x, r, h, hx => by
    have ha := h a (by simp)
    have ih := posL_miss (pre := pre) (r := r) (fun y hy => h y (List.mem_cons_of_mem _ hy)) hx
    rw [List.cons_append, List.cons_append, posL, if_neg (by omega), if_neg (by omega)]; exact ih
theorem posL_all {k : Int} : ∀ {l : List (Nat × Nat × Nat)}, (∀ y ∈ l, (y.1 : Int) < k) → posL k l = none
  | [], _ => rfl
  | a :: l, h => by
    have ha := h a (by simp)
    rw [posL, if_neg (by omega), if_neg (by omega)]; exact posL_all (fun y hy => h y (List.mem_cons_of_mem _ hy))

/-- What Position answers. -/
def posZ (s : ByteArray) (k : Int) : Nat × Nat × Bool := match posL k (bounds s) with
  | some p => (p.1, p.2, true)
  | none => (0, 0, false)

abbrev PosBlock (W : World) (b line col : Nat) : Prop := W.heap[b]? = some (.cells #[.int .i64 line, .int .i64 col] 25 (0, 0))
theorem own_block {β : Type} (B : Nat) (f : β → Nat × Nat) : Own (fun s W => PosBlock W B (f s).1 (f s).2) := fun s X Y row hs hg hr =>
  (hg.block B (Array.getElem?_eq_some_iff.1 hs).1 (fun e => by obtain ⟨o, ho, hc⟩ := hr B e.symm; rw [show X.heap[B]? = _ from hs] at ho; cases ho; cases hc)).trans hs

def AllLt (k : Int) (l : List (Nat × Nat × Nat)) : Prop := ∀ y ∈ l, (y.1 : Int) < k

/-- Both results written. -/
theorem wrote {W : World} {h l0 c0 l c : Nat} {v0 v : Bool} (hp : PosBlock W (h + 1) l0 c0) (hb : Boxed W (h + 2) 4 (.bool v0)) {W' : World}
    (hW : W' = ((W.setCell ⟨h + 1, 0, none⟩ (.int .i64 l)).setCell ⟨h + 1, 1, none⟩ (.int .i64 c)).setCell ⟨h + 1 + 1, 0, none⟩ (.bool v)) :
    PosBlock W' (h + 1) l c ∧ Boxed W' (h + 2) 4 (.bool v) ∧ KeepsOthers W W' ∧ Below h W W' := by
  subst hW
  refine ⟨?_, ?_, ((KeepsOthers.setCell _ _ _).trans (KeepsOthers.setCell _ _ _)).trans (KeepsOthers.setCell _ _ _), (((Below.refl _ _).setCell (p := ⟨h + 1, 0, none⟩) (by simp) _).setCell (p := ⟨h + 1, 1, none⟩) (by simp) _).setCell (p := ⟨h + 1 + 1, 0, none⟩) (by simp; omega) _⟩
  · have hp' : W.heap[h + 1]? = some (.cells #[.int .i64 l0, .int .i64 c0] 25 (0, 0)) := hp
    rw [PosBlock, Below.heap_setCell _ _ _ _ (by simp)]
    simp [World.setCell, Array.getElem?_modify, hp']
  · have hb' : Boxed ((W.setCell ⟨h + 1, 0, none⟩ (.int .i64 l)).setCell ⟨h + 1, 1, none⟩ (.int .i64 c)) (h + 2) 4 (.bool v0) := by
      unfold Boxed
      rw [Below.heap_setCell _ _ _ _ (by simp), Below.heap_setCell _ _ _ _ (by simp)]
      exact hb
    exact hb'.set (.bool v)

/-- At the function's return. -/
theorem after {V : World} {w : World} {h D l c : Nat} {v : Bool} (hK : V.heap[D]? = some (.deferred (some []))) (hp : PosBlock V (h + 1) l c) (hb : Boxed V (h + 2) 4 (.bool v)) (hB : Below h w V) (hD : h + 3 ≤ D) :
    (V.putObj D (.deferred none)).cell? ⟨h + 1, 0, none⟩ = some (.int .i64 l) ∧ (V.putObj D (.deferred none)).cell? ⟨h + 1, 1, none⟩ = some (.int .i64 c) ∧ (V.putObj D (.deferred none)).cell? ⟨h + 1 + 1, 0, none⟩ = some (.bool v) ∧ Below h w (V.putObj D (.deferred none)) := by
  have e1 : (V.putObj D (.deferred none)).heap[h + 1]? = some (.cells #[.int .i64 l, .int .i64 c] 25 (0, 0)) := (World.putObj_heap_other (by omega)).trans hp
  have e2 : Boxed (V.putObj D (.deferred none)) (h + 2) 4 (.bool v) := (World.putObj_heap_other (by omega)).trans hb
  refine ⟨by rw [Lib.cell_of_heap e1]; rfl, by rw [Lib.cell_of_heap e1]; rfl, e2.cell, hB.grown (grownBy_putObj' V D _) ?_ (fun k e => by cases e; omega)⟩
  have := (Array.getElem?_eq_some_iff.1 hK).1
  omega

/-- How the loop is left. -/
def PosIx (k : Int) (h : Nat) (w : World) (c : Code) (pre : List (Nat × Nat × Nat)) (W : World) : Prop :=
  (c = .ret ∧ ∃ pre' x, pre = pre' ++ [x] ∧ AllLt k pre' ∧ (x.1 : Int) = k ∧ PosBlock W (h + 1) x.2.1 x.2.2 ∧ Boxed W (h + 2) 4 (.bool true) ∧ Below h w W) ∨
  (c = .exit 0 ∧ ∃ pre' x, pre = pre' ++ [x] ∧ AllLt k pre' ∧ k < (x.1 : Int) ∧ PosBlock W (h + 1) 0 0 ∧ Boxed W (h + 2) 4 (.bool false) ∧ Below h w W)

theorem posIx_stays {k : Int} {h B : Nat} {w : World} {c : Code} (hB : h + 2 < B) (hw : h ≤ w.heap.size := by omega) : Stays B (PosIx k h w c) := by
  rintro pre W W' row (⟨h1, pre', x, h2, h3, h4, h5, h6, h7⟩ | ⟨h1, pre', x, h2, h3, h4, h5, h6, h7⟩) hg hr
  · exact .inl ⟨h1, pre', x, h2, h3, h4, stays_heap (B := B) (b := h + 1) (by omega) (fun _ : Unit => _) () W W' row h5 hg hr, stays_boxed (B := B) (b := h + 2) hB _ (fun _ : Unit => _) () W W' row h6 hg hr, stays_below (B := B) (by omega) hw () W W' row h7 hg hr⟩
  · exact .inr ⟨h1, pre', x, h2, h3, h4, stays_heap (B := B) (b := h + 1) (by omega) (fun _ : Unit => _) () W W' row h5 hg hr, stays_boxed (B := B) (b := h + 2) hB _ (fun _ : Unit => _) () W W' row h6 hg hr, stays_below (B := B) (by omega) hw () W W' row h7 hg hr⟩

set_option maxRecDepth 100000 in
set_option maxHeartbeats 4000000 in
theorem Position_in (s : ByteArray) (k : Int) (w : World) (hs : s.size ≤ 300) :
    CallsIn Fence.wide 9 Tryd.prog 11 #[.string s, .int .i64 k] w fun e w' => e = .returned (.tuple #[posV (posZ s k).1 (posZ s k).2.1, .bool (posZ s k).2.2]) ∧ Below w.heap.size w w' := by
  refine callsIn_of_wp_marks Tryd.func11 rfl trivial ?_ rfl
  simp only [Tryd.ntmps11, List.size_toArray, List.length_cons, List.length_nil, Nat.reduceAdd, Nat.reduceSub, Array.replicate_succ, Array.replicate_zero, List.push_toArray, List.append_toArray, List.nil_append, List.cons_append]
  gi_wp2_with (refine ⟨trivial, ?_⟩; gi_at_call 28; refine (callsIn_wide.2 (boundaries_any _ _)).mono ?_)
  rintro e w4 ⟨rfl, rfl⟩
  gi_wp2
  obtain ⟨W0, hW0⟩ : ∃ W0, ((((w.alloc (Obj.cells #[Value.int IntKind.i64 k] 3)).alloc (Obj.cells #[Value.int IntKind.i64 0, Value.int IntKind.i64 0] 25)).alloc (Obj.cells #[Value.bool false] 4)).alloc (Obj.cells #[Value.string s] 9)) = W0 := ⟨_, rfl⟩
  have hsz : W0.heap.size = w.heap.size + 4 := by rw [← hW0]; simp
  have bB : Below w.heap.size w W0 := by rw [← hW0]; exact ((((Below.refl _ w).alloc (Nat.le_refl _) _).alloc (by simp) _).alloc (by simp; omega) _).alloc (by simp; omega) _
  have xk : Boxed W0 w.heap.size 3 (.int .i64 k) := by rw [← hW0]; exact (((Boxed.new w 3 (.int .i64 k)).alloc _).alloc _).alloc _
  have xp : PosBlock W0 (w.heap.size + 1) 0 0 := by
    rw [← hW0]
    rw [PosBlock, Below.heap_alloc _ _ _ (by simp), Below.heap_alloc _ _ _ (by simp)]
    have := World.alloc_heap_new (w.alloc (Obj.cells #[Value.int IntKind.i64 k] 3)) (Obj.cells #[Value.int IntKind.i64 0, Value.int IntKind.i64 0] 25)
    rw [World.size_alloc] at this; exact this
  have xb : Boxed W0 (w.heap.size + 2) 4 (.bool false) := by
    rw [← hW0]
    have := (Boxed.new ((w.alloc (Obj.cells #[Value.int IntKind.i64 k] 3)).alloc (Obj.cells #[Value.int IntKind.i64 0, Value.int IntKind.i64 0] 25)) 4 (.bool false)).alloc (Obj.cells #[Value.string s] 9)
    simp only [World.size_alloc] at this; exact this
  have xs : Boxed W0 (w.heap.size + 3) 9 (.string s) := by
    rw [← hW0]
    have := Boxed.new (((w.alloc (Obj.cells #[Value.int IntKind.i64 k] 3)).alloc (Obj.cells #[Value.int IntKind.i64 0, Value.int IntKind.i64 0] 25)).alloc (Obj.cells #[Value.bool false] 4)) 9 (.string s)
    simp only [World.size_alloc] at this; exact this
  rw [hW0]
  clear hW0
  refine range_cells (by omega) (gf := 46) (lb := #[.pointer (some ⟨w.heap.size + 3, 0, none⟩)]) rfl (enters_of Tryd.func46 (by kernel_rfl) rfl)
    (boundaries_seq 8 (by omega) (w.heap.size + 3) (w.heap.size + 3) s hs (Nat.le_refl _) W0 (by omega) xs) KpA.trans KpA.turn (Below.refl _ _) (fun _ => rfl)
    (fun pre W => AllLt k pre ∧ Boxed W w.heap.size 3 (.int .i64 k) ∧ PosBlock W (w.heap.size + 1) 0 0 ∧ Boxed W (w.heap.size + 2) 4 (.bool false) ∧ Below w.heap.size w W)
    (PosIx k w.heap.size w)
    (Stays.and (stays_pure _ _) (Stays.and (stays_boxed (by omega) _ _) (Stays.and (stays_heap (by omega) (fun _ => _)) (Stays.and (stays_boxed (by omega) _ _) (stays_below (by omega) (Nat.le_refl _))))))
    (fun c => posIx_stays (by omega))
    ⟨fun _ h => by simp at h, xk, xp, xb, bB⟩
    (fun x a' W => ∃ Bx, w.heap.size + 4 ≤ Bx ∧ PosBlock W Bx x.2.1 x.2.2 ∧ a' = { tmps := #[.string s, .int .i64 k, undef, .pointer (some ⟨w.heap.size, 0, none⟩), .pointer (some ⟨w.heap.size + 1, 0, none⟩), .pointer (some ⟨w.heap.size + 1 + 1, 0, none⟩), .int .i64 x.1, .pointer (some ⟨Bx, 0, none⟩), .string s, .func (.func 46) #[] #[.pointer (some ⟨w.heap.size + 1 + 1 + 1, 0, none⟩)], .int .i64 x.1, posV x.2.1 x.2.2, undef, undef, undef, undef, undef, undef, undef, undef], defers := [] })
    (fun x a' _ X Y row hs hg hr => by
      obtain ⟨Bx, h1, h2, h3⟩ := hs
      exact ⟨Bx, h1, own_block Bx (fun _ : Unit => x.2) () X Y row h2 hg (fun r e => (hr r e).2), h3⟩)
    ?assign ?body ?done ?stop
  case assign =>
    rintro l pre x W K hWs hI hK
    gi_wp2
    obtain ⟨hlt, hk, hp, hb, hB⟩ := hI
    exact hK _ _ ((KeepsOthers.alloc _ _).from _) (KpA.alloc _ _ _) ⟨hlt, hk.alloc _, (Below.heap_alloc _ _ _ (Array.getElem?_eq_some_iff.1 hp).1).trans hp, hb.alloc _, hB.alloc hB.size _⟩ ⟨W.heap.size, by omega, World.alloc_heap_new _ _, rfl⟩
  case body =>
    rintro l pre ⟨i, ln, cl⟩ a' W hWs ⟨hlt, hk, hp, hb, hB⟩ ⟨Bx, hBx, hx, rfl⟩ hlen
    have ck := hk.cell
    have x0 : W.cell? ⟨Bx, 0, none⟩ = some (.int .i64 ln) := by rw [Lib.cell_of_heap hx]; rfl
    have x1 : W.cell? ⟨Bx, 1, none⟩ = some (.int .i64 cl) := by rw [Lib.cell_of_heap hx]; rfl
    have p0 : W.cell? ⟨w.heap.size + 1, 0, none⟩ = some (.int .i64 (0 : Nat)) := by rw [Lib.cell_of_heap hp]; rfl
    have p1 : W.cell? ⟨w.heap.size + 1, 1, none⟩ = some (.int .i64 (0 : Nat)) := by rw [Lib.cell_of_heap hp]; rfl
    have q0 : W.frozen? ⟨w.heap.size + 1, 0, none⟩ = false := Lib.frozen_of_heap hp 0
    have q1 : W.frozen? ⟨w.heap.size + 1, 1, none⟩ = false := Lib.frozen_of_heap hp 1
    have b0 : W.cell? ⟨w.heap.size + 1 + 1, 0, none⟩ = some (.bool false) := hb.cell
    have b1 : W.frozen? ⟨w.heap.size + 1 + 1, 0, none⟩ = false := hb.frozen
    by_cases he : (i : Int) = k
    · have e1 : ((i : Int) == k) = true := by rw [beq_iff_eq]; exact he
      have HE := Lib.hid he; clear he
      gi_wp2
      obtain ⟨W', hW'⟩ : ∃ W', W' = (((W.setCell ⟨w.heap.size + 1, 0, none⟩ (.int .i64 ln)).setCell ⟨w.heap.size + 1, 1, none⟩ (.int .i64 cl)).setCell ⟨w.heap.size + 1 + 1, 0, none⟩ (.bool true)) := ⟨_, rfl⟩
      obtain ⟨y1, y2, y3, y4⟩ := wrote hp hb hW'
      rw [← hW']
      exact ⟨y3.from _, .inl ⟨rfl, pre, _, rfl, hlt, HE.out, y1, y2, hB.trans y4⟩⟩
    · have e1 : ((i : Int) == k) = false := by rw [beq_eq_false_iff_ne]; exact he
      by_cases hg : k < (i : Int)
      · have e2 : decide (k < (i : Int)) = true := decide_eq_true hg
        have HG := Lib.hid hg; clear hg he
        gi_wp2
        exact ⟨KeepsFrom.refl _ _, .inr ⟨rfl, pre, _, rfl, hlt, HG.out, hp, hb, hB⟩⟩
      · have e2 : decide (k < (i : Int)) = false := decide_eq_false hg
        have HL : Hid ((i : Int) < k) := (show (i : Int) < k by omega)
        clear hg he
        gi_wp2
        exact ⟨KeepsFrom.refl _ _, KpA.refl _ _, fun y hy => (List.mem_append.1 hy).elim (hlt y) (fun h => by simp at h; subst h; exact HL.out), hk, hp, hb, hB⟩
  case done =>
    rintro D ys W hD rfl ⟨hlt, hk, hp, hb, hB⟩ hK
    have p0 : W.cell? ⟨w.heap.size + 1, 0, none⟩ = some (.int .i64 (0 : Nat)) := by rw [Lib.cell_of_heap hp]; rfl
    have p1 : W.cell? ⟨w.heap.size + 1, 1, none⟩ = some (.int .i64 (0 : Nat)) := by rw [Lib.cell_of_heap hp]; rfl
    have q0 : W.frozen? ⟨w.heap.size + 1, 0, none⟩ = false := Lib.frozen_of_heap hp 0
    have q1 : W.frozen? ⟨w.heap.size + 1, 1, none⟩ = false := Lib.frozen_of_heap hp 1
    have b0 : W.cell? ⟨w.heap.size + 1 + 1, 0, none⟩ = some (.bool false) := hb.cell
    have b1 : W.frozen? ⟨w.heap.size + 1 + 1, 0, none⟩ = false := hb.frozen
    gi_wp2
    obtain ⟨W', hW'⟩ : ∃ W', W' = (((W.setCell ⟨w.heap.size + 1, 0, none⟩ (.int .i64 (0 : Nat))).setCell ⟨w.heap.size + 1, 1, none⟩ (.int .i64 (0 : Nat))).setCell ⟨w.heap.size + 1 + 1, 0, none⟩ (.bool false)) := ⟨_, rfl⟩
    obtain ⟨y1, y2, y3, y4⟩ := wrote hp hb hW'
    have hK' := y3.same D _ hK rfl
    show bodyPostM _ _ _ _ _ _ _ (((W.setCell ⟨w.heap.size + 1, 0, none⟩ (.int .i64 (0 : Nat))).setCell ⟨w.heap.size + 1, 1, none⟩ (.int .i64 (0 : Nat))).setCell ⟨w.heap.size + 1 + 1, 0, none⟩ (.bool false))
    rw [← hW']
    refine ⟨by simp, .inl ⟨_, _, rfl, run_takeDeferred hK', ?_⟩⟩
    obtain ⟨z0, z1, z2, zB⟩ := after hK' y1 y2 (hB.trans y4) (by omega)
    refine ⟨.tuple #[posV 0 0, .bool false], ?_, ?_, zB⟩
    · simp [results, Tryd.f11, go_sem, z0, z1, z2]
    · rw [posZ, posL_all hlt]
  case stop =>
    rintro D c pre W hD ⟨rest, hpre⟩ (⟨rfl, pre', x, rfl, hlt, hx, hp, hb, hB⟩ | ⟨rfl, pre', x, rfl, hlt, hx, hp, hb, hB⟩) hK
    · gi_wp2
      refine ⟨by simp, .inl ⟨_, _, rfl, run_takeDeferred hK, ?_⟩⟩
      obtain ⟨z0, z1, z2, zB⟩ := after hK hp hb hB (by omega)
      refine ⟨.tuple #[posV x.2.1 x.2.2, .bool true], ?_, ?_, zB⟩
      · simp [results, Tryd.f11, go_sem, z0, z1, z2]
      · rw [posZ, ← hpre, posL_hit hlt hx]
    · have p0 : W.cell? ⟨w.heap.size + 1, 0, none⟩ = some (.int .i64 (0 : Nat)) := by rw [Lib.cell_of_heap hp]; rfl
      have p1 : W.cell? ⟨w.heap.size + 1, 1, none⟩ = some (.int .i64 (0 : Nat)) := by rw [Lib.cell_of_heap hp]; rfl
      have q0 : W.frozen? ⟨w.heap.size + 1, 0, none⟩ = false := Lib.frozen_of_heap hp 0
      have q1 : W.frozen? ⟨w.heap.size + 1, 1, none⟩ = false := Lib.frozen_of_heap hp 1
      have b0 : W.cell? ⟨w.heap.size + 1 + 1, 0, none⟩ = some (.bool false) := hb.cell
      have b1 : W.frozen? ⟨w.heap.size + 1 + 1, 0, none⟩ = false := hb.frozen
      gi_wp2
      obtain ⟨W', hW'⟩ : ∃ W', W' = (((W.setCell ⟨w.heap.size + 1, 0, none⟩ (.int .i64 (0 : Nat))).setCell ⟨w.heap.size + 1, 1, none⟩ (.int .i64 (0 : Nat))).setCell ⟨w.heap.size + 1 + 1, 0, none⟩ (.bool false)) := ⟨_, rfl⟩
      obtain ⟨y1, y2, y3, y4⟩ := wrote hp hb hW'
      have hK' := y3.same D _ hK rfl
      show bodyPostM _ _ _ _ _ _ _ (((W.setCell ⟨w.heap.size + 1, 0, none⟩ (.int .i64 (0 : Nat))).setCell ⟨w.heap.size + 1, 1, none⟩ (.int .i64 (0 : Nat))).setCell ⟨w.heap.size + 1 + 1, 0, none⟩ (.bool false))
      rw [← hW']
      refine ⟨by simp, .inl ⟨_, _, rfl, run_takeDeferred hK', ?_⟩⟩
      obtain ⟨z0, z1, z2, zB⟩ := after hK' y1 y2 (hB.trans y4) (by omega)
      refine ⟨.tuple #[posV 0 0, .bool false], ?_, ?_, zB⟩
      · simp [results, Tryd.f11, go_sem, z0, z1, z2]
      · rw [posZ, ← hpre, posL_miss hlt hx]

theorem Position_any (s : ByteArray) (k : Int) (w : World) (hs : s.size ≤ 300) :
    Calls Tryd.prog 11 #[.string s, .int .i64 k] w fun e w' => e = .returned (.tuple #[posV (posZ s k).1 (posZ s k).2.1, .bool (posZ s k).2.2]) ∧ Below w.heap.size w w' :=
  callsIn_wide.1 (Position_in s k w hs)
end Go.Proofs.YtmofnaeiemkbnaaDoor
