/- text.Place: every position, of every text of at most 300 bytes. -/
import Derived.Test.YtmofnaeiemkbnaaDoorPA
namespace Go.Proofs.YtmofnaeiemkbnaaDoor
open Go.RowKit Go.Shelf
attribute [local go_sem] Oper.semAt_some

def AtPos (l c : Int) (x : Nat × Nat × Nat) : Prop := (x.2.1 : Int) = l ∧ (x.2.2 : Int) = c
instance (l c : Int) (x : Nat × Nat × Nat) : Decidable (AtPos l c x) := inferInstanceAs (Decidable (_ ∧ _))
/-- The first place with this line and column. -/
def plcL (l c : Int) : List (Nat × Nat × Nat) → Option Nat
  | [] => none
  | x :: r => if AtPos l c x then some x.1 else plcL l c r
def NoneAt (l c : Int) (L : List (Nat × Nat × Nat)) : Prop := ∀ y ∈ L, ¬ AtPos l c y
theorem plcL_hit {l c : Int} : ∀ {pre : List (Nat × Nat × Nat)} {x : Nat × Nat × Nat} {r : List (Nat × Nat × Nat)}, NoneAt l c pre → AtPos l c x → plcL l c (pre ++ [x] ++ r) = some x.1
  | [], x, _, _, hx => by rw [List.nil_append, List.cons_append, plcL, if_pos hx]
  | a :: pre, x, r, h, hx => by
    rw [List.cons_append, List.cons_append, plcL, if_neg (h a (by simp))]
    exact plcL_hit (fun y hy => h y (List.mem_cons_of_mem _ hy)) hx
theorem plcL_all {l c : Int} : ∀ {L : List (Nat × Nat × Nat)}, NoneAt l c L → plcL l c L = none
  | [], _ => rfl
  | a :: L, h => by
    rw [plcL, if_neg (h a (by simp))]
    exact plcL_all (fun y hy => h y (List.mem_cons_of_mem _ hy))
/-- What Place answers. -/
def plcZ (s : ByteArray) (l c : Int) : Nat × Bool := match plcL l c (bounds s) with
  | some k => (k, true)
  | none => (0, false)

/-- Both results written. -/
theorem wroteP {W : World} {h : Nat} {a0 a : Int} {v0 v : Bool} (hp : Boxed W (h + 1) 3 (.int .i64 a0)) (hb : Boxed W (h + 2) 4 (.bool v0)) {W' : World}
    (hW : W' = (W.setCell ⟨h + 1, 0, none⟩ (.int .i64 a)).setCell ⟨h + 1 + 1, 0, none⟩ (.bool v)) :
    Boxed W' (h + 1) 3 (.int .i64 a) ∧ Boxed W' (h + 2) 4 (.bool v) ∧ KeepsOthers W W' ∧ Below h W W' := by
  subst hW
  refine ⟨?_, ?_, (KeepsOthers.setCell _ _ _).trans (KeepsOthers.setCell _ _ _), ((Below.refl _ _).setCell (p := ⟨h + 1, 0, none⟩) (by simp) _).setCell (p := ⟨h + 1 + 1, 0, none⟩) (by simp; omega) _⟩
  · have := hp.set (.int .i64 a)
    unfold Boxed at this ⊢
    rw [Below.heap_setCell _ _ _ _ (by simp)]
    exact this
  · have hb' : Boxed (W.setCell ⟨h + 1, 0, none⟩ (.int .i64 a)) (h + 2) 4 (.bool v0) := by
      unfold Boxed
      rw [Below.heap_setCell _ _ _ _ (by simp)]
      exact hb
    exact hb'.set (.bool v)

/-- At the function's return. -/
theorem afterP {V : World} {w : World} {h D : Nat} {a : Int} {v : Bool} (hK : V.heap[D]? = some (.deferred (some []))) (hp : Boxed V (h + 1) 3 (.int .i64 a)) (hb : Boxed V (h + 2) 4 (.bool v)) (hB : Below h w V) (hD : h + 3 ≤ D) :
    (V.putObj D (.deferred none)).cell? ⟨h + 1, 0, none⟩ = some (.int .i64 a) ∧ (V.putObj D (.deferred none)).cell? ⟨h + 1 + 1, 0, none⟩ = some (.bool v) ∧ Below h w (V.putObj D (.deferred none)) := by
  have e1 : Boxed (V.putObj D (.deferred none)) (h + 1) 3 (.int .i64 a) := (World.putObj_heap_other (by omega)).trans hp
  have e2 : Boxed (V.putObj D (.deferred none)) (h + 2) 4 (.bool v) := (World.putObj_heap_other (by omega)).trans hb
  refine ⟨e1.cell, e2.cell, hB.grown (grownBy_putObj' V D _) ?_ (fun k e => by cases e; omega)⟩
  have := (Array.getElem?_eq_some_iff.1 hK).1
  omega

/-- How the loop is left. -/
def PlcIx (l c : Int) (h : Nat) (w : World) (cd : Code) (pre : List (Nat × Nat × Nat)) (W : World) : Prop :=
  cd = .ret ∧ ∃ pre' x, pre = pre' ++ [x] ∧ NoneAt l c pre' ∧ AtPos l c x ∧ Boxed W (h + 1) 3 (.int .i64 x.1) ∧ Boxed W (h + 2) 4 (.bool true) ∧ Below h w W

theorem plcIx_stays {l c : Int} {h B : Nat} {w : World} {cd : Code} (hB : h + 2 < B) (hw : h ≤ w.heap.size := by omega) : Stays B (PlcIx l c h w cd) := by
  rintro pre W W' row ⟨h1, pre', x, h2, h3, h4, h5, h6, h7⟩ hg hr
  exact ⟨h1, pre', x, h2, h3, h4, stays_boxed (B := B) (b := h + 1) (by omega) _ (fun _ : Unit => _) () W W' row h5 hg hr, stays_boxed (B := B) (b := h + 2) hB _ (fun _ : Unit => _) () W W' row h6 hg hr, stays_below (B := B) (by omega) hw () W W' row h7 hg hr⟩

set_option maxRecDepth 100000 in
set_option maxHeartbeats 4000000 in
theorem Place_in (s : ByteArray) (pl pc : Int) (w : World) (hs : s.size ≤ 300) :
    CallsIn Fence.wide 9 Tryd.prog 16 #[.string s, .agg #[.int .i64 pl, .int .i64 pc]] w fun e w' => e = .returned (.tuple #[.int .i64 (plcZ s pl pc).1, .bool (plcZ s pl pc).2]) ∧ Below w.heap.size w w' := by
  refine callsIn_of_wp_marks Tryd.func16 rfl trivial ?_ rfl
  simp only [Tryd.ntmps16, List.size_toArray, List.length_cons, List.length_nil, Nat.reduceAdd, Nat.reduceSub, Array.replicate_succ, Array.replicate_zero, List.push_toArray, List.append_toArray, List.nil_append, List.cons_append]
  gi_wp2_with (refine ⟨trivial, ?_⟩; gi_at_call 28; refine (callsIn_wide.2 (boundaries_any _ _)).mono ?_)
  rintro e w4 ⟨rfl, rfl⟩
  gi_wp2
  obtain ⟨W0, hW0⟩ : ∃ W0, ((((w.alloc (Obj.cells #[Value.int IntKind.i64 pl, Value.int IntKind.i64 pc] 25)).alloc (Obj.cells #[Value.int IntKind.i64 0] 3)).alloc (Obj.cells #[Value.bool false] 4)).alloc (Obj.cells #[Value.string s] 9)) = W0 := ⟨_, rfl⟩
  have hsz : W0.heap.size = w.heap.size + 4 := by rw [← hW0]; simp
  have bB : Below w.heap.size w W0 := by rw [← hW0]; exact ((((Below.refl _ w).alloc (Nat.le_refl _) _).alloc (by simp) _).alloc (by simp; omega) _).alloc (by simp; omega) _
  have xk : W0.heap[w.heap.size]? = some (.cells #[.int .i64 pl, .int .i64 pc] 25 (0, 0)) := by
    rw [← hW0, Below.heap_alloc _ _ _ (by simp; omega), Below.heap_alloc _ _ _ (by simp; omega), Below.heap_alloc _ _ _ (by simp)]
    exact World.alloc_heap_new _ _
  have xp : Boxed W0 (w.heap.size + 1) 3 (.int .i64 0) := by
    rw [← hW0]
    have := ((Boxed.new (w.alloc (Obj.cells #[Value.int IntKind.i64 pl, Value.int IntKind.i64 pc] 25)) 3 (.int .i64 0)).alloc (Obj.cells #[Value.bool false] 4)).alloc (Obj.cells #[Value.string s] 9)
    simp only [World.size_alloc] at this; exact this
  have xb : Boxed W0 (w.heap.size + 2) 4 (.bool false) := by
    rw [← hW0]
    have := (Boxed.new ((w.alloc (Obj.cells #[Value.int IntKind.i64 pl, Value.int IntKind.i64 pc] 25)).alloc (Obj.cells #[Value.int IntKind.i64 0] 3)) 4 (.bool false)).alloc (Obj.cells #[Value.string s] 9)
    simp only [World.size_alloc] at this; exact this
  have xs : Boxed W0 (w.heap.size + 3) 9 (.string s) := by
    rw [← hW0]
    have := Boxed.new (((w.alloc (Obj.cells #[Value.int IntKind.i64 pl, Value.int IntKind.i64 pc] 25)).alloc (Obj.cells #[Value.int IntKind.i64 0] 3)).alloc (Obj.cells #[Value.bool false] 4)) 9 (.string s)
    simp only [World.size_alloc] at this; exact this
  rw [hW0]
  clear hW0
  refine range_cells (by omega) (gf := 46) (lb := #[.pointer (some ⟨w.heap.size + 3, 0, none⟩)]) rfl (enters_of Tryd.func46 (by kernel_rfl) rfl)
    (boundaries_seq 8 (by omega) (w.heap.size + 3) (w.heap.size + 3) s hs (Nat.le_refl _) W0 (by omega) xs) KpA.trans KpA.turn (Below.refl _ _) (fun _ => rfl)
    (fun pre W => NoneAt pl pc pre ∧ W.heap[w.heap.size]? = some (.cells #[.int .i64 pl, .int .i64 pc] 25 (0, 0)) ∧ Boxed W (w.heap.size + 1) 3 (.int .i64 0) ∧ Boxed W (w.heap.size + 2) 4 (.bool false) ∧ Below w.heap.size w W)
    (PlcIx pl pc w.heap.size w)
    (Stays.and (stays_pure _ _) (Stays.and (stays_heap (by omega) (fun _ => _)) (Stays.and (stays_boxed (by omega) _ _) (Stays.and (stays_boxed (by omega) _ _) (stays_below (by omega) (Nat.le_refl _))))))
    (fun c => plcIx_stays (by omega))
    ⟨fun _ h => by simp at h, xk, xp, xb, bB⟩
    (fun x a' W => ∃ Bx, w.heap.size + 4 ≤ Bx ∧ PosBlock W Bx x.2.1 x.2.2 ∧ a' = { tmps := #[.string s, .agg #[.int .i64 pl, .int .i64 pc], undef, .pointer (some ⟨w.heap.size, 0, none⟩), .pointer (some ⟨w.heap.size + 1, 0, none⟩), .pointer (some ⟨w.heap.size + 1 + 1, 0, none⟩), .int .i64 x.1, .pointer (some ⟨Bx, 0, none⟩), .string s, .func (.func 46) #[] #[.pointer (some ⟨w.heap.size + 1 + 1 + 1, 0, none⟩)], .int .i64 x.1, posV x.2.1 x.2.2, undef, undef, undef, undef], defers := [] })
    (fun x a' _ X Y row hs hg hr => by
      obtain ⟨Bx, h1, h2, h3⟩ := hs
      exact ⟨Bx, h1, own_block Bx (fun _ : Unit => x.2) () X Y row h2 hg (fun r e => (hr r e).2), h3⟩)
    ?assign ?body ?done ?stop
  case assign =>
    rintro l pre x W K hWs hI hK
    gi_wp2
    obtain ⟨hlt, hk, hp, hb, hB⟩ := hI
    exact hK _ _ ((KeepsOthers.alloc _ _).from _) (KpA.alloc _ _ _) ⟨hlt, (Below.heap_alloc _ _ _ (Array.getElem?_eq_some_iff.1 hk).1).trans hk, hp.alloc _, hb.alloc _, hB.alloc hB.size _⟩ ⟨W.heap.size, by omega, World.alloc_heap_new _ _, rfl⟩
  case body =>
    rintro l pre ⟨i, ln, cl⟩ a' W hWs ⟨hlt, hk, hp, hb, hB⟩ ⟨Bx, hBx, hx, rfl⟩ hlen
    have x0 : W.cell? ⟨Bx, 0, none⟩ = some (.int .i64 ln) := by rw [Lib.cell_of_heap hx]; rfl
    have x1 : W.cell? ⟨Bx, 1, none⟩ = some (.int .i64 cl) := by rw [Lib.cell_of_heap hx]; rfl
    have k0 : W.cell? ⟨w.heap.size, 0, none⟩ = some (.int .i64 pl) := by rw [Lib.cell_of_heap hk]; rfl
    have k1 : W.cell? ⟨w.heap.size, 1, none⟩ = some (.int .i64 pc) := by rw [Lib.cell_of_heap hk]; rfl
    have p0 : W.cell? ⟨w.heap.size + 1, 0, none⟩ = some (.int .i64 0) := hp.cell
    have q0 : W.frozen? ⟨w.heap.size + 1, 0, none⟩ = false := hp.frozen
    have b0 : W.cell? ⟨w.heap.size + 1 + 1, 0, none⟩ = some (.bool false) := hb.cell
    have b1 : W.frozen? ⟨w.heap.size + 1 + 1, 0, none⟩ = false := hb.frozen
    by_cases h1 : (ln : Int) = pl
    · have e1 : ((ln : Int) == pl) = true := by rw [beq_iff_eq]; exact h1
      by_cases h2 : (cl : Int) = pc
      · have e2 : ((cl : Int) == pc) = true := by rw [beq_iff_eq]; exact h2
        have HE : Hid (AtPos pl pc (i, ln, cl)) := (show AtPos pl pc (i, ln, cl) from ⟨h1, h2⟩)
        clear h1 h2
        gi_wp2
        obtain ⟨W', hW'⟩ : ∃ W', W' = ((W.setCell ⟨w.heap.size + 1, 0, none⟩ (.int .i64 i)).setCell ⟨w.heap.size + 1 + 1, 0, none⟩ (.bool true)) := ⟨_, rfl⟩
        obtain ⟨y1, y2, y3, y4⟩ := wroteP hp hb hW'
        rw [← hW']
        exact ⟨y3.from _, rfl, pre, _, rfl, hlt, HE.out, y1, y2, hB.trans y4⟩
      · have e2 : ((cl : Int) == pc) = false := by rw [beq_eq_false_iff_ne]; exact h2
        have HE : Hid (¬ AtPos pl pc (i, ln, cl)) := (show ¬ AtPos pl pc (i, ln, cl) from fun h => h2 h.2)
        clear h1 h2
        gi_wp2
        exact ⟨KeepsFrom.refl _ _, KpA.refl _ _, fun y hy => (List.mem_append.1 hy).elim (hlt y) (fun h => by simp at h; subst h; exact HE.out), hk, hp, hb, hB⟩
    · have e1 : ((ln : Int) == pl) = false := by rw [beq_eq_false_iff_ne]; exact h1
      have HE : Hid (¬ AtPos pl pc (i, ln, cl)) := (show ¬ AtPos pl pc (i, ln, cl) from fun h => h1 h.1)
      clear h1
      gi_wp2
      exact ⟨KeepsFrom.refl _ _, KpA.refl _ _, fun y hy => (List.mem_append.1 hy).elim (hlt y) (fun h => by simp at h; subst h; exact HE.out), hk, hp, hb, hB⟩
  case done =>
    rintro D ys W hD rfl ⟨hlt, hk, hp, hb, hB⟩ hK
    have p0 : W.cell? ⟨w.heap.size + 1, 0, none⟩ = some (.int .i64 0) := hp.cell
    have q0 : W.frozen? ⟨w.heap.size + 1, 0, none⟩ = false := hp.frozen
    have b0 : W.cell? ⟨w.heap.size + 1 + 1, 0, none⟩ = some (.bool false) := hb.cell
    have b1 : W.frozen? ⟨w.heap.size + 1 + 1, 0, none⟩ = false := hb.frozen
    gi_wp2
    obtain ⟨W', hW'⟩ : ∃ W', W' = ((W.setCell ⟨w.heap.size + 1, 0, none⟩ (.int .i64 0)).setCell ⟨w.heap.size + 1 + 1, 0, none⟩ (.bool false)) := ⟨_, rfl⟩
    obtain ⟨y1, y2, y3, y4⟩ := wroteP hp hb hW'
    have hK' := y3.same D _ hK rfl
    show bodyPostM _ _ _ _ _ _ _ ((W.setCell ⟨w.heap.size + 1, 0, none⟩ (.int .i64 0)).setCell ⟨w.heap.size + 1 + 1, 0, none⟩ (.bool false))
    rw [← hW']
    refine ⟨by simp, .inl ⟨_, _, rfl, run_takeDeferred hK', ?_⟩⟩
    obtain ⟨z0, z1, zB⟩ := afterP hK' y1 y2 (hB.trans y4) (by omega)
    refine ⟨.tuple #[.int .i64 0, .bool false], ?_, ?_, zB⟩
    · simp [results, Tryd.f16, go_sem, z0, z1]
    · rw [plcZ, plcL_all hlt]; rfl
  case stop =>
    rintro D c pre W hD ⟨rest, hpre⟩ ⟨rfl, pre', x, rfl, hlt, hx, hp, hb, hB⟩ hK
    gi_wp2
    refine ⟨by simp, .inl ⟨_, _, rfl, run_takeDeferred hK, ?_⟩⟩
    obtain ⟨z0, z1, zB⟩ := afterP hK hp hb hB (by omega)
    refine ⟨.tuple #[.int .i64 x.1, .bool true], ?_, ?_, zB⟩
    · simp [results, Tryd.f16, go_sem, z0, z1]
    · rw [plcZ, ← hpre, plcL_hit hlt hx]

theorem Place_any (s : ByteArray) (pl pc : Int) (w : World) (hs : s.size ≤ 300) :
    Calls Tryd.prog 16 #[.string s, .agg #[.int .i64 pl, .int .i64 pc]] w fun e w' => e = .returned (.tuple #[.int .i64 (plcZ s pl pc).1, .bool (plcZ s pl pc).2]) ∧ Below w.heap.size w w' :=
  callsIn_wide.1 (Place_in s pl pc w hs)
end Go.Proofs.YtmofnaeiemkbnaaDoor
