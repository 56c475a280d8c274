/- text.writeCode: the escape of a letter with the hex digits of a number in braces, into a builder that the caller owns. Condition: the builder's length stays under 2^47. -/
import Derived.Test.YtmofnaeiemkbnaaDoorS
namespace Go.Proofs.YtmofnaeiemkbnaaDoor
open Go.RowKit Go.Shelf
attribute [local go_sem] Oper.semAt_some

theorem ownFrom_others {β : Type} {b D : Nat} {w₀ : World} (hD : w₀.heap.size ≤ D) : OwnFrom D (fun (_ : β) W => Lib.OthersKept 5 (some b) w₀ W) :=
  fun _ X Y row hs hg hr k o hk hb ho => (hg.block k (Array.getElem?_eq_some_iff.1 (hs k o hk hb ho)).1 (fun e => by
    have h1 := (hr k e.symm).1
    have h2 := (Array.getElem?_eq_some_iff.1 hk).1
    omega)).trans (hs k o hk hb ho)
theorem others_putObj {b D : Nat} {w W : World} (h : Lib.OthersKept 5 (some b) w W) (o : Obj) (hD : w.heap.size ≤ D) : Lib.OthersKept 5 (some b) w (W.putObj D o) :=
  fun k x hk hb hx => (World.putObj_heap_other (fun e => by have := (Array.getElem?_eq_some_iff.1 hk).1; omega)).trans (h k x hk hb hx)
theorem boxed_others {b : Nat} {A B : World} {k : Nat} {T : TypeId} {v : Value} (h : Boxed A k T v) (ho : Lib.OthersKept 5 (some b) A B) (hk : k ≠ b) (hT : T ≠ 5) : Boxed B k T v :=
  ho k _ h (fun e => hk (by cases e; rfl)) (fun _ _ e => by cases e; exact hT rfl)

/-- What writeCode writes. -/
def codeB (c : UInt8) (m : Nat) : List UInt8 := [92, c, 123] ++ digs 16 m ++ [125]

set_option maxRecDepth 100000 in
set_option maxHeartbeats 4000000 in
theorem writeCode_in (B b : Nat) (bs : List UInt8) (c : UInt8) (m : Nat) (hm : m < 18446744073709551616) (w : World) (h : Lib.IsBuilderF 55 5 B b (Lib.byteCells bs) w) (hlen : bs.length ≤ 1000000) (hBw : B ≤ w.heap.size) :
    CallsIn Fence.wide 9 Tryd.prog 36 #[.pointer (some ⟨b, 0, none⟩), .int .u8 c.toNat, .int .u64 m] w fun e w' => e = .returned (.tuple #[]) ∧ Lib.IsBuilderF 55 5 B b (Lib.byteCells (bs ++ codeB c m)) w' ∧ Below B w w' ∧ Lib.OthersKept 5 (some b) w w' := by
  have HM := Lib.hid hm; clear hm
  have hb : b < w.heap.size := by obtain ⟨cs, hh⟩ := builder_block h; exact (Array.getElem?_eq_some_iff.1 hh).1
  have h' := h.alloc (.cells #[.pointer (some ⟨b, 0, none⟩)] 52)
  have x0 := Boxed.new w 52 (.pointer (some ⟨b, 0, none⟩))
  have c0 := x0.cell
  have hl0 : (Lib.byteCells bs).length + 1 ≤ 140737488355328 := by rw [Lib.byteCells_length]; omega
  refine callsIn_of_wp_marks Tryd.func36 rfl trivial ?_ rfl
  simp only [Tryd.ntmps36, List.size_toArray, List.length_cons, List.length_nil, Nat.reduceAdd, Nat.reduceSub, Array.replicate_succ, Array.replicate_zero, List.push_toArray, List.append_toArray, List.nil_append, List.cons_append]
  gi_wp2_with (refine ⟨trivial, ?_⟩; gi_at_call 32; refine (callsIn_wide.2 (WriteByte_any B b _ 92 _ h' hl0 (by simp; omega))).mono ?_)
  rintro e w1 ⟨rfl, i1, b1, k1⟩
  have x1 := boxed_others x0 k1 (by omega) (by decide)
  have c1 := x1.cell
  have B1 : Below B w w1 := ((Below.refl B w).alloc hBw _).trans b1
  have K1 : Lib.OthersKept 5 (some b) w w1 := ((Lib.OthersKept.refl _ _ w).alloc _).trans k1
  have hs1 : B ≤ w1.heap.size := Nat.le_trans hBw B1.size
  have hl1 : (Lib.byteCells bs ++ [Value.int IntKind.u8 92]).length + 1 ≤ 140737488355328 := by simp [Lib.byteCells_length]; omega
  gi_wp2_with (refine ⟨trivial, ?_⟩; gi_at_call 32; refine (callsIn_wide.2 (WriteByte_any B b _ (c.toNat : Int) _ (.inr i1) hl1 hs1)).mono ?_)
  rintro e w2 ⟨rfl, i2, b2, k2⟩
  have x2 := boxed_others x1 k2 (by omega) (by decide)
  have c2 := x2.cell
  have B2 := B1.trans b2
  have K2 := K1.trans k2
  have hs2 : B ≤ w2.heap.size := Nat.le_trans hBw B2.size
  have hl2 : (Lib.byteCells bs ++ [Value.int IntKind.u8 92] ++ [Value.int IntKind.u8 (c.toNat : Int)]).length + 1 ≤ 140737488355328 := by simp [Lib.byteCells_length]; omega
  gi_wp2_with (refine ⟨trivial, ?_⟩; gi_at_call 32; refine (callsIn_wide.2 (WriteByte_any B b _ 123 _ (.inr i2) hl2 hs2)).mono ?_)
  rintro e w3 ⟨rfl, i3, b3, k3⟩
  have x3 := boxed_others x2 k3 (by omega) (by decide)
  have B3 := B2.trans b3
  have K3 := K2.trans k3
  have hs3 : w.heap.size < w3.heap.size := x3.lt
  clear x0 x1 x2 c0 c1 c2 i1 i2 b1 b2 b3 k1 k2 k3 B1 B2 K1 K2 hs1 hs2 hl0 hl1 hl2 h'
  gi_wp2_with (refine ⟨trivial, ?_⟩; gi_at_call 33; refine (callsIn_wide.2 (digits_any _ _ _)).mono ?_)
  rintro e w4 ⟨rfl, rfl⟩
  gi_wp2
  obtain ⟨W0, hW0⟩ : ∃ W0, ((w3.alloc (Obj.cells #[Value.int IntKind.u64 (m : Int)] 51)).alloc (Obj.cells #[Value.int IntKind.u64 16] 51)) = W0 := ⟨_, rfl⟩
  have hsz : W0.heap.size = w3.heap.size + 2 := by rw [← hW0]; simp
  have bB : Below B w W0 := by rw [← hW0]; exact (B3.alloc (by omega) _).alloc (by simp; omega) _
  have bK : Lib.OthersKept 5 (some b) w W0 := by rw [← hW0]; exact (K3.alloc _).alloc _
  have x4 : Boxed W0 w.heap.size 52 (.pointer (some ⟨b, 0, none⟩)) := by rw [← hW0]; exact (x3.alloc _).alloc _
  have hI0 : Lib.IsBuilderF 55 5 B b (Lib.byteCells (bs ++ [92, c, 123] ++ [])) W0 := by
    rw [← hW0]
    have := Lib.IsBuilderF.alloc (Lib.IsBuilderF.alloc (.inr i3) (Obj.cells #[Value.int IntKind.u64 (m : Int)] 51)) (Obj.cells #[Value.int IntKind.u64 16] 51)
    simpa [Lib.byteCells] using this
  have bn : Boxed W0 w3.heap.size 51 (.int .u64 (m : Int)) := by
    rw [← hW0]; exact (Boxed.new w3 51 (.int .u64 (m : Int))).alloc _
  have bb : Boxed W0 (w3.heap.size + 1) 51 (.int .u64 ((16 : Nat) : Int)) := by
    rw [← hW0]; have := Boxed.new (w3.alloc (Obj.cells #[Value.int IntKind.u64 (m : Int)] 51)) 51 (.int .u64 ((16 : Nat) : Int))
    simp only [World.size_alloc] at this; exact this
  rw [hW0]
  clear hW0
  have Hsz := Lib.hid hsz; clear hsz
  have hl : (digs 16 m).length ≤ 64 := digs_length
  have hWB := bB.size
  refine wpIn_rangeFunc_ownG (F := Fence.wide) rfl (by omega) (gf := 50) (lb := #[.pointer (some ⟨w3.heap.size, 0, none⟩), .pointer (some ⟨w3.heap.size + 1, 0, none⟩)]) rfl trivial (enters_of Tryd.func50 (by kernel_rfl) rfl)
    (digits_stops 8 (by omega) w3.heap.size (w3.heap.size + 1) (b + 1) m 16 HM.out (by omega) (by omega) (by omega) (by omega) W0 bn bb) KpA.trans KpA.turn (Below.refl _ _) (fun _ => rfl)
    (fun pre W => (Lib.IsBuilderF 55 5 B b (Lib.byteCells (bs ++ [92, c, 123] ++ pre)) W ∧ Boxed W w.heap.size 52 (.pointer (some ⟨b, 0, none⟩))) ∧ Below B w W ∧ Lib.OthersKept 5 (some b) w W)
    (fun _ _ _ => False)
    (OwnFrom.and (OwnFrom.and (Own.from (builderF_own _ _ _) _) (Own.from (boxed_own _ _ _) _)) (OwnFrom.and (ownFrom_below hBw (by omega)) (ownFrom_others bB.size)))
    (fun _ _ _ _ _ hs _ _ => hs)
    ⟨⟨hI0, x4⟩, bB, bK⟩
    (fun d => { tmps := #[.pointer (some ⟨b, 0, none⟩), .int .u8 (c.toNat : Int), .int .u64 (m : Int), .pointer (some ⟨w.heap.size, 0, none⟩), undef, undef, .int .u8 (d.toNat : Int), .pointer (some ⟨b, 0, none⟩), .nilIface, .pointer (some ⟨b, 0, none⟩), .int .u8 (c.toNat : Int), .nilIface, .pointer (some ⟨b, 0, none⟩), .nilIface, .int .u64 (m : Int), .func (.func 50) #[] #[.pointer (some ⟨w3.heap.size, 0, none⟩), .pointer (some ⟨w3.heap.size + 1, 0, none⟩)], .int .u8 (d.toNat : Int), undef, undef, undef, undef, undef], defers := [] }) ?assign ?body ?done ?stop
  case assign =>
    intro l d W K hK
    gi_wp2
    exact hK
  case body =>
    rintro l pre d W ⟨⟨hI, hX⟩, hB, hO⟩ hlen'
    have hl2 : (Lib.byteCells (bs ++ [92, c, 123] ++ pre)).length + 1 ≤ 140737488355328 := by rw [Lib.byteCells_length]; simp; omega
    have hWs : B ≤ W.heap.size := Nat.le_trans hBw hB.size
    obtain ⟨cs, hW0b⟩ := builder_block hI
    have cX := hX.cell
    gi_wp2_with (refine ⟨trivial, ?_⟩; gi_at_call 32; refine (CallsIn.inRound l (callsIn_wide.2 (WriteByte_any B b _ (d.toNat : Int) _ hI hl2 hWs))).mono ?_)
    rintro e W1 ⟨rfl, h1, b1, k1⟩
    gi_wp2
    exact ⟨keepsFrom_of_others hW0b b1.size k1, kpA_of_others (by omega) b1.size k1, ⟨by rw [← List.append_assoc, Lib.byteCells_append]; exact .inr h1, boxed_others hX k1 (by omega) (by decide)⟩, hB.trans b1, hO.trans k1⟩
  case done =>
    rintro D ys W hD rfl ⟨⟨hI, hX⟩, hB, hO⟩ hK
    have hl2 : (Lib.byteCells (bs ++ [92, c, 123] ++ digs 16 m)).length + 1 ≤ 140737488355328 := by rw [Lib.byteCells_length]; simp; omega
    have hWs : B ≤ W.heap.size := Nat.le_trans hBw hB.size
    have cX := hX.cell
    gi_wp2_with (refine ⟨trivial, ?_⟩; gi_at_call 32; refine (callsIn_wide.2 (WriteByte_any B b _ 125 _ hI hl2 hWs)).mono ?_)
    rintro e W1 ⟨rfl, h1, b1, k1⟩
    gi_wp2
    have hK1 := k1 D _ hK (fun e => by cases e; omega) (fun _ _ e => by cases e)
    refine ⟨by simp, .inl ⟨_, _, rfl, run_takeDeferred hK1, ?_⟩⟩
    have hg := grownBy_putObj' W1 D (.deferred none)
    refine ⟨_, results_none rfl _ _ _, rfl, ?_, (hB.trans b1).trans (belowK_b (w := w) hBw W1 D _ _ (Nat.le_trans bB.size hD) hK1 rfl rfl), others_putObj (hO.trans k1) _ (Nat.le_trans bB.size hD)⟩
    refine builderF_own B b (fun _ : Unit => Lib.byteCells (bs ++ codeB c m)) () W1 _ (some D) ?_ hg (fun r e => by cases e; exact ⟨_, hK1, rfl⟩)
    have e1 : bs ++ codeB c m = (bs ++ [92, c, 123] ++ digs 16 m) ++ [125] := by simp [codeB]
    show Lib.IsBuilderF _ _ _ _ (Lib.byteCells (bs ++ codeB c m)) _
    rw [e1, Lib.byteCells_append]
    exact .inr h1
  case stop =>
    rintro D c pre W _ _ h _
    exact h.elim
end Go.Proofs.YtmofnaeiemkbnaaDoor
