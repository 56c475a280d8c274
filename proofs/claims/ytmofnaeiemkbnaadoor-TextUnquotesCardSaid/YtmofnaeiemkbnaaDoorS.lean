/- text.Show: the decimal digits of a number, with a leading - if it is negative: every int. -/
import Derived.Test.YtmofnaeiemkbnaaDoorD
import Derived.Test.YtmofnaeiemkbnaaDoorA
namespace Go.Proofs.YtmofnaeiemkbnaaDoor
open Go.RowKit Go.Shelf
attribute [local go_sem] Oper.semAt_some

/-- What Show gives. -/
def showB (x : Int) : List UInt8 := (if x < 0 then [45] else []) ++ digs 10 x.natAbs

theorem builder_block {B b : Nat} {bs : List Value} {W : World} (h : Lib.IsBuilderF 55 5 B b bs W) : ∃ cs, W.heap[b]? = some (.cells cs 55 (0, 0)) := by
  rcases h with ⟨_, v, h, _⟩ | ⟨_, v, h, _⟩
  · exact ⟨_, h⟩
  · exact ⟨_, h⟩

set_option maxRecDepth 100000 in
set_option maxHeartbeats 2000000 in
theorem Show_pos (x : Int) (w : World) (h0 : 0 ≤ x) (h1 : x ≤ 9223372036854775807) :
    CallsIn Fence.wide 9 Tryd.prog 20 #[.int .i64 x] w fun e w' => e = .returned (.string ⟨(digs 10 x.toNat).toArray⟩) ∧ Below w.heap.size w w' := by
  obtain ⟨m, rfl⟩ := Int.eq_ofNat_of_zero_le h0
  have hm : m < 18446744073709551616 := by omega
  have hu : IntKind.u64.wrap (m : Int) = (m : Int) := IntWalk.u64_in _ (by omega)
  have hl : (digs 10 m).length ≤ 64 := digs_length
  have hd : decide ((m : Int) < 0) = false := decide_eq_false (by omega)
  have H1 := Lib.hid h1; clear h1
  have HM := Lib.hid hm; clear hm
  refine callsIn_of_wp_marks Tryd.func20 rfl trivial ?_ rfl
  simp only [Tryd.ntmps20, List.size_toArray, List.length_cons, List.length_nil, Nat.reduceAdd, Nat.reduceSub, Array.replicate_succ, Array.replicate_zero, List.push_toArray, List.append_toArray, List.nil_append, List.cons_append]
  gi_wp2_with (refine ⟨trivial, ?_⟩; gi_at_call 33; refine (callsIn_wide.2 (digits_any _ _ _)).mono ?_; rintro e w' ⟨rfl, rfl⟩)
  obtain ⟨W0, hW0⟩ : ∃ W0, (((w.alloc (Obj.cells #[Value.pointer none, Value.slice none 0 0] 55)).alloc (Obj.cells #[Value.int IntKind.u64 (m : Int)] 51)).alloc (Obj.cells #[Value.int IntKind.u64 10] 51)) = W0 := ⟨_, rfl⟩
  have hsz : W0.heap.size = w.heap.size + 3 := by rw [← hW0]; simp
  have bB : Below w.heap.size w W0 := by rw [← hW0]; exact (((Below.refl _ w).alloc (Nat.le_refl _) _).alloc (by simp) _).alloc (by simp; omega) _
  have hI0 : Lib.IsBuilderF 55 5 w.heap.size w.heap.size (Lib.byteCells []) W0 := by rw [← hW0]; exact ((Lib.IsBuilderF.of (Lib.fresh_isBuilder 55 5 w)).alloc _).alloc _
  have bn : Boxed W0 (w.heap.size + 1) 51 (.int .u64 (m : Int)) := by
    rw [← hW0]; have := (Boxed.new (w.alloc (Obj.cells #[Value.pointer none, Value.slice none 0 0] 55)) 51 (.int .u64 (m : Int))).alloc (Obj.cells #[Value.int IntKind.u64 10] 51)
    rwa [World.size_alloc] at this
  have bb : Boxed W0 (w.heap.size + 1 + 1) 51 (.int .u64 ((10 : Nat) : Int)) := by
    rw [← hW0]; have := Boxed.new ((w.alloc (Obj.cells #[Value.pointer none, Value.slice none 0 0] 55)).alloc (Obj.cells #[Value.int IntKind.u64 (m : Int)] 51)) 51 (.int .u64 ((10 : Nat) : Int))
    simp only [World.size_alloc] at this; exact this
  rw [hW0]
  clear hW0 hu hd
  have Hsz := Lib.hid hsz; clear hsz
  refine wpIn_rangeFunc_ownG (F := Fence.wide) rfl (by omega) (gf := 50) (lb := #[.pointer (some ⟨w.heap.size + 1, 0, none⟩), .pointer (some ⟨w.heap.size + 1 + 1, 0, none⟩)]) rfl trivial (enters_of Tryd.func50 (by kernel_rfl) rfl)
    (digits_stops 8 (by omega) (w.heap.size + 1) (w.heap.size + 1 + 1) (w.heap.size + 1) m 10 HM.out (by omega) (by omega) (Nat.le_refl _) (by omega) W0 bn bb) KpA.trans KpA.turn (Below.refl _ _) (fun _ => rfl)
    (fun pre W => Lib.IsBuilderF 55 5 w.heap.size w.heap.size (Lib.byteCells pre) W ∧ Below w.heap.size w W)
    (fun _ _ _ => False)
    (OwnFrom.and (Own.from (builderF_own _ _ _) _) (ownFrom_below (Nat.le_refl _) bB.size))
    (fun _ _ _ _ _ hs _ _ => hs)
    ⟨hI0, bB⟩
    (fun c => { tmps := #[.int .i64 (m : Int), undef, .string { data := #[] }, .pointer (some ⟨w.heap.size, 0, none⟩), .int .u64 (m : Int), .int .u8 (c.toNat : Int), .int .i64 (m : Int), .int .u64 (m : Int), .int .i64 (m : Int), .bool false, undef, undef, undef, .int .u64 (m : Int), .func (.func 50) #[] #[.pointer (some ⟨w.heap.size + 1, 0, none⟩), .pointer (some ⟨w.heap.size + 1 + 1, 0, none⟩)], .int .u8 (c.toNat : Int), undef, undef, undef], defers := [] }) ?assign ?body ?done ?stop
  case assign =>
    intro l c W K hK
    gi_wp2
    exact hK
  case body =>
    rintro l pre c W ⟨hI, hB⟩ hlen
    have hl2 : (Lib.byteCells pre).length + 1 ≤ 140737488355328 := by rw [Lib.byteCells_length]; omega
    have hWs := hB.size
    obtain ⟨cs, hW0b⟩ := builder_block hI
    gi_wp2_with (refine ⟨trivial, ?_⟩; gi_at_call 32; refine (CallsIn.inRound l (callsIn_wide.2 (WriteByte_any w.heap.size w.heap.size _ (c.toNat : Int) _ hI hl2 hWs))).mono ?_; rintro e W1 ⟨rfl, h1, b1, k1⟩)
    exact ⟨keepsFrom_of_others hW0b b1.size k1, kpA_of_others (by omega) b1.size k1, by rw [Lib.byteCells_append]; exact .inr h1, hB.trans b1⟩
  case done =>
    rintro D ys W hD rfl ⟨hI, hB⟩ hK
    gi_wp2_with (refine ⟨trivial, ?_⟩; gi_at_call 34; refine (callsIn_wide.2 (Tryd.Builder_String_any_k w.heap.size w.heap.size _ _ hI hB.size)).mono ?_; rintro e W1 ⟨rfl, _, b1, k1⟩)
    have hK1 := k1 D _ hK (fun e => by have h1 := bB.size; have h2 := Hsz.out; cases e; omega) (fun _ _ e => by cases e)
    refine ⟨by simp, .inl ⟨_, _, rfl, run_takeDeferred hK1, ?_⟩⟩
    exact ⟨_, results_tmp rfl _ _ _, rfl, (hB.trans b1).trans (belowK_b (w := w) (Nat.le_refl _) W1 D _ _ (Nat.le_trans bB.size hD) hK1 rfl rfl)⟩
  case stop =>
    rintro D c pre W _ _ h _
    exact h.elim
set_option maxRecDepth 100000 in
set_option maxHeartbeats 2000000 in
theorem Show_neg (x : Int) (w : World) (h0 : x < 0) (h1 : -9223372036854775808 ≤ x) :
    CallsIn Fence.wide 9 Tryd.prog 20 #[.int .i64 x] w fun e w' => e = .returned (.string ⟨([45] ++ digs 10 x.natAbs).toArray⟩) ∧ Below w.heap.size w w' := by
  obtain ⟨m, hmx⟩ : ∃ m, m = x.natAbs := ⟨_, rfl⟩
  have hm : m < 18446744073709551616 := by omega
  obtain ⟨y, hy⟩ : ∃ y, y = IntKind.u64.wrap x := ⟨_, rfl⟩
  have hu : IntKind.u64.wrap x = y := hy.symm
  have hn : IntKind.u64.wrap (-y) = (m : Int) := by rw [hy, IntKind.wrap_u64, IntKind.wrap_u64]; omega
  have hl : (digs 10 m).length ≤ 64 := digs_length
  have hd : decide (x < 0) = true := decide_eq_true h0
  rw [← hmx]
  have H1 := Lib.hid h1; clear h1
  have HM := Lib.hid hm; clear hm
  clear hy hmx
  refine callsIn_of_wp_marks Tryd.func20 rfl trivial ?_ rfl
  simp only [Tryd.ntmps20, List.size_toArray, List.length_cons, List.length_nil, Nat.reduceAdd, Nat.reduceSub, Array.replicate_succ, Array.replicate_zero, List.push_toArray, List.append_toArray, List.nil_append, List.cons_append]
  have hI00 := Lib.IsBuilderF.of (Lib.fresh_isBuilder 55 5 w)
  gi_wp2_with (refine ⟨trivial, ?_⟩; gi_at_call 32; refine (callsIn_wide.2 (WriteByte_any w.heap.size w.heap.size [] 45 _ hI00 (by simp) (by simp))).mono ?_; rintro e Wm ⟨rfl, hIm, bm, km⟩)
  have hBm : Below w.heap.size w Wm := ((Below.refl _ w).alloc (Nat.le_refl _) _).trans bm
  clear bm km hI00
  gi_wp2_with (refine ⟨trivial, ?_⟩; gi_at_call 33; refine (callsIn_wide.2 (digits_any _ _ _)).mono ?_; rintro e w' ⟨rfl, rfl⟩)
  obtain ⟨W0, hW0⟩ : ∃ W0, ((Wm.alloc (Obj.cells #[Value.int IntKind.u64 (m : Int)] 51)).alloc (Obj.cells #[Value.int IntKind.u64 10] 51)) = W0 := ⟨_, rfl⟩
  have hsz : W0.heap.size = Wm.heap.size + 2 := by rw [← hW0]; simp
  have bB : Below w.heap.size w W0 := by rw [← hW0]; exact (hBm.alloc hBm.size _).alloc (by simp; have := hBm.size; omega) _
  have hI0 : Lib.IsBuilderF 55 5 w.heap.size w.heap.size (Lib.byteCells [45]) W0 := by rw [← hW0]; exact (Lib.IsBuilderF.alloc (.inr hIm) _).alloc _
  have hlt : w.heap.size < Wm.heap.size := hIm.lt
  have bn : Boxed W0 Wm.heap.size 51 (.int .u64 (m : Int)) := by
    rw [← hW0]; exact (Boxed.new Wm 51 (.int .u64 (m : Int))).alloc _
  have bb : Boxed W0 (Wm.heap.size + 1) 51 (.int .u64 ((10 : Nat) : Int)) := by
    rw [← hW0]; have := Boxed.new (Wm.alloc (Obj.cells #[Value.int IntKind.u64 (m : Int)] 51)) 51 (.int .u64 ((10 : Nat) : Int))
    simp only [World.size_alloc] at this; exact this
  rw [hW0]
  clear hW0 hu hd hn
  have Hsz := Lib.hid hsz; clear hsz
  refine wpIn_rangeFunc_ownG (F := Fence.wide) rfl (by omega) (gf := 50) (lb := #[.pointer (some ⟨Wm.heap.size, 0, none⟩), .pointer (some ⟨Wm.heap.size + 1, 0, none⟩)]) rfl trivial (enters_of Tryd.func50 (by kernel_rfl) rfl)
    (digits_stops 8 (by omega) Wm.heap.size (Wm.heap.size + 1) (w.heap.size + 1) m 10 HM.out (by omega) (by omega) (by omega) (by omega) W0 bn bb) KpA.trans KpA.turn (Below.refl _ _) (fun _ => rfl)
    (fun pre W => Lib.IsBuilderF 55 5 w.heap.size w.heap.size (Lib.byteCells ([45] ++ pre)) W ∧ Below w.heap.size w W)
    (fun _ _ _ => False)
    (OwnFrom.and (Own.from (builderF_own _ _ _) _) (ownFrom_below (Nat.le_refl _) bB.size))
    (fun _ _ _ _ _ hs _ _ => hs)
    ⟨hI0, bB⟩
    (fun c => { tmps := #[.int .i64 x, undef, .string { data := #[] }, .pointer (some ⟨w.heap.size, 0, none⟩), .int .u64 (m : Int), .int .u8 (c.toNat : Int), .int .i64 x, .int .u64 y, .int .i64 x, .bool true, .nilIface, .int .u64 y, .int .u64 (m : Int), .int .u64 (m : Int), .func (.func 50) #[] #[.pointer (some ⟨Wm.heap.size, 0, none⟩), .pointer (some ⟨Wm.heap.size + 1, 0, none⟩)], .int .u8 (c.toNat : Int), undef, undef, undef], defers := [] }) ?assign ?body ?done ?stop
  case assign =>
    intro l c W K hK
    gi_wp2
    exact hK
  case body =>
    rintro l pre c W ⟨hI, hB⟩ hlen
    have hl2 : (Lib.byteCells ([45] ++ pre)).length + 1 ≤ 140737488355328 := by rw [Lib.byteCells_length]; simp; omega
    have hWs := hB.size
    obtain ⟨cs, hW0b⟩ := builder_block hI
    gi_wp2_with (refine ⟨trivial, ?_⟩; gi_at_call 32; refine (CallsIn.inRound l (callsIn_wide.2 (WriteByte_any w.heap.size w.heap.size _ (c.toNat : Int) _ hI hl2 hWs))).mono ?_; rintro e W1 ⟨rfl, h1, b1, k1⟩)
    exact ⟨keepsFrom_of_others hW0b b1.size k1, kpA_of_others (by omega) b1.size k1, by rw [← List.append_assoc, Lib.byteCells_append]; exact .inr h1, hB.trans b1⟩
  case done =>
    rintro D ys W hD rfl ⟨hI, hB⟩ hK
    gi_wp2_with (refine ⟨trivial, ?_⟩; gi_at_call 34; refine (callsIn_wide.2 (Tryd.Builder_String_any_k w.heap.size w.heap.size _ _ hI hB.size)).mono ?_; rintro e W1 ⟨rfl, _, b1, k1⟩)
    have hK1 := k1 D _ hK (fun e => by have h1 := bB.size; have h2 := Hsz.out; cases e; omega) (fun _ _ e => by cases e)
    refine ⟨by simp, .inl ⟨_, _, rfl, run_takeDeferred hK1, ?_⟩⟩
    exact ⟨_, results_tmp rfl _ _ _, rfl, (hB.trans b1).trans (belowK_b (w := w) (Nat.le_refl _) W1 D _ _ (Nat.le_trans bB.size hD) hK1 rfl rfl)⟩
  case stop =>
    rintro D c pre W _ _ h _
    exact h.elim

theorem Show_any (x : Int) (w : World) (h0 : -9223372036854775808 ≤ x) (h1 : x ≤ 9223372036854775807) :
    Calls Tryd.prog 20 #[.int .i64 x] w fun e w' => e = .returned (.string ⟨(showB x).toArray⟩) ∧ Below w.heap.size w w' := by
  by_cases h : x < 0
  · rw [showB, if_pos h]
    exact callsIn_wide.1 (Show_neg x w h h0)
  · rw [showB, if_neg h, show x.natAbs = x.toNat by omega]
    exact callsIn_wide.1 (Show_pos x w (by omega) h1)
end Go.Proofs.YtmofnaeiemkbnaaDoor
