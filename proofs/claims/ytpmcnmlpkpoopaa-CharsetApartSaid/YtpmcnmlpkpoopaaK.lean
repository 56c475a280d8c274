/- charset.combine: any two lists of pieces. -/
import Derived.Test.YtpmcnmlpkpoopaaQ
import Derived.Deep.RegionHeld3
import Derived.Deep.CutBlock
import Derived.Deep.CutRange
import Derived.Carry
namespace Go.Proofs.Ytpmcnmlpkpoopaa
open Go.RowKit Go.Shelf

/-- What combine answers: the pairs that were met so far, what is left of both lists. -/
def combF : Nat → List Pr → List Pc → List Pc → List Pc
  | n + 1, C, x :: a, y :: b => (ovR x.1 y.1, (((if (x.2, y.2) ∈ C then C else C ++ [(x.2, y.2)]).idxOf (x.2, y.2) : Nat) : Int)) ::
      combF n (if (x.2, y.2) ∈ C then C else C ++ [(x.2, y.2)]) (if x.1.2 ≤ y.1.2 then a else x :: a) (if y.1.2 ≤ x.1.2 then b else y :: b)
  | _, _, _, _ => []
def combineL (a b : List Pc) : List Pc := combF (a.length + b.length) [(0, 0)] a b
theorem combF_nil1 (n : Nat) (C : List Pr) (b : List Pc) : combF n C [] b = [] := by cases n <;> rfl
theorem combF_nil2 (n : Nat) (C : List Pr) (a : List Pc) : combF n C a [] = [] := by cases n <;> cases a <;> rfl
theorem combF_length : ∀ (n : Nat) (C : List Pr) (a b : List Pc), (combF n C a b).length ≤ n
  | 0, _, _, _ => by simp [combF]
  | n + 1, C, [], b => by rw [combF_nil1]; simp
  | n + 1, C, a, [] => by rw [combF_nil2]; simp
  | n + 1, C, x :: a, y :: b => by rw [combF, List.length_cons]; exact Nat.succ_le_succ (combF_length n _ _ _)
theorem combF_class : ∀ (n : Nat) (C : List Pr) (a b : List Pc), ∀ q ∈ combF n C a b, 0 ≤ q.2 ∧ q.2 ≤ C.length + n
  | 0, _, _, _ => by simp [combF]
  | n + 1, C, [], b => by rw [combF_nil1]; simp
  | n + 1, C, a, [] => by rw [combF_nil2]; simp
  | n + 1, C, x :: a, y :: b => by
    intro q hq
    rw [combF] at hq
    generalize hC' : (if (x.2, y.2) ∈ C then C else C ++ [(x.2, y.2)]) = C' at hq
    have hl : C'.length ≤ C.length + 1 := by rw [← hC']; split <;> simp
    have hi : C'.idxOf (x.2, y.2) ≤ C'.length := List.idxOf_le_length
    rcases List.mem_cons.1 hq with rfl | hq
    · dsimp only; omega
    · have := combF_class n C' _ _ q hq
      omega

/-- A piece as a block; the slice at ao holds the pieces L. -/
def PcAt (W : World) (b : Nat) (p : Pc) : Prop := W.heap[b]? = some (.cells #[.int .i32 p.1.1, .int .i32 p.1.2, .int .i64 p.2] 58 (0, 0))
theorem PcAt.c0 {W : World} {b : Nat} {p : Pc} (h : PcAt W b p) : W.cell? ⟨b, 0, none⟩ = some (.int .i32 p.1.1) := by rw [Lib.cell_of_heap h]; rfl
theorem PcAt.c1 {W : World} {b : Nat} {p : Pc} (h : PcAt W b p) : W.cell? ⟨b, 1, none⟩ = some (.int .i32 p.1.2) := by rw [Lib.cell_of_heap h]; rfl
theorem PcAt.c2 {W : World} {b : Nat} {p : Pc} (h : PcAt W b p) : W.cell? ⟨b, 2, none⟩ = some (.int .i64 p.2) := by rw [Lib.cell_of_heap h]; rfl
theorem PcAt.lt {W : World} {b : Nat} {p : Pc} (h : PcAt W b p) : b < W.heap.size := (Array.getElem?_eq_some_iff.1 h).1
theorem PcAt.alloc {W : World} {b : Nat} {p : Pc} (h : PcAt W b p) (o : Obj) : PcAt (W.alloc o) b p := (Below.heap_alloc _ _ _ h.lt).trans h
theorem PcAt.new (W : World) (p : Pc) : PcAt (W.alloc (.cells #[.int .i32 p.1.1, .int .i32 p.1.2, .int .i64 p.2] 58)) W.heap.size p := World.alloc_heap_new _ _
theorem PcAt.grown {W W' : World} {row : Option Nat} {b : Nat} {p : Pc} (h : PcAt W b p) (hg : W.grownBy W' row) (hne : some b ≠ row) : PcAt W' b p := (hg.block b h.lt hne).trans h
theorem PcAt.below {B : Nat} {W W' : World} {b : Nat} {p : Pc} (h : PcAt W b p) (hb : Below B W W') (hB : b < B) : PcAt W' b p := (hb.block _ hB).trans h
def Pcs (W : World) (B : Nat) (ao : Option Addr) (L : List Pc) : Prop := ∀ pre x rest, pre ++ x :: rest = L → ∃ g o, ao = some ⟨g, o, none⟩ ∧ g < B ∧
  W.cell? ⟨g, o + pre.length * 3, none⟩ = some (.int .i32 x.1.1) ∧ W.cell? ⟨g, o + pre.length * 3 + 1, none⟩ = some (.int .i32 x.1.2) ∧ W.cell? ⟨g, o + pre.length * 3 + 2, none⟩ = some (.int .i64 x.2)
theorem Pcs.below {W W' : World} {B B' : Nat} {ao : Option Addr} {L : List Pc} (h : Pcs W B ao L) (hb : Below B' W W') (hB : B ≤ B') : Pcs W' B ao L := fun pre x rest e => by
  obtain ⟨g, o, h1, h2, h3, h4, h5⟩ := h pre x rest e
  exact ⟨g, o, h1, h2, (hb.cell (p := ⟨g, o + pre.length * 3, none⟩) (Nat.lt_of_lt_of_le h2 hB)).trans h3, (hb.cell (p := ⟨g, o + pre.length * 3 + 1, none⟩) (Nat.lt_of_lt_of_le h2 hB)).trans h4, (hb.cell (p := ⟨g, o + pre.length * 3 + 2, none⟩) (Nat.lt_of_lt_of_le h2 hB)).trans h5⟩
theorem Pcs.mono {W : World} {B B' : Nat} {ao : Option Addr} {L : List Pc} (h : Pcs W B ao L) (hB : B ≤ B') : Pcs W B' ao L := fun pre x rest e => by
  obtain ⟨g, o, h1, h2, h3⟩ := h pre x rest e
  exact ⟨g, o, h1, Nat.lt_of_lt_of_le h2 hB, h3⟩
theorem pcs_of_own {w : World} {base : Nat} {v : Value} {L : List Pc} (h : w.ownsRow base 58 3 v L.length (pcCells L)) :
    ∃ ao cap, v = .slice ao L.length cap ∧ Pcs w w.heap.size ao L := by
  obtain ⟨h1, ⟨rfl, h2⟩ | ⟨g, cap, cur, rfl, h3, h4, h5, h6, h7, h8⟩⟩ := h
  · refine ⟨none, 0, by rw [h2], fun pre x rest e => ?_⟩
    rw [← e] at h2
    simp at h2
  · refine ⟨_, cap, rfl, fun pre x rest e => ⟨g, 0, rfl, (Array.getElem?_eq_some_iff.1 h4).1, ?_⟩⟩
    have hlen : pre.length < L.length := by rw [← e]; simp
    obtain ⟨a0, a1, a2⟩ := pcCells_at pre x rest
    rw [e, ← h8, List.getElem?_take_of_lt (by omega), Array.getElem?_toList] at a0
    rw [e, ← h8, List.getElem?_take_of_lt (by omega), Array.getElem?_toList] at a1
    rw [e, ← h8, List.getElem?_take_of_lt (by omega), Array.getElem?_toList] at a2
    rw [Nat.zero_add, Lib.cell_of_heap h4, Lib.cell_of_heap h4, Lib.cell_of_heap h4]
    exact ⟨a0, a1, a2⟩

theorem two_pc (W : World) (x y : Pc) : PcAt ((W.alloc (.cells #[.int .i32 x.1.1, .int .i32 x.1.2, .int .i64 x.2] 58)).alloc (.cells #[.int .i32 y.1.1, .int .i32 y.1.2, .int .i64 y.2] 58)).drew W.heap.size x ∧
    PcAt ((W.alloc (.cells #[.int .i32 x.1.1, .int .i32 x.1.2, .int .i64 x.2] 58)).alloc (.cells #[.int .i32 y.1.1, .int .i32 y.1.2, .int .i64 y.2] 58)).drew (W.heap.size + 1) y ∧
    W.grownBy ((W.alloc (.cells #[.int .i32 x.1.1, .int .i32 x.1.2, .int .i64 x.2] 58)).alloc (.cells #[.int .i32 y.1.1, .int .i32 y.1.2, .int .i64 y.2] 58)).drew none := by
  refine ⟨(PcAt.new W x).alloc _, ?_, grown_drew (grown_trans (World.grownBy_alloc W _ none) (World.grownBy_alloc _ _ none))⟩
  have := PcAt.new (W.alloc (.cells #[.int .i32 x.1.1, .int .i32 x.1.2, .int .i64 x.2] 58)) y
  rw [World.size_alloc] at this
  exact this
theorem CSof {mb n9 n10 nb : Nat} {x y : Pc} {z : Int} {C : List Pr} {W : World} (v9 : PcAt W n9 x) (v10 : PcAt W n10 y) (vb : W.heap[nb]? = some (.cells #[.int .i64 x.2, .int .i64 y.2] 86 (0, 0))) (pm : PM W mb C) (hz : (x.2, y.2) ∈ C ∧ ((C.idxOf (x.2, y.2) : Nat) : Int) = z) :
    W.cell? ⟨n9, 0, none⟩ = some (.int .i32 x.1.1) ∧ W.cell? ⟨n9, 1, none⟩ = some (.int .i32 x.1.2) ∧ W.cell? ⟨n10, 0, none⟩ = some (.int .i32 y.1.1) ∧ W.cell? ⟨n10, 1, none⟩ = some (.int .i32 y.1.2) ∧
    W.cell? ⟨nb, 0, none⟩ = some (.int .i64 x.2) ∧ W.cell? ⟨nb, 1, none⟩ = some (.int .i64 y.2) ∧ (Instr.lookup 87 (.map (some mb)) (.agg #[.int .i64 x.2, .int .i64 y.2]) false).run Try.prog W = .ok (.int .i64 z) W := by
  refine ⟨v9.c0, v9.c1, v10.c0, v10.c1, by rw [Lib.cell_of_heap vb]; rfl, by rw [Lib.cell_of_heap vb]; rfl, ?_⟩
  rw [← hz.2]
  exact pm.get hz.1
theorem step_app_pc {ops : Array Oper} {o : Oper} {a : Act} {K : Act → World → Prop} {Q : Exit → Act → World → Prop} {E : Prop} (hg : o.guard = none) (s x : Operand)
    (ho : o.op = .call { callee := .builtin .append, args := #[s, x], argTypes := #[55, 55] }) (base : Nat) (v : Value) (L : List Pc) (W : World) (hown : W.ownsRow base 58 3 v L.length (pcCells L)) (hs : a.eval s = v) (r : Pc) (c k : Nat)
    (hx : a.eval x = .slice (some ⟨k, 0, none⟩) 1 c) (hk : W.heap.size = k) (hn : L.length < 1000000) (hb : base ≤ W.heap.size)
    (h : ∀ v' w', w'.ownsRow base 58 3 v' (L ++ [r]).length (pcCells (L ++ [r])) → W.grownBy w' v.ownBlock → (∀ k, v'.ownBlock = some k → v.ownBlock = some k ∨ W.heap.size ≤ k) → K (a.put o.dst v') w') :
    if Region.wanted o (yielded ops a.tmps) = true then Oper.wp Try.prog o a (W.alloc (.cells #[.int .i32 r.1.1, .int .i32 r.1.2, .int .i64 r.2] 58)) K Q else E := by
  have hw : Region.wanted o (yielded ops a.tmps) = true := by simp [Region.wanted, hg]
  rw [if_pos hw]
  subst hk
  obtain ⟨i0, hi, hz0, hz1, hz2⟩ := info_parts infoPiece
  obtain ⟨v', w', hr, h1, h2, h3⟩ := app_own_at (W.alloc (.cells #[.int .i32 r.1.1, .int .i32 r.1.2, .int .i64 r.2] 58)) base 55 o.type 58 i0 (.agg #[.int .i32 0, .int .i32 0, .int .i64 0]) 3 16 Try.underlying55 hi hz0 hz1 hz2 rfl (by decide) v L.length (pcCells L) (hown.alloc _) ⟨W.heap.size, 0, none⟩ 1 c [.int .i32 r.1.1, .int .i32 r.1.2, .int .i64 r.2] rfl
    piece_row (fun u hu => by simp at hu; rcases hu with rfl | rfl | rfl <;> rfl) (by unfold maxLen; omega) (by omega) (by simp; omega)
  refine Lib.wp_append_run _ s x 55 55 ho _ _ hs hx _ _ hr (h v' w' ?_ (grown_of_alloc h2) (fun k hk => ?_))
  · rw [pcCells_app, List.length_append]
    exact h1
  · rcases h3 k hk with h | h
    · exact .inl h
    · rw [World.size_alloc] at h
      exact .inr (by omega)
theorem cell_al {W : World} {g o : Nat} {v : Value} (h : W.cell? ⟨g, o, none⟩ = some v) (hg : g < W.heap.size) (x : Obj) : (W.alloc x).cell? ⟨g, o, none⟩ = some v :=
  (((Below.refl W.heap.size W).alloc (Nat.le_refl _) x).cell (p := ⟨g, o, none⟩) hg).trans h
theorem lt_al {W : World} {g : Nat} (hg : g < W.heap.size) (x : Obj) : g < (W.alloc x).heap.size := by rw [World.size_alloc]; omega

set_option maxHeartbeats 4000000 in
set_option maxRecDepth 100000 in
theorem combine_any (ao bo : Option Addr) (A B : List Pc) (ca cb : Nat) (w : World) (hN : A.length + B.length ≤ 900000) (hA : Pcs w w.heap.size ao A) (hB : Pcs w w.heap.size bo B)
    (kA : ∀ p ∈ A, 0 ≤ p.2 ∧ p.2 ≤ 1000000) (kB : ∀ p ∈ B, 0 ≤ p.2 ∧ p.2 ≤ 1000000) :
    Calls Try.prog 58 #[.slice ao A.length ca, .slice bo B.length cb] w fun e w' => ∃ v, e = .returned v ∧ w'.ownsRow w.heap.size 58 3 v (combineL A B).length (pcCells (combineL A B)) ∧ Below w.heap.size w w' := by
  have HA := Lib.hid hA; have HB := Lib.hid hB; have KA := Lib.hid kA; have KB := Lib.hid kB
  clear hA hB kA kB
  have hmm := @run_makeMap Try.prog
  obtain ⟨w1, hrun, pm1, gr1⟩ := PM.start w
  have hrun' : (Instr.mapUpdate 87 (.map (some w.heap.size)) (.agg #[.int .i64 0, .int .i64 0]) (.int .i64 0)).run Try.prog (w.alloc (.map #[] 0)) = .ok () w1 := hrun
  have b1 : Below w.heap.size w w1 := ((Below.refl w.heap.size w).alloc (Nat.le_refl _) (.map #[] 0)).grown gr1 (by simp) (fun k hk => by injection hk with hk; omega)
  have PM1 := Lib.hid pm1
  clear hrun pm1 gr1
  go_enter Try.func58, Try.ntmps58
  go_wp2_with fail
  clear hrun' hmm
  go_loopw [5, 7, 8] (fun s5 s7 s8 wr => ∃ (pa ra pb rb F : List Pc) (C : List Pr) (n : Nat) (v : Value), v = s5 ∧ s7 = .int .i64 pa.length ∧ s8 = .int .i64 pb.length ∧ Hid (pa ++ ra = A) ∧ Hid (pb ++ rb = B) ∧ Hid (F ++ combF n C ra rb = combineL A B) ∧
    Hid (ra.length + rb.length ≤ n ∧ F.length + n = A.length + B.length ∧ C.length ≤ F.length + 1) ∧ Hid (wr.ownsRow (w.heap.size + 1) 58 3 v F.length (pcCells F)) ∧ Hid (PM wr w.heap.size C) ∧ Below w.heap.size w wr)
    (fun _ i j _ => (A.length - (intOf i).toNat) + (B.length - (intOf j).toNat))
  case atStart => exact ⟨[], A, [], B, [], [(0, 0)], A.length + B.length, _, rfl, rfl, rfl, rfl, rfl, rfl, Lib.hid ⟨Nat.le_refl _, by simp, by simp⟩, Lib.hid (World.ownsRow_nil _ _ _ _), PM1, b1⟩
  case round =>
    obtain ⟨pa, ra, pb, rb, F, C, n, v, rfl, rfl, rfl, hA, hB, hD, hL, hO, hP, hb⟩ := hrel
    rcases ra with _ | ⟨⟨⟨x1, x2⟩, x3⟩, ra⟩
    · have e1 := hA.out
      have e2 := hD.out
      rw [List.append_nil] at e1
      rw [combF_nil1, List.append_nil] at e2
      have o1 := own_low hO.out (Nat.le_add_right _ 1)
      rw [e2] at o1
      have O1 := Lib.hid o1
      subst e1
      clear o1 e2 hA hB hD hL hO hP
      go_wp2
      go_ret
      exact ⟨_, rfl, O1.out, hb⟩
    · rcases rb with _ | ⟨⟨⟨y1, y2⟩, y3⟩, rb⟩
      · have e1 := hB.out
        have e2 := hD.out
        rw [List.append_nil] at e1
        rw [combF_nil2, List.append_nil] at e2
        have o1 := own_low hO.out (Nat.le_add_right _ 1)
        rw [e2] at o1
        have O1 := Lib.hid o1
        have hlt : pa.length < A.length := by rw [← hA.out]; simp
        subst e1
        clear o1 e2 hA hB hD hL hO hP
        go_wp2
        go_ret
        exact ⟨_, rfl, O1.out, hb⟩
      · have hlA : pa.length < A.length := by rw [← hA.out]; simp
        have hlB : pb.length < B.length := by rw [← hB.out]; simp
        obtain ⟨ga, oa, rfl, hga, p0, p1, p2⟩ := HA.out _ _ _ hA.out
        obtain ⟨gb, ob, rfl, hgb, q0, q1, q2⟩ := HB.out _ _ _ hB.out
        have p0 := (hb.cell (p := ⟨ga, oa + pa.length * 3, none⟩) hga).trans p0
        have p1 := (hb.cell (p := ⟨ga, oa + pa.length * 3 + 1, none⟩) hga).trans p1
        have p2 := (hb.cell (p := ⟨ga, oa + pa.length * 3 + 2, none⟩) hga).trans p2
        have q0 := (hb.cell (p := ⟨gb, ob + pb.length * 3, none⟩) hgb).trans q0
        have q1 := (hb.cell (p := ⟨gb, ob + pb.length * 3 + 1, none⟩) hgb).trans q1
        have q2 := (hb.cell (p := ⟨gb, ob + pb.length * 3 + 2, none⟩) hgb).trans q2
        dsimp only at p0 p1 p2 q0 q1 q2
        go_upto_region 5 with fail
        go_cut [9, 10] from 17 to 81 (fun s9 s10 wx => ∃ n9 n10 : Nat, s9 = .pointer (some ⟨n9, 0, none⟩) ∧ s10 = .pointer (some ⟨n10, 0, none⟩) ∧ wr.heap.size ≤ n9 ∧ wr.heap.size ≤ n10 ∧ PcAt wx n9 ((x1, x2), x3) ∧ PcAt wx n10 ((y1, y2), y3) ∧ wr.grownBy wx none)
        case first =>
          have hga' : ga < wr.heap.size := Nat.lt_of_lt_of_le hga hb.size
          have hgb' : gb < wr.heap.size := Nat.lt_of_lt_of_le hgb hb.size
          have P0 := fun o => cell_al p0 hga' o; have P1 := fun o => cell_al p1 hga' o; have P2 := fun o => cell_al p2 hga' o
          have Q0 := fun o => cell_al q0 hgb' o; have Q1 := fun o => cell_al q1 hgb' o; have Q2 := fun o => cell_al q2 hgb' o
          have PP0 := fun o => fun o' => cell_al (P0 o) (lt_al hga' o) o'; have PP1 := fun o => fun o' => cell_al (P1 o) (lt_al hga' o) o'; have PP2 := fun o => fun o' => cell_al (P2 o) (lt_al hga' o) o'
          have QQ0 := fun o => fun o' => cell_al (Q0 o) (lt_al hgb' o) o'; have QQ1 := fun o => fun o' => cell_al (Q1 o) (lt_al hgb' o) o'; have QQ2 := fun o => fun o' => cell_al (Q2 o) (lt_al hgb' o) o'
          go_region_held3 (fun w' => w'.cell? ⟨ga, oa + pa.length * 3, none⟩ = some (.int .i32 x1) ∧ w'.cell? ⟨ga, oa + pa.length * 3 + 1, none⟩ = some (.int .i32 x2) ∧ w'.cell? ⟨ga, oa + pa.length * 3 + 2, none⟩ = some (.int .i64 x3) ∧ w'.cell? ⟨gb, ob + pb.length * 3, none⟩ = some (.int .i32 y1) ∧ w'.cell? ⟨gb, ob + pb.length * 3 + 1, none⟩ = some (.int .i32 y2) ∧ w'.cell? ⟨gb, ob + pb.length * 3 + 2, none⟩ = some (.int .i64 y3)) (first | exact ⟨p0, p1, p2, q0, q1, q2⟩ | exact ⟨P0 _, P1 _, P2 _, Q0 _, Q1 _, Q2 _⟩ | exact ⟨PP0 _ _, PP1 _ _, PP2 _ _, QQ0 _ _, QQ1 _ _, QQ2 _ _⟩ | (go_keep)) (fail)
          all_goals (go_wp2_with fail; go_meet)
          all_goals first
            | exact ⟨_, _, rfl, rfl, Nat.le_refl _, Nat.le_succ _, (two_pc wr ((x1, x2), x3) ((y1, y2), y3)).1, (two_pc wr ((x1, x2), x3) ((y1, y2), y3)).2.1, (two_pc wr ((x1, x2), x3) ((y1, y2), y3)).2.2⟩
            | exact ⟨_, _, rfl, rfl, Nat.le_succ _, Nat.le_refl _, (two_pc wr ((y1, y2), y3) ((x1, x2), x3)).2.1, (two_pc wr ((y1, y2), y3) ((x1, x2), x3)).1, (two_pc wr ((y1, y2), y3) ((x1, x2), x3)).2.2⟩
        case rest =>
          obtain ⟨n9, n10, rfl, rfl, k9, k10, v9, v10, g2⟩ := hcut
          have hx3 := KA.out ((x1, x2), x3) (by rw [← hA.out]; simp)
          have hy3 := KB.out ((y1, y2), y3) (by rw [← hB.out]; simp)
          have hok : okP (x3, y3) := ⟨hx3.1, Int.le_trans hx3.2 (by decide), hy3.1, Int.le_trans hy3.2 (by decide)⟩
          have pm2 := (hP.out.kept g2 (by simp)).alloc (.cells #[.int .i64 x3, .int .i64 y3] 86)
          have o2 := (hO.out.kept g2 (by cases h : v.ownBlock <;> simp)).alloc (.cells #[.int .i64 x3, .int .i64 y3] 86)
          have bx := (hb.grown g2 hb.size (fun k hk => by cases hk)).alloc (by have := hb.size; have := g2.size; omega) (.cells #[.int .i64 x3, .int .i64 y3] 86)
          obtain ⟨c, hlook⟩ := pm2.look hok
          have hlook' : (Instr.lookup 87 (.map (some w.heap.size)) (.agg #[.int .i64 x3, .int .i64 y3]) true).run Try.prog (wc.alloc (.cells #[.int .i64 x3, .int .i64 y3] 86)) = .ok (.tuple #[.int .i64 c, .bool (decide ((x3, y3) ∈ C))]) (wc.alloc (.cells #[.int .i64 x3, .int .i64 y3] 86)) := hlook
          have c2 := v9.c2; have d2 := v10.c2
          have u9 := v9.alloc (.cells #[.int .i64 x3, .int .i64 y3] 86); have u10 := v10.alloc (.cells #[.int .i64 x3, .int .i64 y3] 86)
          have vb := World.alloc_heap_new wc (.cells #[.int .i64 x3, .int .i64 y3] 86)
          have b0 : (wc.alloc (.cells #[.int .i64 x3, .int .i64 y3] 86)).cell? ⟨wc.heap.size, 0, none⟩ = some (.int .i64 x3) := by rw [Lib.cell_of_heap vb]; rfl
          have b1 : (wc.alloc (.cells #[.int .i64 x3, .int .i64 y3] 86)).cell? ⟨wc.heap.size, 1, none⟩ = some (.int .i64 y3) := by rw [Lib.cell_of_heap vb]; rfl
          have hgs := g2.size
          have hnbs : wc.heap.size < (wc.alloc (.cells #[.int .i64 x3, .int .i64 y3] 86)).heap.size := by simp
          have HOr := hO
          have hpl := hP.out.lt
          have HU9 := Lib.hid u9; have HU10 := Lib.hid u10; have HUB := Lib.hid vb; have HPA := Lib.hid pm2; have HOA := Lib.hid o2; have HBX := Lib.hid bx
          clear hlook v9 v10 u9 u10 vb pm2 o2 bx hb hP hO g2 p0 p1 p2 q0 q1 q2 hga hgb
          have hA9 : A.length ≤ 900000 := by omega
          have hB9 : B.length ≤ 900000 := by omega
          dsimp only at c2 d2
          generalize hdk : decide ((x3, y3) ∈ C) = known at *
          go_upto_if 47 with fail
          generalize hnb : wc.heap.size = nb at *
          generalize wc.alloc (.cells #[.int .i64 x3, .int .i64 y3] 86) = W2 at *
          go_cut [13] from 17 to 81 (fun s13 wx => (PM wx w.heap.size (if (x3, y3) ∈ C then C else C ++ [(x3, y3)]) ∧ W2.grownBy wx (some w.heap.size)))
          case first =>
            cases known
            · have hn : (x3, y3) ∉ C := of_decide_eq_false hdk
              obtain ⟨w4, hput, pm4, g4⟩ := HPA.out.put hok hn (by have := hL.out; omega)
              have hput' : (Instr.mapUpdate 87 (.map (some w.heap.size)) (.agg #[.int .i64 x3, .int .i64 y3]) (.int .i64 C.length)).run Try.prog W2 = .ok () w4 := hput
              have hlen' : ∀ ty, (Builtin.len_ #[87] ty #[.map (some w.heap.size)]).run Try.prog W2 = .ok (.int .i64 C.length) W2 := fun ty => HPA.out.len ty
              have HP4 := Lib.hid pm4; have HG4 := Lib.hid g4
              clear hput pm4 g4 hlook' hdk
              go_wp2_with fail
              go_meet
              rw [if_neg hn]
              exact ⟨HP4.out, HG4.out⟩
            · have hm : (x3, y3) ∈ C := of_decide_eq_true hdk
              clear hlook' hdk
              go_wp2_with fail
              go_meet
              rw [if_pos hm]
              exact ⟨HPA.out, ⟨rfl, rfl, rfl, Nat.le_refl _, fun _ _ _ => rfl⟩⟩
          case rest =>
            obtain ⟨pmx, gx⟩ := hcut
            have hbx := HBX.out.grown gx HBX.out.size (fun k hk => by injection hk with hk; omega)
            have V9 := HU9.out.grown gx (by intro e; injection e with e; omega)
            have V10 := HU10.out.grown gx (by intro e; injection e with e; omega)
            have VB := (gx.block nb hnbs (by intro e; injection e with e; omega)).trans HUB.out
            have hgx := gx.size
            have hnb0 : nb < wc.heap.size := by omega
            have hws : w.heap.size + 1 ≤ wc.heap.size := by omega
            have O := HOA.out.kept gx (.inr (fun e => by have := (HOA.out.lt _ e).1; omega))
            obtain ⟨m, rfl⟩ : ∃ m, n = m + 1 := ⟨n - 1, by have := hL.out; simp only [List.length_cons] at this; omega⟩
            have hDn := hD.out
            rw [combF] at hDn
            dsimp only at hDn
            have hlen : F.length < 1000000 := by have := hL.out; omega
            have hCl : Hid ((if (x3, y3) ∈ C then C else C ++ [(x3, y3)]).length ≤ C.length + 1) := Lib.hid (by split <;> simp)
            have hin : (x3, y3) ∈ (if (x3, y3) ∈ C then C else C ++ [(x3, y3)]) := by
              split
              · assumption
              · simp
            generalize (if (x3, y3) ∈ C then C else C ++ [(x3, y3)]) = C' at *
            obtain ⟨z, hzz⟩ : ∃ z : Int, ((C'.idxOf (x3, y3) : Nat) : Int) = z := ⟨_, rfl⟩
            rw [hzz] at hDn
            have hz : (((x1, x2), x3).2, ((y1, y2), y3).2) ∈ C' ∧ ((C'.idxOf (((x1, x2), x3).2, ((y1, y2), y3).2) : Nat) : Int) = z := ⟨hin, hzz⟩
            generalize hhw : w.heap.size = hw at *
            go_wp2_with fail
            have HV9 : Hid (PcAt wc.drew n9 ((x1, x2), x3)) := Lib.hid V9
            have HV10 : Hid (PcAt wc.drew n10 ((y1, y2), y3)) := Lib.hid V10
            have HVB : Hid (wc.drew.heap[nb]? = some (.cells #[.int .i64 x3, .int .i64 y3] 86 (0, 0))) := Lib.hid VB
            have HPM : Hid (PM wc.drew hw C') := Lib.hid pmx
            have HO : Hid (wc.drew.ownsRow (hw + 1) 58 3 v F.length (pcCells F)) := Lib.hid O
            have hbx0 : Below hw w wc.drew := ⟨hbx.os, hbx.tape, hbx.output, hbx.size, hbx.block⟩
            have hnb1 : nb < wc.drew.heap.size := hnb0
            have hws1 : hw + 1 ≤ wc.drew.heap.size := hws
            have knb : wr.heap.size ≤ nb := by omega
            clear V9 V10 VB pmx O gx hbx hnb0 hws hgx HU9 HU10 HUB HPA HOA HBX hlook' p0 p1 p2 q0 q1 q2 hin hzz HA HB
            generalize hu : ovR (x1, x2) (y1, y2) = uu at *
            obtain ⟨u1, u2⟩ := uu
            refine wp_region_held_drew (S := fun w' => w'.cell? ⟨n9, 0, none⟩ = some (.int .i32 x1) ∧ w'.cell? ⟨n9, 1, none⟩ = some (.int .i32 x2) ∧ w'.cell? ⟨n10, 0, none⟩ = some (.int .i32 y1) ∧ w'.cell? ⟨n10, 1, none⟩ = some (.int .i32 y2) ∧ w'.cell? ⟨nb, 0, none⟩ = some (.int .i64 x3) ∧ w'.cell? ⟨nb, 1, none⟩ = some (.int .i64 y3) ∧ (Instr.lookup 87 (.map (some hw)) (.agg #[.int .i64 x3, .int .i64 y3]) false).run Try.prog w' = .ok (.int .i64 z) w') (by kernel_rfl) ?_ (fun hHeld => ?_)
            · exact CSof HV9.out HV10.out HVB.out HPM.out hz
            try dsimp only at hHeld
            generalize wc.drew = w0 at *
            refine wpAnyH_take (i := 0) (v := ?v1) rfl (by kernel_rfl) (by kernel_rfl) (by kernel_rfl) (fun _ _ _ h => h) (Or.inl ⟨by rfl, ?hy1⟩) (by assumption) ?rest1
            case hy1 => (intro W9 hSw; (try dsimp only at hSw); go_simp; try with_reducible rfl)
            try simp only [List.getElem_toArray, List.getElem_cons_zero, Act.put, List.setIfInBounds_toArray, List.set_cons_zero, List.set_cons_succ]
            refine wpAnyH_take (i := 1) (v := ?v2) rfl (by kernel_rfl) (by kernel_rfl) (by kernel_rfl) (fun _ _ _ h => h) (Or.inl ⟨by rfl, ?hy2⟩) (by assumption) ?rest2
            case hy2 => (intro W9 hSw; (try dsimp only at hSw); go_simp; try with_reducible rfl)
            try simp only [List.getElem_toArray, List.getElem_cons_zero, List.getElem_cons_succ, Act.put, List.setIfInBounds_toArray, List.set_cons_zero, List.set_cons_succ]
            refine wpAnyH_take (i := 2) (v := ?v3) rfl (by kernel_rfl) (by kernel_rfl) (by kernel_rfl) (fun _ _ _ h => h) (Or.inl ⟨by rfl, ?hy3⟩) (by assumption) ?rest3
            case hy3 => (intro W9 hSw; (try dsimp only at hSw); go_simp; try with_reducible rfl)
            try simp only [List.getElem_toArray, List.getElem_cons_zero, List.getElem_cons_succ, Act.put, List.setIfInBounds_toArray, List.set_cons_zero, List.set_cons_succ]
            refine wpAnyH_take (i := 3) (v := ?v4) rfl (by kernel_rfl) (by kernel_rfl) (by kernel_rfl) (fun _ _ _ h => h) (Or.inl ⟨by rfl, ?hy4⟩) (by assumption) ?rest4
            case hy4 => (intro W9 hSw; (try dsimp only at hSw); go_simp; try with_reducible rfl)
            try simp only [List.getElem_toArray, List.getElem_cons_zero, List.getElem_cons_succ, Act.put, List.setIfInBounds_toArray, List.set_cons_zero, List.set_cons_succ]
            refine wpAnyH_take (i := 4) (v := ?v5) rfl (by kernel_rfl) (by kernel_rfl) (by kernel_rfl) (fun _ _ _ h => h) (Or.inl ⟨by rfl, ?hy5⟩) (by assumption) ?rest5
            case hy5 => (intro W9 hSw; (try dsimp only at hSw); go_simp; try with_reducible rfl)
            try simp only [List.getElem_toArray, List.getElem_cons_zero, List.getElem_cons_succ, Act.put, List.setIfInBounds_toArray, List.set_cons_zero, List.set_cons_succ]
            refine wpAnyH_take (i := 6) (v := ?v6) rfl (by kernel_rfl) (by kernel_rfl) (by kernel_rfl) (fun _ _ _ h => h) (Or.inl ⟨by rfl, ?hy6⟩) (by assumption) ?rest6
            case hy6 => (intro W9 hSw; (try dsimp only at hSw); go_simp; try with_reducible rfl)
            try simp only [List.getElem_toArray, List.getElem_cons_zero, List.getElem_cons_succ, Act.put, List.setIfInBounds_toArray, List.set_cons_zero, List.set_cons_succ]
            refine wpAnyH_take (i := 7) (v := ?v7) rfl (by kernel_rfl) (by kernel_rfl) (by kernel_rfl) (fun _ _ _ h => h) (Or.inl ⟨by rfl, ?hy7⟩) (by assumption) ?rest7
            case hy7 => (intro W9 hSw; (try dsimp only at hSw); go_simp; try with_reducible rfl)
            try simp only [List.getElem_toArray, List.getElem_cons_zero, List.getElem_cons_succ, Act.put, List.setIfInBounds_toArray, List.set_cons_zero, List.set_cons_succ]
            refine wpAnyH_take (i := 8) (v := ?v8) rfl (by kernel_rfl) (by kernel_rfl) (by kernel_rfl) (fun _ _ _ h => h) (Or.inl ⟨by rfl, ?hy8⟩) (by assumption) ?rest8
            case hy8 => (intro W9 hSw; (try dsimp only at hSw); go_simp; try with_reducible rfl)
            try simp only [List.getElem_toArray, List.getElem_cons_zero, List.getElem_cons_succ, Act.put, List.setIfInBounds_toArray, List.set_cons_zero, List.set_cons_succ]
            refine wpAnyH_ready (rs := [5]) (by kernel_rfl) (by simp) ?_
            refine AllReadyH.cons rfl (fun K hK => ?_) AllReadyH.nil
            go_simp
            refine (overlap_any (x1, x2) (y1, y2) _).mono ?_
            rw [hu]
            rintro e w3 ⟨rfl, b3⟩
            have hb3 := hbx0.trans (b3.mono (by omega))
            have V9 := HV9.out.below b3 HV9.out.lt; have V10 := HV10.out.below b3 HV10.out.lt; have VB := (b3.block nb hnb1).trans HVB.out; have PM3 := HPM.out.below b3 HPM.out.lt; have O3 := own_below HO.out b3 (Nat.le_refl _)
            have hs3 := b3.size
            have hw3 : hw + 1 ≤ w3.heap.size := by omega
            have hnb3 : nb < w3.heap.size := by omega
            have HV93 := Lib.hid V9; have HV103 := Lib.hid V10; have HVB3 := Lib.hid VB; have HPM3 := Lib.hid PM3; have HO3 := Lib.hid O3
            clear V9 V10 VB PM3 O3 b3
            go_wp2_with fail
            refine hK.out _ _ ?_ (fun hHeld => ?_)
            · exact CSof HV93.out HV103.out HVB3.out HPM3.out hz
            clear hK K
            try dsimp only at hHeld
            try simp only [List.getElem_toArray, List.getElem_cons_zero, List.getElem_cons_succ, Act.put, List.setIfInBounds_toArray, List.set_cons_zero, List.set_cons_succ]
            refine wpAnyH_take (i := 9) (v := ?v9) rfl (by kernel_rfl) (by kernel_rfl) (by kernel_rfl) (fun _ _ _ h => h) (Or.inl ⟨by rfl, ?hy9⟩) (by assumption) ?rest9
            case hy9 => (intro W9 hSw; (try dsimp only at hSw); go_simp; try with_reducible rfl)
            try simp only [List.getElem_toArray, List.getElem_cons_zero, List.getElem_cons_succ, Act.put, List.setIfInBounds_toArray, List.set_cons_zero, List.set_cons_succ]
            refine wpAnyH_ready (rs := [10]) (by kernel_rfl) (by simp) ?_
            refine AllReadyH.cons rfl (fun K hK => ?_) AllReadyH.nil
            go_simp
            refine hK.out _ _ ?_ (fun hHeld => ?_)
            · exact CSof (HV93.out.alloc _) (HV103.out.alloc _) ((Below.heap_alloc _ _ _ (by omega)).trans HVB3.out) (HPM3.out.alloc _) hz
            clear hK K
            try dsimp only at hHeld
            try simp only [List.getElem_toArray, List.getElem_cons_zero, List.getElem_cons_succ, Act.put, List.setIfInBounds_toArray, List.set_cons_zero, List.set_cons_succ]
            refine wpAnyH_ready (rs := [11]) (by kernel_rfl) (by simp) ?_
            refine AllReadyH.cons rfl (fun K hK => ?_) AllReadyH.nil
            refine step_app_pc rfl _ _ rfl (hw + 1) v F w3 HO3.out rfl ((u1, u2), z) 1 _ rfl rfl hlen hw3 ?_
            intro v5 w5 h1 h2 h3
            have hne : ∀ k, k < hw + 1 ∨ wr.heap.size ≤ k → some k ≠ v.ownBlock := fun k hk e => by have := (HOr.out.lt k e.symm); omega
            have V9 := HV93.out.grown h2 (hne _ (.inr k9)); have V10 := HV103.out.grown h2 (hne _ (.inr k10)); have VB := (h2.block nb (by omega) (hne _ (.inr knb))).trans HVB3.out; have PM5 := HPM3.out.kept h2 (hne _ (.inl (by omega)))
            have hb5 := hb3.grown h2 (by omega) (fun k hk => by have := (HO3.out.lt k hk).1; omega)
            have HV95 := Lib.hid V9; have HV105 := Lib.hid V10; have HVB5 := Lib.hid VB; have HPM5 := Lib.hid PM5; have HO5 := Lib.hid h1
            clear V9 V10 VB PM5 h1 h2 h3
            refine hK.out _ _ ?_ (fun hHeld => ?_)
            · exact CSof HV95.out HV105.out HVB5.out HPM5.out hz
            clear hK K
            try dsimp only at hHeld
            try simp only [List.getElem_toArray, List.getElem_cons_zero, List.getElem_cons_succ, Act.put, List.setIfInBounds_toArray, List.set_cons_zero, List.set_cons_succ]
            refine wpAnyH_take (i := 12) (v := ?v10) rfl (by kernel_rfl) (by kernel_rfl) (by kernel_rfl) (fun _ _ _ h => h) (Or.inl ⟨by rfl, ?hy10⟩) (by assumption) ?rest10
            case hy10 => (intro W9 hSw; (try dsimp only at hSw); go_simp; try with_reducible rfl)
            try simp only [List.getElem_toArray, List.getElem_cons_zero, List.getElem_cons_succ, Act.put, List.setIfInBounds_toArray, List.set_cons_zero, List.set_cons_succ]
            refine wpAnyH_done (by kernel_rfl) ?_ _
            have f1 := HV95.out.c1; have f2 := HV105.out.c1
            dsimp only at f1 f2
            clear hHeld
            rcases Int.lt_trichotomy x2 y2 with hc | hc | hc
            · have hc1 : x2 ≤ y2 := by omega
              have hc2 : ¬ y2 ≤ x2 := by omega
              rw [if_pos hc1, if_neg hc2] at hDn
              go_wp2
              subst hhw
              go_roundw
              case rel => exact ⟨v5, .int .i64 (pa.length + 1), .int .i64 pb.length, ⟨pa ++ [((x1, x2), x3)], by simp, ra, pb, rfl, Lib.hid (by rw [List.append_assoc]; exact hA.out), ((y1, y2), y3) :: rb, hB, F ++ [((u1, u2), z)], C', m, Lib.hid (by rw [List.append_assoc]; exact hDn), Lib.hid (by have h := hL.out; have h4 := hCl.out; simp only [List.length_append, List.length_cons, List.length_nil] at h ⊢; omega), HO5, HPM5⟩, rfl, rfl, rfl⟩
              case measure => simp [intOf]; omega
            · have hc1 : x2 ≤ y2 := by omega
              have hc2 : y2 ≤ x2 := by omega
              rw [if_pos hc1, if_pos hc2] at hDn
              go_wp2
              subst hhw
              go_roundw
              case rel => exact ⟨pa ++ [((x1, x2), x3)], ra, pb ++ [((y1, y2), y3)], rb, _, _, m, _, rfl, by simp, by simp, Lib.hid (by rw [List.append_assoc]; exact hA.out), Lib.hid (by rw [List.append_assoc]; exact hB.out), Lib.hid (by rw [List.append_assoc]; exact hDn), Lib.hid (by have h := hL.out; have h4 := hCl.out; simp only [List.length_append, List.length_cons, List.length_nil] at h ⊢; omega), HO5, HPM5, hb5⟩
              case measure => simp [intOf]; omega
            · have hc1 : ¬ x2 ≤ y2 := by omega
              have hc2 : y2 ≤ x2 := by omega
              rw [if_neg hc1, if_pos hc2] at hDn
              go_wp2
              subst hhw
              go_roundw
              case rel => exact ⟨v5, .int .i64 pa.length, .int .i64 (pb.length + 1), ⟨pa, rfl, ((x1, x2), x3) :: ra, pb ++ [((y1, y2), y3)], by simp, hA, rb, Lib.hid (by rw [List.append_assoc]; exact hB.out), F ++ [((u1, u2), z)], C', m, Lib.hid (by rw [List.append_assoc]; exact hDn), Lib.hid (by have h := hL.out; have h4 := hCl.out; simp only [List.length_append, List.length_cons, List.length_nil] at h ⊢; omega), HO5, HPM5⟩, rfl, rfl, rfl⟩
              case measure => simp [intOf]; omega
end Go.Proofs.Ytpmcnmlpkpoopaa
