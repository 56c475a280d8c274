/- The reference of charset: put (a rune into an ascending list). -/
import Derived.Test.YtpmcnmlpkpoopaaGA
namespace Go.Proofs.Ytpmcnmlpkpoopaa
open Go.RowKit Go.Shelf

def inCells (L : List Int) : List Value := L.map (Value.int .i32)
theorem infoI32 : (Try.prog.info? 21).map (fun i => (i.zero, i.size, i.bytes)) = some (some (.int .i32 0), 1, 4) := by kernel_rfl
/-- append of one rune to an own row. -/
theorem wp_app_in {ops : Array Oper} {rest : List Oper} {o : Oper} {a : Act} {Q : Exit → Act → World → Prop} (hgd : o.guard = none) (s x : Operand)
    (ho : o.op = .call { callee := .builtin .append, args := #[s, x], argTypes := #[59, 59] })
    (base : Nat) (v : Value) (L : List Int) (W : World) (hown : W.ownsRow base 21 1 v L.length (inCells L)) (hs : a.eval s = v) (r : Int) (c k : Nat)
    (hx : a.eval x = .slice (some ⟨k, 0, none⟩) 1 c) (hk : W.heap.size = k) (hn : L.length < 1000000) (hb : base ≤ W.heap.size)
    (h : ∀ v' w', w'.ownsRow base 21 1 v' (L.length + 1) (inCells (L ++ [r])) → W.grownBy w' v.ownBlock → wpList Try.prog ops Q rest (a.put o.dst v') w') :
    wpList Try.prog ops Q (o :: rest) a (W.alloc (.cells #[.int .i32 r] 21)) := by
  subst hk
  obtain ⟨i0, hi, hz0, hz1, hz2⟩ := info_parts infoI32
  obtain ⟨v', w', hr, h1, h2, h3⟩ := app_own_at (W.alloc (.cells #[.int .i32 r] 21)) base 59 o.type 21 i0 (.int .i32 0) 1 4 Try.underlying59 hi hz0 hz1 hz2 rfl (by decide) v L.length (inCells L) (hown.alloc _) ⟨W.heap.size, 0, none⟩ 1 c [.int .i32 r] rfl
    (fun j u hj => by
      have hb := World.alloc_heap_new W (.cells #[.int .i32 r] 21)
      match j, hj with
      | 0, hj => simp at hj; subst hj; rw [show ((⟨W.heap.size, 0, none⟩ : Addr).add 0) = ⟨W.heap.size, 0, none⟩ by simp [Addr.add], Lib.cell_of_heap hb]; rfl) (fun u hu => by simp at hu; subst hu; rfl) (by unfold maxLen; omega) (by omega) (by simp; omega)
  refine Lib.wpList_append_run _ hgd s x 59 59 ho _ _ hs hx _ _ hr (h v' w' ?_ (grown_of_alloc h2))
  have : inCells (L ++ [r]) = inCells L ++ [.int .i32 r] := by simp [inCells]
  rw [this]
  exact h1
/-- The slice at ao holds the runes L. -/
def Ins (W : World) (B : Nat) (ao : Option Addr) (L : List Int) : Prop := ∀ pre x rest, pre ++ x :: rest = L → ∃ g o, ao = some ⟨g, o, none⟩ ∧ g < B ∧ W.cell? ⟨g, o + pre.length, none⟩ = some (.int .i32 x)
theorem Ins.below {W W' : World} {B B' : Nat} {ao : Option Addr} {L : List Int} (h : Ins W B ao L) (hb : Below B' W W') (hB : B ≤ B') : Ins W' B ao L := fun pre x rest e => by
  obtain ⟨g, o, h1, h2, h3⟩ := h pre x rest e
  exact ⟨g, o, h1, h2, (hb.cell (p := ⟨g, o + pre.length, none⟩) (Nat.lt_of_lt_of_le h2 hB)).trans h3⟩
theorem Ins.mono {W : World} {B B' : Nat} {ao : Option Addr} {L : List Int} (h : Ins W B ao L) (hB : B ≤ B') : Ins W B' ao L := fun pre x rest e => by
  obtain ⟨g, o, h1, h2, h3⟩ := h pre x rest e
  exact ⟨g, o, h1, Nat.lt_of_lt_of_le h2 hB, h3⟩
theorem ins_of_own {w : World} {base : Nat} {v : Value} {L : List Int} (h : w.ownsRow base 21 1 v L.length (inCells L)) : ∃ ao cap, v = .slice ao L.length cap ∧ Ins w w.heap.size ao L := by
  obtain ⟨h1, ⟨rfl, h2⟩ | ⟨g, cap, cur, rfl, h3, h4, h5, h6, h7, h8⟩⟩ := h
  · refine ⟨none, 0, by rw [h2], fun pre x rest e => ?_⟩
    rw [← e] at h2
    simp at h2
  · refine ⟨_, cap, rfl, fun pre x rest e => ⟨g, 0, rfl, (Array.getElem?_eq_some_iff.1 h4).1, ?_⟩⟩
    have hlen : pre.length < L.length := by rw [← e]; simp
    have a0 : (inCells L)[pre.length]? = some (.int .i32 x) := by rw [← e]; simp [inCells]
    rw [← h8, List.getElem?_take_of_lt (by omega), Array.getElem?_toList] at a0
    rw [Nat.zero_add, Lib.cell_of_heap h4]
    exact a0

/-- What put answers. -/
def putL : List Int → Int → List Int
  | [], r => [r]
  | x :: l, r => if r ≤ x then (if r < x then r :: x :: l else x :: l) else x :: putL l r
theorem putL_behind : ∀ (l : List Int) (r : Int), (∀ x ∈ l, x < r) → putL l r = l ++ [r]
  | [], r, _ => rfl
  | x :: l, r, h => by
    have := h x List.mem_cons_self
    rw [putL, if_neg (by omega), putL_behind l r (fun y hy => h y (List.mem_cons_of_mem _ hy))]
    rfl
theorem putL_app : ∀ (l m : List Int) (r : Int), (∃ x ∈ l, r ≤ x) → putL (l ++ m) r = putL l r ++ m
  | [], _, _, h => by obtain ⟨x, hx, _⟩ := h; cases hx
  | x :: l, m, r, h => by
    rw [List.cons_append, putL, putL]
    split
    · split <;> rfl
    · rename_i hn
      rw [putL_app l m r (by
        obtain ⟨y, hy, hr⟩ := h
        rcases List.mem_cons.1 hy with rfl | hy
        · exact absurd hr hn
        · exact ⟨y, hy, hr⟩)]
      rfl
theorem putL_here : ∀ (l : List Int) (x r : Int), (∀ y ∈ l, y < r) → r ≤ x → putL (l ++ [x]) r = l ++ (if r < x then [r, x] else [x])
  | [], x, r, _, h => by rw [List.nil_append, putL, if_pos h]; split <;> rfl
  | y :: l, x, r, hl, h => by
    have := hl y List.mem_cons_self
    rw [List.cons_append, putL, if_neg (by omega), putL_here l x r (fun z hz => hl z (List.mem_cons_of_mem _ hz)) h]
    rfl
theorem putL_length : ∀ (l : List Int) (r : Int), (putL l r).length ≤ l.length + 1
  | [], r => by simp [putL]
  | x :: l, r => by
    have := putL_length l r
    rw [putL]
    split
    · split <;> simp
    · simp; omega

set_option maxHeartbeats 2000000 in
theorem rput_any (ao : Option Addr) (L : List Int) (cap : Nat) (r : Int) (w : World) (hN : L.length ≤ 900000) (hR : Ins w w.heap.size ao L) :
    Calls Try.prog 59 #[.slice ao L.length cap, .int .i32 r] w fun e w' => ∃ v, e = .returned v ∧ w'.ownsRow w.heap.size 21 1 v (putL L r).length (inCells (putL L r)) ∧ Below w.heap.size w w' := by
  have HR := Lib.hid hR; clear hR
  have o0 := World.ownsRow_lit (base := w.heap.size) (e := 21) (size := 1) w #[] 0 (Nat.le_refl _) (by simp [maxLen]) rfl
  have b0 := (Below.refl w.heap.size w).alloc (Nat.le_refl _) (.cells #[] 21)
  have H0 := Lib.hid o0; have HB0 := Lib.hid b0
  clear o0 b0
  go_enter Try.func59, Try.ntmps59
  go_wp2_with fail
  go_loopw [5, 6, 7] (fun s5 s6 i wr => ∃ (pre rest : List Int) (v : Value) (inn : Bool), v = s5 ∧ s6 = .bool inn ∧ i = .int .i64 pre.length ∧ Hid (pre ++ rest = L) ∧ Hid (if inn then ∃ x ∈ pre, r ≤ x else ∀ x ∈ pre, x < r) ∧
    Hid (wr.ownsRow w.heap.size 21 1 v (if inn then putL pre r else pre).length (inCells (if inn then putL pre r else pre))) ∧ Below w.heap.size w wr) (fun _ _ i _ => L.length - (intOf i).toNat)
  case atStart => exact ⟨[], L, _, false, rfl, rfl, rfl, rfl, Lib.hid (by simp), H0, HB0.out⟩
  case round =>
    obtain ⟨pre, rest, v, inn, rfl, rfl, rfl, hA, hD, hO, hb⟩ := hrel
    obtain ⟨av, cv, rfl, _, _⟩ := own_len hO.out
    rcases rest with _ | ⟨x, rest⟩
    · have e1 := hA.out
      rw [List.append_nil] at e1
      subst e1
      cases inn
      · have hD1 := hD.out
        rw [if_neg (by simp)] at hD1
        have hO1 := hO.out
        simp only [Bool.false_eq_true, if_false] at hO1
        have e2 := putL_behind pre r hD1
        have E2 := Lib.hid e2
        have hn : pre.length < 1000000 := by omega
        have hbs := hb.size
        clear e2 hD1 hD hO hA
        go_wp2_with (at_builtin; refine wp_app_in rfl _ _ rfl w.heap.size _ pre wr hO1 rfl r 1 _ rfl rfl hn hbs ?_)
        intro v' w' h1 h2
        rw [show pre.length + 1 = (putL pre r).length by rw [E2.out]; simp, ← E2.out] at h1
        obtain ⟨a', c', rfl, _, _⟩ := own_len h1
        have hb5 := hb.grown h2 hbs (fun k hk => (hO1.lt k hk).1)
        have H1 := Lib.hid h1
        clear h1 h2 hO1
        go_wp2
        go_ret
        exact ⟨_, rfl, H1.out, hb5⟩
      · have H1 := hO
        clear hD hO hA
        go_wp2
        go_ret
        exact ⟨_, rfl, H1.out, hb⟩
    · have hlt : pre.length < L.length := by rw [← hA.out]; simp
      obtain ⟨g, o, rfl, hg, p0⟩ := HR.out _ _ _ hA.out
      have q0 := (hb.cell (p := ⟨g, o + pre.length, none⟩) hg).trans p0
      have hbs := hb.size
      have hA2 : Hid ((pre ++ [x]) ++ rest = L) := Lib.hid (by rw [List.append_assoc]; exact hA.out)
      clear p0
      cases inn
      · have hD1 := hD.out
        rw [if_neg (by simp)] at hD1
        have hO1 := hO.out
        simp only [Bool.false_eq_true, if_false] at hO1
        by_cases c1 : r ≤ x
        · have e2 := putL_here pre x r hD1 c1
          have HD : Hid (if true = true then ∃ y ∈ pre ++ [x], r ≤ y else ∀ y ∈ pre ++ [x], y < r) := Lib.hid (by rw [if_pos rfl]; exact ⟨x, by simp, c1⟩)
          by_cases c2 : r < x
          · rw [if_pos c2] at e2
            have E2 := Lib.hid e2
            have hn : pre.length < 900001 := by omega
            have hn1 : pre.length < 1000000 := by omega
            clear e2 hD1 hD hO
            go_wp2_with (at_builtin; refine wp_app_in rfl _ _ rfl w.heap.size _ pre wr hO1 rfl r 1 _ rfl rfl hn1 hbs ?_)
            intro v' w' h1 h2
            obtain ⟨a', c', rfl, _, _⟩ := own_len h1
            have hb5 := hb.grown h2 hbs (fun k hk => (hO1.lt k hk).1)
            have hbs5 := hb5.size
            have q5 := (hb5.cell (p := ⟨g, o + pre.length, none⟩) hg).trans ((hb.cell (p := ⟨g, o + pre.length, none⟩) hg).symm.trans q0)
            have h1' : w'.ownsRow w.heap.size 21 1 (.slice a' (pre.length + 1) c') (pre ++ [r]).length (inCells (pre ++ [r])) := by rw [List.length_append]; exact h1
            have hn2 : (pre ++ [r]).length < 1000000 := by rw [List.length_append]; simp; omega
            clear h2 hO1 q0 h1
            go_wp2_with (at_builtin; refine wp_app_in rfl _ _ rfl w.heap.size _ (pre ++ [r]) w' h1' rfl x 1 _ rfl rfl hn2 hbs5 ?_)
            intro v6 w6 h6 h7
            obtain ⟨a6, c6, rfl, _, _⟩ := own_len h6
            have hb7 := hb5.grown h7 hbs5 (fun k hk => (h1'.lt k hk).1)
            have hO6 : Hid (w6.ownsRow w.heap.size 21 1 (.slice a6 (pre.length + 1 + 1) c6) (if true = true then putL (pre ++ [x]) r else pre ++ [x]).length (inCells (if true = true then putL (pre ++ [x]) r else pre ++ [x]))) := Lib.hid (by
              rw [if_pos rfl, E2.out, show (pre ++ [r, x]).length = pre.length + 1 + 1 by simp]
              exact h6)
            clear h6 h7 h1'
            go_wp2
            go_roundw
            case rel => exact ⟨pre ++ [x], rest, _, true, rfl, rfl, by simp, hA2, HD, hO6, hb7⟩
            case measure => simp [intOf]; omega
          · rw [if_neg c2] at e2
            have E2 := Lib.hid e2
            have hn1 : pre.length < 1000000 := by omega
            clear e2 hD1 hD hO
            go_wp2_with (at_builtin; refine wp_app_in rfl _ _ rfl w.heap.size _ pre wr hO1 rfl x 1 _ rfl rfl hn1 hbs ?_)
            intro v' w' h1 h2
            obtain ⟨a', c', rfl, _, _⟩ := own_len h1
            have hb5 := hb.grown h2 hbs (fun k hk => (hO1.lt k hk).1)
            have hO6 : Hid (w'.ownsRow w.heap.size 21 1 (.slice a' (pre.length + 1) c') (if true = true then putL (pre ++ [x]) r else pre ++ [x]).length (inCells (if true = true then putL (pre ++ [x]) r else pre ++ [x]))) := Lib.hid (by
              rw [if_pos rfl, E2.out, List.length_append]
              exact h1)
            clear h1 h2 hO1
            go_wp2
            go_roundw
            case rel => exact ⟨pre ++ [x], rest, _, true, rfl, rfl, by simp, hA2, HD, hO6, hb5⟩
            case measure => simp [intOf]; omega
        · have HD : Hid (if false = true then ∃ y ∈ pre ++ [x], r ≤ y else ∀ y ∈ pre ++ [x], y < r) := Lib.hid (by
            rw [if_neg (by simp)]
            intro y hy
            rcases List.mem_append.1 hy with hy | hy
            · exact hD1 y hy
            · rw [List.mem_singleton.1 hy]; omega)
          have hn1 : pre.length < 1000000 := by omega
          clear hD1 hD hO
          go_wp2_with (at_builtin; refine wp_app_in rfl _ _ rfl w.heap.size _ pre wr hO1 rfl x 1 _ rfl rfl hn1 hbs ?_)
          intro v' w' h1 h2
          obtain ⟨a', c', rfl, _, _⟩ := own_len h1
          have hb5 := hb.grown h2 hbs (fun k hk => (hO1.lt k hk).1)
          have hO6 : Hid (w'.ownsRow w.heap.size 21 1 (.slice a' (pre.length + 1) c') (if false = true then putL (pre ++ [x]) r else pre ++ [x]).length (inCells (if false = true then putL (pre ++ [x]) r else pre ++ [x]))) := Lib.hid (by
            rw [if_neg (by simp), List.length_append]
            exact h1)
          clear h1 h2 hO1
          go_wp2
          go_roundw
          case rel => exact ⟨pre ++ [x], rest, _, false, rfl, rfl, by simp, hA2, HD, hO6, hb5⟩
          case measure => simp [intOf]; omega
      · have hD1 := hD.out
        rw [if_pos rfl] at hD1
        have hO1 := hO.out
        simp only [if_true] at hO1
        have HD : Hid (if true = true then ∃ y ∈ pre ++ [x], r ≤ y else ∀ y ∈ pre ++ [x], y < r) := Lib.hid (by
          rw [if_pos rfl]
          obtain ⟨y, hy, hr⟩ := hD1
          exact ⟨y, List.mem_append_left _ hy, hr⟩)
        have e2 := putL_app pre [x] r hD1
        have E2 := Lib.hid e2
        have hpl := putL_length pre r
        have hn1 : (putL pre r).length < 1000000 := by omega
        clear e2 hD1 hD hO hpl
        generalize hM : (putL pre r).length = M at *
        go_wp2_with (at_builtin; refine wp_app_in rfl _ _ rfl w.heap.size _ (putL pre r) wr (by rw [hM]; exact hO1) rfl x 1 _ rfl rfl (by rw [hM]; exact hn1) hbs ?_)
        intro v' w' h1 h2
        obtain ⟨a', c', rfl, _, _⟩ := own_len h1
        have hb5 := hb.grown h2 hbs (fun k hk => (hO1.lt k hk).1)
        have hO6 : Hid (w'.ownsRow w.heap.size 21 1 (.slice a' (M + 1) c') (if true = true then putL (pre ++ [x]) r else pre ++ [x]).length (inCells (if true = true then putL (pre ++ [x]) r else pre ++ [x]))) := Lib.hid (by
          rw [if_pos rfl, E2.out, List.length_append, hM]
          exact h1)
        clear h1 h2 hO1
        go_wp2
        go_roundw
        case rel => exact ⟨pre ++ [x], rest, _, true, rfl, rfl, by simp, hA2, HD, hO6, hb5⟩
        case measure => simp [intOf]; omega
theorem rput_in (ao : Option Addr) (L : List Int) (cap : Nat) (r : Int) (w : World) (hN : L.length ≤ 900000) (hR : Ins w w.heap.size ao L) :
    Calls Try.prog 59 #[.slice ao L.length cap, .int .i32 r] w fun e w' => ∃ a c, e = .returned (.slice a (putL L r).length c) ∧ Ins w' w'.heap.size a (putL L r) ∧ Below w.heap.size w w' := by
  refine (rput_any ao L cap r w hN hR).mono ?_
  rintro e w' ⟨v, rfl, o, b⟩
  obtain ⟨a, c, rfl, h⟩ := ins_of_own o
  exact ⟨a, c, rfl, h, b⟩
end Go.Proofs.Ytpmcnmlpkpoopaa
