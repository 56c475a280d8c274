/- slices.Grow, slices.Concat, charset.Union: any list of sets. -/
import Derived.Test.YtpmcnmlpkpoopaaH
import Derived.Lib.AppendZeros
import Derived.Deep.AppendSrc
namespace Go.Proofs.Ytpmcnmlpkpoopaa
open Go.RowKit Go.Shelf

/-- The slice at ao holds the sets LL. -/
def Sts (W : World) (B : Nat) (ao : Option Addr) (LL : List (List Rg)) : Prop := ∀ pre x rest, pre ++ x :: rest = LL → ∃ g o a c, ao = some ⟨g, o, none⟩ ∧ g < B ∧
  W.cell? ⟨g, o + pre.length, none⟩ = some (.slice a x.length c) ∧ Rgs W B a x
theorem Sts.below {W W' : World} {B B' : Nat} {ao : Option Addr} {LL : List (List Rg)} (h : Sts W B ao LL) (hb : Below B' W W') (hB : B ≤ B') : Sts W' B ao LL := fun pre x rest e => by
  obtain ⟨g, o, a, c, h1, h2, h3, h4⟩ := h pre x rest e
  exact ⟨g, o, a, c, h1, h2, (hb.cell (p := ⟨g, o + pre.length, none⟩) (Nat.lt_of_lt_of_le h2 hB)).trans h3, h4.below hb hB⟩
theorem Sts.mono {W : World} {B B' : Nat} {ao : Option Addr} {LL : List (List Rg)} (h : Sts W B ao LL) (hB : B ≤ B') : Sts W B' ao LL := fun pre x rest e => by
  obtain ⟨g, o, a, c, h1, h2, h3, h4⟩ := h pre x rest e
  exact ⟨g, o, a, c, h1, Nat.lt_of_lt_of_le h2 hB, h3, h4.mono hB⟩

theorem info_range_parts : ∃ i, Try.prog.info? 41 = some i ∧ i.zero = some (.agg #[.int .i32 0, .int .i32 0]) ∧ i.size = 2 ∧ i.bytes = 8 := info_parts infoRange
set_option maxHeartbeats 1000000 in
set_option maxRecDepth 100000 in
theorem Grow_any (n : Nat) (w : World) (hn : n ≤ 1000000) :
    Calls Try.prog 56 #[.slice none 0 0, .int .i64 n] w fun e w' => ∃ v, e = .returned v ∧ w'.ownsRow w.heap.size 41 2 v 0 [] ∧ Below w.heap.size w w' := by
  by_cases h0 : n = 0
  · subst h0
    go_enter Try.func56, Try.ntmps56
    go_wp2
    go_ret
    exact ⟨_, rfl, World.ownsRow_nil _ _ _ _, Below.refl _ _⟩
  · obtain ⟨i, hi, hz, hs, hb⟩ := info_range_parts
    have hr := Lib.run_append_nil_zeros (P := Try.prog) w 24 3 24 41 i _ .i64 .i64 Try.underlying24 Try.underlying3 hi hz n (by omega) (by omega) (by omega) (by rw [hb]; omega)
    have hge := grownCap_ge w n 0 41
    have hcm := grownCap_le_maxLen w n 0 41 (by unfold maxLen; omega)
    have hown := World.ownsRow_made (e := 41) (size := 2) w.drew (Builtin.zeroCells (Value.agg #[.int .i32 0, .int .i32 0]).cells n ++ Builtin.zeroCells (Value.agg #[.int .i32 0, .int .i32 0]).cells (grownCap w n 0 41 - n)) (grownCap w n 0 41) (Nat.le_refl _) hcm
      (by rw [Array.size_append, size_zeroCells, size_zeroCells]; show n * 2 + (grownCap w n 0 41 - n) * 2 = _; omega)
    have hB := (Below.refl w.heap.size w).drew.alloc (Nat.le_refl w.drew.heap.size) (.cells (Builtin.zeroCells (Value.agg #[.int .i32 0, .int .i32 0]).cells n ++ Builtin.zeroCells (Value.agg #[.int .i32 0, .int .i32 0]).cells (grownCap w n 0 41 - n)) 41)
    generalize grownCap w n 0 41 = cp at *
    generalize Builtin.zeroCells (Value.agg #[.int .i32 0, .int .i32 0]).cells n ++ Builtin.zeroCells (Value.agg #[.int .i32 0, .int .i32 0]).cells (cp - n) = zs at *
    have HO := Lib.hid hown; have HB := Lib.hid hB
    have hpos : (0 : Int) < (n : Int) := by omega
    clear hown hB hi hz hs hb i
    go_enter Try.func56, Try.ntmps56
    go_wp2_with (at_builtin; refine Lib.wpList_append_run _ rfl _ _ 24 3 rfl (.slice none 0 0) (.int .i64 (n : Int)) rfl rfl _ _ hr ?_)
    go_ret
    exact ⟨_, rfl, HO.out, HB.out⟩

theorem rgs_cells {W : World} {B : Nat} {ao : Option Addr} {M : List Rg} (h : Rgs W B ao M) (hl : 0 < M.length) : ∃ ad, ao = some ad ∧ ∀ j u, (rgCells M)[j]? = some u → W.cell? (ad.add j) = some u := by
  obtain ⟨g, o, rfl, _, hc⟩ := rgs_at h hl
  refine ⟨_, rfl, fun j u hu => ?_⟩
  have hj : j < M.length * 2 := by
    have := (List.getElem?_eq_some_iff.1 hu).1
    rwa [rgCells_length] at this
  have e := rgCells_get M j hj
  have e2 : (rgCells M)[j]! = u := by rw [List.getElem!_eq_getElem?_getD, hu]; rfl
  rw [e2] at e
  obtain ⟨h0, h1⟩ := hc (j / 2) (by omega)
  have ha : (⟨g, o, none⟩ : Addr).add j = ⟨g, o + j, none⟩ := by
    unfold Addr.add
    split
    · rename_i h; subst h; rfl
    · rfl
  rw [ha, e]
  rcases (show j % 2 = 0 ∨ j % 2 = 1 by omega) with hm | hm
  · rw [hm, show o + j = o + j / 2 * 2 by omega]
    exact h0
  · rw [hm, show o + j = o + j / 2 * 2 + 1 by omega]
    exact h1
theorem append_nils (c : Nat) (w : World) : (Builtin.append_ #[24, 24] 24 #[.slice none 0 0, .slice none 0 c]).run Try.prog w = .ok (.slice none 0 0) w := by
  obtain ⟨i, hi, hz, hs, hb⟩ := info_range_parts
  simp [Builtin.append_, run_underlying Try.underlying24, sizeOf, typeInfo, hi, Builtin.lenOf, Builtin.firstCells]
/-- append of a slice of ranges to an own row. -/
theorem wp_app_rgs {ops : Array Oper} {rest : List Oper} {o : Oper} {a : Act} {Q : Exit → Act → World → Prop} (hgd : o.guard = none) (s x : Operand)
    (ho : o.op = .call { callee := .builtin .append, args := #[s, x], argTypes := #[24, 24] }) (hty : o.type = 24)
    (base : Nat) (v : Value) (L : List Rg) (W : World) (hown : W.ownsRow base 41 2 v L.length (rgCells L)) (hs : a.eval s = v) (b : Option Addr) (M : List Rg) (c : Nat) (hM : Rgs W W.heap.size b M)
    (hx : a.eval x = .slice b M.length c) (hn : L.length + M.length < 1000000) (hb : base ≤ W.heap.size)
    (h : ∀ v' w', w'.ownsRow base 41 2 v' (L ++ M).length (rgCells (L ++ M)) → W.grownBy w' v.ownBlock → wpList Try.prog ops Q rest (a.put o.dst v') w') :
    wpList Try.prog ops Q (o :: rest) a W := by
  obtain ⟨i0, hi, hz0, hz1, hz2⟩ := info_range_parts
  have own : ∀ (ad : Addr), a.eval x = .slice (some ad) M.length c → (∀ j u, (rgCells M)[j]? = some u → W.cell? (ad.add j) = some u) → wpList Try.prog ops Q (o :: rest) a W := fun ad hx hc => by
    refine wpList_append_own _ hgd s x 24 ho base 41 i0 (.agg #[.int .i32 0, .int .i32 0]) 2 8 Try.underlying24 hi hz0 hz1 hz2 rfl (by decide) v L.length (rgCells L) hs hown ad M.length c (rgCells M) hx (rgCells_length M)
      hc rgCells_one (by unfold maxLen; omega) (by omega) hb ?_
    intro v' w' h1 h2 _
    refine h v' w' ?_ h2
    rw [rgCells_app, List.length_append]
    exact h1
  by_cases hl : 0 < M.length
  · obtain ⟨ad, rfl, hc⟩ := rgs_cells hM hl
    exact own ad hx hc
  · have hM0 : M = [] := List.eq_nil_of_length_eq_zero (by omega)
    subst hM0
    rcases b with _ | ad
    · have hk : ∀ w', W.grownBy w' v.ownBlock → w' = W → wpList Try.prog ops Q rest (a.put o.dst v) W := fun w' h1 h2 => by
        refine h v W ?_ ⟨rfl, rfl, rfl, Nat.le_refl _, fun _ _ _ => rfl⟩
        rw [List.append_nil]
        exact hown
      have hk := hk W ⟨rfl, rfl, rfl, Nat.le_refl _, fun _ _ _ => rfl⟩ rfl
      rcases hown.2 with ⟨rfl, h0⟩ | ⟨g, cap, cur, rfl, h3, h4, h5, h6, h7, h8⟩
      · exact Lib.wpList_append_run W hgd s x 24 24 ho _ _ hs hx _ _ (by rw [hty]; exact append_nils c W) hk
      · have hr := run_append_room_src (P := Try.prog) W 24 24 24 41 i0 Try.underlying24 hi g 0 L.length cap (.slice none 0 c) 0 [] (Src.ofNil W Try.underlying24 c) (by omega) (fun j hj => by cases hj) (fun j hj => by cases hj)
        exact Lib.wpList_append_run W hgd s x 24 24 ho _ _ hs hx _ _ (by rw [hty]; exact hr) hk
    · exact own ad hx (fun j u hu => by cases hu)

theorem flat_len (pre : List (List Rg)) (x : List Rg) (rest : List (List Rg)) : (pre ++ x :: rest).flatten.length = pre.flatten.length + x.length + rest.flatten.length := by
  rw [List.flatten_append, List.length_append, List.flatten_cons, List.length_append]
  omega
theorem flat_snoc (pre : List (List Rg)) (x : List Rg) : (pre ++ [x]).flatten = pre.flatten ++ x := by
  rw [List.flatten_append, List.flatten_singleton]
set_option maxHeartbeats 4000000 in
set_option maxRecDepth 100000 in
theorem Concat_any (ao : Option Addr) (LL : List (List Rg)) (cap : Nat) (w : World) (hN : LL.length ≤ 100000) (hT : LL.flatten.length ≤ 100000) (hS : Sts w w.heap.size ao LL) :
    Calls Try.prog 43 #[.slice ao LL.length cap] w fun e w' => ∃ v, e = .returned v ∧ w'.ownsRow w.heap.size 41 2 v LL.flatten.length (rgCells LL.flatten) ∧ Below w.heap.size w w' := by
  have HS := Lib.hid hS; clear hS
  go_enter Try.func43, Try.ntmps43
  go_wp2_with fail
  go_loopw [3, 11] (fun z i wr => ∃ (pre rest : List (List Rg)) (n : Nat), i = .int .i64 pre.length ∧ z = .int .i64 n ∧ Hid (pre ++ rest = LL) ∧ Hid (n = pre.flatten.length) ∧ w = wr) (fun _ i _ => LL.length - (intOf i).toNat)
  case atStart => exact ⟨[], LL, 0, rfl, rfl, rfl, rfl, rfl⟩
  case round =>
    obtain ⟨pre, rest, n, rfl, rfl, hA, hn, rfl⟩ := hrel
    rcases rest with _ | ⟨x, rest⟩
    · have hL := hA.out
      rw [List.append_nil] at hL
      subst hL
      have hT2 : n ≤ 100000 := by have := hn.out; omega
      have hgr := fun w => Grow_any n w (by omega)
      have HT := Lib.hid hT
      clear hT
      go_wp2_with fail
      refine (hgr _).mono ?_
      rintro e w2 ⟨v2, rfl, o2, b2⟩
      go_wp2_with fail
      go_loopw [6, 27] (fun sv i wr2 => ∃ (p r : List (List Rg)) (F : List Rg) (v : Value), v = sv ∧ i = .int .i64 p.length ∧ Hid (p ++ r = pre) ∧ Hid (p.flatten = F) ∧ wr2.ownsRow w.heap.size 41 2 v F.length (rgCells F) ∧ Below w.heap.size w wr2) (fun _ i _ => pre.length - (intOf i).toNat)
      case atStart => exact ⟨[], pre, [], _, rfl, rfl, rfl, rfl, o2, b2⟩
      case round =>
        obtain ⟨p, r, F, v, rfl, rfl, hA2, hF, ho, hb⟩ := hrel
        rcases r with _ | ⟨x, r⟩
        · have hL := hA2.out
          rw [List.append_nil] at hL
          subst hL
          go_wp2
          go_ret
          exact ⟨_, rfl, by rw [hF.out]; exact ho, hb⟩
        · have hL := hA2.out
          obtain ⟨g, o, a, c, rfl, hg, p0, hRx⟩ := HS.out _ _ _ hL
          have hlt : p.length < pre.length := by rw [← hL]; simp
          have hfl : F.length + x.length ≤ 100000 := by
            have h1 := flat_len p x r
            have h2 := HT.out
            rw [hL, hF.out] at h1
            omega
          have q0 := (hb.cell (p := ⟨g, o + p.length, none⟩) hg).trans p0
          have hR2 := (hRx.below hb (Nat.le_refl _)).mono hb.size
          have hbs := hb.size
          have hF2 : Hid ((p ++ [x]).flatten = F ++ x) := Lib.hid (by rw [flat_snoc, hF.out])
          have HL := Lib.hid hL
          clear p0 hRx hL
          generalize pre.length = N at *
          go_wp2_with (at_builtin; refine wp_app_rgs rfl _ _ rfl rfl w.heap.size v F _ ho rfl a x c hR2 rfl (by omega) hbs ?_)
          intro v' w4 h1 h2
          have hb4 := hb.grown h2 hbs (fun k hk => (ho.lt k hk).1)
          have H1 := Lib.hid h1; clear h1 h2 ho
          go_wp2
          go_roundw
          case rel => exact ⟨p ++ [x], r, F ++ x, _, rfl, by simp, Lib.hid (by rw [List.append_assoc]; exact HL.out), hF2, by have e := H1.out; simpa only [List.length_append] using e, hb4⟩
          case measure => simp [intOf]; omega
    · have hL := hA.out
      obtain ⟨g, o, a, c, rfl, hg, p0, hRx⟩ := HS.out _ _ _ hL
      have hlt : pre.length < LL.length := by rw [← hL]; simp
      have hfl : n + x.length ≤ 100000 := by
        have h1 := flat_len pre x rest
        have h2 := hn.out
        rw [hL] at h1
        omega
      have hn2 : Hid (n + x.length = (pre ++ [x]).flatten.length) := Lib.hid (by rw [flat_snoc, List.length_append, ← hn.out])
      have HL := Lib.hid hL
      have HT := Lib.hid hT
      clear hRx hL hT
      generalize LL.length = N at *
      go_wp2
      go_roundw
      case rel => exact ⟨pre ++ [x], rest, n + x.length, by simp, by simp, Lib.hid (by rw [List.append_assoc]; exact HL.out), hn2, trivial⟩
      case measure => simp [intOf]; omega

set_option maxHeartbeats 1000000 in
theorem Union_any (ao : Option Addr) (LL : List (List Rg)) (cap : Nat) (w : World) (hN : LL.length ≤ 100000) (hT : LL.flatten.length ≤ 100000) (hS : Sts w w.heap.size ao LL) :
    Calls Try.prog 19 #[.slice ao LL.length cap] w fun e w' => ∃ v l, e = .returned v ∧ IsOf LL.flatten l ∧ l.length ≤ LL.flatten.length ∧ w'.ownsRow w.heap.size 41 2 v l.length (rgCells l) ∧ Below w.heap.size w w' := by
  have hc := fun w h => Concat_any ao LL cap w hN hT h
  have hS' := Lib.hid hS; clear hS
  generalize LL.flatten = F at *
  generalize LL.length = N at *
  go_enter Try.func19, Try.ntmps19
  go_wp2_with fail
  refine (hc _ hS'.out).mono ?_
  rintro e w1 ⟨v1, rfl, o1, b1⟩
  obtain ⟨a1, c1, rfl, r1⟩ := rgs_of_own o1
  have R1 := Lib.hid r1
  clear r1 o1
  go_wp2_with fail
  refine (Of_any a1 F c1 _ hT R1.out).mono ?_
  rintro e w2 ⟨v2, l, rfl, h1, h2, o2, b2⟩
  have B2 := b1.trans (b2.mono b1.size)
  have o3 := own_low o2 b1.size
  have H1 := Lib.hid h1
  clear h1 o2 b1 b2
  go_wp2
  go_ret
  exact ⟨_, l, rfl, H1.out, h2, o3, B2⟩
end Go.Proofs.Ytpmcnmlpkpoopaa
