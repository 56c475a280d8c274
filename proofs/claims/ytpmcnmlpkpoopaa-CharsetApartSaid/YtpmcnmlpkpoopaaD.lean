/- charset.Of: any ranges; it answers their canonical form. -/
import Derived.Test.YtpmcnmlpkpoopaaC
namespace Go.Proofs.Ytpmcnmlpkpoopaa
open Go.RowKit

/-- The slice at ao holds the ranges L. -/
def Rgs (W : World) (B : Nat) (ao : Option Addr) (L : List Rg) : Prop := ∀ pre x rest, pre ++ x :: rest = L → ∃ g o, ao = some ⟨g, o, none⟩ ∧ g < B ∧
  W.cell? ⟨g, o + pre.length * 2, none⟩ = some (.int .i32 x.1) ∧ W.cell? ⟨g, o + pre.length * 2 + 1, none⟩ = some (.int .i32 x.2)
theorem Rgs.below {W W' : World} {B B' : Nat} {ao : Option Addr} {L : List Rg} (h : Rgs W B ao L) (hb : Below B' W W') (hB : B ≤ B') : Rgs W' B ao L := fun pre x rest e => by
  obtain ⟨g, o, h1, h2, h3, h4⟩ := h pre x rest e
  exact ⟨g, o, h1, h2, (hb.cell (p := ⟨g, o + pre.length * 2, none⟩) (Nat.lt_of_lt_of_le h2 hB)).trans h3, (hb.cell (p := ⟨g, o + pre.length * 2 + 1, none⟩) (Nat.lt_of_lt_of_le h2 hB)).trans h4⟩
theorem Rgs.mono {W : World} {B B' : Nat} {ao : Option Addr} {L : List Rg} (h : Rgs W B ao L) (hB : B ≤ B') : Rgs W B' ao L := fun pre x rest e => by
  obtain ⟨g, o, h1, h2, h3⟩ := h pre x rest e
  exact ⟨g, o, h1, Nat.lt_of_lt_of_le h2 hB, h3⟩
theorem rgCells_at (pre : List Rg) (x : Rg) (rest : List Rg) : (rgCells (pre ++ x :: rest))[pre.length * 2]? = some (.int .i32 x.1) ∧ (rgCells (pre ++ x :: rest))[pre.length * 2 + 1]? = some (.int .i32 x.2) := by
  have h := rgCells_length pre
  rw [rgCells_app, List.getElem?_append_right (by omega), List.getElem?_append_right (by omega), h, Nat.sub_self, Nat.add_sub_cancel_left]
  exact ⟨rfl, rfl⟩
theorem rgs_of_own {w : World} {base : Nat} {v : Value} {L : List Rg} (h : w.ownsRow base 41 2 v L.length (rgCells L)) :
    ∃ ao cap, v = .slice ao L.length cap ∧ Rgs w w.heap.size ao L := by
  obtain ⟨h1, ⟨rfl, h2⟩ | ⟨g, cap, cur, rfl, h3, h4, h5, h6, h7, h8⟩⟩ := h
  · refine ⟨none, 0, by rw [h2], fun pre x rest e => ?_⟩
    rw [← e] at h2
    simp at h2
  · refine ⟨_, cap, rfl, fun pre x rest e => ⟨g, 0, rfl, (Array.getElem?_eq_some_iff.1 h4).1, ?_⟩⟩
    have hlen : pre.length < L.length := by rw [← e]; simp
    obtain ⟨a0, a1⟩ := rgCells_at pre x rest
    rw [e, ← h8, List.getElem?_take_of_lt (by omega), Array.getElem?_toList] at a0
    rw [e, ← h8, List.getElem?_take_of_lt (by omega), Array.getElem?_toList] at a1
    rw [Nat.zero_add, Lib.cell_of_heap h4, Lib.cell_of_heap h4]
    exact ⟨a0, a1⟩
theorem own_below {wr w1 : World} {b B : Nat} {e : TypeId} {sz n : Nat} {v : Value} {xs : List Value} (h : wr.ownsRow b e sz v n xs) (hb : Below B wr w1) (hB : wr.heap.size ≤ B) : w1.ownsRow b e sz v n xs := by
  obtain ⟨h1, h2 | ⟨g, cap, cur, h2, h3, h4, h5⟩⟩ := h
  · exact ⟨h1, .inl h2⟩
  · exact ⟨h1, .inr ⟨g, cap, cur, h2, h3, (hb.block g (Nat.lt_of_lt_of_le (Array.getElem?_eq_some_iff.1 h4).1 hB)).trans h4, h5⟩⟩
theorem own_set2 {W : World} {base : Nat} {e : TypeId} {sz n : Nat} {v : Value} {xs : List Value} {b : Nat} {x y : Value} (h : W.ownsRow base e sz v n xs) (hne : v.ownBlock ≠ some b) :
    ((W.setCell ⟨b, 0, none⟩ x).setCell ⟨b, 1, none⟩ y).ownsRow base e sz v n xs :=
  (h.kept (row := some b) grown_set (.inr hne)).kept (row := some b) grown_set (.inr hne)
theorem own_low {W : World} {base base' : Nat} {e : TypeId} {sz n : Nat} {v : Value} {xs : List Value} (h : W.ownsRow base e sz v n xs) (hb : base' ≤ base) : W.ownsRow base' e sz v n xs := by
  obtain ⟨h1, h2 | ⟨g, cap, cur, h2, h3, h4⟩⟩ := h
  · exact ⟨h1, .inl h2⟩
  · exact ⟨h1, .inr ⟨g, cap, cur, h2, Nat.le_trans hb h3, h4⟩⟩
theorem clipL_snoc (l : List Rg) (x : Rg) : clipL (l ++ [x]) = clipL l ++ (if (clipR x).1 ≤ (clipR x).2 then [clipR x] else []) := by
  unfold clipL
  rw [List.map_append, List.filter_append, List.map_singleton]
  congr 1
  by_cases h : (clipR x).1 ≤ (clipR x).2
  · rw [if_pos h, List.filter_cons_of_pos (by simpa using h)]; rfl
  · rw [if_neg h, List.filter_cons_of_neg (by simpa using h)]; rfl
theorem clipL_length (l : List Rg) : (clipL l).length ≤ l.length := by
  unfold clipL
  have := List.length_filter_le (fun r : Rg => decide (r.1 ≤ r.2)) (l.map clipR)
  rwa [List.length_map] at this
theorem fold_pre {L S pre rest : List Rg} (hp : S.Perm (clipL L)) (hs : S.Pairwise (fun a b => a.1 ≤ b.1)) (e : pre ++ rest = S) : Canon (pre.foldl addL []) ∧ (pre.foldl addL []).length ≤ pre.length := by
  subst e
  obtain ⟨h1, _, h3⟩ := fold_add pre [] canon_nil (fun r hr => clipL_ok (hp.mem_iff.1 (List.mem_append_left _ hr))) (List.pairwise_append.1 hs).1 (fun q hq => by cases hq)
  exact ⟨h1, by simpa using h3⟩

set_option maxHeartbeats 4000000 in
set_option maxRecDepth 100000 in
theorem Of_any (ao : Option Addr) (L : List Rg) (cap : Nat) (w : World) (hN : L.length ≤ 100000) (hR : Rgs w w.heap.size ao L) :
    Calls Try.prog 10 #[.slice ao L.length cap] w fun e w' => ∃ v l, e = .returned v ∧ IsOf L l ∧ l.length ≤ L.length ∧ w'.ownsRow w.heap.size 41 2 v l.length (rgCells l) ∧ Below w.heap.size w w' := by
  have HR := Lib.hid hR; clear hR
  go_enter Try.func10, Try.ntmps10
  go_wp2_with fail
  go_loopw [3, 11] (fun sv i wr => ∃ (pre rest : List Rg) (v : Value), v = sv ∧ i = .int .i64 pre.length ∧ Hid (pre ++ rest = L) ∧ wr.ownsRow w.heap.size 41 2 v (clipL pre).length (rgCells (clipL pre)) ∧ Below w.heap.size w wr) (fun _ i _ => L.length - (intOf i).toNat)
  case atStart => exact ⟨[], L, _, rfl, rfl, rfl, World.ownsRow_nil _ _ _ _, Below.refl _ _⟩
  case round =>
    obtain ⟨pre, rest, v, rfl, rfl, hA, hown, hb⟩ := hrel
    rcases rest with _ | ⟨⟨x1, x2⟩, rest⟩
    · have hL := hA.out
      rw [List.append_nil] at hL
      subst hL
      have hcl := clipL_length pre
      have HC := Lib.hid hcl
      go_wp2_with fail
      refine (SortFunc_any _ _ _ _ hown (by omega)).mono ?_
      rintro e w2 ⟨rfl, S, hp, hs, ho2, hg2⟩
      have b2 : Below w.heap.size w w2 := hb.grown hg2 hb.size (fun k hk => (hown.lt k hk).1)
      have hSl : S.length = (clipL pre).length := hp.length_eq
      rw [← hSl] at ho2
      obtain ⟨a2, c2, rfl, hS2⟩ := rgs_of_own ho2
      have HS2 := Lib.hid hS2; have HP := Lib.hid hp; have HS := Lib.hid hs
      have HL := Lib.hid hSl
      clear hS2 hp hs hown ho2 hg2 hA HR hSl hcl
      go_wp2_with fail
      go_loopw [4, 31] (fun v i wr => ∃ (p r : List Rg), i = .int .i64 p.length ∧ Hid (p ++ r = S) ∧ wr.ownsRow w2.heap.size 41 2 v (p.foldl addL []).length (rgCells (p.foldl addL [])) ∧ Below w2.heap.size w2 wr) (fun _ i _ => S.length - (intOf i).toNat)
      case atStart => exact ⟨[], S, rfl, rfl, World.ownsRow_nil _ _ _ _, Below.refl _ _⟩
      case round =>
        obtain ⟨p, r, rfl, hA2, ho3, hb3⟩ := hrel
        rcases r with _ | ⟨⟨x1, x2⟩, r⟩
        · have hL := hA2.out
          rw [List.append_nil] at hL
          subst hL
          obtain ⟨h1, h2⟩ := isOf_fold HP.out HS.out
          have H1 := Lib.hid h1; clear h1
          have B4 := b2.trans (hb3.mono b2.size)
          have o4 := own_low ho3 b2.size
          go_wp2
          go_ret
          exact ⟨_, _, rfl, H1.out, h2, o4, B4⟩
        · have hL := hA2.out
          obtain ⟨f1, f2⟩ := fold_pre HP.out HS.out hL
          obtain ⟨g, o, rfl, hg, p0, p1⟩ := HS2.out _ _ _ hL
          have hlt : p.length < S.length := by rw [← hL]; simp
          have hok := f1.2
          have q0 := (hb3.cell (p := ⟨g, o + p.length * 2, none⟩) hg).trans p0
          have q1 := (hb3.cell (p := ⟨g, o + p.length * 2 + 1, none⟩) hg).trans p1
          have y1 := RgAt.new wr (x1, x2)
          have hb4 := hb3.alloc hb3.size (.cells #[.int .i32 x1, .int .i32 x2] 41)
          have hz1 : (wr.alloc (.cells #[.int .i32 x1, .int .i32 x2] 41)).heap.size = wr.heap.size + 1 := by simp
          have o4 := ho3.alloc (.cells #[.int .i32 x1, .int .i32 x2] 41)
          have hs3 := hb3.size
          have d0 := y1.c0; have d1 := y1.c1
          have hN3 : S.length ≤ 100000 := by have := HL.out; have := HC.out; omega
          have hF : Hid ((p ++ [(x1, x2)]).foldl addL [] = addL (p.foldl addL []) (x1, x2)) := Lib.hid (by rw [List.foldl_append]; rfl)
          clear p0 p1 hL f1 ho3 y1
          dsimp only at d0 d1
          generalize S.length = N at *
          generalize hpf : p.foldl addL [] = F at *
          go_wp2_with fail
          refine (add_any _ F w2.heap.size (x1, x2) _ o4 (by omega) (by omega) hok).mono ?_
          rintro e w4 ⟨v4, rfl, o5, g5⟩
          have hb5 := hb4.grown g5 (by omega) (fun k hk => (o4.lt k hk).1)
          clear o4 g5 hok q0 q1 d0 d1
          go_wp2
          go_roundw
          case rel => exact ⟨p ++ [(x1, x2)], r, by simp, Lib.hid (by rw [List.append_assoc]; exact hA2.out), by rw [hF.out]; exact o5, hb5⟩
          case measure => simp [intOf]; omega
    · have hL := hA.out
      obtain ⟨g, o, rfl, hg, p0, p1⟩ := HR.out _ _ _ hL
      have hlt : pre.length < L.length := by rw [← hL]; simp
      have q0 := (hb.cell (p := ⟨g, o + pre.length * 2, none⟩) hg).trans p0
      have q1 := (hb.cell (p := ⟨g, o + pre.length * 2 + 1, none⟩) hg).trans p1
      have y1 := RgAt.new wr (x1, x2)
      have hb1 := hb.alloc hb.size (.cells #[.int .i32 x1, .int .i32 x2] 41)
      have hz1 : (wr.alloc (.cells #[.int .i32 x1, .int .i32 x2] 41)).heap.size = wr.heap.size + 1 := by simp
      have o1 := hown.alloc (.cells #[.int .i32 x1, .int .i32 x2] 41)
      have hgn : v.ownBlock ≠ some wr.heap.size := fun e => by have := (hown.lt _ e).2; omega
      have d0 := y1.c0; have d1 := y1.c1
      have hcl := clipL_length pre
      have hC := Lib.hid (clipL_snoc pre (x1, x2))
      have hs1 := hb.size
      clear p0 p1 hL hown
      dsimp only at d0 d1
      generalize L.length = N at *
      generalize clipL pre = F at *
      go_wp2_with fail
      refine (clip_any (x1, x2) _).mono ?_
      rintro e w2 ⟨rfl, b2⟩
      rw [hz1] at b2
      have y2 := y1.below b2 (by omega)
      have o2 := own_below o1 b2 (by omega)
      have hb2 := hb1.trans (b2.mono (by omega))
      have hs2 := b2.size
      rw [hz1] at hs2
      generalize hc : clipR (x1, x2) = c at *
      obtain ⟨c1, c2⟩ := c
      have y3 := y2.set (c1, c2)
      have o3 := own_set2 (x := .int .i32 c1) (y := .int .i32 c2) o2 hgn
      have hb3 := below_set2 (x := .int .i32 c1) (y := .int .i32 c2) hb2 hs1
      have e0 := y2.c0; have e1 := y2.c1; have k0 := y2.fr 0; have k1 := y2.fr 1
      have f0 := y3.c0; have f1 := y3.c1
      have hz3 : ((w2.setCell ⟨wr.heap.size, 0, none⟩ (.int .i32 c1)).setCell ⟨wr.heap.size, 1, none⟩ (.int .i32 c2)).heap.size = w2.heap.size := by simp [World.setCell]
      clear hb1 o1 o2 y1 hb2 b2 d0 d1 y2 y3 q0 q1
      dsimp only at e0 e1 f0 f1 hC
      by_cases hcc : c1 ≤ c2
      · rw [if_pos hcc] at hC
        go_wp2_with (at_builtin; refine wp_app_rg rfl _ _ rfl w.heap.size v F _ o3 rfl (c1, c2) 1 _ rfl hz3 (by omega) (by omega) ?_)
        intro v' w4 h1 h2
        have hb4 := hb3.grown h2 (by omega) (fun k hk => (o3.lt k hk).1)
        have H1 := Lib.hid h1; clear h1 h2 o3 hb3
        go_wp2
        go_roundw
        case rel => exact ⟨pre ++ [(x1, x2)], rest, _, rfl, by simp, Lib.hid (by rw [List.append_assoc]; exact hA.out), by rw [hC.out]; have e := H1.out; simpa only [List.length_append, List.length_cons, List.length_nil] using e, hb4⟩
        case measure => simp [intOf]; omega
      · rw [if_neg hcc, List.append_nil] at hC
        go_wp2
        go_roundw
        case rel => exact ⟨pre ++ [(x1, x2)], rest, _, rfl, by simp, Lib.hid (by rw [List.append_assoc]; exact hA.out), by rw [hC.out]; exact o3, hb3⟩
        case measure => simp [intOf]; omega
end Go.Proofs.Ytpmcnmlpkpoopaa
