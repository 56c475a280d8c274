/- The reference's none; its join once more, with where the answer lies; what the heap holds in the middle of its Parts. -/
import Derived.Test.YtpmcnmlpkpoopaaLA
namespace Go.Proofs.Ytpmcnmlpkpoopaa
open Go.RowKit Go.Shelf

theorem hasB_low (L : List Rg) : hasB L (-1) = false := Bool.eq_false_iff.2 fun h => by have := ((hasB_iff _ _).1 h).1; omega
theorem noK_iff (r : Int) : ∀ LL : List (List Rg), keyL LL r = keyL LL (-1) ↔ NoK (keyL LL r)
  | [] => by simp [keyL, NoK]
  | X :: LL => by
    rw [keyL_cons, noK_iff r LL, hasB_low]
    unfold NoK keyL
    simp
theorem own_of_alloc2 (w : World) : ((w.alloc (.cells #[] 41)).alloc (.cells #[.slice (some ⟨w.heap.size, 0, none⟩) 0 0] 24)).ownsRow w.heap.size 24 1 (.slice (some ⟨w.heap.size + 1, 0, none⟩) 1 1) 1 [.slice (some ⟨w.heap.size, 0, none⟩) 0 0] := by
  have := World.ownsRow_lit (base := w.heap.size) (e := 24) (size := 1) (w.alloc (.cells #[] 41)) #[.slice (some ⟨w.heap.size, 0, none⟩) 0 0] 1 (by simp) (by simp [maxLen]) rfl
  rw [World.size_alloc] at this
  exact this
theorem none_row {w W w' : World} {v' : Value} {b : Nat} {vs : List Value} {LL : List (List Rg)} (h1 : w'.ownsRow w.heap.size 24 1 v' (([] : List Rg) :: LL).length ([Value.slice (some ⟨b, 0, none⟩) 0 0] ++ vs))
    (h3 : ValsOf W w.heap.size vs LL) (hb : Below w.heap.size W w') (hs : w.heap.size ≤ w'.heap.size) :
    ∃ a c, v' = .slice a (([] : List Rg) :: LL).length c ∧ Sts w' w'.heap.size a ([] :: LL) := by
  have heach : ∀ (i : Nat) (v : Value) (l : List Rg), ([Value.slice (some ⟨b, 0, none⟩) 0 0] ++ vs)[i]? = some v → (([] : List Rg) :: LL)[i]? = some l → ∃ a c, v = .slice a l.length c ∧ Rgs w' w'.heap.size a l := by
    intro i v l hv hp
    cases i with
    | zero =>
      simp at hv hp
      subst hv hp
      exact ⟨_, _, rfl, Rgs.nil _ _ _⟩
    | succ i =>
      obtain ⟨a, c, e, hR⟩ := h3 i v l (by simpa using hv) (by simpa using hp)
      exact ⟨a, c, e, (hR.below hb (Nat.le_refl _)).mono hs⟩
  obtain ⟨a', c', e, _, hS'⟩ := sts_of_vals (B := w'.heap.size) h1 (Nat.le_refl _) heach
  exact ⟨a', c', e, hS'⟩
set_option maxHeartbeats 1000000 in
theorem rnone_any (ao : Option Addr) (LL : List (List Rg)) (c : Nat) (r : Int) (w : World) (hc : LL.length ≤ 100000) (hl : ∀ L ∈ LL, L.length ≤ 30000) (hA : Sts w w.heap.size ao LL) :
    Calls Try.prog 48 #[.slice ao LL.length c, .int .i32 r] w fun e w' => ∃ q, e = .returned (.bool q) ∧ (q = true ↔ NoK (keyL LL r)) ∧ Below w.heap.size w w' := by
  have b2 := ((Below.refl w.heap.size w).alloc (Nat.le_refl _) (.cells #[] 41)).alloc (by rw [World.size_alloc]; omega) (.cells #[.slice (some ⟨w.heap.size, 0, none⟩) 0 0] 24)
  have HS := hA.below b2 (Nat.le_refl _)
  have hO := own_of_alloc2 w
  have HL := Lib.hid hl
  have HB2 := Lib.hid b2
  have hsz : w.heap.size ≤ ((w.alloc (.cells #[] 41)).alloc (.cells #[.slice (some ⟨w.heap.size, 0, none⟩) 0 0] 24)).heap.size := by simp; omega
  have hlen : (([] : List Rg) :: LL).length = 1 + LL.length := by rw [List.length_cons]; omega
  have hn9 : 1 + LL.length < 1000000 := by omega
  clear hl b2 hA
  go_enter Try.func48, Try.ntmps48
  go_wp2_with (at_builtin; refine wp_app_sts rfl _ _ rfl rfl w.heap.size (.slice (some ⟨w.heap.size + 1, 0, none⟩) 1 1) 1 [.slice (some ⟨w.heap.size, 0, none⟩) 0 0] ((w.alloc (.cells #[] 41)).alloc (.cells #[.slice (some ⟨w.heap.size, 0, none⟩) 0 0] 24)) hO (Nat.le_refl _) rfl w.heap.size ao LL c HS rfl hn9 hsz ?_)
  intro v' w' vs h1 h2 h3 h4
  have hb4 : Below w.heap.size w w' := HB2.out.grown h4 hsz (fun k hk => by have := (hO.lt k hk).1; omega)
  have hb5 : Below w.heap.size ((w.alloc (.cells #[] 41)).alloc (.cells #[.slice (some ⟨w.heap.size, 0, none⟩) 0 0] 24)) w' := ((Below.refl _ _).mono hsz).grown h4 hsz (fun k hk => by have := (hO.lt k hk).1; omega)
  rw [← hlen] at h1
  obtain ⟨a', c', rfl, hS'⟩ := none_row h1 h3 hb5 hb4.size
  have hcall := ralike_any a' ([] :: LL) c' r (-1) w' (by rw [hlen]; omega) (fun L hL => by
    rcases List.mem_cons.1 hL with rfl | hL
    · simp
    · exact HL.out L hL) hS'
  have HC := Lib.hid hcall
  have HB4 := Lib.hid hb4
  clear hcall hS' h1 h2 h3 h4 hb5 hb4 HS hO
  clear hlen
  generalize (([] : List Rg) :: LL).length = M at *
  go_wp2_with fail
  refine HC.out.mono ?_
  rintro e w5 ⟨q, rfl, hq, b5⟩
  have HQ : Hid (q = true ↔ NoK (keyL LL r)) := Lib.hid (by rw [hq, keyL_cons, ← noK_iff, hasB_nil, hasB_nil]; simp)
  have HB5 := Lib.hid (HB4.out.trans (b5.mono HB4.out.size))
  clear hq b5
  go_wp2
  go_ret
  exact ⟨q, rfl, HQ.out, HB5.out⟩

set_option maxHeartbeats 1000000 in
theorem rjoin3_any (v : Value) (L : List Rg) (base : Nat) (lo hi : Int) (w : World) (h : w.ownsRow base 41 2 v L.length (rgCells L)) (hb : base ≤ w.heap.size) (hN : L.length < 900000) (hok : ∀ q ∈ L, okR q) :
    Calls Try.prog 49 #[v, .int .i32 lo, .int .i32 hi] w fun e w' => ∃ v', e = .returned v' ∧ w'.ownsRow base 41 2 v' (joinL L (lo, hi)).length (rgCells (joinL L (lo, hi))) ∧ w.grownBy w' v.ownBlock ∧ ∀ k, v'.ownBlock = some k → v.ownBlock = some k ∨ w.heap.size ≤ k := by
  rcases List.eq_nil_or_concat L with rfl | ⟨T, q, rfl⟩
  · have HL := Lib.hid (joinL_nil (lo, hi))
    obtain ⟨a, c, rfl, _, _⟩ := own_len h
    go_enter Try.func49, Try.ntmps49
    go_wp2_with (at_builtin; refine wp_app_at rfl _ _ rfl base _ [] w h rfl (lo, hi) 1 _ rfl rfl (by simp) hb ?_)
    intro v' w' h1 h2 h3
    have H1 := Lib.hid h1; have H3 := Lib.hid h3
    obtain ⟨a', c', rfl, _, _⟩ := own_len h1
    clear h1 h3
    go_wp2
    go_ret
    exact ⟨_, rfl, by rw [HL.out]; exact H1.out, h2, H3.out⟩
  · rw [List.concat_eq_append] at *
    have hlen : (T ++ [q]).length = T.length + 1 := by simp
    obtain ⟨g, cap, rfl, hbg, hgs, c0, c1, _, _⟩ := own_last h
    have hq := hok q (by simp)
    obtain ⟨o1, o2, o3⟩ := hq
    have H := Lib.hid h
    have hj := joinL_snoc T q (lo, hi)
    obtain ⟨q1, q2⟩ := q
    dsimp only at c0 c1 o1 o2 o3 hj
    by_cases e1 : q2 + 1 = lo
    · rw [if_pos e1] at hj
      have HJ := Lib.hid hj
      have hR := rgs_of_own h
      obtain ⟨a', c', e2, hR⟩ := hR
      rw [hlen] at e2
      obtain ⟨rfl, rfl⟩ : some ⟨g, 0, none⟩ = a' ∧ cap = c' := by simpa using e2
      have bl := (Below.refl w.heap.size w).alloc (Nat.le_refl _) (.cells #[] 41)
      have HR := Lib.hid ((hR.below bl (Nat.le_refl _)).mono bl.size)
      have O0 := World.ownsRow_lit (base := w.heap.size) (e := 41) (size := 2) w #[] 0 (Nat.le_refl _) (by simp [maxLen]) rfl
      have hb1 : w.heap.size ≤ (w.alloc (.cells #[] 41)).heap.size := by simp
      have hN1 : T.length < 900000 := by omega
      have hN9 : T.length + 1 < 1000000 := by omega
      clear e2 hR bl hj h hok
      subst e1
      go_enter Try.func49, Try.ntmps49
      go_wp2_with (at_builtin; refine wp_copy_rgs rfl _ _ rfl rfl w.heap.size (.slice (some ⟨w.heap.size, 0, none⟩) 0 0) (w.alloc (.cells #[] 41)) O0 rfl (some ⟨g, 0, none⟩) (T ++ [(q1, q2)]) cap (T.length + 1) HR.out hlen rfl hN9 hb1 ?_)
      intro v5 w5 h1 h2
      rw [← hlen] at h1
      obtain ⟨g5, cap5, rfl, hb5, hs5, k0, k1, kf, kset⟩ := own_last h1
      have KS := Lib.hid (kset hi); have KF := kf (T.length * 2 + 1)
      have H2 := Lib.hid h2
      have HB5 := Lib.hid hb5
      dsimp only at k0 k1
      clear h1 h2 kset kf O0 c0 c1
      go_wp2
      go_ret
      refine ⟨_, rfl, by rw [HJ.out]; exact own_low KS.out hb, ⟨H2.out.os, H2.out.tape, H2.out.output, ?_, fun k hk _ => ?_⟩, fun k e => .inr ?_⟩
      · have := H2.out.size
        simp [World.setCell] at this ⊢
        omega
      · refine (Below.heap_setCell w5 ⟨g5, T.length * 2 + 1, none⟩ (.int .i32 hi) k (by show k ≠ g5; omega)).trans ((H2.out.block k (by simp; omega) (by simp [Value.ownBlock]; omega)).trans (Below.heap_alloc _ _ _ hk))
      · have e2 : g5 = k := by simpa [Value.ownBlock] using e
        have := HB5.out
        omega
    · rw [if_neg e1] at hj
      have HJ := Lib.hid hj
      have hne : ¬ (q2 + 1 = lo) := e1
      have hN1 : T.length < 900000 := by omega
      clear hj hok
      go_enter Try.func49, Try.ntmps49
      go_wp2_with (at_builtin; refine wp_app_at rfl _ _ rfl base _ (T ++ [(q1, q2)]) w h rfl (lo, hi) 1 _ rfl rfl (by simp; omega) hb ?_)
      intro v' w' h1 h2 h3
      have H1 := Lib.hid h1; have H3 := Lib.hid h3
      obtain ⟨a', c', rfl, _, _⟩ := own_len h1
      clear h1 h3
      go_wp2
      go_ret
      exact ⟨_, rfl, by rw [HJ.out, show (T ++ [(q1, q2)] ++ [(lo, hi)]).length = T.length + 2 by simp, List.append_assoc]; exact H1.out, h2, H3.out⟩

theorem PS.start2 (W : World) : PS ((W.alloc (.cells #[] 24)).alloc (.cells #[] 41)) W.heap.size (.slice (some ⟨W.heap.size + 1, 0, none⟩) 0 0) (.slice (some ⟨W.heap.size, 0, none⟩) 0 0) [] [] [] := by
  have o1 := World.ownsRow_lit (base := W.heap.size) (e := 24) (size := 1) W #[] 0 (Nat.le_refl _) (by simp [maxLen]) rfl
  have o2 := World.ownsRow_lit (base := W.heap.size) (e := 41) (size := 2) (W.alloc (.cells #[] 24)) #[] 0 (by simp) (by simp [maxLen]) rfl
  rw [World.size_alloc] at o2
  refine ⟨o2, o1.alloc _, fun i v l h => by simp at h, ?_⟩
  intro i j a b hne hx hy k hk
  match i, j with
  | 0, 0 => exact absurd rfl hne
  | 0, 1 =>
    simp at hx hy
    subst hx hy
    simp [Value.ownBlock] at hk ⊢
    omega
  | 1, 0 =>
    simp at hx hy
    subst hx hy
    simp [Value.ownBlock] at hk ⊢
    omega
  | 1, 1 => exact absurd rfl hne
  | n + 2, j => simp at hx
  | 0, n + 2 => simp at hy
  | 1, n + 2 => simp at hy
theorem PS.below {W W' : World} {base : Nat} {nv pv : Value} {nn : List Rg} {ps : List (List Rg)} {vs : List Value} (h : PS W base nv pv nn ps vs) (hb : Below W.heap.size W W') : PS W' base nv pv nn ps vs :=
  h.grown ⟨hb.os, hb.tape, hb.output, hb.size, fun k hk _ => hb.block k hk⟩
theorem PS.put_none {W W' : World} {base : Nat} {nv nv' pv : Value} {nn nn' : List Rg} {ps : List (List Rg)} {vs : List Value} (h : PS W base nv pv nn ps vs) (hg : W.grownBy W' nv.ownBlock)
    (ho : W'.ownsRow base 41 2 nv' nn'.length (rgCells nn')) (hn : ∀ k, nv'.ownBlock = some k → nv.ownBlock = some k ∨ W.heap.size ≤ k) : PS W' base nv' pv nn' ps vs :=
  ⟨ho, h.row.kept hg (h.apart 0 1 nv pv (by omega) rfl rfl).ne, fun i v l a b => (h.each i v l a b).kept hg (h.apart 0 (i + 2) nv v (by omega) rfl (by simpa using a)).ne,
    h.apart.set (i := 0) (v' := nv') h.under rfl hn⟩
end Go.Proofs.Ytpmcnmlpkpoopaa
