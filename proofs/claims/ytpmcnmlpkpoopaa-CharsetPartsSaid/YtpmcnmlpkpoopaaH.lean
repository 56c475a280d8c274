/- charset.Has: any list of ranges, any rune. -/
import Derived.Test.YtpmcnmlpkpoopaaR
namespace Go.Proofs.Ytpmcnmlpkpoopaa
open Go.RowKit Go.Shelf

set_option maxHeartbeats 4000000 in
set_option maxRecDepth 100000 in
theorem HasFn_any (q one : Rg) (B : Nat) (W : World) (hO : RgAt W B one) :
    Calls Try.prog 40 #[rgV q, .pointer (some ⟨B, 0, none⟩)] W fun e w' => e = .returned (.bool (decide (ovR q one = one))) ∧ Below W.heap.size W w' := by
  have hov := fun w => overlap_any q one w
  generalize hc : ovR q one = c at *
  obtain ⟨c1, c2⟩ := c
  have E1 := rg_guard
  have E2 : ∀ w, (Op.equalIn 10000 41 (.agg #[.int .i32 c1, .int .i32 c2]) (.agg #[.int .i32 one.1, .int .i32 one.2])).run Try.prog w = .ok (decide ((c1, c2) = one)) w := fun w => rg_equal 9998 (c1, c2) one w
  generalize decide ((c1, c2) = one) = bq at *
  obtain ⟨q1, q2⟩ := q
  obtain ⟨o1, o2⟩ := one
  have y0 := RgAt.new W (q1, q2)
  have z0 := hO.alloc (.cells #[.int .i32 q1, .int .i32 q2] 41)
  have B0 := (Below.refl W.heap.size W).alloc (Nat.le_refl _) (.cells #[.int .i32 q1, .int .i32 q2] 41)
  have hz1 : (W.alloc (.cells #[.int .i32 q1, .int .i32 q2] 41)).heap.size = W.heap.size + 1 := by simp
  have hBl := hO.lt
  clear hO hc
  go_enter Try.func40, Try.ntmps40
  go_wp2_with fail
  have y1 : RgAt (W.alloc (.cells #[.int .i32 q1, .int .i32 q2] 41)).drew W.heap.size (q1, q2) := y0
  have z1 : RgAt (W.alloc (.cells #[.int .i32 q1, .int .i32 q2] 41)).drew B (o1, o2) := z0
  have B1 := B0.drew
  have hl1 : W.heap.size < (W.alloc (.cells #[.int .i32 q1, .int .i32 q2] 41)).drew.heap.size := by show W.heap.size < (W.alloc (.cells #[.int .i32 q1, .int .i32 q2] 41)).heap.size; omega
  have hl2 : B < (W.alloc (.cells #[.int .i32 q1, .int .i32 q2] 41)).drew.heap.size := by omega
  have hl3 : W.heap.size ≤ (W.alloc (.cells #[.int .i32 q1, .int .i32 q2] 41)).drew.heap.size := by omega
  have c0 := y1.c0; have c1' := y1.c1; have d0 := z1.c0; have d1 := z1.c1
  clear y0 z0 B0
  dsimp only at c0 c1' d0 d1
  generalize hb2 : W.heap.size = b at *
  go_region_held3 (fun w' => w'.cell? ⟨b, 0, none⟩ = some (.int .i32 q1) ∧ w'.cell? ⟨b, 1, none⟩ = some (.int .i32 q2) ∧ w'.cell? ⟨B, 0, none⟩ = some (.int .i32 o1) ∧ w'.cell? ⟨B, 1, none⟩ = some (.int .i32 o2) ∧ Below b W w') (first | exact ⟨c0, c1', d0, d1, B1⟩ | exact ⟨e0, e1, f0, f1, B2⟩ | (go_keep))
    (first | (go_at_call 41; refine (hov _).mono ?_; rintro e w2 ⟨rfl, b2⟩; have y2 := y1.below b2 hl1; have z2 := z1.below b2 hl2; have B2 := B1.trans (b2.mono hl3); have e0 := y2.c0; have e1 := y2.c1; have f0 := z2.c0; have f1 := z2.c1))
  all_goals
    subst hb2
    go_wp2
    go_ret
    exact ⟨rfl, B2⟩
theorem ovR_one (q : Rg) (r : Int) : ovR q (r, r) = (r, r) ↔ inR q r := by
  obtain ⟨a, b⟩ := q
  unfold ovR inR
  simp only [Prod.mk.injEq]
  omega
theorem clip_one (r : Int) : clipR (r, r) = (r, r) ↔ 0 ≤ r ∧ r ≤ 1114111 := by
  unfold clipR
  rw [show ((0 : Int), (1114111 : Int)) = (0, 1114111) from rfl]
  unfold ovR
  simp only [Prod.mk.injEq]
  omega
theorem rgs_at {W : World} {B : Nat} {ao : Option Addr} {L : List Rg} (h : Rgs W B ao L) (hl : 0 < L.length) :
    ∃ g o, ao = some ⟨g, o, none⟩ ∧ g < B ∧ ∀ j, j < L.length → W.cell? ⟨g, o + j * 2, none⟩ = some (.int .i32 L[j]!.1) ∧ W.cell? ⟨g, o + j * 2 + 1, none⟩ = some (.int .i32 L[j]!.2) := by
  match L, hl, h with
  | x :: l, _, h =>
    obtain ⟨g, o, h1, h2, _⟩ := h [] x l rfl
    refine ⟨g, o, h1, h2, fun j hj => ?_⟩
    have e : (x :: l).take j ++ (x :: l)[j] :: (x :: l).drop (j + 1) = x :: l := by rw [List.getElem_cons_drop, List.take_append_drop]
    obtain ⟨g', o', h3, _, h4, h5⟩ := h _ _ _ e
    rw [h1] at h3
    obtain ⟨rfl, rfl⟩ : g = g' ∧ o = o' := by simpa using h3
    rw [List.length_take, Nat.min_eq_left (Nat.le_of_lt hj)] at h4 h5
    rw [getElem!_pos (x :: l) j hj]
    exact ⟨h4, h5⟩
set_option maxHeartbeats 1000000 in
theorem IndexFunc_none (ao : Option Addr) (cap : Nat) (f : Value) (w : World) : Calls Try.prog 55 #[.slice ao 0 cap, f] w fun e w' => e = .returned (.int .i64 (-1)) ∧ w' = w := by
  go_enter Try.func55, Try.ntmps55
  go_wp2
  refine wp_loop_rounds 1 ?_
  rw [rounds_succ]
  go_wp2
  go_ret
  exact ⟨rfl, rfl⟩
set_option maxHeartbeats 1000000 in
theorem ContainsFunc_none (ao : Option Addr) (cap : Nat) (f : Value) (w : World) : Calls Try.prog 39 #[.slice ao 0 cap, f] w fun e w' => e = .returned (.bool false) ∧ w' = w := by
  go_enter Try.func39, Try.ntmps39
  go_wp2_with fail
  refine (IndexFunc_none _ _ _ _).mono ?_
  rintro e _ ⟨rfl, rfl⟩
  go_wp2
  go_ret
  exact ⟨rfl, rfl⟩
theorem ContainsFunc_any (ao : Option Addr) (L : List Rg) (cap : Nat) (one : Rg) (B : Nat) (w : World) (hN : L.length ≤ 1000000) (hR : Rgs w w.heap.size ao L) (hO : RgAt w B one) :
    Calls Try.prog 39 #[.slice ao L.length cap, .func (.func 40) #[] #[.pointer (some ⟨B, 0, none⟩)]] w fun e w' => e = .returned (.bool (L.any fun q => decide (ovR q one = one))) ∧ Below w.heap.size w w' := by
  by_cases hl : 0 < L.length
  · obtain ⟨g, o, rfl, hg, hc⟩ := rgs_at hR hl
    have eg : ∀ args w, (callFunc 40 args).run Try.prog w = .ok (.enter 40 args) w := enters_of Try.func40 (by kernel_rfl) rfl
    have hcon := AnyQ.slices_ContainsFunc Try.layAny 2 Try.isAgg41 Try.sizeOf41 encR (fun _ => rfl) (fun q => decide (ovR q one = one)) 40 #[.pointer (some ⟨B, 0, none⟩)] eg g o L.length cap L w
      (fun W x hb => (HasFn_any x one B W (hO.below hb hO.lt)).mono fun _ _ ⟨he, hb2⟩ => ⟨he, hb.trans (hb2.mono hb.size)⟩) (Nat.le_refl _) (by omega) hg
      (fun j hj i v hi => by
        obtain ⟨h0, h1⟩ := hc j hj
        generalize L[j]! = y at hi h0 h1
        match i, hi with
        | 0, hi => simp [encR] at hi; rw [← hi]; exact h0
        | 1, hi => simp [encR] at hi; rw [← hi]; exact h1
        | i + 2, hi => simp [encR] at hi)
    rw [List.take_length] at hcon
    exact hcon
  · have h0 : L.length = 0 := by omega
    have hL : L = [] := List.eq_nil_of_length_eq_zero h0
    subst hL
    refine (ContainsFunc_none ao cap _ w).mono ?_
    rintro e _ ⟨rfl, rfl⟩
    exact ⟨rfl, Below.refl _ _⟩

set_option linter.unusedSimpArgs false in
set_option maxHeartbeats 4000000 in
set_option maxRecDepth 100000 in
theorem Has_any (ao : Option Addr) (L : List Rg) (cap : Nat) (r : Int) (w : World) (hN : L.length ≤ 1000000) (hR : Rgs w w.heap.size ao L) :
    Calls Try.prog 17 #[.slice ao L.length cap, .int .i32 r] w fun e w' => ∃ b, e = .returned (.bool b) ∧ (b = true ↔ inU L r) ∧ Below w.heap.size w w' := by
  have y0 := RgAt.new w (r, r)
  have B0 := (Below.refl w.heap.size w).alloc (Nat.le_refl _) (.cells #[.int .i32 r, .int .i32 r] 41)
  have hz1 : (w.alloc (.cells #[.int .i32 r, .int .i32 r] 41)).heap.size = w.heap.size + 1 := by simp
  have hcl := fun w => clip_any (r, r) w
  have hco := clip_one r
  generalize hc : clipR (r, r) = c at *
  obtain ⟨x1, x2⟩ := c
  have E1 := rg_guard
  have E2 : ∀ w, (Op.equalIn 10000 41 (.agg #[.int .i32 x1, .int .i32 x2]) (.agg #[.int .i32 r, .int .i32 r])).run Try.prog w = .ok (decide ((x1, x2) = (r, r))) w := fun w => rg_equal 9998 (x1, x2) (r, r) w
  have HR := Lib.hid hR
  clear hc hR
  by_cases hcc : (x1, x2) = (r, r)
  · have HU := Lib.hid (hco.1 hcc)
    have hany : ((L.any fun q => decide (ovR q (r, r) = (r, r))) = true ↔ inU L r) := by
      rw [List.any_eq_true]
      constructor
      · rintro ⟨q, hq, h⟩
        exact ⟨HU.out, q, hq, (ovR_one q r).1 (of_decide_eq_true h)⟩
      · rintro ⟨_, q, hq, h⟩
        exact ⟨q, hq, decide_eq_true ((ovR_one q r).2 h)⟩
    have hcf := fun W h1 h2 => ContainsFunc_any ao L cap (r, r) w.heap.size W hN h1 h2
    rw [decide_eq_true hcc] at E2
    have HA := Lib.hid hany
    clear hcc hco hany
    generalize (L.any fun q => decide (ovR q (r, r) = (r, r))) = bq at *
    generalize L.length = N at *
    go_enter Try.func17, Try.ntmps17
    go_wp2_with fail
    have y1 : RgAt (w.alloc (.cells #[.int .i32 r, .int .i32 r] 41)).drew w.heap.size (r, r) := y0
    have B1 := B0.drew
    have hl1 : w.heap.size < (w.alloc (.cells #[.int .i32 r, .int .i32 r] 41)).drew.heap.size := by show w.heap.size < (w.alloc (.cells #[.int .i32 r, .int .i32 r] 41)).heap.size; omega
    have hl3 : w.heap.size ≤ (w.alloc (.cells #[.int .i32 r, .int .i32 r] 41)).drew.heap.size := by omega
    have c0 := y1.c0; have c1 := y1.c1
    clear y0 B0
    dsimp only at c0 c1
    generalize hb2 : w.heap.size = b at *
    go_region_held3 (fun w' => w'.cell? ⟨b, 0, none⟩ = some (.int .i32 r) ∧ w'.cell? ⟨b, 1, none⟩ = some (.int .i32 r) ∧ Below b w w') (first | exact ⟨c0, c1, B1⟩ | exact ⟨e0, e1, B2⟩ | exact ⟨f0, f1, B3⟩ | (go_keep))
      (first
        | (go_at_call 31; refine (hcl _).mono ?_; rintro e w2 ⟨rfl, b2⟩; have y2 := y1.below b2 hl1; have B2 := B1.trans (b2.mono hl3); have e0 := y2.c0; have e1 := y2.c1; have R2 := HR.out.below B2 (Nat.le_refl _))
        | (go_at_call 39; refine (hcf _ (R2.mono (by rw [← hb2]; exact B2.size)) y2).mono ?_; rintro e w3 ⟨rfl, b3⟩; have y3 := y2.below b3 y2.lt; have B3 := B2.trans (b3.mono (by rw [← hb2]; exact B2.size)); have f0 := y3.c0; have f1 := y3.c1))
    all_goals
      subst hb2
      go_wp2
      go_ret
      exact ⟨bq, rfl, HA.out, B3⟩
  · have HX : Hid (false = true ↔ inU L r) := Lib.hid ⟨fun h => (by cases h), fun h => absurd (hco.2 h.1) hcc⟩
    rw [decide_eq_false hcc] at E2
    clear hcc hco
    generalize L.length = N at *
    go_enter Try.func17, Try.ntmps17
    go_wp2_with fail
    have y1 : RgAt (w.alloc (.cells #[.int .i32 r, .int .i32 r] 41)).drew w.heap.size (r, r) := y0
    have B1 := B0.drew
    have hl1 : w.heap.size < (w.alloc (.cells #[.int .i32 r, .int .i32 r] 41)).drew.heap.size := by show w.heap.size < (w.alloc (.cells #[.int .i32 r, .int .i32 r] 41)).heap.size; omega
    have hl3 : w.heap.size ≤ (w.alloc (.cells #[.int .i32 r, .int .i32 r] 41)).drew.heap.size := by omega
    have c0 := y1.c0; have c1 := y1.c1
    clear y0 B0
    dsimp only at c0 c1
    generalize hb2 : w.heap.size = b at *
    refine wp_region_held_drew (S := fun w' => w'.cell? ⟨b, 0, none⟩ = some (.int .i32 r) ∧ w'.cell? ⟨b, 1, none⟩ = some (.int .i32 r) ∧ Below b w w') (by kernel_rfl) ?_ (fun hHeld => ?_)
    · exact ⟨c0, c1, B1⟩
    try dsimp only at hHeld
    refine wpAnyH_take (i := 0) (v := ?v1) rfl (by kernel_rfl) (by kernel_rfl) (by kernel_rfl) (fun _ _ _ h => h) (Or.inl ⟨by rfl, ?hy1⟩) (by assumption) ?rest1
    case hy1 => (intro W hSw; (try dsimp only at hSw); go_simp; try with_reducible rfl)
    try simp only [List.getElem_toArray, List.getElem_cons_zero, List.getElem_cons_succ, Act.put, List.setIfInBounds_toArray, List.set_cons_zero, List.set_cons_succ]
    refine wpAnyH_take (i := 2) (v := ?v2) rfl (by kernel_rfl) (by kernel_rfl) (by kernel_rfl) (fun _ _ _ h => h) (Or.inl ⟨by rfl, ?hy2⟩) (by assumption) ?rest2
    case hy2 => (intro W hSw; (try dsimp only at hSw); go_simp; try with_reducible rfl)
    try simp only [List.getElem_toArray, List.getElem_cons_zero, List.getElem_cons_succ, Act.put, List.setIfInBounds_toArray, List.set_cons_zero, List.set_cons_succ]
    refine wpAnyH_ready (rs := [1]) (by kernel_rfl) (by simp) ?_
    refine AllReadyH.cons rfl (fun K hK => ?_) AllReadyH.nil
    go_simp
    refine (hcl _).mono ?_
    rintro e w2 ⟨rfl, b2⟩
    have y2 := y1.below b2 hl1
    have B2 := B1.trans (b2.mono hl3)
    have e0 := y2.c0; have e1 := y2.c1
    dsimp only at e0 e1
    go_wp2_with fail
    refine hK.out _ _ ?_ (fun hHeld => ?_)
    · exact ⟨e0, e1, B2⟩
    clear hK K
    try dsimp only at hHeld
    try simp only [List.getElem_toArray, List.getElem_cons_zero, List.getElem_cons_succ, Act.put, List.setIfInBounds_toArray, List.set_cons_zero, List.set_cons_succ]
    refine wpAnyH_take (i := 3) (v := ?v4) rfl (by kernel_rfl) (by kernel_rfl) (by kernel_rfl) (fun _ _ _ h => h) (Or.inl ⟨by rfl, ?hy4⟩) (by assumption) ?rest4
    case hy4 => (intro W hSw; (try dsimp only at hSw); go_simp; try with_reducible rfl)
    try simp only [List.getElem_toArray, List.getElem_cons_zero, List.getElem_cons_succ, Act.put, List.setIfInBounds_toArray, List.set_cons_zero, List.set_cons_succ]
    refine wpAnyH_take (i := 4) (v := ?v5) rfl (by kernel_rfl) (by kernel_rfl) (by kernel_rfl) (fun _ _ _ h => h) (Or.inl ⟨by rfl, ?hy5⟩) (by assumption) ?rest5
    case hy5 => (intro W hSw; (try dsimp only at hSw); go_simp; try with_reducible rfl)
    try simp only [List.getElem_toArray, List.getElem_cons_zero, List.getElem_cons_succ, Act.put, List.setIfInBounds_toArray, List.set_cons_zero, List.set_cons_succ]
    refine wpAnyH_take (i := 5) (v := undef) rfl (by kernel_rfl) (by kernel_rfl) (by kernel_rfl) (fun _ _ _ h => h) (Or.inr ⟨by rfl, rfl⟩) (by assumption) ?rest6
    try simp only [List.getElem_toArray, List.getElem_cons_zero, List.getElem_cons_succ, Act.put, List.setIfInBounds_toArray, List.set_cons_zero, List.set_cons_succ]
    refine wpAnyH_take (i := 6) (v := undef) rfl (by kernel_rfl) (by kernel_rfl) (by kernel_rfl) (fun _ _ _ h => h) (Or.inr ⟨by rfl, rfl⟩) (by assumption) ?rest7
    try simp only [List.getElem_toArray, List.getElem_cons_zero, List.getElem_cons_succ, Act.put, List.setIfInBounds_toArray, List.set_cons_zero, List.set_cons_succ]
    refine wpAnyH_take (i := 7) (v := undef) rfl (by kernel_rfl) (by kernel_rfl) (by kernel_rfl) (fun _ _ _ h => h) (Or.inr ⟨by rfl, rfl⟩) (by assumption) ?rest8
    try simp only [List.getElem_toArray, List.getElem_cons_zero, List.getElem_cons_succ, Act.put, List.setIfInBounds_toArray, List.set_cons_zero, List.set_cons_succ]
    refine wpAnyH_take (i := 8) (v := ?v9) rfl (by kernel_rfl) (by kernel_rfl) (by kernel_rfl) (fun _ _ _ h => h) (Or.inl ⟨by rfl, ?hy9⟩) (by assumption) ?rest9
    case hy9 => (intro W hSw; (try dsimp only at hSw); go_simp; try with_reducible rfl)
    try simp only [List.getElem_toArray, List.getElem_cons_zero, List.getElem_cons_succ, Act.put, List.setIfInBounds_toArray, List.set_cons_zero, List.set_cons_succ]
    refine wpAnyH_take (i := 9) (v := ?v10) rfl (by kernel_rfl) (by kernel_rfl) (by kernel_rfl) (fun _ _ _ h => h) (Or.inl ⟨by rfl, ?hy10⟩) (by assumption) ?rest10
    case hy10 => (intro W hSw; (try dsimp only at hSw); go_simp; try with_reducible rfl)
    try simp only [List.getElem_toArray, List.getElem_cons_zero, List.getElem_cons_succ, Act.put, List.setIfInBounds_toArray, List.set_cons_zero, List.set_cons_succ]
    refine wpAnyH_done (by kernel_rfl) ?_ _
    subst hb2
    go_wp2
    go_ret
    exact ⟨false, rfl, HX.out, B2⟩
end Go.Proofs.Ytpmcnmlpkpoopaa
