/- charset.pieces: any list of sets. -/
import Derived.Test.YtpmcnmlpkpoopaaK
import Derived.Test.YtpmcnmlpkpoopaaU
namespace Go.Proofs.Ytpmcnmlpkpoopaa
open Go.RowKit Go.Shelf

/-- The canonical form, as a function. -/
def canF (L : List Rg) : List Rg := ((clipL L).mergeSort fun a b => decide (a.1 ≤ b.1)).foldl addL []
theorem canF_is (L : List Rg) : IsOf L (canF L) := by
  refine (isOf_fold (List.mergeSort_perm _ _) ?_).1
  have := List.pairwise_mergeSort (le := fun a b : Rg => decide (a.1 ≤ b.1)) (by intro a b c; simp; omega) (by intro a b; simp; omega) (clipL L)
  exact this.imp (by intro a b h; simpa using h)
theorem canF_eq {L l : List Rg} (h : IsOf L l) : canF L = l := isOf_one (canF_is L) h
/-- What piecesOf and pieces answer. -/
def pieces1 (L : List Rg) : List Pc := pcsOf (walkFrom 0 (canF L))
def pcsAll : Nat → List (List Rg) → List Pc
  | 0, _ => []
  | n + 1, LL => if LL.length = 0 then pieces1 [] else if LL.length = 1 then pieces1 (LL.headD []) else combineL (pcsAll n (LL.take (LL.length / 2))) (pcsAll n (LL.drop (LL.length / 2)))
theorem pieces1_length (L : List Rg) : (pieces1 L).length ≤ 2 * (canF L).length + 1 := by
  unfold pieces1 pcsOf
  rw [List.length_map]
  exact walk_length _ _
theorem canF_length (L : List Rg) : (canF L).length ≤ L.length := (isOf_fold (List.mergeSort_perm _ _) (by
  have := List.pairwise_mergeSort (le := fun a b : Rg => decide (a.1 ≤ b.1)) (by intro a b c; simp; omega) (by intro a b; simp; omega) (clipL L)
  exact this.imp (by intro a b h; simpa using h))).2
theorem combineL_length (a b : List Pc) : (combineL a b).length ≤ a.length + b.length := combF_length _ _ _ _
theorem combineL_class (a b : List Pc) : ∀ q ∈ combineL a b, 0 ≤ q.2 ∧ q.2 ≤ ((a.length + b.length + 1 : Nat) : Int) := fun q hq => by
  have := combF_class _ _ _ _ q hq
  simp only [List.length_cons, List.length_nil] at this
  omega
theorem pieces1_class (L : List Rg) : ∀ q ∈ pieces1 L, 0 ≤ q.2 ∧ q.2 ≤ 1 := by
  intro q hq
  unfold pieces1 pcsOf at hq
  obtain ⟨x, _, rfl⟩ := List.mem_map.1 hq
  obtain ⟨r, f⟩ := x
  cases f <;> simp [clsOf]
theorem sum_take_drop (n : Nat) (LL : List (List Rg)) : (LL.take n).flatten.length + (LL.drop n).flatten.length = LL.flatten.length := by
  rw [← List.length_append, ← List.flatten_append, List.take_append_drop]
theorem pcsAll_length : ∀ (n : Nat) (LL : List (List Rg)), LL.length < n → (pcsAll n LL).length ≤ 2 * LL.flatten.length + max LL.length 1
  | 0, LL, _ => by simp [pcsAll]
  | n + 1, LL, h => by
    rw [pcsAll]
    split
    · have := pieces1_length []
      have h2 := canF_length []
      simp at h2
      rw [h2] at this
      simp at this
      omega
    · split
      · rename_i h0 h1
        obtain ⟨L, rfl⟩ : ∃ L, LL = [L] := List.length_eq_one_iff.1 h1
        have := pieces1_length L
        have h2 := canF_length L
        simp
        omega
      · rename_i h0 h1
        have a1 := pcsAll_length n (LL.take (LL.length / 2)) (by rw [List.length_take]; omega)
        have a2 := pcsAll_length n (LL.drop (LL.length / 2)) (by rw [List.length_drop]; omega)
        have a3 := combineL_length (pcsAll n (LL.take (LL.length / 2))) (pcsAll n (LL.drop (LL.length / 2)))
        have a4 := sum_take_drop (LL.length / 2) LL
        rw [List.length_take] at a1
        rw [List.length_drop] at a2
        omega
theorem pcsAll_class : ∀ (n : Nat) (LL : List (List Rg)), LL.length < n → ∀ q ∈ pcsAll n LL, 0 ≤ q.2 ∧ q.2 ≤ ((2 * LL.flatten.length + LL.length + 2 : Nat) : Int)
  | 0, LL, h => by omega
  | n + 1, LL, h => by
    intro q hq
    rw [pcsAll] at hq
    split at hq
    · have := pieces1_class _ q hq
      omega
    · split at hq
      · have := pieces1_class _ q hq
        omega
      · have a1 := pcsAll_length n (LL.take (LL.length / 2)) (by rw [List.length_take]; omega)
        have a2 := pcsAll_length n (LL.drop (LL.length / 2)) (by rw [List.length_drop]; omega)
        have a3 := combineL_class _ _ q hq
        have a4 := sum_take_drop (LL.length / 2) LL
        rw [List.length_take] at a1
        rw [List.length_drop] at a2
        omega

theorem Sts.front {W : World} {B : Nat} {ao : Option Addr} {LL : List (List Rg)} (h : Sts W B ao LL) (n : Nat) : Sts W B ao (LL.take n) := fun pre x rest e => h pre x (rest ++ LL.drop n) (by rw [← List.cons_append, ← List.append_assoc, e, List.take_append_drop])
theorem Sts.behind {W : World} {B : Nat} {g o : Nat} {LL : List (List Rg)} (h : Sts W B (some ⟨g, o, none⟩) LL) {n : Nat} (hn : n ≤ LL.length) : Sts W B (some ⟨g, o + n, none⟩) (LL.drop n) := fun pre x rest e => by
  obtain ⟨g', o', a, c, h1, h2, h3, h4⟩ := h (LL.take n ++ pre) x rest (by rw [List.append_assoc, e, List.take_append_drop])
  obtain ⟨rfl, rfl⟩ : g = g' ∧ o = o' := by simpa using h1
  refine ⟨g, o + n, a, c, rfl, h2, ?_, h4⟩
  rw [List.length_append, List.length_take, Nat.min_eq_left hn] at h3
  rw [Nat.add_assoc]
  exact h3
theorem sts_lo (g o n cap h : Nat) (hh : h < n) (hc : n ≤ cap) (w : World) : (Instr.slice 34 (.slice (some ⟨g, o, none⟩) n cap) none (some (.int .i64 (h : Int))) none).run Try.prog w = .ok (.slice (some ⟨g, o, none⟩) h cap) w := by
  have hu : Try.prog.underlying 34 = some (.slice (Try.prog.elem 34)) := by kernel_rfl
  have hs : (sizeOf (Try.prog.elem 34)).run Try.prog w = .ok 1 w := Try.sizeOf24 w
  rw [run_slice_h w 34 (some ⟨g, o, none⟩) n cap hu .i64 h (by omega) (by omega), hs]
  simp [sliced, Result.andThen, Addr.add]
theorem sts_hi (g o n cap h : Nat) (hh : h < n) (hc : n ≤ cap) (w : World) : (Instr.slice 34 (.slice (some ⟨g, o, none⟩) n cap) (some (.int .i64 (h : Int))) none none).run Try.prog w = .ok (.slice (some ⟨g, o + h, none⟩) (n - h) (cap - h)) w := by
  have hu : Try.prog.underlying 34 = some (.slice (Try.prog.elem 34)) := by kernel_rfl
  have hs : (sizeOf (Try.prog.elem 34)).run Try.prog w = .ok 1 w := Try.sizeOf24 w
  rw [run_slice_l w 34 (some ⟨g, o, none⟩) n cap hu .i64 h (by omega) (by omega), hs]
  have hne : cap ≠ h := by omega
  simp [sliced, Result.andThen, Addr.add, hne]

set_option maxHeartbeats 4000000 in
set_option maxRecDepth 100000 in
theorem pieces_two (n : Nat) (LL : List (List Rg)) (g o cap : Nat) (w : World) (h2 : 2 ≤ LL.length) (hn : LL.length < n + 1) (hc : LL.length ≤ cap) (hcb : cap ≤ 9223372036854775807) (hN : LL.length ≤ 100000) (hT : LL.flatten.length ≤ 100000) (hS : Sts w w.heap.size (some ⟨g, o, none⟩) LL)
    (ih : ∀ (MM : List (List Rg)) (a : Option Addr) (c : Nat) (w : World), MM.length < n → MM.length ≤ c → c ≤ 9223372036854775807 → MM.length ≤ 100000 → MM.flatten.length ≤ 100000 → Sts w w.heap.size a MM →
      Calls Try.prog 46 #[.slice a MM.length c] w fun e w' => ∃ v, e = .returned v ∧ w'.ownsRow w.heap.size 58 3 v (pcsAll n MM).length (pcCells (pcsAll n MM)) ∧ Below w.heap.size w w') :
    Calls Try.prog 46 #[.slice (some ⟨g, o, none⟩) LL.length cap] w fun e w' => ∃ v, e = .returned v ∧ w'.ownsRow w.heap.size 58 3 v (pcsAll (n + 1) LL).length (pcCells (pcsAll (n + 1) LL)) ∧ Below w.heap.size w w' := by
  have e0 : pcsAll (n + 1) LL = combineL (pcsAll n (LL.take (LL.length / 2))) (pcsAll n (LL.drop (LL.length / 2))) := by rw [pcsAll, if_neg (by omega), if_neg (by omega)]
  rw [e0]
  have l1 : (LL.take (LL.length / 2)).length = LL.length / 2 := by rw [List.length_take]; omega
  have l2 : (LL.drop (LL.length / 2)).length = LL.length - LL.length / 2 := by rw [List.length_drop]
  have s3 := sum_take_drop (LL.length / 2) LL
  have c1 := fun W (b : Below w.heap.size w W) => ih (LL.take (LL.length / 2)) (some ⟨g, o, none⟩) cap W (by omega) (by omega) hcb (by omega) (by omega) (((hS.below b (Nat.le_refl _)).mono b.size).front _)
  have c2 := fun W (b : Below w.heap.size w W) => ih (LL.drop (LL.length / 2)) (some ⟨g, o + LL.length / 2, none⟩) (cap - LL.length / 2) W (by omega) (by omega) (by omega) (by omega) (by omega) (((hS.below b (Nat.le_refl _)).mono b.size).behind (by omega))
  have p1 := pcsAll_length n (LL.take (LL.length / 2)) (by omega)
  have p2 := pcsAll_length n (LL.drop (LL.length / 2)) (by omega)
  have k1 := pcsAll_class n (LL.take (LL.length / 2)) (by omega)
  have k2 := pcsAll_class n (LL.drop (LL.length / 2)) (by omega)
  have q1 : ∀ p ∈ pcsAll n (LL.take (LL.length / 2)), 0 ≤ p.2 ∧ p.2 ≤ 1000000 := fun p hp => by have := k1 p hp; omega
  have q2 : ∀ p ∈ pcsAll n (LL.drop (LL.length / 2)), 0 ≤ p.2 ∧ p.2 ≤ 1000000 := fun p hp => by have := k2 p hp; omega
  have q3 : (pcsAll n (LL.take (LL.length / 2))).length + (pcsAll n (LL.drop (LL.length / 2))).length ≤ 900000 := by omega
  rw [l1] at c1
  rw [l2] at c2
  have hlo := sts_lo g o LL.length cap (LL.length / 2) (by omega) hc
  have hhi := sts_hi g o LL.length cap (LL.length / 2) (by omega) hc
  have C1 := Lib.hid c1; have C2 := Lib.hid c2; have Q1 := Lib.hid q1; have Q2 := Lib.hid q2; have Q3 := Lib.hid q3
  have hd : ((LL.length : Int)).tdiv 2 = ((LL.length / 2 : Nat) : Int) := by rw [Int.tdiv_eq_ediv_of_nonneg (by omega)]; omega
  clear c1 c2 q1 q2 q3 k1 k2 p1 p2 s3 e0 ih hS l1 l2
  generalize pcsAll n (LL.take (LL.length / 2)) = F1 at *
  generalize pcsAll n (LL.drop (LL.length / 2)) = F2 at *
  generalize hh : LL.length / 2 = h at *
  generalize LL.length = N at *
  have n0 : ¬ N = 0 := by omega
  have n1 : ¬ N = 1 := by omega
  have n2 : ¬ (N : Int) = 1 := by omega
  have hh9 : h ≤ 100000 := by omega
  clear hh
  have hB0 : Hid (Below w.heap.size w w.drew) := Lib.hid ⟨rfl, rfl, rfl, Nat.le_refl _, fun _ _ => rfl⟩
  go_enter Try.func46, Try.ntmps46
  go_wp2_with fail
  refine wp_region_held_drew (S := fun _ => True) (by kernel_rfl) ?_ (fun hHeld => ?_)
  · exact trivial
  try dsimp only at hHeld
  refine wpAnyH_take (i := 0) (v := ?v1) rfl (by kernel_rfl) (by kernel_rfl) (by kernel_rfl) (fun _ _ _ h => h) (Or.inl ⟨by rfl, ?hy1⟩) (by assumption) ?rest1
  case hy1 => (intro W9 hSw; (try dsimp only at hSw); go_simp; try with_reducible rfl)
  try simp only [List.getElem_toArray, List.getElem_cons_zero, Act.put, List.setIfInBounds_toArray, List.set_cons_zero, List.set_cons_succ]
  refine wpAnyH_take (i := 1) (v := ?v2) rfl (by kernel_rfl) (by kernel_rfl) (by kernel_rfl) (fun _ _ _ h => h) (Or.inl ⟨by rfl, ?hy2⟩) (by assumption) ?rest2
  case hy2 => (intro W9 hSw; (try dsimp only at hSw); go_simp; try with_reducible rfl)
  try simp only [List.getElem_toArray, List.getElem_cons_zero, List.getElem_cons_succ, Act.put, List.setIfInBounds_toArray, List.set_cons_zero, List.set_cons_succ]
  refine wpAnyH_take (i := 2) (v := ?v3) rfl (by kernel_rfl) (by kernel_rfl) (by kernel_rfl) (fun _ _ _ h => h) (Or.inl ⟨by rfl, ?hy3⟩) (by assumption) ?rest3
  case hy3 => (intro W9 hSw; (try dsimp only at hSw); go_simp; try with_reducible rfl)
  try simp only [List.getElem_toArray, List.getElem_cons_zero, List.getElem_cons_succ, Act.put, List.setIfInBounds_toArray, List.set_cons_zero, List.set_cons_succ]
  refine wpAnyH_take (i := 4) (v := ?v4) rfl (by kernel_rfl) (by kernel_rfl) (by kernel_rfl) (fun _ _ _ h => h) (Or.inl ⟨by rfl, ?hy4⟩) (by assumption) ?rest4
  case hy4 => (intro W9 hSw; (try dsimp only at hSw); go_simp; try with_reducible rfl)
  try simp only [List.getElem_toArray, List.getElem_cons_zero, List.getElem_cons_succ, Act.put, List.setIfInBounds_toArray, List.set_cons_zero, List.set_cons_succ]
  refine wpAnyH_take (i := 5) (v := ?v5) rfl (by kernel_rfl) (by kernel_rfl) (by kernel_rfl) (fun _ _ _ h => h) (Or.inl ⟨by rfl, ?hy5⟩) (by assumption) ?rest5
  case hy5 => (intro W9 hSw; (try dsimp only at hSw); go_simp; try with_reducible rfl)
  try simp only [List.getElem_toArray, List.getElem_cons_zero, List.getElem_cons_succ, Act.put, List.setIfInBounds_toArray, List.set_cons_zero, List.set_cons_succ]
  refine wpAnyH_take (i := 6) (v := ?v6) rfl (by kernel_rfl) (by kernel_rfl) (by kernel_rfl) (fun _ _ _ h => h) (Or.inl ⟨by rfl, ?hy6⟩) (by assumption) ?rest6
  case hy6 => (intro W9 hSw; (try dsimp only at hSw); go_simp; try with_reducible rfl)
  try simp only [List.getElem_toArray, List.getElem_cons_zero, List.getElem_cons_succ, Act.put, List.setIfInBounds_toArray, List.set_cons_zero, List.set_cons_succ]
  refine wpAnyH_ready (rs := [3]) (by kernel_rfl) (by simp) ?_
  refine AllReadyH.cons rfl (fun K hK => ?_) AllReadyH.nil
  go_simp
  refine (C1.out _ hB0.out).mono ?_
  rintro e w3 ⟨v3, rfl, o3, b3⟩
  have B3 : Below w.heap.size w w3 := hB0.out.trans (b3.mono hB0.out.size)
  have O3 := own_low o3 hB0.out.size
  obtain ⟨a3, k3, rfl, P3⟩ := pcs_of_own O3
  have HB3 := Lib.hid B3; have HP3 := Lib.hid P3
  clear b3 o3 O3 B3 P3
  go_wp2_with fail
  refine hK.out _ _ ?_ (fun hHeld => ?_)
  · exact trivial
  clear hK K
  try dsimp only at hHeld
  try simp only [List.getElem_toArray, List.getElem_cons_zero, List.getElem_cons_succ, Act.put, List.setIfInBounds_toArray, List.set_cons_zero, List.set_cons_succ]
  refine wpAnyH_ready (rs := [7]) (by kernel_rfl) (by simp) ?_
  refine AllReadyH.cons rfl (fun K hK => ?_) AllReadyH.nil
  go_simp
  refine (C2.out _ HB3.out).mono ?_
  rintro e w7 ⟨v7, rfl, o7, b7⟩
  have B7 : Below w.heap.size w w7 := HB3.out.trans (b7.mono HB3.out.size)
  have P3' := (HP3.out.below b7 (Nat.le_refl _)).mono b7.size
  obtain ⟨a7, k7, rfl, P7⟩ := pcs_of_own o7
  have HB7 := Lib.hid B7; have HP7 := Lib.hid P7; have HP37 := Lib.hid P3'
  clear b7 o7 B7 P7 P3'
  go_wp2_with fail
  refine hK.out _ _ ?_ (fun hHeld => ?_)
  · exact trivial
  clear hK K
  try dsimp only at hHeld
  try simp only [List.getElem_toArray, List.getElem_cons_zero, List.getElem_cons_succ, Act.put, List.setIfInBounds_toArray, List.set_cons_zero, List.set_cons_succ]
  refine wpAnyH_ready (rs := [8]) (by kernel_rfl) (by simp) ?_
  refine AllReadyH.cons rfl (fun K hK => ?_) AllReadyH.nil
  go_simp
  refine (combine_any a3 a7 F1 F2 k3 k7 _ Q3.out HP37.out HP7.out Q1.out Q2.out).mono ?_
  rintro e w8 ⟨v8, rfl, o8, b8⟩
  have B8 : Below w.heap.size w w8 := HB7.out.trans (b8.mono HB7.out.size)
  have O8 := own_low o8 HB7.out.size
  have HB8 := Lib.hid B8; have HO8 := Lib.hid O8
  clear b8 o8 B8 O8
  go_wp2_with fail
  refine hK.out _ _ ?_ (fun hHeld => ?_)
  · exact trivial
  clear hK K
  try dsimp only at hHeld
  try simp only [List.getElem_toArray, List.getElem_cons_zero, List.getElem_cons_succ, Act.put, List.setIfInBounds_toArray, List.set_cons_zero, List.set_cons_succ]
  refine wpAnyH_take (i := 9) (v := ?v7) rfl (by kernel_rfl) (by kernel_rfl) (by kernel_rfl) (fun _ _ _ h => h) (Or.inl ⟨by rfl, ?hy7⟩) (by assumption) ?rest7
  case hy7 => (intro W9 hSw; (try dsimp only at hSw); go_simp; try with_reducible rfl)
  try simp only [List.getElem_toArray, List.getElem_cons_zero, List.getElem_cons_succ, Act.put, List.setIfInBounds_toArray, List.set_cons_zero, List.set_cons_succ]
  refine wpAnyH_done (by kernel_rfl) ?_ _
  go_wp2
  go_ret
  exact ⟨_, rfl, HO8.out, HB8.out⟩

theorem Rgs.nil (W : World) (B : Nat) (a : Option Addr) : Rgs W B a [] := fun pre x rest e => by simp at e
set_option maxHeartbeats 1000000 in
theorem pieces_none (a : Option Addr) (c : Nat) (w : World) :
    Calls Try.prog 46 #[.slice a 0 c] w fun e w' => ∃ v, e = .returned v ∧ w'.ownsRow w.heap.size 58 3 v (pieces1 []).length (pcCells (pieces1 [])) ∧ Below w.heap.size w w' := by
  have h := piecesOf_any none [] 0 w (by simp) (Rgs.nil _ _ _)
  have H := Lib.hid h
  clear h
  go_enter Try.func46, Try.ntmps46
  go_wp2_with fail
  refine H.out.mono ?_
  rintro e w1 ⟨v, l, rfl, h1, _, h2, h3⟩
  have hl := canF_eq h1
  subst hl
  have H2 := Lib.hid h2; have H3 := Lib.hid h3
  clear h1 h2 h3
  go_wp2
  go_ret
  exact ⟨_, rfl, H2.out, H3.out⟩
set_option maxHeartbeats 1000000 in
theorem pieces_one (L : List Rg) (a : Option Addr) (c : Nat) (w : World) (hN : L.length ≤ 100000) (hS : Sts w w.heap.size a [L]) :
    Calls Try.prog 46 #[.slice a 1 c] w fun e w' => ∃ v, e = .returned v ∧ w'.ownsRow w.heap.size 58 3 v (pieces1 L).length (pcCells (pieces1 L)) ∧ Below w.heap.size w w' := by
  obtain ⟨g, o, a1, c1, rfl, hg, h0, hR⟩ := hS [] L [] rfl
  have h := piecesOf_any a1 L c1 w hN hR
  have H := Lib.hid h
  clear h hR
  simp only [List.length_nil, Nat.add_zero] at h0
  generalize L.length = N at *
  go_enter Try.func46, Try.ntmps46
  go_wp2_with fail
  refine H.out.mono ?_
  rintro e w1 ⟨v, l, rfl, h1, _, h2, h3⟩
  have hl := canF_eq h1
  subst hl
  have H2 := Lib.hid h2; have H3 := Lib.hid h3
  clear h1 h2 h3
  go_wp2
  go_ret
  exact ⟨_, rfl, H2.out, H3.out⟩
theorem pieces_any : ∀ (n : Nat) (LL : List (List Rg)) (a : Option Addr) (c : Nat) (w : World), LL.length < n → LL.length ≤ c → c ≤ 9223372036854775807 → LL.length ≤ 100000 → LL.flatten.length ≤ 100000 → Sts w w.heap.size a LL →
    Calls Try.prog 46 #[.slice a LL.length c] w fun e w' => ∃ v, e = .returned v ∧ w'.ownsRow w.heap.size 58 3 v (pcsAll n LL).length (pcCells (pcsAll n LL)) ∧ Below w.heap.size w w'
  | 0, _, _, _, _, h, _, _, _, _, _ => by omega
  | n + 1, LL, a, c, w, hn, hc, hcb, hN, hT, hS => by
    match LL, hn, hc, hN, hT, hS with
    | [], _, _, _, _, _ => exact pieces_none a c w
    | [L], _, _, _, hT, hS => exact pieces_one L a c w (by simpa using hT) hS
    | L :: M :: R, hn, hc, hN, hT, hS =>
      obtain ⟨g, o, _, _, rfl, _⟩ := hS [] L (M :: R) rfl
      exact pieces_two n _ g o c w (by simp) hn hc hcb hN hT hS fun MM a c w h1 h2 h3 h4 h5 h6 => pieces_any n MM a c w h1 h2 h3 h4 h5 h6
end Go.Proofs.Ytpmcnmlpkpoopaa
