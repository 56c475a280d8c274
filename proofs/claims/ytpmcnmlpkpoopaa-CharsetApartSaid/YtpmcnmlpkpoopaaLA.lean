/- The laws' few; the reference's SameAll, alike, none: any list of sets. -/
import Derived.Test.YtpmcnmlpkpoopaaGU
import Derived.Test.YtpmcnmlpkpoopaaVB
namespace Go.Proofs.Ytpmcnmlpkpoopaa
open Go.RowKit Go.Shelf

set_option maxHeartbeats 1000000 in
theorem cfew_any (ao : Option Addr) (LL : List (List Rg)) (cap : Nat) (w : World) (hc : LL.length ≤ 9223372036854775807) (hS : Sts w w.heap.size ao LL) :
    Calls Try.prog 27 #[.slice ao LL.length cap] w fun e w' => ∃ b, e = .returned (.bool b) ∧ (b = true → LL.length ≤ 12 ∧ ∀ L ∈ LL, L.length ≤ 12) ∧ Below w.heap.size w w' := by
  have HS := Lib.hid hS; clear hS
  go_enter Try.func27, Try.ntmps27
  go_wp2_with fail
  go_loopw [3] (fun i wr => ∃ (pre rest : List (List Rg)), i = .int .i64 pre.length ∧ Hid (pre ++ rest = LL) ∧ Hid (∀ L ∈ pre, L.length ≤ 12) ∧ Hid (pre.length ≤ 20) ∧ Below w.heap.size w wr) (fun i _ => LL.length - (intOf i).toNat)
  case atStart => exact ⟨[], LL, rfl, rfl, Lib.hid (by simp), Lib.hid (by simp), Below.refl _ _⟩
  case round =>
    obtain ⟨pre, rest, rfl, hA, hD, hT, hb⟩ := hrel
    have hpt := hT.out
    rcases rest with _ | ⟨X, rest⟩
    · have e1 := hA.out
      rw [List.append_nil] at e1
      subst e1
      have HF : ∀ b : Bool, b = decide ((pre.length : Int) ≤ 12) → (b = true → pre.length ≤ 12 ∧ ∀ L ∈ pre, L.length ≤ 12) := fun b e h => ⟨by rw [e] at h; have := of_decide_eq_true h; omega, hD.out⟩
      have HF := Lib.hid HF
      clear hA hD
      generalize hNN : pre.length = N at *
      go_wp2
      go_ret
      exact ⟨_, rfl, by rw [hNN]; exact HF.out _ rfl, hb⟩
    · have hlt : pre.length < LL.length := by rw [← hA.out]; simp
      obtain ⟨g, o, ax, cx, rfl, hg, p0, _⟩ := HS.out _ _ _ hA.out
      have q0 := (hb.cell (p := ⟨g, o + pre.length, none⟩) hg).trans p0
      have hA2 : Hid ((pre ++ [X]) ++ rest = LL) := Lib.hid (by rw [List.append_assoc]; exact hA.out)
      by_cases h20 : pre.length < 20
      · have hD2 : X.length ≤ 12 → Hid (∀ L ∈ pre ++ [X], L.length ≤ 12) := fun h => Lib.hid (fun L hL => by
          rcases List.mem_append.1 hL with hL | hL
          · exact hD.out L hL
          · rw [List.mem_singleton.1 hL]; exact h)
        have hT2 : Hid ((pre ++ [X]).length ≤ 20) := Lib.hid (by rw [List.length_append]; simp; omega)
        clear hD p0 hT
        generalize LL.length = N at *
        by_cases h12 : 12 < X.length
        · clear hD2
          generalize X.length = m at *
          go_wp2
          go_ret
          exact ⟨false, rfl, by simp, hb⟩
        · have hD3 := hD2 (by omega)
          clear hD2
          generalize X.length = m at *
          go_wp2
          go_roundw
          case rel => exact ⟨pre ++ [X], rest, by simp, hA2, hD3, hT2, hb⟩
          case measure => simp [intOf]; omega
      · have h13 : 12 < LL.length := by omega
        have h20' : pre.length = 20 := by omega
        clear hD p0 hT hA hA2 q0
        generalize LL.length = N at *
        generalize pre.length = P at *
        subst h20'
        go_wp2
        go_ret
        exact ⟨_, rfl, fun h => by have := of_decide_eq_true h; omega, hb⟩

set_option maxHeartbeats 1000000 in
theorem rsameall_eq (ao bo : Option Addr) (LL : List (List Rg)) (c d : Nat) (w : World) (hc : LL.length ≤ 1000000) (hl : ∀ L ∈ LL, L.length ≤ 30000) (hA : Sts w w.heap.size ao LL) (hB : Sts w w.heap.size bo LL) :
    Calls Try.prog 28 #[.slice ao LL.length c, .slice bo LL.length d] w fun e w' => e = .returned (.bool true) ∧ Below w.heap.size w w' := by
  have HA := Lib.hid hA; have HB := Lib.hid hB; have HL := Lib.hid hl; clear hA hB hl
  go_enter Try.func28, Try.ntmps28
  go_wp2_with fail
  go_loopw [5] (fun i wr => ∃ (pre rest : List (List Rg)), i = .int .i64 pre.length ∧ Hid (pre ++ rest = LL) ∧ Below w.heap.size w wr) (fun i _ => LL.length - (intOf i).toNat)
  case atStart => exact ⟨[], LL, rfl, rfl, Below.refl _ _⟩
  case round =>
    obtain ⟨pre, rest, rfl, hE, hb⟩ := hrel
    rcases rest with _ | ⟨X, rest⟩
    · have e1 := hE.out
      rw [List.append_nil] at e1
      subst e1
      clear hE
      generalize pre.length = N at *
      go_wp2
      go_ret
      exact ⟨rfl, hb⟩
    · have hlt : pre.length < LL.length := by rw [← hE.out]; simp
      obtain ⟨g, o, ax, cx, rfl, hg, p0, hX⟩ := HA.out _ _ _ hE.out
      obtain ⟨g2, o2, ay, cy, rfl, hg2, r0, hY⟩ := HB.out _ _ _ hE.out
      have hE2 : Hid ((pre ++ [X]) ++ rest = LL) := Lib.hid (by rw [List.append_assoc]; exact hE.out)
      have hXl := HL.out X (by rw [← hE.out]; simp)
      have hb' : Below w.heap.size w wr.drew := ⟨hb.os, hb.tape, hb.output, hb.size, hb.block⟩
      have q0 : wr.drew.cell? ⟨g, o + pre.length, none⟩ = some (.slice ax X.length cx) := (hb.cell (p := ⟨g, o + pre.length, none⟩) hg).trans p0
      have q1 : wr.drew.cell? ⟨g2, o2 + pre.length, none⟩ = some (.slice ay X.length cy) := (hb.cell (p := ⟨g2, o2 + pre.length, none⟩) hg2).trans r0
      have HX : Hid (At wr.drew ax X) := Lib.hid (at_of ((hX.below hb' (Nat.le_refl _)).mono hb'.size))
      have HY : Hid (At wr.drew ay X) := Lib.hid (at_of ((hY.below hb' (Nat.le_refl _)).mono hb'.size))
      have HW := Lib.hid hb'
      clear hX hY p0 r0 hb hE hb'
      generalize LL.length = N at *
      go_wp2_with fail
      refine wp_region_held_drew (S := fun w' => w'.cell? ⟨g, o + pre.length, none⟩ = some (.slice ax X.length cx) ∧ w'.cell? ⟨g2, o2 + pre.length, none⟩ = some (.slice ay X.length cy)) (by kernel_rfl) ?_ (fun hHeld => ?_)
      · exact ⟨q0, q1⟩
      try dsimp only at hHeld
      generalize wr.drew = w0 at *
      refine wpAnyH_take (i := 0) (v := ?vs1) rfl (by kernel_rfl) (by kernel_rfl) (by kernel_rfl) (fun _ _ _ h => h) (Or.inl ⟨by rfl, ?hys1⟩) (by assumption) ?rests1
      case hys1 => (intro W9 hSw; (try dsimp only at hSw); go_simp; try with_reducible rfl)
      try simp only [List.getElem_toArray, List.getElem_cons_zero, Act.put, List.setIfInBounds_toArray, List.set_cons_zero, List.set_cons_succ]
      refine wpAnyH_take (i := 1) (v := ?vs2) rfl (by kernel_rfl) (by kernel_rfl) (by kernel_rfl) (fun _ _ _ h => h) (Or.inl ⟨by rfl, ?hys2⟩) (by assumption) ?rests2
      case hys2 => (intro W9 hSw; (try dsimp only at hSw); go_simp; try with_reducible rfl)
      try simp only [List.getElem_toArray, List.getElem_cons_zero, List.getElem_cons_succ, Act.put, List.setIfInBounds_toArray, List.set_cons_zero, List.set_cons_succ]
      refine wpAnyH_take (i := 2) (v := ?vs3) rfl (by kernel_rfl) (by kernel_rfl) (by kernel_rfl) (fun _ _ _ h => h) (Or.inl ⟨by rfl, ?hys3⟩) (by assumption) ?rests3
      case hys3 => (intro W9 hSw; (try dsimp only at hSw); go_simp; try with_reducible rfl)
      try simp only [List.getElem_toArray, List.getElem_cons_zero, List.getElem_cons_succ, Act.put, List.setIfInBounds_toArray, List.set_cons_zero, List.set_cons_succ]
      refine wpAnyH_take (i := 3) (v := ?vs4) rfl (by kernel_rfl) (by kernel_rfl) (by kernel_rfl) (fun _ _ _ h => h) (Or.inl ⟨by rfl, ?hys4⟩) (by assumption) ?rests4
      case hys4 => (intro W9 hSw; (try dsimp only at hSw); go_simp; try with_reducible rfl)
      try simp only [List.getElem_toArray, List.getElem_cons_zero, List.getElem_cons_succ, Act.put, List.setIfInBounds_toArray, List.set_cons_zero, List.set_cons_succ]
      refine wpAnyH_take (i := 4) (v := ?vs5) rfl (by kernel_rfl) (by kernel_rfl) (by kernel_rfl) (fun _ _ _ h => h) (Or.inl ⟨by rfl, ?hys5⟩) (by assumption) ?rests5
      case hys5 => (intro W9 hSw; (try dsimp only at hSw); go_simp; try with_reducible rfl)
      try simp only [List.getElem_toArray, List.getElem_cons_zero, List.getElem_cons_succ, Act.put, List.setIfInBounds_toArray, List.set_cons_zero, List.set_cons_succ]
      refine wpAnyH_take (i := 5) (v := ?vs6) rfl (by kernel_rfl) (by kernel_rfl) (by kernel_rfl) (fun _ _ _ h => h) (Or.inl ⟨by rfl, ?hys6⟩) (by assumption) ?rests6
      case hys6 => (intro W9 hSw; (try dsimp only at hSw); go_simp; try with_reducible rfl)
      try simp only [List.getElem_toArray, List.getElem_cons_zero, List.getElem_cons_succ, Act.put, List.setIfInBounds_toArray, List.set_cons_zero, List.set_cons_succ]
      refine wpAnyH_take (i := 6) (v := ?vs7) rfl (by kernel_rfl) (by kernel_rfl) (by kernel_rfl) (fun _ _ _ h => h) (Or.inl ⟨by rfl, ?hys7⟩) (by assumption) ?rests7
      case hys7 => (intro W9 hSw; (try dsimp only at hSw); go_simp; try with_reducible rfl)
      try simp only [List.getElem_toArray, List.getElem_cons_zero, List.getElem_cons_succ, Act.put, List.setIfInBounds_toArray, List.set_cons_zero, List.set_cons_succ]
      refine wpAnyH_take (i := 7) (v := ?vs8) rfl (by kernel_rfl) (by kernel_rfl) (by kernel_rfl) (fun _ _ _ h => h) (Or.inl ⟨by rfl, ?hys8⟩) (by assumption) ?rests8
      case hys8 => (intro W9 hSw; (try dsimp only at hSw); go_simp; try with_reducible rfl)
      try simp only [List.getElem_toArray, List.getElem_cons_zero, List.getElem_cons_succ, Act.put, List.setIfInBounds_toArray, List.set_cons_zero, List.set_cons_succ]
      refine wpAnyH_ready (rs := [8]) (by kernel_rfl) (by simp) ?_
      refine AllReadyH.cons rfl (fun K hK => ?_) AllReadyH.nil
      go_simp
      refine (same_eq ax ay X X cx cy w0 hXl rfl HX.out HY.out).mono ?_
      rintro e w5 ⟨rfl, b5⟩
      have s0 := (b5.cell (p := ⟨g, o + pre.length, none⟩) (Nat.lt_of_lt_of_le hg HW.out.size)).trans q0
      have s1 := (b5.cell (p := ⟨g2, o2 + pre.length, none⟩) (Nat.lt_of_lt_of_le hg2 HW.out.size)).trans q1
      have HW5 := HW.out.trans (b5.mono HW.out.size)
      clear b5 q0 q1
      go_wp2_with fail
      refine hK.out _ _ ?_ (fun hHeld => ?_)
      · exact ⟨s0, s1⟩
      clear hK K
      try dsimp only at hHeld
      try simp only [List.getElem_toArray, List.getElem_cons_zero, List.getElem_cons_succ, Act.put, List.setIfInBounds_toArray, List.set_cons_zero, List.set_cons_succ]
      refine wpAnyH_take (i := 9) (v := ?vs9) rfl (by kernel_rfl) (by kernel_rfl) (by kernel_rfl) (fun _ _ _ h => h) (Or.inl ⟨by rfl, ?hys9⟩) (by assumption) ?rests9
      case hys9 => (intro W9 hSw; (try dsimp only at hSw); go_simp; try with_reducible rfl)
      try simp only [List.getElem_toArray, List.getElem_cons_zero, List.getElem_cons_succ, Act.put, List.setIfInBounds_toArray, List.set_cons_zero, List.set_cons_succ]
      refine wpAnyH_done (by kernel_rfl) ?_ _
      clear hHeld
      go_wp2
      go_roundw
      case rel => exact ⟨pre ++ [X], rest, by simp, hE2, HW5⟩
      case measure => simp [intOf]; omega

theorem keyL_cons (X : List Rg) (LL : List (List Rg)) (a b : Int) : keyL (X :: LL) a = keyL (X :: LL) b ↔ hasB X a = hasB X b ∧ keyL LL a = keyL LL b := by unfold keyL; simp
theorem keyL_app (P LL : List (List Rg)) (a b : Int) : keyL (P ++ LL) a = keyL (P ++ LL) b ↔ keyL P a = keyL P b ∧ keyL LL a = keyL LL b := by
  unfold keyL
  rw [List.map_append, List.map_append]
  constructor
  · intro h
    exact List.append_inj h (by simp)
  · rintro ⟨h1, h2⟩
    rw [h1, h2]
theorem rhas_at (a : Option Addr) (L : List Rg) (c : Nat) (r : Int) (w : World) (hL : L.length ≤ 30000) (ha : At w a L) :
    Calls Try.prog 18 #[.slice a L.length c, .int .i32 r] w fun e w' => e = .returned (.bool (hasB L r)) ∧ Below w.heap.size w w' := by
  refine (rHas_any a L c r w (by omega) ha.now).mono ?_
  rintro e w' ⟨q, rfl, h, h2⟩
  have : q = hasB L r := by rw [Bool.eq_iff_iff, h, hasB_iff]
  exact ⟨by rw [this], h2⟩
set_option maxHeartbeats 1000000 in
theorem ralike_any (ao : Option Addr) (LL : List (List Rg)) (c : Nat) (a b : Int) (w : World) (hc : LL.length ≤ 1000000) (hl : ∀ L ∈ LL, L.length ≤ 30000) (hA : Sts w w.heap.size ao LL) :
    Calls Try.prog 50 #[.slice ao LL.length c, .int .i32 a, .int .i32 b] w fun e w' => ∃ q, e = .returned (.bool q) ∧ (q = true ↔ keyL LL a = keyL LL b) ∧ Below w.heap.size w w' := by
  have HA := Lib.hid hA; have HL := Lib.hid hl; clear hA hl
  go_enter Try.func50, Try.ntmps50
  go_wp2_with fail
  go_loopw [7] (fun i wr => ∃ (pre rest : List (List Rg)), i = .int .i64 pre.length ∧ Hid (pre ++ rest = LL) ∧ Hid (keyL pre a = keyL pre b) ∧ Below w.heap.size w wr) (fun i _ => LL.length - (intOf i).toNat)
  case atStart => exact ⟨[], LL, rfl, rfl, Lib.hid rfl, Below.refl _ _⟩
  case round =>
    obtain ⟨pre, rest, rfl, hE, hK, hb⟩ := hrel
    rcases rest with _ | ⟨X, rest⟩
    · have e1 := hE.out
      rw [List.append_nil] at e1
      subst e1
      clear hE
      generalize pre.length = N at *
      go_wp2
      go_ret
      exact ⟨true, rfl, by simp [hK.out], hb⟩
    · have hlt : pre.length < LL.length := by rw [← hE.out]; simp
      obtain ⟨g, o, ax, cx, rfl, hg, p0, hX⟩ := HA.out _ _ _ hE.out
      have hE2 : Hid ((pre ++ [X]) ++ rest = LL) := Lib.hid (by rw [List.append_assoc]; exact hE.out)
      have hXl := HL.out X (by rw [← hE.out]; simp)
      have hno : hasB X a ≠ hasB X b → Hid (¬ (keyL LL a = keyL LL b)) := fun h => Lib.hid (fun e => by
        rw [← hE.out, keyL_app, keyL_cons] at e
        exact h e.2.1)
      have hyes : hasB X a = hasB X b → Hid (keyL (pre ++ [X]) a = keyL (pre ++ [X]) b) := fun h => Lib.hid (by
        rw [keyL_app, keyL_cons]
        exact ⟨hK.out, h, rfl⟩)
      have HNO := Lib.hid hno; have HYES := Lib.hid hyes
      have hb' : Below w.heap.size w wr.drew := ⟨hb.os, hb.tape, hb.output, hb.size, hb.block⟩
      have q0 : wr.drew.cell? ⟨g, o + pre.length, none⟩ = some (.slice ax X.length cx) := (hb.cell (p := ⟨g, o + pre.length, none⟩) hg).trans p0
      have HX : Hid (At wr.drew ax X) := Lib.hid (at_of ((hX.below hb' (Nat.le_refl _)).mono hb'.size))
      have HW := Lib.hid hb'
      clear hX p0 hb hE hb' hno hyes hK
      generalize LL.length = N at *
      go_wp2_with fail
      refine wp_region_held_drew (S := fun w' => w'.cell? ⟨g, o + pre.length, none⟩ = some (.slice ax X.length cx)) (by kernel_rfl) ?_ (fun hHeld => ?_)
      · exact q0
      try dsimp only at hHeld
      generalize wr.drew = w0 at *
      refine wpAnyH_take (i := 0) (v := ?va1) rfl (by kernel_rfl) (by kernel_rfl) (by kernel_rfl) (fun _ _ _ h => h) (Or.inl ⟨by rfl, ?hya1⟩) (by assumption) ?resta1
      case hya1 => (intro W9 hSw; (try dsimp only at hSw); go_simp; try with_reducible rfl)
      try simp only [List.getElem_toArray, List.getElem_cons_zero, Act.put, List.setIfInBounds_toArray, List.set_cons_zero, List.set_cons_succ]
      refine wpAnyH_take (i := 1) (v := ?va2) rfl (by kernel_rfl) (by kernel_rfl) (by kernel_rfl) (fun _ _ _ h => h) (Or.inl ⟨by rfl, ?hya2⟩) (by assumption) ?resta2
      case hya2 => (intro W9 hSw; (try dsimp only at hSw); go_simp; try with_reducible rfl)
      try simp only [List.getElem_toArray, List.getElem_cons_zero, List.getElem_cons_succ, Act.put, List.setIfInBounds_toArray, List.set_cons_zero, List.set_cons_succ]
      refine wpAnyH_take (i := 2) (v := ?va3) rfl (by kernel_rfl) (by kernel_rfl) (by kernel_rfl) (fun _ _ _ h => h) (Or.inl ⟨by rfl, ?hya3⟩) (by assumption) ?resta3
      case hya3 => (intro W9 hSw; (try dsimp only at hSw); go_simp; try with_reducible rfl)
      try simp only [List.getElem_toArray, List.getElem_cons_zero, List.getElem_cons_succ, Act.put, List.setIfInBounds_toArray, List.set_cons_zero, List.set_cons_succ]
      refine wpAnyH_take (i := 3) (v := ?va4) rfl (by kernel_rfl) (by kernel_rfl) (by kernel_rfl) (fun _ _ _ h => h) (Or.inl ⟨by rfl, ?hya4⟩) (by assumption) ?resta4
      case hya4 => (intro W9 hSw; (try dsimp only at hSw); go_simp; try with_reducible rfl)
      try simp only [List.getElem_toArray, List.getElem_cons_zero, List.getElem_cons_succ, Act.put, List.setIfInBounds_toArray, List.set_cons_zero, List.set_cons_succ]
      refine wpAnyH_take (i := 4) (v := ?va5) rfl (by kernel_rfl) (by kernel_rfl) (by kernel_rfl) (fun _ _ _ h => h) (Or.inl ⟨by rfl, ?hya5⟩) (by assumption) ?resta5
      case hya5 => (intro W9 hSw; (try dsimp only at hSw); go_simp; try with_reducible rfl)
      try simp only [List.getElem_toArray, List.getElem_cons_zero, List.getElem_cons_succ, Act.put, List.setIfInBounds_toArray, List.set_cons_zero, List.set_cons_succ]
      refine wpAnyH_take (i := 6) (v := ?va6) rfl (by kernel_rfl) (by kernel_rfl) (by kernel_rfl) (fun _ _ _ h => h) (Or.inl ⟨by rfl, ?hya6⟩) (by assumption) ?resta6
      case hya6 => (intro W9 hSw; (try dsimp only at hSw); go_simp; try with_reducible rfl)
      try simp only [List.getElem_toArray, List.getElem_cons_zero, List.getElem_cons_succ, Act.put, List.setIfInBounds_toArray, List.set_cons_zero, List.set_cons_succ]
      refine wpAnyH_take (i := 7) (v := ?va7) rfl (by kernel_rfl) (by kernel_rfl) (by kernel_rfl) (fun _ _ _ h => h) (Or.inl ⟨by rfl, ?hya7⟩) (by assumption) ?resta7
      case hya7 => (intro W9 hSw; (try dsimp only at hSw); go_simp; try with_reducible rfl)
      try simp only [List.getElem_toArray, List.getElem_cons_zero, List.getElem_cons_succ, Act.put, List.setIfInBounds_toArray, List.set_cons_zero, List.set_cons_succ]
      refine wpAnyH_take (i := 8) (v := ?va8) rfl (by kernel_rfl) (by kernel_rfl) (by kernel_rfl) (fun _ _ _ h => h) (Or.inl ⟨by rfl, ?hya8⟩) (by assumption) ?resta8
      case hya8 => (intro W9 hSw; (try dsimp only at hSw); go_simp; try with_reducible rfl)
      try simp only [List.getElem_toArray, List.getElem_cons_zero, List.getElem_cons_succ, Act.put, List.setIfInBounds_toArray, List.set_cons_zero, List.set_cons_succ]
      refine wpAnyH_take (i := 9) (v := ?va9) rfl (by kernel_rfl) (by kernel_rfl) (by kernel_rfl) (fun _ _ _ h => h) (Or.inl ⟨by rfl, ?hya9⟩) (by assumption) ?resta9
      case hya9 => (intro W9 hSw; (try dsimp only at hSw); go_simp; try with_reducible rfl)
      try simp only [List.getElem_toArray, List.getElem_cons_zero, List.getElem_cons_succ, Act.put, List.setIfInBounds_toArray, List.set_cons_zero, List.set_cons_succ]
      refine wpAnyH_take (i := 10) (v := ?va10) rfl (by kernel_rfl) (by kernel_rfl) (by kernel_rfl) (fun _ _ _ h => h) (Or.inl ⟨by rfl, ?hya10⟩) (by assumption) ?resta10
      case hya10 => (intro W9 hSw; (try dsimp only at hSw); go_simp; try with_reducible rfl)
      try simp only [List.getElem_toArray, List.getElem_cons_zero, List.getElem_cons_succ, Act.put, List.setIfInBounds_toArray, List.set_cons_zero, List.set_cons_succ]
      refine wpAnyH_ready (rs := [5]) (by kernel_rfl) (by simp) ?_
      refine AllReadyH.cons rfl (fun K hK => ?_) AllReadyH.nil
      go_simp
      refine (rhas_at ax X cx a w0 hXl HX.out).mono ?_
      rintro e w5 ⟨rfl, b5⟩
      have s0 := (b5.cell (p := ⟨g, o + pre.length, none⟩) (Nat.lt_of_lt_of_le hg HW.out.size)).trans q0
      have HW5 := Lib.hid (HW.out.trans (b5.mono HW.out.size)); have HX5 := Lib.hid (HX.out.later b5)
      clear b5 q0 HX
      generalize hasB X a = x1 at *
      go_wp2_with fail
      refine hK.out _ _ ?_ (fun hHeld => ?_)
      · exact s0
      clear hK K
      try dsimp only at hHeld
      try simp only [List.getElem_toArray, List.getElem_cons_zero, List.getElem_cons_succ, Act.put, List.setIfInBounds_toArray, List.set_cons_zero, List.set_cons_succ]
      refine wpAnyH_ready (rs := [11]) (by kernel_rfl) (by simp) ?_
      refine AllReadyH.cons rfl (fun K hK => ?_) AllReadyH.nil
      go_simp
      refine (rhas_at ax X cx b w5 hXl HX5.out).mono ?_
      rintro e w6 ⟨rfl, b6⟩
      have t0 := (b6.cell (p := ⟨g, o + pre.length, none⟩) (Nat.lt_of_lt_of_le hg HW5.out.size)).trans s0
      have HW6 := HW5.out.trans (b6.mono HW5.out.size)
      clear b6 s0 HX5
      generalize hasB X b = x2 at *
      go_wp2_with fail
      refine hK.out _ _ ?_ (fun hHeld => ?_)
      · exact t0
      clear hK K
      try dsimp only at hHeld
      try simp only [List.getElem_toArray, List.getElem_cons_zero, List.getElem_cons_succ, Act.put, List.setIfInBounds_toArray, List.set_cons_zero, List.set_cons_succ]
      refine wpAnyH_take (i := 12) (v := ?va11) rfl (by kernel_rfl) (by kernel_rfl) (by kernel_rfl) (fun _ _ _ h => h) (Or.inl ⟨by rfl, ?hya11⟩) (by assumption) ?resta11
      case hya11 => (intro W9 hSw; (try dsimp only at hSw); go_simp; try with_reducible rfl)
      try simp only [List.getElem_toArray, List.getElem_cons_zero, List.getElem_cons_succ, Act.put, List.setIfInBounds_toArray, List.set_cons_zero, List.set_cons_succ]
      refine wpAnyH_done (by kernel_rfl) ?_ _
      clear hHeld
      by_cases hxx : x1 = x2
      · have HY := HYES.out hxx
        subst hxx
        clear HNO HYES
        cases x1
        · go_wp2
          go_roundw
          case rel => exact ⟨pre ++ [X], rest, by simp, hE2, HY, HW6⟩
          case measure => simp [intOf]; omega
        · go_wp2
          go_roundw
          case rel => exact ⟨pre ++ [X], rest, by simp, hE2, HY, HW6⟩
          case measure => simp [intOf]; omega
      · have HN := HNO.out hxx
        clear HNO HYES
        cases x1 <;> cases x2
        · exact absurd rfl hxx
        · go_wp2
          go_ret
          exact ⟨false, rfl, by simp [HN.out], HW6⟩
        · go_wp2
          go_ret
          exact ⟨false, rfl, by simp [HN.out], HW6⟩
        · exact absurd rfl hxx

/-- append of a whole slice of sets to an own row. -/
theorem sts_vals {W : World} {B : Nat} {ad : Option Addr} : ∀ (LL : List (List Rg)), Sts W B ad LL → ∃ vs : List Value, vs.length = LL.length ∧ (∀ g o, ad = some ⟨g, o, none⟩ → ∀ j u, vs[j]? = some u → W.cell? ⟨g, o + j, none⟩ = some u) ∧
    ∀ (i : Nat) (v : Value) (l : List Rg), vs[i]? = some v → LL[i]? = some l → ∃ a c, v = .slice a l.length c ∧ Rgs W B a l := by
  intro LL h
  have key : ∀ i : Nat, ∃ v : Value, ∀ l, LL[i]? = some l → (∃ a c, v = .slice a l.length c ∧ Rgs W B a l) ∧ ∀ g o, ad = some ⟨g, o, none⟩ → W.cell? ⟨g, o + i, none⟩ = some v := by
    intro i
    cases hl : LL[i]? with
    | none => exact ⟨.slice none 0 0, fun l h => by cases h⟩
    | some l =>
      obtain ⟨hi, e⟩ := List.getElem?_eq_some_iff.1 hl
      have e2 : LL.take i ++ l :: LL.drop (i + 1) = LL := by rw [← e, List.getElem_cons_drop, List.take_append_drop]
      obtain ⟨g, o, a, c, h1, h2, h3, h4⟩ := h _ _ _ e2
      rw [List.length_take, Nat.min_eq_left (by omega)] at h3
      refine ⟨.slice a l.length c, fun l' hl' => ?_⟩
      cases hl'
      refine ⟨⟨a, c, rfl, h4⟩, fun g' o' e' => ?_⟩
      rw [h1] at e'
      obtain ⟨rfl, rfl⟩ : g = g' ∧ o = o' := by simpa using e'
      exact h3
  obtain ⟨f, hf⟩ := Classical.axiomOfChoice key
  have hget : ∀ (j : Nat) (u : Value), ((List.range LL.length).map f)[j]? = some u → ∃ l, LL[j]? = some l ∧ f j = u := by
    intro j u hu
    rw [List.getElem?_map] at hu
    have hj : j < LL.length := by
      rcases Nat.lt_or_ge j LL.length with h | h
      · exact h
      · rw [List.getElem?_eq_none (by simpa using h)] at hu
        cases hu
    rw [List.getElem?_range hj] at hu
    exact ⟨LL[j], List.getElem?_eq_getElem hj, by simpa using hu⟩
  refine ⟨(List.range LL.length).map f, by simp, fun g o e j u hu => ?_, fun i v l hv hl => ?_⟩
  · obtain ⟨l, hl, rfl⟩ := hget j u hu
    exact (hf j l hl).2 g o e
  · obtain ⟨l', hl', rfl⟩ := hget i v hv
    rw [hl] at hl'
    cases hl'
    exact (hf i l hl).1
theorem sts_of_vals {W : World} {base B : Nat} {pv : Value} {ps : List (List Rg)} {vs : List Value} (hr : W.ownsRow base 24 1 pv ps.length vs) (hB : W.heap.size ≤ B) (he : ∀ (i : Nat) (v : Value) (l : List Rg), vs[i]? = some v → ps[i]? = some l → ∃ a c, v = .slice a l.length c ∧ Rgs W B a l) :
    ∃ ao cap, pv = .slice ao ps.length cap ∧ ps.length ≤ cap ∧ Sts W B ao ps := by
  have hlen : vs.length = ps.length := by have := hr.1; omega
  rcases hr.2 with ⟨rfl, h2⟩ | ⟨g, cap, cur, rfl, h3, h4, h5, h6, h7, h8⟩
  · refine ⟨none, 0, by rw [h2], by omega, fun pre x rest e => ?_⟩
    rw [← e] at h2
    simp at h2
  · refine ⟨_, cap, rfl, h5, fun pre x rest e => ?_⟩
    have hl : pre.length < ps.length := by rw [← e]; simp
    have hlv : pre.length < vs.length := by omega
    have hx : ps[pre.length]? = some x := by rw [← e]; simp
    have hv := List.getElem?_eq_getElem hlv
    obtain ⟨a, c, e1, hR⟩ := he _ _ _ hv hx
    refine ⟨g, 0, a, c, rfl, Nat.lt_of_lt_of_le (Array.getElem?_eq_some_iff.1 h4).1 hB, ?_, hR⟩
    rw [← e1, Nat.zero_add, Lib.cell_of_heap h4, ← hv, ← h8, List.getElem?_take_of_lt (by omega), Array.getElem?_toList]
/-- The values vs are slices of the ranges LL. -/
def ValsOf (W : World) (B : Nat) (vs : List Value) (LL : List (List Rg)) : Prop := ∀ (i : Nat) (v : Value) (l : List Rg), vs[i]? = some v → LL[i]? = some l → ∃ a c, v = .slice a l.length c ∧ Rgs W B a l
theorem wp_app_sts {ops : Array Oper} {rest : List Oper} {o : Oper} {a : Act} {Q : Exit → Act → World → Prop} (hgd : o.guard = none) (s x : Operand)
    (ho : o.op = .call { callee := .builtin .append, args := #[s, x], argTypes := #[34, 34] }) (hty : o.type = 34)
    (base : Nat) (v : Value) (n : Nat) (us : List Value) (W : World) (hown : W.ownsRow base 24 1 v n us) (hn1 : 1 ≤ n) (hs : a.eval s = v) (B : Nat) (b : Option Addr) (LL : List (List Rg)) (c : Nat) (hM : Sts W B b LL)
    (hx : a.eval x = .slice b LL.length c) (hn : n + LL.length < 1000000) (hb : base ≤ W.heap.size)
    (h : ∀ v' w' vs, w'.ownsRow base 24 1 v' (n + LL.length) (us ++ vs) → vs.length = LL.length → ValsOf W B vs LL → W.grownBy w' v.ownBlock → wpList Try.prog ops Q rest (a.put o.dst v') w') :
    wpList Try.prog ops Q (o :: rest) a W := by
  obtain ⟨i0, hi, hz0, hz1, hz2⟩ := info_parts infoSet
  obtain ⟨vs, e1, e2, e3⟩ := sts_vals LL hM
  have hone : ∀ u ∈ vs, u.oneCell' = true := fun u hu => by
    obtain ⟨i, hi2⟩ := List.mem_iff_getElem?.1 hu
    have hlt : i < LL.length := by rw [← e1]; exact (List.getElem?_eq_some_iff.1 hi2).1
    obtain ⟨a', c', rfl, _⟩ := e3 i u _ hi2 (List.getElem?_eq_getElem hlt)
    rfl
  have own : ∀ (ad : Addr), a.eval x = .slice (some ad) LL.length c → (∀ j u, vs[j]? = some u → W.cell? (ad.add j) = some u) → wpList Try.prog ops Q (o :: rest) a W := fun ad hx hc => by
    refine wpList_append_own _ hgd s x 34 ho base 24 i0 (.slice none 0 0) 1 24 Try.underlying34 hi hz0 hz1 hz2 rfl (by decide) v n us hs hown ad LL.length c vs hx (by omega)
      hc hone (by unfold maxLen; omega) (by omega) hb ?_
    intro v' w' h1 h2 _
    exact h v' w' vs h1 e1 e3 h2
  by_cases hl : 0 < LL.length
  · obtain ⟨g, o', _, _, rfl, _⟩ := hM [] LL[0] LL.tail (by cases LL with | nil => simp at hl | cons y l => rfl)
    refine own ⟨g, o', none⟩ hx fun j u hu => ?_
    have := e2 g o' rfl j u hu
    have ha : (⟨g, o', none⟩ : Addr).add j = ⟨g, o' + j, none⟩ := by
      unfold Addr.add
      split
      · rename_i h; subst h; rfl
      · rfl
    rw [ha]
    exact this
  · have hM0 : LL = [] := List.eq_nil_of_length_eq_zero (by omega)
    subst hM0
    have hv0 : vs = [] := List.eq_nil_of_length_eq_zero e1
    subst hv0
    rcases b with _ | ad
    · have hk : wpList Try.prog ops Q rest (a.put o.dst v) W := h v W [] (by rw [List.append_nil]; exact hown) rfl (fun i v l hv => by cases hv) ⟨rfl, rfl, rfl, Nat.le_refl _, fun _ _ _ => rfl⟩
      rcases hown.2 with ⟨rfl, h0⟩ | ⟨g, cap, cur, rfl, h3, h4, h5, h6, h7, h8⟩
      · omega
      · have hr := run_append_room_src (P := Try.prog) W 34 34 34 24 i0 Try.underlying34 hi g 0 n cap (.slice none 0 c) 0 [] (Src.ofNil W Try.underlying34 c) (by omega) (fun j hj => by cases hj) (fun j hj => by cases hj)
        exact Lib.wpList_append_run W hgd s x 34 34 ho _ _ hs hx _ _ (by rw [hty]; exact hr) hk
    · exact own ad hx (fun j u hu => by cases hu)
end Go.Proofs.Ytpmcnmlpkpoopaa
