/- The reference of charset: both. -/
import Derived.Test.YtpmcnmlpkpoopaaGM
import Derived.Deep.CutBlock
import Derived.Deep.CutRange
namespace Go.Proofs.Ytpmcnmlpkpoopaa
open Go.RowKit Go.Shelf

/-- The operation's number, on two memberships. -/
def fop (how : Int) (x y : Bool) : Bool := if how = 1 then x || y else if how = 2 then x && y else x && !y
theorem ins_at {W : World} {B : Nat} {ao : Option Addr} {L : List Int} (h : Ins W B ao L) {pre rest : List Int} {x : Int} (e : pre ++ x :: rest = L) {g o : Nat} (ha : ao = some ⟨g, o, none⟩) : W.cell? ⟨g, o + pre.length, none⟩ = some (.int .i32 x) ∧ g < B := by
  obtain ⟨g', o', h1, h2, h3⟩ := h pre x rest e
  rw [ha] at h1
  obtain ⟨rfl, rfl⟩ : g = g' ∧ o = o' := by simpa using h1
  exact ⟨h3, h2⟩

theorem joinL_length (s : List Rg) (r : Rg) : (joinL s r).length ≤ s.length + 1 := by
  rcases List.eq_nil_or_concat s with rfl | ⟨t, q, rfl⟩
  · simp [joinL]
  · rw [List.concat_eq_append, joinL_snoc]
    split <;> simp
theorem joinL_ok {s : List Rg} {lo hi : Int} (h : ∀ q ∈ s, okR q) (hr : okR (lo, hi)) : ∀ q ∈ joinL s (lo, hi), okR q := by
  rcases List.eq_nil_or_concat s with rfl | ⟨t, q, rfl⟩
  · intro p hp
    have : p = (lo, hi) := by simpa [joinL] using hp
    rw [this]; exact hr
  · rw [List.concat_eq_append] at *
    have hq := h q (by simp)
    rw [joinL_snoc]
    intro p hp
    split at hp
    · rename_i he
      rcases List.mem_append.1 hp with hp | hp
      · exact h p (by simp [hp])
      · rw [List.mem_singleton.1 hp]
        unfold okR at *
        dsimp only at *
        omega
    · rcases List.mem_append.1 hp with hp | hp
      · exact h p hp
      · rw [List.mem_singleton.1 hp]; exact hr

set_option maxHeartbeats 1500000 in
set_option maxRecDepth 100000 in
theorem rboth_any (ao bo : Option Addr) (L M : List Rg) (c d : Nat) (how : Int) (f : Int → Bool) (w : World) (hh : how = 1 ∨ how = 2 ∨ how = 3) (hL : L.length ≤ 50000) (hM : M.length ≤ 50000) (hA : At w ao L) (hB : At w bo M)
    (hf : ∀ e x y, (x = true ↔ inU L e) → (y = true ↔ inU M e) → f e = fop how x y) :
    Calls Try.prog 36 #[.slice ao L.length c, .slice bo M.length d, .int .i64 how] w fun e w' => ∃ v, e = .returned v ∧ w'.ownsRow w.heap.size 41 2 v (bothG f (endsL (L ++ M)) []).length (rgCells (bothG f (endsL (L ++ M)) [])) ∧ Below w.heap.size w w' := by
  have bl := (Below.refl w.heap.size w).alloc (Nat.le_refl _) (.cells #[.slice ao L.length c, .slice bo M.length d] 24)
  have he := rends_any (some ⟨w.heap.size, 0, none⟩) [L, M] 2 (w.alloc (.cells #[.slice ao L.length c, .slice bo M.length d] 24)) (by simp) (by simp; omega) ((sts_new2 w (c := w.heap.size) rfl hA.now hB.now (Nat.le_refl _)).mono (by simp))
  have hfl : [L, M].flatten = L ++ M := by simp
  rw [hfl] at he
  have HE := Lib.hid he; have HA := Lib.hid hA; have HB := Lib.hid hB; have HBL := Lib.hid bl; have HF := Lib.hid hf
  clear he hA hB bl hfl hf
  go_enter Try.func36, Try.ntmps36
  go_wp2_with fail
  refine HE.out.mono ?_
  rintro e w1 ⟨ae, ce, rfl, hi, b1⟩
  have B1 := HBL.out.trans (b1.mono HBL.out.size)
  have HI := Lib.hid hi
  generalize hEE : endsL (L ++ M) = E at *
  have o0 := World.ownsRow_lit (base := w1.heap.size) (e := 41) (size := 2) w1 #[] 0 (Nat.le_refl _) (by simp [maxLen]) rfl
  have B2 := (Below.refl w1.heap.size w1).alloc (Nat.le_refl _) (.cells #[] 41)
  have H0 := Lib.hid o0; have HB2 := Lib.hid B2; have HB1 := Lib.hid B1
  obtain ⟨f1, f2, _, _⟩ := foldE_is (L ++ M) [0] (by simp) (by simp)
  have f3 := foldE_length (L ++ M) [0]
  rw [show (L ++ M).foldl stepE [0] = E from hEE] at f1 f2 f3
  rw [List.length_append] at f3
  have hEl : E.length ≤ 300000 := by simp only [List.length_cons, List.length_nil] at f3; omega
  have HAS := Lib.hid f1; have HR := Lib.hid f2
  have HEE := Lib.hid hEE
  clear f1 f2 f3 hEE
  clear b1 B1 B2 hi o0
  go_wp2_with fail
  go_loopw [8, 9] (fun s8 i wr => ∃ (pre rest : List Int) (v : Value) (out : List Rg), v = s8 ∧ i = .int .i64 pre.length ∧ Hid (pre ++ rest = E) ∧ Hid (bothG f rest out = bothG f E []) ∧ Hid ((∀ q ∈ out, okR q) ∧ out.length ≤ pre.length) ∧ Hid (wr.ownsRow w1.heap.size 41 2 v out.length (rgCells out)) ∧ Below w1.heap.size w1 wr) (fun _ i _ => E.length - (intOf i).toNat)
  case atStart => exact ⟨[], E, _, [], rfl, rfl, rfl, rfl, Lib.hid ⟨fun q hq => (by cases hq), by simp⟩, H0, HB2.out⟩
  case round =>
    obtain ⟨pre, rest, v, out, rfl, rfl, hA2, HBG, hC, HO, hb⟩ := hrel
    rcases rest with _ | ⟨e, rest⟩
    · have e1 := HBG.out
      rw [bothG] at e1
      have e2 := hA2.out
      rw [List.append_nil] at e2
      have o1 := own_low HO.out HB1.out.size
      rw [e1] at o1
      have O1 := Lib.hid o1
      have hbw := HB1.out.trans (hb.mono HB1.out.size)
      have hpl : pre.length = E.length := by rw [e2]
      obtain ⟨av, cv, rfl, _, _⟩ := own_len HO.out
      clear o1 e1 HO HBG
      go_wp2
      go_ret
      exact ⟨_, rfl, by rw [HEE.out]; exact O1.out, hbw⟩
    · have hlt : pre.length < E.length := by rw [← hA2.out]; simp
      have hplE : pre.length ≤ 300000 := by omega
      obtain ⟨ge, oe, rfl, hge, p0⟩ := HI.out _ _ _ hA2.out
      have q0 : wr.drew.cell? ⟨ge, oe + pre.length, none⟩ = some (.int .i32 e) := (hb.cell (p := ⟨ge, oe + pre.length, none⟩) hge).trans p0
      have hcell0 := q0
      have her := HR.out e (by rw [← hA2.out]; simp)
      have hbw := HB1.out.trans (hb.mono HB1.out.size)
      have HW0 : Hid (Below w.heap.size w wr.drew) := Lib.hid ⟨hbw.os, hbw.tape, hbw.output, hbw.size, hbw.block⟩
      have HD0 : Hid (Below w1.heap.size w1 wr.drew) := Lib.hid ⟨hb.os, hb.tape, hb.output, hb.size, hb.block⟩
      have HO0 : Hid (wr.drew.ownsRow w1.heap.size 41 2 v out.length (rgCells out)) := Lib.hid HO.out
      obtain ⟨av, cv, rfl, _, _⟩ := own_len HO.out
      rcases rest with _ | ⟨e', rest⟩
      · have hla : pre.length + 1 = E.length := by rw [← hA2.out]; simp
        clear hbw p0 HO hb
        go_wp2_with fail
        refine wp_region_held_drew (S := fun w' => w'.cell? ⟨ge, oe + pre.length, none⟩ = some (.int .i32 e)) (by kernel_rfl) ?_ (fun hHeld => ?_)
        · exact q0
        try dsimp only at hHeld
        generalize wr.drew = w0 at *
        refine wpAnyH_take (i := 0) (v := ?va1) rfl (by kernel_rfl) (by kernel_rfl) (by kernel_rfl) (fun _ _ _ h => h) (Or.inl ⟨by rfl, ?hya1⟩) (by assumption) ?resta1
        case hya1 => (intro W9 hSw; (try dsimp only at hSw); go_simp; try with_reducible rfl)
        try simp only [List.getElem_toArray, List.getElem_cons_zero, Act.put, List.setIfInBounds_toArray, List.set_cons_zero, List.set_cons_succ]
        refine wpAnyH_take (i := 1) (v := ?va2) rfl (by kernel_rfl) (by kernel_rfl) (by kernel_rfl) (fun _ _ _ h => h) (Or.inl ⟨by rfl, ?hya2⟩) (by assumption) ?resta2
        case hya2 => (intro W9 hSw; (try dsimp only at hSw); go_simp; try with_reducible rfl)
        try simp only [List.getElem_toArray, List.getElem_cons_zero, List.getElem_cons_succ, Act.put, List.setIfInBounds_toArray, List.set_cons_zero, List.set_cons_succ]
        refine wpAnyH_take (i := 2) (v := ?va3) rfl (by kernel_rfl) (by kernel_rfl) (by kernel_rfl) (fun _ _ _ h => h) (Or.inl ⟨by rfl, ?hya3⟩) (by assumption) ?resta3
        case hya3 => (intro W9 hSw; (try dsimp only at hSw); go_simp; try with_reducible rfl)
        try simp only [List.getElem_toArray, List.getElem_cons_zero, List.getElem_cons_succ, Act.put, List.setIfInBounds_toArray, List.set_cons_zero, List.set_cons_succ]
        refine wpAnyH_take (i := 3) (v := ?va4) rfl (by kernel_rfl) (by kernel_rfl) (by kernel_rfl) (fun _ _ _ h => h) (Or.inl ⟨by rfl, ?hya4⟩) (by assumption) ?resta4
        case hya4 => (intro W9 hSw; (try dsimp only at hSw); go_simp; try with_reducible rfl)
        try simp only [List.getElem_toArray, List.getElem_cons_zero, List.getElem_cons_succ, Act.put, List.setIfInBounds_toArray, List.set_cons_zero, List.set_cons_succ]
        refine wpAnyH_take (i := 4) (v := ?va5) rfl (by kernel_rfl) (by kernel_rfl) (by kernel_rfl) (fun _ _ _ h => h) (Or.inl ⟨by rfl, ?hya5⟩) (by assumption) ?resta5
        case hya5 => (intro W9 hSw; (try dsimp only at hSw); go_simp; try with_reducible rfl)
        try simp only [List.getElem_toArray, List.getElem_cons_zero, List.getElem_cons_succ, Act.put, List.setIfInBounds_toArray, List.set_cons_zero, List.set_cons_succ]
        refine wpAnyH_take (i := 6) (v := ?va6) rfl (by kernel_rfl) (by kernel_rfl) (by kernel_rfl) (fun _ _ _ h => h) (Or.inl ⟨by rfl, ?hya6⟩) (by assumption) ?resta6
        case hya6 => (intro W9 hSw; (try dsimp only at hSw); go_simp; try with_reducible rfl)
        try simp only [List.getElem_toArray, List.getElem_cons_zero, List.getElem_cons_succ, Act.put, List.setIfInBounds_toArray, List.set_cons_zero, List.set_cons_succ]
        refine wpAnyH_take (i := 7) (v := ?va7) rfl (by kernel_rfl) (by kernel_rfl) (by kernel_rfl) (fun _ _ _ h => h) (Or.inl ⟨by rfl, ?hya7⟩) (by assumption) ?resta7
        case hya7 => (intro W9 hSw; (try dsimp only at hSw); go_simp; try with_reducible rfl)
        try simp only [List.getElem_toArray, List.getElem_cons_zero, List.getElem_cons_succ, Act.put, List.setIfInBounds_toArray, List.set_cons_zero, List.set_cons_succ]
        refine wpAnyH_take (i := 8) (v := ?va8) rfl (by kernel_rfl) (by kernel_rfl) (by kernel_rfl) (fun _ _ _ h => h) (Or.inl ⟨by rfl, ?hya8⟩) (by assumption) ?resta8
        case hya8 => (intro W9 hSw; (try dsimp only at hSw); go_simp; try with_reducible rfl)
        try simp only [List.getElem_toArray, List.getElem_cons_zero, List.getElem_cons_succ, Act.put, List.setIfInBounds_toArray, List.set_cons_zero, List.set_cons_succ]
        refine wpAnyH_take (i := 9) (v := ?va9) rfl (by kernel_rfl) (by kernel_rfl) (by kernel_rfl) (fun _ _ _ h => h) (Or.inl ⟨by rfl, ?hya9⟩) (by assumption) ?resta9
        case hya9 => (intro W9 hSw; (try dsimp only at hSw); go_simp; try with_reducible rfl)
        try simp only [List.getElem_toArray, List.getElem_cons_zero, List.getElem_cons_succ, Act.put, List.setIfInBounds_toArray, List.set_cons_zero, List.set_cons_succ]
        refine wpAnyH_take (i := 10) (v := ?va10) rfl (by kernel_rfl) (by kernel_rfl) (by kernel_rfl) (fun _ _ _ h => h) (Or.inl ⟨by rfl, ?hya10⟩) (by assumption) ?resta10
        case hya10 => (intro W9 hSw; (try dsimp only at hSw); go_simp; try with_reducible rfl)
        try simp only [List.getElem_toArray, List.getElem_cons_zero, List.getElem_cons_succ, Act.put, List.setIfInBounds_toArray, List.set_cons_zero, List.set_cons_succ]
        refine wpAnyH_ready (rs := [5]) (by kernel_rfl) (by simp) ?_
        refine AllReadyH.cons rfl (fun K hK => ?_) AllReadyH.nil
        go_simp
        refine (rHas_any ao L c e w0 (by omega) (HA.out w0 HW0.out)).mono ?_
        rintro e1 w3 ⟨x, rfl, hx, b3⟩
        have q3 := (b3.cell (p := ⟨ge, oe + pre.length, none⟩) (Nat.lt_of_lt_of_le hge HD0.out.size)).trans hcell0
        have HW3 := Lib.hid (HW0.out.trans (b3.mono HW0.out.size)); have HD3 := Lib.hid (HD0.out.trans (b3.mono HD0.out.size)); have HO3 := Lib.hid (own_below HO0.out b3 (Nat.le_refl _)); have HX := Lib.hid hx
        clear b3 hx
        go_wp2_with fail
        refine hK.out _ _ ?_ (fun hHeld => ?_)
        · exact q3
        clear hK K
        try dsimp only at hHeld
        try simp only [List.getElem_toArray, List.getElem_cons_zero, List.getElem_cons_succ, Act.put, List.setIfInBounds_toArray, List.set_cons_zero, List.set_cons_succ]
        refine wpAnyH_ready (rs := [11]) (by kernel_rfl) (by simp) ?_
        refine AllReadyH.cons rfl (fun K hK => ?_) AllReadyH.nil
        go_simp
        refine (rHas_any bo M d e w3 (by omega) (HB.out w3 HW3.out)).mono ?_
        rintro e2 w5 ⟨y, rfl, hy, b5⟩
        have q5 := (b5.cell (p := ⟨ge, oe + pre.length, none⟩) (Nat.lt_of_lt_of_le hge HD3.out.size)).trans q3
        have HD5 := Lib.hid (HD3.out.trans (b5.mono HD3.out.size)); have HO5 := Lib.hid (own_below HO3.out b5 (Nat.le_refl _))
        have HFE := Lib.hid (HF.out e x y HX.out hy)
        have hb1 : w1.heap.size ≤ w5.heap.size := HD5.out.size
        clear b5 hy
        go_wp2_with fail
        refine hK.out _ _ ?_ (fun hHeld => ?_)
        · exact q5
        clear hK K
        try dsimp only at hHeld
        try simp only [List.getElem_toArray, List.getElem_cons_zero, List.getElem_cons_succ, Act.put, List.setIfInBounds_toArray, List.set_cons_zero, List.set_cons_succ]
        refine wpAnyH_take (i := 12) (v := ?va11) rfl (by kernel_rfl) (by kernel_rfl) (by kernel_rfl) (fun _ _ _ h => h) (Or.inl ⟨by rfl, ?hya11⟩) (by assumption) ?resta11
        case hya11 => (intro W9 hSw; (try dsimp only at hSw); go_simp; try with_reducible rfl)
        try simp only [List.getElem_toArray, List.getElem_cons_zero, List.getElem_cons_succ, Act.put, List.setIfInBounds_toArray, List.set_cons_zero, List.set_cons_succ]
        refine wpAnyH_take (i := 13) (v := ?va12) rfl (by kernel_rfl) (by kernel_rfl) (by kernel_rfl) (fun _ _ _ h => h) (Or.inl ⟨by rfl, ?hya12⟩) (by assumption) ?resta12
        case hya12 => (intro W9 hSw; (try dsimp only at hSw); go_simp; try with_reducible rfl)
        try simp only [List.getElem_toArray, List.getElem_cons_zero, List.getElem_cons_succ, Act.put, List.setIfInBounds_toArray, List.set_cons_zero, List.set_cons_succ]
        refine wpAnyH_done (by kernel_rfl) ?_ _
        clear hHeld
        go_upto_region 10 with fail
        go_cut [75] from 18 to 82 (fun s75 wx => s75 = .bool (f e) ∧ wx = w5)
        case first =>
          rcases hh with rfl | rfl | rfl <;> cases x <;> cases y
          all_goals (go_wp2_with fail; go_meet; exact ⟨by rw [HFE.out]; rfl, rfl⟩)
        case rest =>
          obtain ⟨rfl, rfl⟩ := hcut
          clear HFE
          have hBG := HBG.out
          rw [bothG] at hBG
          generalize hv : f e = fv at *
          cases fv
          · rw [if_neg (by simp)] at hBG
            have HBG2 := Lib.hid hBG
            clear hBG HBG
            go_wp2
            go_roundw
            case rel => exact ⟨pre ++ [e], [], _, out, rfl, by simp, Lib.hid (by rw [List.append_assoc]; exact hA2.out), HBG2, Lib.hid ⟨hC.out.1, by have := hC.out.2; simp; omega⟩, HO5, HD5.out⟩
            case measure => simp [intOf]; omega
          · rw [if_pos rfl] at hBG
            have HBG2 := Lib.hid hBG
            clear hBG HBG
            go_wp2_with fail
            refine (rjoin_any _ out w1.heap.size e 1114111 _ HO5.out hb1 (by have := hC.out.2; omega) hC.out.1).mono ?_
            rintro e3 w7 ⟨v7, rfl, o7, g7⟩
            have HD7 := Lib.hid (HD5.out.grown g7 hb1 (fun k hk => (HO5.out.lt k hk).1))
            have HO7 := Lib.hid o7
            have HC7 := Lib.hid (joinL_ok (lo := e) (hi := 1114111) hC.out.1 ⟨her.1, her.2, Int.le_refl _⟩)
            clear o7 g7
            go_wp2
            go_roundw
            case rel => exact ⟨pre ++ [e], [], _, _, rfl, by simp, Lib.hid (by rw [List.append_assoc]; exact hA2.out), HBG2, Lib.hid ⟨HC7.out, by rw [List.length_append]; exact Nat.le_trans (joinL_length _ _) (Nat.succ_le_succ hC.out.2)⟩, HO7, HD7.out⟩
            case measure => simp [intOf]; omega
      · have hlb : pre.length + 1 < E.length := by rw [← hA2.out]; simp
        have hA3 : (pre ++ [e]) ++ e' :: rest = E := by rw [List.append_assoc]; exact hA2.out
        have hn := ins_at HI.out hA3 rfl
        have r0 := (hb.cell (p := ⟨ge, oe + (pre ++ [e]).length, none⟩) hn.2).trans hn.1
        rw [show (pre ++ [e]).length = pre.length + 1 by simp] at r0
        have her' := HR.out e' (by rw [← hA2.out]; simp)
        have hee := HAS.out
        rw [← hA2.out] at hee
        have hee2 := (List.pairwise_cons.1 (List.pairwise_append.1 hee).2.1).1 e' (by simp)
        have her1 := her'.1
        have her2 := her'.2
        clear hbw p0 HO hb hn hee hA3
        go_wp2_with fail
        refine wp_region_held_drew (S := fun w' => w'.cell? ⟨ge, oe + pre.length, none⟩ = some (.int .i32 e)) (by kernel_rfl) ?_ (fun hHeld => ?_)
        · exact q0
        try dsimp only at hHeld
        generalize wr.drew = w0 at *
        refine wpAnyH_take (i := 0) (v := ?vb1) rfl (by kernel_rfl) (by kernel_rfl) (by kernel_rfl) (fun _ _ _ h => h) (Or.inl ⟨by rfl, ?hyb1⟩) (by assumption) ?restb1
        case hyb1 => (intro W9 hSw; (try dsimp only at hSw); go_simp; try with_reducible rfl)
        try simp only [List.getElem_toArray, List.getElem_cons_zero, Act.put, List.setIfInBounds_toArray, List.set_cons_zero, List.set_cons_succ]
        refine wpAnyH_take (i := 1) (v := ?vb2) rfl (by kernel_rfl) (by kernel_rfl) (by kernel_rfl) (fun _ _ _ h => h) (Or.inl ⟨by rfl, ?hyb2⟩) (by assumption) ?restb2
        case hyb2 => (intro W9 hSw; (try dsimp only at hSw); go_simp; try with_reducible rfl)
        try simp only [List.getElem_toArray, List.getElem_cons_zero, List.getElem_cons_succ, Act.put, List.setIfInBounds_toArray, List.set_cons_zero, List.set_cons_succ]
        refine wpAnyH_take (i := 2) (v := ?vb3) rfl (by kernel_rfl) (by kernel_rfl) (by kernel_rfl) (fun _ _ _ h => h) (Or.inl ⟨by rfl, ?hyb3⟩) (by assumption) ?restb3
        case hyb3 => (intro W9 hSw; (try dsimp only at hSw); go_simp; try with_reducible rfl)
        try simp only [List.getElem_toArray, List.getElem_cons_zero, List.getElem_cons_succ, Act.put, List.setIfInBounds_toArray, List.set_cons_zero, List.set_cons_succ]
        refine wpAnyH_take (i := 3) (v := ?vb4) rfl (by kernel_rfl) (by kernel_rfl) (by kernel_rfl) (fun _ _ _ h => h) (Or.inl ⟨by rfl, ?hyb4⟩) (by assumption) ?restb4
        case hyb4 => (intro W9 hSw; (try dsimp only at hSw); go_simp; try with_reducible rfl)
        try simp only [List.getElem_toArray, List.getElem_cons_zero, List.getElem_cons_succ, Act.put, List.setIfInBounds_toArray, List.set_cons_zero, List.set_cons_succ]
        refine wpAnyH_take (i := 4) (v := ?vb5) rfl (by kernel_rfl) (by kernel_rfl) (by kernel_rfl) (fun _ _ _ h => h) (Or.inl ⟨by rfl, ?hyb5⟩) (by assumption) ?restb5
        case hyb5 => (intro W9 hSw; (try dsimp only at hSw); go_simp; try with_reducible rfl)
        try simp only [List.getElem_toArray, List.getElem_cons_zero, List.getElem_cons_succ, Act.put, List.setIfInBounds_toArray, List.set_cons_zero, List.set_cons_succ]
        refine wpAnyH_take (i := 6) (v := ?vb6) rfl (by kernel_rfl) (by kernel_rfl) (by kernel_rfl) (fun _ _ _ h => h) (Or.inl ⟨by rfl, ?hyb6⟩) (by assumption) ?restb6
        case hyb6 => (intro W9 hSw; (try dsimp only at hSw); go_simp; try with_reducible rfl)
        try simp only [List.getElem_toArray, List.getElem_cons_zero, List.getElem_cons_succ, Act.put, List.setIfInBounds_toArray, List.set_cons_zero, List.set_cons_succ]
        refine wpAnyH_take (i := 7) (v := ?vb7) rfl (by kernel_rfl) (by kernel_rfl) (by kernel_rfl) (fun _ _ _ h => h) (Or.inl ⟨by rfl, ?hyb7⟩) (by assumption) ?restb7
        case hyb7 => (intro W9 hSw; (try dsimp only at hSw); go_simp; try with_reducible rfl)
        try simp only [List.getElem_toArray, List.getElem_cons_zero, List.getElem_cons_succ, Act.put, List.setIfInBounds_toArray, List.set_cons_zero, List.set_cons_succ]
        refine wpAnyH_take (i := 8) (v := ?vb8) rfl (by kernel_rfl) (by kernel_rfl) (by kernel_rfl) (fun _ _ _ h => h) (Or.inl ⟨by rfl, ?hyb8⟩) (by assumption) ?restb8
        case hyb8 => (intro W9 hSw; (try dsimp only at hSw); go_simp; try with_reducible rfl)
        try simp only [List.getElem_toArray, List.getElem_cons_zero, List.getElem_cons_succ, Act.put, List.setIfInBounds_toArray, List.set_cons_zero, List.set_cons_succ]
        refine wpAnyH_take (i := 9) (v := ?vb9) rfl (by kernel_rfl) (by kernel_rfl) (by kernel_rfl) (fun _ _ _ h => h) (Or.inl ⟨by rfl, ?hyb9⟩) (by assumption) ?restb9
        case hyb9 => (intro W9 hSw; (try dsimp only at hSw); go_simp; try with_reducible rfl)
        try simp only [List.getElem_toArray, List.getElem_cons_zero, List.getElem_cons_succ, Act.put, List.setIfInBounds_toArray, List.set_cons_zero, List.set_cons_succ]
        refine wpAnyH_take (i := 10) (v := ?vb10) rfl (by kernel_rfl) (by kernel_rfl) (by kernel_rfl) (fun _ _ _ h => h) (Or.inl ⟨by rfl, ?hyb10⟩) (by assumption) ?restb10
        case hyb10 => (intro W9 hSw; (try dsimp only at hSw); go_simp; try with_reducible rfl)
        try simp only [List.getElem_toArray, List.getElem_cons_zero, List.getElem_cons_succ, Act.put, List.setIfInBounds_toArray, List.set_cons_zero, List.set_cons_succ]
        refine wpAnyH_ready (rs := [5]) (by kernel_rfl) (by simp) ?_
        refine AllReadyH.cons rfl (fun K hK => ?_) AllReadyH.nil
        go_simp
        refine (rHas_any ao L c e w0 (by omega) (HA.out w0 HW0.out)).mono ?_
        rintro e1 w3 ⟨x, rfl, hx, b3⟩
        have q3 := (b3.cell (p := ⟨ge, oe + pre.length, none⟩) (Nat.lt_of_lt_of_le hge HD0.out.size)).trans hcell0
        have HW3 := Lib.hid (HW0.out.trans (b3.mono HW0.out.size)); have HD3 := Lib.hid (HD0.out.trans (b3.mono HD0.out.size)); have HO3 := Lib.hid (own_below HO0.out b3 (Nat.le_refl _)); have HX := Lib.hid hx
        clear b3 hx
        go_wp2_with fail
        refine hK.out _ _ ?_ (fun hHeld => ?_)
        · exact q3
        clear hK K
        try dsimp only at hHeld
        try simp only [List.getElem_toArray, List.getElem_cons_zero, List.getElem_cons_succ, Act.put, List.setIfInBounds_toArray, List.set_cons_zero, List.set_cons_succ]
        refine wpAnyH_ready (rs := [11]) (by kernel_rfl) (by simp) ?_
        refine AllReadyH.cons rfl (fun K hK => ?_) AllReadyH.nil
        go_simp
        refine (rHas_any bo M d e w3 (by omega) (HB.out w3 HW3.out)).mono ?_
        rintro e2 w5 ⟨y, rfl, hy, b5⟩
        have q5 := (b5.cell (p := ⟨ge, oe + pre.length, none⟩) (Nat.lt_of_lt_of_le hge HD3.out.size)).trans q3
        have HD5 := Lib.hid (HD3.out.trans (b5.mono HD3.out.size)); have HO5 := Lib.hid (own_below HO3.out b5 (Nat.le_refl _))
        have HFE := Lib.hid (HF.out e x y HX.out hy)
        have hb1 : w1.heap.size ≤ w5.heap.size := HD5.out.size
        clear b5 hy
        go_wp2_with fail
        refine hK.out _ _ ?_ (fun hHeld => ?_)
        · exact q5
        clear hK K
        try dsimp only at hHeld
        try simp only [List.getElem_toArray, List.getElem_cons_zero, List.getElem_cons_succ, Act.put, List.setIfInBounds_toArray, List.set_cons_zero, List.set_cons_succ]
        refine wpAnyH_take (i := 12) (v := ?vb11) rfl (by kernel_rfl) (by kernel_rfl) (by kernel_rfl) (fun _ _ _ h => h) (Or.inl ⟨by rfl, ?hyb11⟩) (by assumption) ?restb11
        case hyb11 => (intro W9 hSw; (try dsimp only at hSw); go_simp; try with_reducible rfl)
        try simp only [List.getElem_toArray, List.getElem_cons_zero, List.getElem_cons_succ, Act.put, List.setIfInBounds_toArray, List.set_cons_zero, List.set_cons_succ]
        refine wpAnyH_take (i := 13) (v := ?vb12) rfl (by kernel_rfl) (by kernel_rfl) (by kernel_rfl) (fun _ _ _ h => h) (Or.inl ⟨by rfl, ?hyb12⟩) (by assumption) ?restb12
        case hyb12 => (intro W9 hSw; (try dsimp only at hSw); go_simp; try with_reducible rfl)
        try simp only [List.getElem_toArray, List.getElem_cons_zero, List.getElem_cons_succ, Act.put, List.setIfInBounds_toArray, List.set_cons_zero, List.set_cons_succ]
        refine wpAnyH_done (by kernel_rfl) ?_ _
        clear hHeld
        go_upto_region 10 with fail
        go_cut [75] from 18 to 82 (fun s75 wx => s75 = .bool (f e) ∧ wx = w5)
        case first =>
          rcases hh with rfl | rfl | rfl <;> cases x <;> cases y
          all_goals (go_wp2_with fail; go_meet; exact ⟨by rw [HFE.out]; rfl, rfl⟩)
        case rest =>
          obtain ⟨rfl, rfl⟩ := hcut
          clear HFE
          have hBG := HBG.out
          rw [bothG] at hBG
          generalize hv : f e = fv at *
          cases fv
          · rw [if_neg (by simp)] at hBG
            have HBG2 := Lib.hid hBG
            clear hBG HBG
            go_wp2
            go_roundw
            case rel => exact ⟨pre ++ [e], e' :: rest, _, out, rfl, by simp, Lib.hid (by rw [List.append_assoc]; exact hA2.out), HBG2, Lib.hid ⟨hC.out.1, by have := hC.out.2; simp; omega⟩, HO5, HD5.out⟩
            case measure => simp [intOf]; omega
          · rw [if_pos rfl] at hBG
            have HBG2 := Lib.hid hBG
            clear hBG HBG
            go_wp2_with fail
            refine (rjoin_any _ out w1.heap.size e (e' - 1) _ HO5.out hb1 (by have := hC.out.2; omega) hC.out.1).mono ?_
            rintro e3 w7 ⟨v7, rfl, o7, g7⟩
            have HD7 := Lib.hid (HD5.out.grown g7 hb1 (fun k hk => (HO5.out.lt k hk).1))
            have HO7 := Lib.hid o7
            have HC7 := Lib.hid (joinL_ok (lo := e) (hi := (e' - 1)) hC.out.1 ⟨her.1, by dsimp only; omega, by dsimp only; omega⟩)
            clear o7 g7
            go_wp2
            go_roundw
            case rel => exact ⟨pre ++ [e], e' :: rest, _, _, rfl, by simp, Lib.hid (by rw [List.append_assoc]; exact hA2.out), HBG2, Lib.hid ⟨HC7.out, by rw [List.length_append]; exact Nat.le_trans (joinL_length _ _) (Nat.succ_le_succ hC.out.2)⟩, HO7, HD7.out⟩
            case measure => simp [intOf]; omega
end Go.Proofs.Ytpmcnmlpkpoopaa
