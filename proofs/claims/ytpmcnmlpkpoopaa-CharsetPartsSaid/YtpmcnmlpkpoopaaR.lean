/- charset.Right: any list of ranges. -/
import Derived.Test.YtpmcnmlpkpoopaaE
import Derived.Deep.RegionHeld3
namespace Go.Proofs.Ytpmcnmlpkpoopaa
open Go.RowKit

set_option maxHeartbeats 4000000 in
set_option maxRecDepth 100000 in
theorem Right_any (ao : Option Addr) (L : List Rg) (cap : Nat) (w : World) (hN : L.length ≤ 1000000) (hR : Rgs w w.heap.size ao L) :
    Calls Try.prog 13 #[.slice ao L.length cap] w fun e w' => ∃ b, e = .returned (.bool b) ∧ (b = true ↔ Canon L) ∧ Below w.heap.size w w' := by
  have HR := Lib.hid hR; clear hR
  go_enter Try.func13, Try.ntmps13
  go_wp2_with fail
  go_loopw [7] (fun i wr => ∃ (pre rest : List Rg), i = .int .i64 pre.length ∧ Hid (pre ++ rest = L) ∧ Hid (Canon pre) ∧ Below w.heap.size w wr) (fun i _ => L.length - (intOf i).toNat)
  case atStart => exact ⟨[], L, rfl, rfl, canon_nil, Below.refl _ _⟩
  case round =>
    obtain ⟨pre, rest, rfl, hA, hC, hb⟩ := hrel
    rcases rest with _ | ⟨⟨x1, x2⟩, rest⟩
    · have hL := hA.out
      rw [List.append_nil] at hL
      subst hL
      go_wp2
      go_ret
      exact ⟨true, rfl, ⟨fun _ => hC.out, fun _ => rfl⟩, hb⟩
    · have hL := hA.out
      have hno : Hid (¬ Canon (pre ++ [(x1, x2)]) → (false = true ↔ Canon L)) := Lib.hid (fun h => ⟨fun h => (by cases h), fun h2 => absurd (canon_pre (pre := pre ++ [(x1, x2)]) (rest := rest) (by rw [List.append_assoc, List.singleton_append, hL]; exact h2)) h⟩)
      obtain ⟨g, o, rfl, hg, p0, p1⟩ := HR.out _ _ _ hL
      have hlt : pre.length < L.length := by rw [← hL]; simp
      have q0 := (hb.cell (p := ⟨g, o + pre.length * 2, none⟩) hg).trans p0
      have q1 := (hb.cell (p := ⟨g, o + pre.length * 2 + 1, none⟩) hg).trans p1
      have y1 := RgAt.new wr (x1, x2)
      have hb1 := hb.alloc hb.size (.cells #[.int .i32 x1, .int .i32 x2] 41)
      have hz1 : (wr.alloc (.cells #[.int .i32 x1, .int .i32 x2] 41)).heap.size = wr.heap.size + 1 := by simp
      have hsz := hb.size
      have E1 := rg_guard
      clear p0 p1
      by_cases hgt : x2 < x1
      · have HX := Lib.hid (hno.out (fun h => by have := (canon_app.1 h).2.1; unfold okR at this; dsimp only at this; omega))
        have hd : decide (x2 < x1) = true := decide_eq_true hgt
        have d0 := y1.c0; have d1 := y1.c1
        clear hgt hno hL y1
        dsimp only at d0 d1
        generalize L.length = N at *
        go_wp2
        go_quiet (fail)
        rename_i nq
        go_wp2
        go_ret
        exact ⟨false, rfl, HX.out, below_drewN nq hb1⟩
      · have hd : decide (x2 < x1) = false := decide_eq_false hgt
        have hle : (x1, x2).1 ≤ (x1, x2).2 := by dsimp only; omega
        have hcs := clip_same hle
        obtain ⟨c, hc⟩ : ∃ c, clipR (x1, x2) = c := ⟨_, rfl⟩
        have E2 : ∀ w, (Op.equalIn 10000 41 (.agg #[.int .i32 c.1, .int .i32 c.2]) (.agg #[.int .i32 x1, .int .i32 x2])).run Try.prog w = .ok (decide (c = (x1, x2))) w := fun w => rg_equal 9998 c (x1, x2) w
        have hcl := fun w => clip_any (x1, x2) w
        rw [hc] at hcl hcs
        have HL := Lib.hid hL
        have d0 := y1.c0; have d1 := y1.c1
        clear hc hgt hle hL
        dsimp only at d0 d1
        generalize L.length = N at *
        go_wp2_with fail
        have hlt1 : wr.heap.size < (wr.alloc (.cells #[.int .i32 x1, .int .i32 x2] 41)).drew.heap.size := by show wr.heap.size < (wr.alloc (.cells #[.int .i32 x1, .int .i32 x2] 41)).heap.size; omega
        have hle1 : w.heap.size ≤ (wr.alloc (.cells #[.int .i32 x1, .int .i32 x2] 41)).drew.heap.size := by omega
        have y1 : RgAt (wr.alloc (.cells #[.int .i32 x1, .int .i32 x2] 41)).drew wr.heap.size (x1, x2) := y1
        have B1 : Below w.heap.size w (wr.alloc (.cells #[.int .i32 x1, .int .i32 x2] 41)).drew := hb1.drew
        have e0 := y1.c0; have e1 := y1.c1
        dsimp only at e0 e1
        clear hb1
        generalize hb2 : wr.heap.size = b at *
        generalize hw2 : w.heap.size = hw at *
        go_region_held3 (fun w' => w'.cell? ⟨b, 0, none⟩ = some (.int .i32 x1) ∧ w'.cell? ⟨b, 1, none⟩ = some (.int .i32 x2) ∧ Below hw w w') (first | exact ⟨e0, e1, B1⟩ | exact ⟨f0, f1, B2⟩ | (go_keep))
          (first | (go_at_call 31; refine (hcl _).mono ?_; rintro e w2 ⟨rfl, b2⟩; have y2 := y1.below b2 hlt1; have B2 := B1.trans (b2.mono hle1); have f0 := y2.c0; have f1 := y2.c1))
        subst hb2; subst hw2
        rename_i hHeld
        clear hHeld e0 e1 B1 y1 hle1 hlt1 b2 d0 d1 hz1 q0 q1 E2 hcl hb
        have hb2s := B2.size
        by_cases hcx : c = (x1, x2)
        · have hokx := hcs.1 hcx
          rw [decide_eq_true hcx]
          have HOK := Lib.hid hokx
          clear hcx hcs hokx
          rcases List.eq_nil_or_concat pre with rfl | ⟨p', ⟨p1, p2⟩, rfl⟩
          · go_wp2
            go_quiet (fail)
            rename_i nq
            go_wp2
            go_roundw
            case rel => exact ⟨[(x1, x2)], rest, rfl, Lib.hid HL.out, Lib.hid (canon_single.2 HOK.out), below_drewN nq B2⟩
            case measure => simp [intOf]; omega
          · rw [List.concat_eq_append] at *
            have hL := HL.out
            have hL2 : p' ++ (p1, p2) :: ((x1, x2) :: rest) = L := by rw [← hL]; simp
            obtain ⟨g', o', he, hg', r0, r1⟩ := HR.out _ _ _ hL2
            obtain ⟨rfl, rfl⟩ : g = g' ∧ o = o' := by simpa using he
            have s1 := (B2.cell (p := ⟨g, o + p'.length * 2 + 1, none⟩) hg).trans r1
            have hpo := (canon_app.1 hC.out).2.1
            obtain ⟨o1, o2, o3⟩ := hpo
            have hpl : (p' ++ [(p1, p2)]).length = p'.length + 1 := by simp
            have hlt2 : (p'.length : Int) < (N : Int) := by omega
            have hgt0 : decide ((0 : Int) < (p'.length : Int) + 1) = true := decide_eq_true (by omega)
            have hnx := @canon_next p' (p1, p2) (x1, x2)
            dsimp only at o1 o2 o3 s1 hnx
            clear r0 r1 he hL hL2
            by_cases hfar : p2 + 1 < x1
            · have hdl : decide (x1 ≤ p2 + 1) = false := decide_eq_false (by omega)
              have HX := Lib.hid (hnx.2 ⟨hC.out, HOK.out, hfar⟩)
              clear hnx hfar
              go_wp2
              go_quiet (fail)
              rename_i nq
              go_wp2
              go_roundw
              case rel => exact ⟨p' ++ [(p1, p2)] ++ [(x1, x2)], rest, by simp; omega, Lib.hid (by rw [List.append_assoc (p' ++ [(p1, p2)])]; exact HL.out), HX, below_drewN nq B2⟩
              case measure => simp [intOf]; omega
            · have hdl : decide (x1 ≤ p2 + 1) = true := decide_eq_true (by omega)
              have HX := Lib.hid (hno.out (fun h => hfar (hnx.1 h).2.2))
              clear hnx hfar
              go_wp2
              go_quiet (fail)
              rename_i nq
              go_wp2
              go_ret
              exact ⟨false, rfl, HX.out, below_drewN nq B2⟩
        · have HX := Lib.hid (hno.out (fun h => hcx (hcs.2 (canon_app.1 h).2.1)))
          rw [decide_eq_false hcx]
          clear hcx hcs
          go_wp2
          go_ret
          exact ⟨false, rfl, HX.out, B2⟩
end Go.Proofs.Ytpmcnmlpkpoopaa
