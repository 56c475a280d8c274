/- The reference of charset: Right. -/
import Derived.Test.YtaofhccgdcmojaaGA
namespace Go.Proofs.Ytaofhccgdcmojaa
open Go.RowKit Go.Shelf

set_option maxHeartbeats 2000000 in
theorem rRight_any (ao : Option Addr) (L : List Rg) (cap : Nat) (w : World) (hN : L.length ≤ 1000000) (hR : Rgs w w.heap.size ao L) :
    Calls Try.prog 14 #[.slice ao L.length cap] w fun e w' => ∃ b, e = .returned (.bool b) ∧ (b = true ↔ Canon L) ∧ Below w.heap.size w w' := by
  have HR := Lib.hid hR; clear hR
  go_enter Try.func14, Try.ntmps14
  go_wp2_with fail
  go_loopw [3] (fun i wr => ∃ (pre rest : List Rg), i = .int .i64 pre.length ∧ Hid (pre ++ rest = L) ∧ Hid (Canon pre) ∧ Below w.heap.size w wr) (fun i _ => L.length - (intOf i).toNat)
  case atStart => exact ⟨[], L, rfl, rfl, canon_nil, Below.refl _ _⟩
  case round =>
    obtain ⟨pre, rest, rfl, hA, hC, hb⟩ := hrel
    rcases rest with _ | ⟨⟨x1, x2⟩, rest⟩
    · have hL := hA.out
      rw [List.append_nil] at hL
      subst hL
      go_wp2
      go_ret
      exact ⟨true, rfl, ⟨fun _ => hC.out, fun _ => rfl⟩, hb⟩
    · have hL := hA.out
      have hno : Hid (¬ Canon (pre ++ [(x1, x2)]) → (false = true ↔ Canon L)) := Lib.hid (fun h => ⟨fun h => (by cases h), fun h2 => absurd (canon_pre (pre := pre ++ [(x1, x2)]) (rest := rest) (by rw [List.append_assoc, List.singleton_append, hL]; exact h2)) h⟩)
      obtain ⟨g, o, rfl, hg, p0, p1⟩ := HR.out _ _ _ hL
      have hlt : pre.length < L.length := by rw [← hL]; simp
      have hlz : (pre.length : Int) < (L.length : Int) := by omega
      have q0 := (hb.cell (p := ⟨g, o + pre.length * 2, none⟩) hg).trans p0
      have q1 := (hb.cell (p := ⟨g, o + pre.length * 2 + 1, none⟩) hg).trans p1
      have HL := Lib.hid hL
      dsimp only at q0 q1
      clear p0 p1 hL
      by_cases c1 : x1 < 0
      · have HX := Lib.hid (hno.out (fun h => by have := (canon_app.1 h).2.1; unfold okR at this; dsimp only at this; omega))
        have hd1 : decide (x1 < 0) = true := decide_eq_true c1
        clear hno c1
        generalize L.length = N at *
        go_wp2
        go_quiet (fail)
        rename_i nq
        go_wp2
        go_ret
        exact ⟨false, rfl, HX.out, below_drewN nq hb⟩
      · have hd1 : decide (x1 < 0) = false := decide_eq_false c1
        by_cases c2 : x2 < x1
        · have HX := Lib.hid (hno.out (fun h => by have := (canon_app.1 h).2.1; unfold okR at this; dsimp only at this; omega))
          have hd2 : decide (x2 < x1) = true := decide_eq_true c2
          clear hno c1 c2
          generalize L.length = N at *
          go_wp2
          go_quiet (fail)
          rename_i nq
          go_wp2
          go_ret
          exact ⟨false, rfl, HX.out, below_drewN nq hb⟩
        · have hd2 : decide (x2 < x1) = false := decide_eq_false c2
          by_cases c3 : 1114111 < x2
          · have HX := Lib.hid (hno.out (fun h => by have := (canon_app.1 h).2.1; unfold okR at this; dsimp only at this; omega))
            have hd3 : decide (1114111 < x2) = true := decide_eq_true c3
            clear hno c1 c2 c3
            generalize L.length = N at *
            go_wp2
            go_quiet (fail)
            rename_i nq
            go_wp2
            go_ret
            exact ⟨false, rfl, HX.out, below_drewN nq hb⟩
          · have hd3 : decide (1114111 < x2) = false := decide_eq_false c3
            have hok : okR (x1, x2) := ⟨by dsimp only; omega, by dsimp only; omega, by dsimp only; omega⟩
            have HOK := Lib.hid hok
            clear c1 c2 c3 hok
            rcases List.eq_nil_or_concat pre with rfl | ⟨p', ⟨p1, p2⟩, rfl⟩
            · simp only [List.length_nil, Nat.zero_mul, Nat.add_zero] at q0 q1
              generalize L.length = N at *
              go_wp2
              go_quiet (fail)
              rename_i nq
              go_wp2
              go_roundw
              case rel => exact ⟨[(x1, x2)], rest, rfl, Lib.hid HL.out, Lib.hid (canon_single.2 HOK.out), below_drewN nq hb⟩
              case measure => simp [intOf]; omega
            · rw [List.concat_eq_append] at *
              have hL2 : p' ++ (p1, p2) :: ((x1, x2) :: rest) = L := by rw [← HL.out]; simp
              obtain ⟨g', o', he, hg', r0, r1⟩ := HR.out _ _ _ hL2
              obtain ⟨rfl, rfl⟩ : g = g' ∧ o = o' := by simpa using he
              have s1 := (hb.cell (p := ⟨g, o + p'.length * 2 + 1, none⟩) hg).trans r1
              have hpo := (canon_app.1 hC.out).2.1
              obtain ⟨o1, o2, o3⟩ := hpo
              have hpl : (p' ++ [(p1, p2)]).length = p'.length + 1 := by simp
              have hlt2 : (p'.length : Int) < (L.length : Int) := by omega
              have hgt0 : decide ((0 : Int) < (p'.length : Int) + 1) = true := decide_eq_true (by omega)
              have hnx := @canon_next p' (p1, p2) (x1, x2)
              dsimp only at o1 o2 o3 s1 hnx
              rw [hpl] at hlt q0 q1 hlz
              clear r0 r1 he hL2
              generalize L.length = N at *
              by_cases hfar : p2 + 1 < x1
              · have hdl : decide (x1 ≤ p2 + 1) = false := decide_eq_false (by omega)
                have HX := Lib.hid (hnx.2 ⟨hC.out, HOK.out, hfar⟩)
                clear hnx hfar
                go_wp2
                go_quiet (fail)
                rename_i nq
                go_wp2
                go_roundw
                case rel => exact ⟨p' ++ [(p1, p2)] ++ [(x1, x2)], rest, by simp; omega, Lib.hid (by rw [List.append_assoc (p' ++ [(p1, p2)])]; exact HL.out), HX, below_drewN nq hb⟩
                case measure => simp [intOf]; omega
              · have hdl : decide (x1 ≤ p2 + 1) = true := decide_eq_true (by omega)
                have HX := Lib.hid (hno.out (fun h => hfar (hnx.1 h).2.2))
                clear hnx hfar
                go_wp2
                go_quiet (fail)
                rename_i nq
                go_wp2
                go_ret
                exact ⟨false, rfl, HX.out, below_drewN nq hb⟩
end Go.Proofs.Ytaofhccgdcmojaa
