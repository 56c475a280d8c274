/- The reference's Same: two lists of ranges. -/
import Derived.Test.YtpmcnmlpkpoopaaD
import Derived.Laws.StructEq
namespace Go.Proofs.Ytpmcnmlpkpoopaa
open Go.RowKit

theorem rg_guard : Try.prog.eqGuardType Try.prog.depth 41 = false := by kernel_rfl
theorem rg_struct : Try.prog.underlying 41 = some (.struct (Try.prog.fieldsOf 41)) := by kernel_rfl
theorem rg_stood : Try.prog.stoodInHeld 41 = false := by kernel_rfl
theorem rg_equal (d : Nat) (x y : Rg) (w : World) : (Op.equalIn (d + 1 + 1) 41 (rgV x) (rgV y)).run Try.prog w = .ok (decide (x = y)) w := by
  obtain ⟨x1, x2⟩ := x
  obtain ⟨y1, y2⟩ := y
  have u3 := Try.underlying21
  have a3 := Try.isAgg21
  have z3 := Try.sizeOf21
  rw [run_equalIn_agg w (d + 1) 41 _ _ rg_struct rg_stood]
  simp only [Program.fieldsOf, Try.underlying41]
  go_simp
  by_cases h1 : x1 = y1 <;> by_cases h2 : x2 = y2 <;> simp [h1, h2]
theorem rg_neq (x y : Rg) (w : World) : (binOp .neq 41 (rgV x) (rgV y)).run Try.prog w = .ok (.bool (!decide (x = y))) w := by
  rw [run_neq_struct, rg_equal 9998]; rfl
theorem rg_eql (x y : Rg) (w : World) : (binOp .eql 41 (rgV x) (rgV y)).run Try.prog w = .ok (.bool (decide (x = y))) w := by
  rw [run_eql_struct, rg_equal 9998]; rfl
theorem below_drewN {B : Nat} {w W : World} (n : Nat) (h : Below B w W) : Below B w (W.drewN n) := ⟨h.os, h.tape, h.output, h.size, h.block⟩
set_option maxHeartbeats 4000000 in
set_option maxRecDepth 100000 in
theorem Same_any (ao bo : Option Addr) (L M : List Rg) (c d : Nat) (w : World) (hN : L.length ≤ 1000000) (hL : Rgs w w.heap.size ao L) (hM : Rgs w w.heap.size bo M) :
    Calls Try.prog 11 #[.slice ao L.length c, .slice bo M.length d] w fun e w' => e = .returned (.bool (decide (L = M))) ∧ Below w.heap.size w w' := by
  by_cases hlen : L.length = M.length
  · have HL := Lib.hid hL; have HM := Lib.hid hM; clear hL hM
    rw [← hlen]
    have HE := Lib.hid hlen; clear hlen
    go_enter Try.func11, Try.ntmps11
    go_wp2_with fail
    go_loopw [5] (fun i wr => ∃ (pre l m : List Rg), i = .int .i64 pre.length ∧ Hid (pre ++ l = L) ∧ Hid (pre ++ m = M) ∧ Below w.heap.size w wr) (fun i _ => L.length - (intOf i).toNat)
    case atStart => exact ⟨[], L, M, rfl, rfl, rfl, Below.refl _ _⟩
    case round =>
      obtain ⟨pre, l, m, rfl, hA, hB, hb⟩ := hrel
      rcases l with _ | ⟨⟨x1, x2⟩, l⟩
      · have e1 := hA.out
        rw [List.append_nil] at e1
        have e2 : m = [] := by
          have := congrArg List.length hB.out
          have h := HE.out
          rw [← e1] at h
          rw [List.length_append] at this
          exact List.eq_nil_of_length_eq_zero (by omega)
        subst e2
        have e3 := hB.out
        rw [List.append_nil] at e3
        have HX : Hid (L = M) := Lib.hid (e1.symm.trans e3)
        subst e1
        go_wp2
        go_ret
        exact ⟨rb (decide_eq_true HX.out).symm, hb⟩
      · rcases m with _ | ⟨⟨y1, y2⟩, m⟩
        · exfalso
          have h1 := congrArg List.length hA.out
          have h2 := congrArg List.length hB.out
          have h := HE.out
          simp at h1 h2
          omega
        · have e1 := hA.out
          have e2 := hB.out
          obtain ⟨g, o, rfl, hg, p0, p1⟩ := HL.out _ _ _ e1
          obtain ⟨g2, o2, rfl, hg2, r0, r1⟩ := HM.out _ _ _ e2
          have hlt : pre.length < L.length := by rw [← e1]; simp
          have q0 := (hb.cell (p := ⟨g, o + pre.length * 2, none⟩) hg).trans p0
          have q1 := (hb.cell (p := ⟨g, o + pre.length * 2 + 1, none⟩) hg).trans p1
          have s0 := (hb.cell (p := ⟨g2, o2 + pre.length * 2, none⟩) hg2).trans r0
          have s1 := (hb.cell (p := ⟨g2, o2 + pre.length * 2 + 1, none⟩) hg2).trans r1
          have hlt2 : (pre.length : Int) < (L.length : Int) := by omega
          have hne : Hid ((x1, x2) ≠ (y1, y2) → ¬ L = M) := Lib.hid (fun h e => by
            have e1' := e1
            rw [e, ← e2] at e1'
            exact h (List.cons.inj (List.append_cancel_left e1')).1)
          clear p0 p1 r0 r1 e1 e2
          dsimp only at q0 q1 s0 s1
          have E1 := rg_guard
          have E2 : ∀ w, (Op.equalIn 10000 41 (.agg #[.int .i32 x1, .int .i32 x2]) (.agg #[.int .i32 y1, .int .i32 y2])).run Try.prog w = .ok (decide ((x1, x2) = (y1, y2))) w := fun w => rg_equal 9998 (x1, x2) (y1, y2) w
          generalize L.length = N at *
          by_cases hxy : (x1, x2) = (y1, y2)
          · have HX := Lib.hid hxy
            rw [decide_eq_true hxy] at E2
            have hB' : Hid (pre ++ (x1, x2) :: m = M) := Lib.hid (by rw [hxy]; exact hB.out)
            clear hxy hne hB
            go_wp2
            go_quiet (fail)
            rename_i nq
            go_wp2
            go_roundw
            case rel => exact ⟨pre ++ [(x1, x2)], l, m, by simp, Lib.hid (by rw [List.append_assoc]; exact hA.out), Lib.hid (by rw [List.append_assoc]; exact hB'.out), below_drewN nq hb⟩
            case measure => simp [intOf]; omega
          · have HX := Lib.hid (hne.out hxy)
            rw [decide_eq_false hxy] at E2
            clear hxy hne
            go_wp2
            go_quiet (fail)
            rename_i nq
            go_wp2
            go_ret
            exact ⟨rb (decide_eq_false HX.out).symm, below_drewN nq hb⟩
  · have hne : ((L.length : Int) != (M.length : Int)) = true := by rw [bne_iff_ne]; omega
    have HX : Hid (¬ L = M) := Lib.hid (fun e => hlen (by rw [e]))
    clear hL hM
    go_enter Try.func11, Try.ntmps11
    go_wp2
    go_ret
    exact ⟨rb (decide_eq_false HX.out).symm, Below.refl _ _⟩

/-- charset.Right: it tells canonical lists. -/
theorem canon_pre {pre rest : List Rg} (h : Canon (pre ++ rest)) : Canon pre := ⟨(List.pairwise_append.1 h.1).1, fun q hq => h.2 q (List.mem_append_left _ hq)⟩
theorem canon_next {pre : List Rg} {p x : Rg} : Canon (pre ++ [p] ++ [x]) ↔ Canon (pre ++ [p]) ∧ okR x ∧ p.2 + 1 < x.1 := by
  rw [canon_app]
  constructor
  · rintro ⟨h1, h2, h3⟩
    exact ⟨h1, h2, h3 p (by simp)⟩
  · rintro ⟨h1, h2, h3⟩
    exact ⟨h1, h2, apart_last h1 h3⟩
theorem canon_single {x : Rg} : Canon [x] ↔ okR x := by
  rw [show [x] = [] ++ [x] from rfl, canon_app]
  exact ⟨fun h => h.2.1, fun h => ⟨canon_nil, h, fun q hq => by cases hq⟩⟩
theorem clip_same {x : Rg} (h : x.1 ≤ x.2) : clipR x = x ↔ okR x := by
  obtain ⟨a, b⟩ := x
  unfold clipR ovR okR
  simp only [Prod.mk.injEq] at *
  omega
end Go.Proofs.Ytpmcnmlpkpoopaa
