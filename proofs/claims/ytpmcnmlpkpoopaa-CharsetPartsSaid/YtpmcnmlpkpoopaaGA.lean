/- The reference of charset: cut, Has. -/
import Derived.Test.YtpmcnmlpkpoopaaRO
namespace Go.Proofs.Ytpmcnmlpkpoopaa
open Go.RowKit Go.Shelf

theorem rg_new3b (w : World) (a b c : Rg) :
    Below w.heap.size w (((w.alloc (.cells #[.int .i32 a.1, .int .i32 a.2] 41)).alloc (.cells #[.int .i32 b.1, .int .i32 b.2] 41)).alloc (.cells #[.int .i32 c.1, .int .i32 c.2] 41)) ∧
    (∀ j, (((w.alloc (.cells #[.int .i32 a.1, .int .i32 a.2] 41)).alloc (.cells #[.int .i32 b.1, .int .i32 b.2] 41)).alloc (.cells #[.int .i32 c.1, .int .i32 c.2] 41)).frozen? ⟨w.heap.size + 1, j, none⟩ = false) ∧
    RgAt (((w.alloc (.cells #[.int .i32 a.1, .int .i32 a.2] 41)).alloc (.cells #[.int .i32 b.1, .int .i32 b.2] 41)).alloc (.cells #[.int .i32 c.1, .int .i32 c.2] 41)) w.heap.size a ∧
    RgAt (((w.alloc (.cells #[.int .i32 a.1, .int .i32 a.2] 41)).alloc (.cells #[.int .i32 b.1, .int .i32 b.2] 41)).alloc (.cells #[.int .i32 c.1, .int .i32 c.2] 41)) (w.heap.size + 1) b ∧
    RgAt (((w.alloc (.cells #[.int .i32 a.1, .int .i32 a.2] 41)).alloc (.cells #[.int .i32 b.1, .int .i32 b.2] 41)).alloc (.cells #[.int .i32 c.1, .int .i32 c.2] 41)) (w.heap.size + 2) c := by
  obtain ⟨x1, x2, hz, bl⟩ := rg_new2 w a b
  have y := RgAt.new ((w.alloc (.cells #[.int .i32 a.1, .int .i32 a.2] 41)).alloc (.cells #[.int .i32 b.1, .int .i32 b.2] 41)) c
  rw [hz] at y
  exact ⟨bl.alloc bl.size _, fun j => (x2.alloc _).fr j, x1.alloc _, x2.alloc _, y⟩
set_option maxHeartbeats 1000000 in
theorem rcut_any (r : Rg) (w : World) :
    Calls Try.prog 42 #[rgV r] w fun e w' => e = .returned (.tuple #[rgV (clipR r), .bool (decide ((clipR r).1 ≤ (clipR r).2))]) ∧ Below w.heap.size w w' := by
  obtain ⟨a1, a2⟩ := r
  rw [show clipR (a1, a2) = (max a1 0, min a2 1114111) from rfl]
  obtain ⟨_, _, c0, c1, c2⟩ := rg_new3b w (a1, a2) (0, 0) (max a1 0, min a2 1114111)
  obtain ⟨B, _, d0, d1, d2⟩ := rg_new3b w (a1, a2) (max a1 0, min a2 1114111) (max a1 0, min a2 1114111)
  have e0 := c0.c0; have e1 := c0.c1; have e2 := c2.c0; have e3 := c2.c1; have e4 := c1.c0; have e5 := c1.c1; have f0 := c1.fr 0; have f1 := c1.fr 1
  have g0 := d1.c0; have g1 := d1.c1
  dsimp only at B e0 e1 e2 e3 e4 e5 g0 g1
  clear c0 c1 c2 d0 d1 d2
  go_enter Try.func42, Try.ntmps42
  go_wp2_with fail
  go_region
  go_wp2
  refine bodyPost_ret (v := .tuple #[rgV (max a1 0, min a2 1114111), .bool (decide (max a1 0 ≤ min a2 1114111))]) ?_ rfl ⟨rfl, B.os, B.tape, B.output, B.size, B.block⟩
  simp [results, Try.f42, go_sem, g0, g1]

/-- The reference's Has. -/
theorem rhas_cons (x : Rg) (L : List Rg) (r : Int) : inU (x :: L) r ↔ ((clipR x).1 ≤ r ∧ r ≤ (clipR x).2) ∨ inU L r := by
  unfold inU clipR ovR
  rw [inS_cons]
  unfold inR
  dsimp only
  constructor
  · rintro ⟨h, h1 | h1⟩
    · exact .inl (by omega)
    · exact .inr ⟨h, h1⟩
  · rintro (h | ⟨h, h1⟩)
    · exact ⟨by omega, .inl (by omega)⟩
    · exact ⟨h, .inr h1⟩
set_option maxHeartbeats 1000000 in
theorem rHas_any (ao : Option Addr) (L : List Rg) (cap : Nat) (r : Int) (w : World) (hN : L.length ≤ 1000000) (hR : Rgs w w.heap.size ao L) :
    Calls Try.prog 18 #[.slice ao L.length cap, .int .i32 r] w fun e w' => ∃ b, e = .returned (.bool b) ∧ (b = true ↔ inU L r) ∧ Below w.heap.size w w' := by
  have HR := Lib.hid hR; clear hR
  go_enter Try.func18, Try.ntmps18
  go_wp2_with fail
  go_loopw [5] (fun i wr => ∃ (pre rest : List Rg), i = .int .i64 pre.length ∧ Hid (pre ++ rest = L) ∧ Hid (∀ q ∈ pre, ¬ ((clipR q).1 ≤ r ∧ r ≤ (clipR q).2)) ∧ Below w.heap.size w wr) (fun i _ => L.length - (intOf i).toNat)
  case atStart => exact ⟨[], L, rfl, rfl, Lib.hid (by simp), Below.refl _ _⟩
  case round =>
    obtain ⟨pre, rest, rfl, hA, hD, hb⟩ := hrel
    have hno : ∀ (P : List Rg) (Q : List Rg), (∀ q ∈ P, ¬ ((clipR q).1 ≤ r ∧ r ≤ (clipR q).2)) → (inU (P ++ Q) r ↔ inU Q r) := fun P Q h => by
      induction P with
      | nil => rfl
      | cons p P ih =>
        rw [List.cons_append, rhas_cons, ih (fun q hq => h q (List.mem_cons_of_mem _ hq))]
        have := h p List.mem_cons_self
        simp [this]
    rcases rest with _ | ⟨⟨x1, x2⟩, rest⟩
    · have e1 := hA.out
      rw [List.append_nil] at e1
      subst e1
      have hf : ¬ inU pre r := by
        have := hno pre [] hD.out
        rw [List.append_nil] at this
        rw [this]
        exact fun h => inS_nil r h.2
      have HF := Lib.hid hf
      clear hf hno hA hD
      go_wp2
      go_ret
      exact ⟨false, rfl, by simp [HF.out], hb⟩
    · have hlt : pre.length < L.length := by rw [← hA.out]; simp
      obtain ⟨g, o, rfl, hg, p0, p1⟩ := HR.out _ _ _ hA.out
      have q0 := (hb.cell (p := ⟨g, o + pre.length * 2, none⟩) hg).trans p0
      have q1 := (hb.cell (p := ⟨g, o + pre.length * 2 + 1, none⟩) hg).trans p1
      have hin : inU L r ↔ ((clipR (x1, x2)).1 ≤ r ∧ r ≤ (clipR (x1, x2)).2) ∨ inU rest r := by rw [← hA.out, hno _ _ hD.out, rhas_cons]
      have HIN := Lib.hid hin
      dsimp only at q0 q1
      clear hin hno p0 p1
      go_wp2_with fail
      refine (rcut_any (x1, x2) wr).mono ?_
      rintro e w1 ⟨rfl, b1⟩
      have B1 := hb.trans (b1.mono hb.size)
      generalize hcc : clipR (x1, x2) = cc at *
      obtain ⟨c1, c2⟩ := cc
      have y := RgAt.new w1 (c1, c2)
      have d0 := y.c0; have d1 := y.c1
      have B2 := B1.alloc B1.size (.cells #[.int .i32 c1, .int .i32 c2] 41)
      have HCC := Lib.hid hcc
      dsimp only at d0 d1
      clear y hcc b1 B1 hb q0 q1
      by_cases h1 : c1 ≤ r
      · by_cases h2 : r ≤ c2
        · have h3 : c1 ≤ c2 := by omega
          go_wp2
          go_ret
          exact ⟨true, rfl, by simp only [true_iff]; exact HIN.out.2 (.inl ⟨h1, h2⟩), B2⟩
        · have HD : Hid (∀ q ∈ pre ++ [(x1, x2)], ¬ ((clipR q).1 ≤ r ∧ r ≤ (clipR q).2)) := Lib.hid (fun q hq => by
            rcases List.mem_append.1 hq with hq | hq
            · exact hD.out q hq
            · rw [List.mem_singleton.1 hq, HCC.out]
              exact fun h => h2 h.2)
          clear hD
          by_cases h3 : c1 ≤ c2
          · go_wp2
            go_roundw
            case rel => exact ⟨pre ++ [(x1, x2)], rest, by simp, Lib.hid (by rw [List.append_assoc]; exact hA.out), HD, B2⟩
            case measure => simp [intOf]; omega
          · go_wp2
            go_roundw
            case rel => exact ⟨pre ++ [(x1, x2)], rest, by simp, Lib.hid (by rw [List.append_assoc]; exact hA.out), HD, B2⟩
            case measure => simp [intOf]; omega
      · have HD : Hid (∀ q ∈ pre ++ [(x1, x2)], ¬ ((clipR q).1 ≤ r ∧ r ≤ (clipR q).2)) := Lib.hid (fun q hq => by
          rcases List.mem_append.1 hq with hq | hq
          · exact hD.out q hq
          · rw [List.mem_singleton.1 hq, HCC.out]
            exact fun h => h1 h.1)
        clear hD
        by_cases h3 : c1 ≤ c2
        · go_wp2
          go_roundw
          case rel => exact ⟨pre ++ [(x1, x2)], rest, by simp, Lib.hid (by rw [List.append_assoc]; exact hA.out), HD, B2⟩
          case measure => simp [intOf]; omega
        · go_wp2
          go_roundw
          case rel => exact ⟨pre ++ [(x1, x2)], rest, by simp, Lib.hid (by rw [List.append_assoc]; exact hA.out), HD, B2⟩
          case measure => simp [intOf]; omega
end Go.Proofs.Ytpmcnmlpkpoopaa
