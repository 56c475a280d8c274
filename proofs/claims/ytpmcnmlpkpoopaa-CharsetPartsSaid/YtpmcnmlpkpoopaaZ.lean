/- The charset laws' knows: it answers true. -/
import Derived.Test.YtpmcnmlpkpoopaaY
import Derived.Test.YtpmcnmlpkpoopaaE
namespace Go.Proofs.Ytpmcnmlpkpoopaa
open Go.RowKit Go.Shelf

theorem parts_known : partsL (pcsAll ([[((97 : Int), (99 : Int))], [(99, 99)]].length + 1) [[(97, 99)], [(99, 99)]]) = [[(97, 98)], [(99, 99)], [(0, 96), (100, 1114111)]] := by
  have e1 : canF [(97, 99)] = [(97, 99)] := canF_eq (isOf_self (canon_single.2 ⟨by decide, by decide, by decide⟩))
  have e2 : canF [(99, 99)] = [(99, 99)] := canF_eq (isOf_self (canon_single.2 ⟨by decide, by decide, by decide⟩))
  have e3 : pieces1 [(97, 99)] = [((0, 96), 0), ((97, 99), 1), ((100, 1114111), 0)] := by unfold pieces1; rw [e1]; rfl
  have e4 : pieces1 [(99, 99)] = [((0, 98), 0), ((99, 99), 1), ((100, 1114111), 0)] := by unfold pieces1; rw [e2]; rfl
  have e5 : pcsAll ([[((97 : Int), (99 : Int))], [(99, 99)]].length + 1) [[(97, 99)], [(99, 99)]] = combineL (pieces1 [(97, 99)]) (pieces1 [(99, 99)]) := rfl
  rw [e5, e3, e4]
  decide
theorem of_known {l : List Rg} (h : IsOf [(98, 101), (97, 99)] l) : l = [(97, 101)] := by
  refine isOf_one h ⟨canon_single.2 ⟨by decide, by decide, by decide⟩, fun x => ?_⟩
  have hn := inS_nil x
  simp only [inU, inS_cons, inR, hn, or_false]
  omega
theorem rgs_new1 (W : World) (r : Rg) (c : Nat) (h : W.heap.size = c) : Rgs (W.alloc (.cells #[.int .i32 r.1, .int .i32 r.2] 41)) (c + 1) (some ⟨c, 0, none⟩) [r] := by
  subst h
  intro pre x rest e
  have y := RgAt.new W r
  match pre, e with
  | [], e =>
    injection e with e _
    subst e
    exact ⟨_, 0, rfl, by omega, by simp [y.c0], by simp [y.c1]⟩
  | p :: pre, e => simp at e
theorem rgs_new2 (W : World) (r q : Rg) (c : Nat) (h : W.heap.size = c) : Rgs (W.alloc (.cells #[.int .i32 r.1, .int .i32 r.2, .int .i32 q.1, .int .i32 q.2] 41)) (c + 1) (some ⟨c, 0, none⟩) [r, q] := by
  subst h
  intro pre x rest e
  have y := World.alloc_heap_new W (.cells #[.int .i32 r.1, .int .i32 r.2, .int .i32 q.1, .int .i32 q.2] 41)
  match pre, e with
  | [], e =>
    injection e with e _
    subst e
    exact ⟨_, 0, rfl, by omega, by rw [Lib.cell_of_heap y]; rfl, by rw [Lib.cell_of_heap y]; rfl⟩
  | [p], e =>
    injection e with _ e
    injection e with e _
    subst e
    exact ⟨_, 0, rfl, by omega, by rw [Lib.cell_of_heap y]; rfl, by rw [Lib.cell_of_heap y]; rfl⟩
  | p :: p' :: pre, e => simp at e
theorem sts_new2 (W : World) {a b : Option Addr} {L M : List Rg} {ca cb B c : Nat} (h : W.heap.size = c) (ha : Rgs W B a L) (hb : Rgs W B b M) (hB : B ≤ c) : Sts (W.alloc (.cells #[.slice a L.length ca, .slice b M.length cb] 24)) (c + 1) (some ⟨c, 0, none⟩) [L, M] := by
  subst h
  intro pre x rest e
  have y := World.alloc_heap_new W (.cells #[.slice a L.length ca, .slice b M.length cb] 24)
  have bl := (Below.refl W.heap.size W).alloc (Nat.le_refl _) (.cells #[.slice a L.length ca, .slice b M.length cb] 24)
  match pre, e with
  | [], e =>
    injection e with e _
    subst e
    exact ⟨_, 0, a, ca, rfl, by omega, by rw [Lib.cell_of_heap y]; rfl, (ha.below bl hB).mono (by omega)⟩
  | [p], e =>
    injection e with _ e
    injection e with e _
    subst e
    exact ⟨_, 0, b, cb, rfl, by omega, by rw [Lib.cell_of_heap y]; rfl, (hb.below bl hB).mono (by omega)⟩
  | p :: p' :: pre, e => simp at e
theorem known_start (w : World) : ∃ W : World, ((w.alloc (.cells #[.int .i32 97, .int .i32 99] 41)).alloc (.cells #[.int .i32 99, .int .i32 99] 41)).alloc (.cells #[.slice (some ⟨w.heap.size, 0, none⟩) 1 1, .slice (some ⟨w.heap.size + 1, 0, none⟩) 1 1] 24) = W ∧
    W.heap.size = w.heap.size + 3 ∧ Below w.heap.size w W ∧ Rgs W W.heap.size (some ⟨w.heap.size + 1, 0, none⟩) [(99, 99)] ∧ Sts W W.heap.size (some ⟨w.heap.size + 2, 0, none⟩) [[(97, 99)], [(99, 99)]] := by
  refine ⟨_, rfl, by simp, (((Below.refl w.heap.size w).alloc (Nat.le_refl _) _).alloc (by simp) _).alloc (by simp; omega) _, ?_, ?_⟩
  · have h := rgs_new1 (w.alloc (.cells #[.int .i32 97, .int .i32 99] 41)) (99, 99) (w.heap.size + 1) (by simp)
    refine (h.below ((Below.refl (w.heap.size + 2) _).alloc (by simp) _) (Nat.le_refl _)).mono (by simp)
  · have h1 := rgs_new1 (w.alloc (.cells #[.int .i32 97, .int .i32 99] 41)) (99, 99) (w.heap.size + 1) (by simp)
    have h0 := ((rgs_new1 w (97, 99) w.heap.size rfl).below ((Below.refl (w.heap.size + 1) _).alloc (by simp) (.cells #[.int .i32 99, .int .i32 99] 41)) (Nat.le_refl _)).mono (Nat.le_succ _)
    have h := sts_new2 _ (ca := 1) (cb := 1) (c := w.heap.size + 2) (by simp) h0 h1 (Nat.le_refl _)
    exact h.mono (by simp)

theorem same1 (a : Option Addr) (r : Rg) (c : Nat) (w : World) (hR : Rgs w w.heap.size a [r]) :
    Calls Try.prog 11 #[.slice a 1 c, .slice (some ⟨w.heap.size, 0, none⟩) 1 1] (w.alloc (.cells #[.int .i32 r.1, .int .i32 r.2] 41)) fun e w' => e = .returned (.bool true) ∧ Below w.heap.size w w' := by
  have bl := (Below.refl w.heap.size w).alloc (Nat.le_refl _) (.cells #[.int .i32 r.1, .int .i32 r.2] 41)
  refine (Same_any a (some ⟨w.heap.size, 0, none⟩) [r] [r] c 1 _ (by simp) ((hR.below bl (Nat.le_refl _)).mono bl.size) ((rgs_new1 w r _ rfl).mono (by simp))).mono ?_
  rintro e w' ⟨rfl, b⟩
  exact ⟨by simp, bl.trans (b.mono bl.size)⟩
theorem same2 (a : Option Addr) (r q : Rg) (c : Nat) (w : World) (hR : Rgs w w.heap.size a [r, q]) :
    Calls Try.prog 11 #[.slice a 2 c, .slice (some ⟨w.heap.size, 0, none⟩) 2 2] (w.alloc (.cells #[.int .i32 r.1, .int .i32 r.2, .int .i32 q.1, .int .i32 q.2] 41)) fun e w' => e = .returned (.bool true) ∧ Below w.heap.size w w' := by
  have bl := (Below.refl w.heap.size w).alloc (Nat.le_refl _) (.cells #[.int .i32 r.1, .int .i32 r.2, .int .i32 q.1, .int .i32 q.2] 41)
  refine (Same_any a (some ⟨w.heap.size, 0, none⟩) [r, q] [r, q] c 2 _ (by simp) ((hR.below bl (Nat.le_refl _)).mono bl.size) ((rgs_new2 w r q _ rfl).mono (by simp))).mono ?_
  rintro e w' ⟨rfl, b⟩
  exact ⟨by simp, bl.trans (b.mono bl.size)⟩
theorem of2 (w : World) : Calls Try.prog 10 #[.slice (some ⟨w.heap.size, 0, none⟩) 2 2] (w.alloc (.cells #[.int .i32 98, .int .i32 101, .int .i32 97, .int .i32 99] 41)) fun e w' => (∃ a c, e = .returned (.slice a 1 c) ∧ Rgs w' w'.heap.size a [(97, 101)]) ∧ Below w.heap.size w w' := by
  have bl := (Below.refl w.heap.size w).alloc (Nat.le_refl _) (.cells #[.int .i32 98, .int .i32 101, .int .i32 97, .int .i32 99] 41)
  refine (Of_any (some ⟨w.heap.size, 0, none⟩) [(98, 101), (97, 99)] 2 _ (by simp) ((rgs_new2 w (98, 101) (97, 99) _ rfl).mono (by simp))).mono ?_
  rintro e w' ⟨v, l, rfl, h, _, o, b⟩
  have hl := of_known h
  subst hl
  obtain ⟨a, c, rfl, R⟩ := rgs_of_own o
  exact ⟨⟨a, c, rfl, R⟩, bl.trans (b.mono bl.size)⟩

set_option maxHeartbeats 4000000 in
theorem cknows_any (w : World) : Calls Try.prog 9 #[] w fun e w' => e = .returned (.bool true) ∧ Below w.heap.size w w' := by
  obtain ⟨W3, hW3, hs3, b3, r99, s3⟩ := known_start w
  have hp := Parts_any [[(97, 99)], [(99, 99)]] (some ⟨w.heap.size + 2, 0, none⟩) 2 W3 (by simp) (by simp) (by simp) (by simp) s3
  rw [parts_known] at hp
  have HP := Lib.hid hp; have HB3 := Lib.hid b3; have H99 := Lib.hid r99
  clear hp s3 b3 r99
  go_enter Try.func9, Try.ntmps9
  go_wp2_with fail
  refine HP.out.mono ?_
  rintro e w4 ⟨ao, cap, rfl, _, _, s4, b4⟩
  obtain ⟨g, o, a0, c0, rfl, hg, k0, r0⟩ := s4 [] _ _ rfl
  obtain ⟨g', o', a1, c1, e1, _, k1, r1⟩ := s4 [[(97, 98)]] _ _ rfl
  obtain ⟨rfl, rfl⟩ : g = g' ∧ o = o' := by simpa using e1
  obtain ⟨g', o', a2, c2, e2, _, k2, r2⟩ := s4 [[(97, 98)], [(99, 99)]] _ _ rfl
  obtain ⟨rfl, rfl⟩ : g = g' ∧ o = o' := by simpa using e2
  have B4 := HB3.out.trans (b4.mono (by omega))
  have R99 := (H99.out.below b4 (Nat.le_refl _)).mono b4.size
  have R0 := Lib.hid r0; have R1 := Lib.hid r1; have R2 := Lib.hid r2; have H99 := Lib.hid R99; have HB4 := Lib.hid B4
  simp only [List.length_nil, List.length_cons, Nat.add_zero, Nat.zero_add, Nat.reduceAdd] at k0 k1 k2
  clear s4 b4 r0 r1 r2 R99 B4 e1 e2 hW3 HP HB3
  go_wp2_with fail
  refine (of2 w4).mono ?_
  rintro e w5 ⟨⟨a5, c5, rfl, R5⟩, b5⟩
  have HR5 := Lib.hid R5; have HB5 := Lib.hid b5
  clear R5 b5
  go_wp2_with fail
  refine (same1 a5 (97, 101) c5 w5 HR5.out).mono ?_
  rintro e w6 ⟨rfl, b6⟩
  have B6 := HB5.out.trans (b6.mono HB5.out.size)
  have j0 := (B6.cell (p := ⟨g, o, none⟩) hg).trans k0
  have HR0 := Lib.hid ((R0.out.below B6 (Nat.le_refl _)).mono B6.size); have HB6 := Lib.hid B6
  clear b6 B6
  go_wp2_with fail
  refine (same1 a0 (97, 98) c0 w6 HR0.out).mono ?_
  rintro e w7 ⟨rfl, b7⟩
  have B7 := HB6.out.trans (b7.mono HB6.out.size)
  have j1 := (B7.cell (p := ⟨g, o + 1, none⟩) hg).trans k1
  have HR1 := Lib.hid ((R1.out.below B7 (Nat.le_refl _)).mono B7.size); have HB7 := Lib.hid B7; have H997 := Lib.hid ((H99.out.below B7 (Nat.le_refl _)).mono B7.size)
  clear b7 B7
  go_wp2_with fail
  refine (Same_any a1 (some ⟨w.heap.size + 1, 0, none⟩) [(99, 99)] [(99, 99)] c1 1 w7 (by simp) HR1.out H997.out).mono ?_
  rintro e w8 ⟨rfl, b8⟩
  have B8 := HB7.out.trans (b8.mono HB7.out.size)
  have j2 := (B8.cell (p := ⟨g, o + 2, none⟩) hg).trans k2
  have HR2 := Lib.hid ((R2.out.below B8 (Nat.le_refl _)).mono B8.size); have HB8 := Lib.hid B8
  clear b8 B8
  go_wp2_with fail
  refine (same2 a2 (0, 96) (100, 1114111) c2 w8 HR2.out).mono ?_
  rintro e w9 ⟨rfl, b9⟩
  have HB9 := Lib.hid (HB8.out.trans (b9.mono HB8.out.size))
  clear b9
  go_wp2
  go_ret
  exact ⟨rfl, HB4.out.trans (HB9.out.mono HB4.out.size)⟩
end Go.Proofs.Ytpmcnmlpkpoopaa
