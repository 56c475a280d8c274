/- The reference of charset: Inter, Minus, Not. -/
import Derived.Test.YtpmcnmlpkpoopaaGO
namespace Go.Proofs.Ytpmcnmlpkpoopaa
open Go.RowKit Go.Shelf

set_option maxHeartbeats 1000000 in
theorem rInter_any (ao bo : Option Addr) (L M : List Rg) (c d : Nat) (w : World) (hL : L.length ≤ 50000) (hM : M.length ≤ 50000) (hA : At w ao L) (hB : At w bo M) :
    Calls Try.prog 22 #[.slice ao L.length c, .slice bo M.length d] w fun e w' => ∃ x n l, e = .returned (.slice x l.length n) ∧ IsBoth L M l ∧ At w' x l ∧ Below w.heap.size w w' := by
  have h := rboth_at ao bo L M c d 2 w (.inr (.inl rfl)) hL hM hA hB
  have hu := inter_is L M
  have H := Lib.hid h; have HU := Lib.hid hu
  clear h hu
  generalize bothG (fun e => fop 2 (memB L e) (memB M e)) (endsL (L ++ M)) [] = l at *
  go_enter Try.func22, Try.ntmps22
  go_wp2_with fail
  refine H.out.mono ?_
  rintro e w1 ⟨x, n, rfl, h1, b1⟩
  have H1 := Lib.hid h1
  clear h1
  go_wp2
  go_ret
  exact ⟨x, n, l, rfl, HU.out, H1.out, b1⟩
set_option maxHeartbeats 1000000 in
theorem rMinus_any (ao bo : Option Addr) (L M : List Rg) (c d : Nat) (w : World) (hL : L.length ≤ 50000) (hM : M.length ≤ 50000) (hA : At w ao L) (hB : At w bo M) :
    Calls Try.prog 24 #[.slice ao L.length c, .slice bo M.length d] w fun e w' => ∃ x n l, e = .returned (.slice x l.length n) ∧ IsLess L M l ∧ At w' x l ∧ Below w.heap.size w w' := by
  have h := rboth_at ao bo L M c d 3 w (.inr (.inr rfl)) hL hM hA hB
  have hu := less_is L M
  have H := Lib.hid h; have HU := Lib.hid hu
  clear h hu
  generalize bothG (fun e => fop 3 (memB L e) (memB M e)) (endsL (L ++ M)) [] = l at *
  go_enter Try.func24, Try.ntmps24
  go_wp2_with fail
  refine H.out.mono ?_
  rintro e w1 ⟨x, n, rfl, h1, b1⟩
  have H1 := Lib.hid h1
  clear h1
  go_wp2
  go_ret
  exact ⟨x, n, l, rfl, HU.out, H1.out, b1⟩
theorem not_of_less {M l : List Rg} (h : IsLess [(0, 1114111)] M l) : IsNot M l := by
  refine ⟨h.1, fun x => ?_⟩
  rw [h.2]
  have hn := inS_nil x
  constructor
  · rintro ⟨h1, h2⟩
    exact ⟨h1.1, h2⟩
  · rintro ⟨h1, h2⟩
    refine ⟨⟨h1, (inS_cons _ _ _).2 (.inl h1)⟩, h2⟩
set_option maxHeartbeats 1000000 in
theorem rNot_any (bo : Option Addr) (M : List Rg) (d : Nat) (w : World) (hM : M.length ≤ 50000) (hB : At w bo M) :
    Calls Try.prog 26 #[.slice bo M.length d] w fun e w' => ∃ x n l, e = .returned (.slice x l.length n) ∧ IsNot M l ∧ At w' x l ∧ Below w.heap.size w w' := by
  have bl := (Below.refl w.heap.size w).alloc (Nat.le_refl _) (.cells #[.int .i32 0, .int .i32 1114111] 41)
  have hA : At (w.alloc (.cells #[.int .i32 0, .int .i32 1114111] 41)) (some ⟨w.heap.size, 0, none⟩) [(0, 1114111)] := at_of ((rgs_new1 w (0, 1114111) w.heap.size rfl).mono (by simp))
  have h := rboth_at (some ⟨w.heap.size, 0, none⟩) bo [(0, 1114111)] M 1 d 3 _ (.inr (.inr rfl)) (by simp) hM hA (hB.later bl)
  have hu := not_of_less (less_is [(0, 1114111)] M)
  have H := Lib.hid h; have HU := Lib.hid hu; have HBL := Lib.hid bl
  clear h hu hA bl
  generalize bothG (fun e => fop 3 (memB [(0, 1114111)] e) (memB M e)) (endsL ([(0, 1114111)] ++ M)) [] = l at *
  go_enter Try.func26, Try.ntmps26
  go_wp2_with fail
  refine H.out.mono ?_
  rintro e w1 ⟨x, n, rfl, h1, b1⟩
  have H1 := Lib.hid h1
  have B1 := HBL.out.trans (b1.mono HBL.out.size)
  clear h1 b1
  go_wp2
  go_ret
  exact ⟨x, n, l, rfl, HU.out, H1.out, B1⟩
end Go.Proofs.Ytpmcnmlpkpoopaa
