/- CharsetRunes: it answers true, for any two lists of ranges and any rune. -/
import Derived.Test.YtpmcnmlpkpoopaaRM
import Derived.Deep.CutBlock
import Derived.Deep.CutRange
namespace Go.Proofs.Ytpmcnmlpkpoopaa
open Go.RowKit Go.Shelf

/-- A set at hand, in every later world. -/
def At (w : World) (a : Option Addr) (L : List Rg) : Prop := ∀ W, Below w.heap.size w W → Rgs W W.heap.size a L
theorem At.now {w : World} {a : Option Addr} {L : List Rg} (h : At w a L) : Rgs w w.heap.size a L := h w (Below.refl _ _)
theorem At.later {w W : World} {a : Option Addr} {L : List Rg} (h : At w a L) (b : Below w.heap.size w W) : At W a L := fun V c => h V (b.trans (c.mono b.size))
theorem at_of {w : World} {a : Option Addr} {L : List Rg} (h : Rgs w w.heap.size a L) : At w a L := fun _ b => (h.below b (Nat.le_refl _)).mono b.size
theorem union2 (a b : Option Addr) (L M : List Rg) (c d : Nat) (w : World) (hL : L.length ≤ 1000) (hM : M.length ≤ 1000) (ha : At w a L) (hb : At w b M) :
    Calls Try.prog 19 #[.slice (some ⟨w.heap.size, 0, none⟩) 2 2] (w.alloc (.cells #[.slice a L.length c, .slice b M.length d] 24)) fun e w' => ∃ x n l, e = .returned (.slice x l.length n) ∧ IsOf (L ++ M) l ∧ l.length ≤ 2000 ∧ At w' x l ∧ Below w.heap.size w w' := by
  have bl := (Below.refl w.heap.size w).alloc (Nat.le_refl _) (.cells #[.slice a L.length c, .slice b M.length d] 24)
  refine (Union_any (some ⟨w.heap.size, 0, none⟩) [L, M] 2 _ (by simp) (by simp; omega) ((sts_new2 w (c := w.heap.size) rfl ha.now hb.now (Nat.le_refl _)).mono (by simp))).mono ?_
  rintro e w' ⟨v, l, rfl, h, h2, o, b⟩
  obtain ⟨x, n, rfl, R⟩ := rgs_of_own o
  refine ⟨x, n, l, rfl, by simpa using h, ?_, at_of R, bl.trans (b.mono bl.size)⟩
  simp at h2
  omega
theorem sts_new1 (W : World) {a : Option Addr} {L : List Rg} {ca B c : Nat} (h : W.heap.size = c) (ha : Rgs W B a L) (hB : B ≤ c) : Sts (W.alloc (.cells #[.slice a L.length ca] 24)) (c + 1) (some ⟨c, 0, none⟩) [L] := by
  subst h
  intro pre x rest e
  have y := World.alloc_heap_new W (.cells #[.slice a L.length ca] 24)
  have bl := (Below.refl W.heap.size W).alloc (Nat.le_refl _) (.cells #[.slice a L.length ca] 24)
  match pre, e with
  | [], e =>
    injection e with e _
    subst e
    exact ⟨_, 0, a, ca, rfl, by omega, by rw [Lib.cell_of_heap y]; rfl, (ha.below bl hB).mono (by omega)⟩
  | p :: pre, e => simp at e
theorem union1 (a : Option Addr) (L : List Rg) (c : Nat) (w : World) (hL : L.length ≤ 1000) (ha : At w a L) :
    Calls Try.prog 19 #[.slice (some ⟨w.heap.size, 0, none⟩) 1 1] (w.alloc (.cells #[.slice a L.length c] 24)) fun e w' => ∃ x n l, e = .returned (.slice x l.length n) ∧ IsOf L l ∧ l.length ≤ 2000 ∧ At w' x l ∧ Below w.heap.size w w' := by
  have bl := (Below.refl w.heap.size w).alloc (Nat.le_refl _) (.cells #[.slice a L.length c] 24)
  refine (Union_any (some ⟨w.heap.size, 0, none⟩) [L] 1 _ (by simp) (by simp; omega) ((sts_new1 w (c := w.heap.size) rfl ha.now (Nat.le_refl _)).mono (by simp))).mono ?_
  rintro e w' ⟨v, l, rfl, h, h2, o, b⟩
  obtain ⟨x, n, rfl, R⟩ := rgs_of_own o
  refine ⟨x, n, l, rfl, by simpa using h, ?_, at_of R, bl.trans (b.mono bl.size)⟩
  simp at h2
  omega
theorem inter2 (a b : Option Addr) (L M : List Rg) (c d : Nat) (w : World) (hL : L.length ≤ 100) (hM : M.length ≤ 100) (ha : At w a L) (hb : At w b M) :
    Calls Try.prog 21 #[.slice a L.length c, .slice b M.length d] w fun e w' => ∃ x n l, e = .returned (.slice x l.length n) ∧ IsBoth L M l ∧ l.length ≤ 30000 ∧ At w' x l ∧ Below w.heap.size w w' := by
  refine (Inter_any a b L M c d w (by omega) (by omega) ha.now hb.now).mono ?_
  rintro e w' ⟨v, l, rfl, h, h2, o, b⟩
  obtain ⟨x, n, rfl, R⟩ := rgs_of_own o
  have h3 : (2 * L.length + 1) * M.length ≤ 201 * 100 := Nat.mul_le_mul (by omega) hM
  exact ⟨x, n, l, rfl, h, by omega, at_of R, b⟩
theorem minus2 (a b : Option Addr) (L M : List Rg) (c d : Nat) (w : World) (hL : L.length ≤ 100) (hM : M.length ≤ 100) (ha : At w a L) (hb : At w b M) :
    Calls Try.prog 23 #[.slice a L.length c, .slice b M.length d] w fun e w' => ∃ x n l, e = .returned (.slice x l.length n) ∧ IsLess L M l ∧ l.length ≤ 30000 ∧ At w' x l ∧ Below w.heap.size w w' := by
  refine (Minus_any a b L M c d w (by omega) (by omega) ha.now hb.now).mono ?_
  rintro e w' ⟨v, l, rfl, h, h2, o, b⟩
  obtain ⟨x, n, rfl, R⟩ := rgs_of_own o
  have h3 : (2 * L.length + 1) * (M.length + 1) ≤ 201 * 101 := Nat.mul_le_mul (by omega) (by omega)
  exact ⟨x, n, l, rfl, h, by omega, at_of R, b⟩
theorem not1 (a : Option Addr) (L : List Rg) (c : Nat) (w : World) (hL : L.length ≤ 30000) (ha : At w a L) :
    Calls Try.prog 25 #[.slice a L.length c] w fun e w' => ∃ x n l, e = .returned (.slice x l.length n) ∧ IsNot L l ∧ l.length ≤ L.length + 1 ∧ At w' x l ∧ Below w.heap.size w w' := by
  refine (Not_any a L c w (by omega) ha.now).mono ?_
  rintro e w' ⟨v, l, rfl, h, h2, o, b⟩
  obtain ⟨x, n, rfl, R⟩ := rgs_of_own o
  exact ⟨x, n, l, rfl, h, h2, at_of R, b⟩
theorem right1 (a : Option Addr) (L : List Rg) (c : Nat) (w : World) (hL : L.length ≤ 30000) (hc : Canon L) (ha : At w a L) :
    Calls Try.prog 13 #[.slice a L.length c] w fun e w' => e = .returned (.bool true) ∧ Below w.heap.size w w' := by
  refine (Right_any a L c w (by omega) ha.now).mono ?_
  rintro e w' ⟨b, rfl, h, h2⟩
  exact ⟨by rw [h.2 hc], h2⟩
theorem size1 (a : Option Addr) (L l : List Rg) (c : Nat) (w : World) (hL : L.length ≤ 30000) (hc : IsOf L l) (ha : At w a L) :
    Calls Try.prog 15 #[.slice a L.length c] w fun e w' => e = .returned (.int .i64 (sizeL l)) ∧ Below w.heap.size w w' := by
  refine (Size_any a L c w (by omega) ha.now).mono ?_
  rintro e w' ⟨q, rfl, h, h2⟩
  exact ⟨by rw [isOf_one h hc], h2⟩
theorem has1 (a : Option Addr) (L : List Rg) (c : Nat) (r : Int) (k : Bool) (w : World) (hL : L.length ≤ 30000) (hc : k = true ↔ inU L r) (ha : At w a L) :
    Calls Try.prog 17 #[.slice a L.length c, .int .i32 r] w fun e w' => e = .returned (.bool k) ∧ Below w.heap.size w w' := by
  refine (Has_any a L c r w (by omega) ha.now).mono ?_
  rintro e w' ⟨q, rfl, h, h2⟩
  have : q = k := by rw [Bool.eq_iff_iff, h, hc]
  exact ⟨by rw [this], h2⟩
theorem same_eq (a b : Option Addr) (L M : List Rg) (c d : Nat) (w : World) (hL : L.length ≤ 30000) (h : L = M) (ha : At w a L) (hb : At w b M) :
    Calls Try.prog 11 #[.slice a L.length c, .slice b M.length d] w fun e w' => e = .returned (.bool true) ∧ Below w.heap.size w w' := by
  refine (Same_any a b L M c d w (by omega) ha.now hb.now).mono ?_
  rintro e w' ⟨rfl, b⟩
  exact ⟨by rw [decide_eq_true h], b⟩
end Go.Proofs.Ytpmcnmlpkpoopaa
