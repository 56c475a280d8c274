/- The reference of charset: Of. -/
import Derived.Test.YtpmcnmlpkpoopaaGF
namespace Go.Proofs.Ytpmcnmlpkpoopaa
open Go.RowKit Go.Shelf

def memB (L : List Rg) (e : Int) : Bool := (decide (0 ≤ e) && decide (e ≤ 1114111)) && L.any fun r => decide (r.1 ≤ e) && decide (e ≤ r.2)
theorem memB_iff (L : List Rg) (e : Int) : memB L e = true ↔ inU L e := by
  unfold memB inU inS inR
  simp
theorem both_is (how : Int) (L M : List Rg) : Canon (bothG (fun e => fop how (memB L e) (memB M e)) (endsL (L ++ M)) []) ∧
    ∀ x, inS (bothG (fun e => fop how (memB L e) (memB M e)) (endsL (L ++ M)) []) x ↔ (0 ≤ x ∧ x ≤ 1114111) ∧ fop how (memB L x) (memB M x) = true := by
  obtain ⟨e1, e2, e3, _⟩ := foldE_is (L ++ M) [0] (by simp) (by simp)
  have hc : ∀ a ∈ endsL (L ++ M), ∀ x, a ≤ x → x ≤ 1114111 → (∀ b ∈ endsL (L ++ M), a < b → x < b) → fop how (memB L x) (memB M x) = fop how (memB L a) (memB M a) := fun a ha x h1 h2 h3 => by
    have k1 : memB L x = memB L a := by rw [Bool.eq_iff_iff, memB_iff, memB_iff]; exact ends_const (fun q hq => List.mem_append_left _ hq) ha h1 h2 h3
    have k2 : memB M x = memB M a := by rw [Bool.eq_iff_iff, memB_iff, memB_iff]; exact ends_const (fun q hq => List.mem_append_right _ hq) ha h1 h2 h3
    rw [k1, k2]
  have h0 : (0 : Int) ∈ endsL (L ++ M) := e3 0 (by simp)
  change (endsL (L ++ M)).Pairwise (· < ·) at e1
  change ∀ y ∈ endsL (L ++ M), 0 ≤ y ∧ y ≤ 1114111 at e2
  generalize endsL (L ++ M) = E at *
  rcases E with _ | ⟨e, E⟩
  · cases h0
  · have he : e = 0 := by
      have := (e2 e (by simp)).1
      rcases List.mem_cons.1 h0 with h | h
      · exact h.symm
      · have := (List.pairwise_cons.1 e1).1 0 h; omega
    subst he
    obtain ⟨g1, g2⟩ := bothG_is (fun e => fop how (memB L e) (memB M e)) E 0 [] e1 (Int.le_refl _) (fun a ha => (e2 a ha).2) hc canon_nil (fun q hq => by cases hq)
    refine ⟨g1, fun x => ?_⟩
    rw [g2]
    have hn := inS_nil x
    constructor
    · rintro (h | ⟨h, h', h3⟩)
      · exact absurd h hn
      · exact ⟨⟨h, h'⟩, h3⟩
    · rintro ⟨⟨h, h'⟩, h3⟩
      exact .inr ⟨h, h', h3⟩
theorem union_is (L M : List Rg) : IsOf (L ++ M) (bothG (fun e => fop 1 (memB L e) (memB M e)) (endsL (L ++ M)) []) := by
  obtain ⟨h1, h2⟩ := both_is 1 L M
  refine ⟨h1, fun x => ?_⟩
  rw [h2]
  have k1 := memB_iff L x
  have k2 := memB_iff M x
  unfold inU at *
  rw [inS_app]
  have hf : fop 1 (memB L x) (memB M x) = (memB L x || memB M x) := rfl
  rw [hf, Bool.or_eq_true, k1, k2]
  constructor
  · rintro ⟨h, h3 | h3⟩
    · exact ⟨h, .inl h3.2⟩
    · exact ⟨h, .inr h3.2⟩
  · rintro ⟨h, h3 | h3⟩
    · exact ⟨h, .inl ⟨h, h3⟩⟩
    · exact ⟨h, .inr ⟨h, h3⟩⟩
theorem inter_is (L M : List Rg) : IsBoth L M (bothG (fun e => fop 2 (memB L e) (memB M e)) (endsL (L ++ M)) []) := by
  obtain ⟨h1, h2⟩ := both_is 2 L M
  refine ⟨h1, fun x => ?_⟩
  have hf : fop 2 (memB L x) (memB M x) = (memB L x && memB M x) := rfl
  rw [h2, hf, Bool.and_eq_true, memB_iff, memB_iff]
  exact ⟨fun h => h.2, fun h => ⟨h.1.1, h⟩⟩
theorem less_is (L M : List Rg) : IsLess L M (bothG (fun e => fop 3 (memB L e) (memB M e)) (endsL (L ++ M)) []) := by
  obtain ⟨h1, h2⟩ := both_is 3 L M
  refine ⟨h1, fun x => ?_⟩
  have hf : fop 3 (memB L x) (memB M x) = (memB L x && !memB M x) := rfl
  rw [h2, hf, Bool.and_eq_true, memB_iff, ← memB_iff M]
  simp
  exact fun h _ => h.1
/-- both, by its members. -/
theorem rboth_at (ao bo : Option Addr) (L M : List Rg) (c d : Nat) (how : Int) (w : World) (hh : how = 1 ∨ how = 2 ∨ how = 3) (hL : L.length ≤ 50000) (hM : M.length ≤ 50000) (hA : At w ao L) (hB : At w bo M) :
    Calls Try.prog 36 #[.slice ao L.length c, .slice bo M.length d, .int .i64 how] w fun e w' => ∃ x n, e = .returned (.slice x (bothG (fun e => fop how (memB L e) (memB M e)) (endsL (L ++ M)) []).length n) ∧ At w' x (bothG (fun e => fop how (memB L e) (memB M e)) (endsL (L ++ M)) []) ∧ Below w.heap.size w w' := by
  refine (rboth_any ao bo L M c d how (fun e => fop how (memB L e) (memB M e)) w hh hL hM hA hB (fun e x y hx hy => ?_)).mono ?_
  · have k1 : x = memB L e := by rw [Bool.eq_iff_iff, hx, memB_iff]
    have k2 : y = memB M e := by rw [Bool.eq_iff_iff, hy, memB_iff]
    rw [k1, k2]
  · rintro e w' ⟨v, rfl, o, b⟩
    obtain ⟨x, n, rfl, R⟩ := rgs_of_own o
    exact ⟨x, n, rfl, at_of R, b⟩
theorem At.nil (w : World) (a : Option Addr) : At w a [] := fun _ _ => Rgs.nil _ _ _
set_option maxHeartbeats 1000000 in
theorem rOf_any (ao : Option Addr) (L : List Rg) (c : Nat) (w : World) (hL : L.length ≤ 50000) (hA : At w ao L) :
    Calls Try.prog 12 #[.slice ao L.length c] w fun e w' => ∃ x n l, e = .returned (.slice x l.length n) ∧ IsOf L l ∧ At w' x l ∧ Below w.heap.size w w' := by
  have h := rboth_at ao none L [] c 0 1 w (.inl rfl) hL (by simp) hA (At.nil _ _)
  have hu := union_is L []
  rw [List.append_nil] at h hu
  have H := Lib.hid h; have HU := Lib.hid hu
  clear h hu
  generalize bothG (fun e => fop 1 (memB L e) (memB [] e)) (endsL L) [] = l at *
  go_enter Try.func12, Try.ntmps12
  go_wp2_with fail
  refine H.out.mono ?_
  rintro e w1 ⟨x, n, rfl, h1, b1⟩
  have H1 := Lib.hid h1
  clear h1
  go_wp2
  go_ret
  exact ⟨x, n, l, rfl, HU.out, H1.out, b1⟩
end Go.Proofs.Ytpmcnmlpkpoopaa
