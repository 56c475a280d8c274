/- The reference of charset: Union. -/
import Derived.Test.YtpmcnmlpkpoopaaGI
namespace Go.Proofs.Ytpmcnmlpkpoopaa
open Go.RowKit Go.Shelf

theorem isOf_grow {P X o l : List Rg} (h : IsOf P o) (hl : IsOf (o ++ X) l) : IsOf (P ++ X) l := by
  refine ⟨hl.1, fun x => ?_⟩
  have h2 := h.2 x
  rw [hl.2]
  unfold inU at *
  rw [inS_app, inS_app, h2]
  constructor
  · rintro ⟨h3, h4 | h4⟩
    · exact ⟨h3, .inl h4.2⟩
    · exact ⟨h3, .inr h4⟩
  · rintro ⟨h3, h4 | h4⟩
    · exact ⟨h3, .inl ⟨h3, h4⟩⟩
    · exact ⟨h3, .inr h4⟩
set_option maxHeartbeats 2000000 in
theorem rUnion_any (ao : Option Addr) (LL : List (List Rg)) (cap : Nat) (w : World) (hN : LL.length ≤ 40000) (hT : LL.flatten.length ≤ 40000) (hS : Sts w w.heap.size ao LL) :
    Calls Try.prog 20 #[.slice ao LL.length cap] w fun e w' => ∃ x n l, e = .returned (.slice x l.length n) ∧ IsOf LL.flatten l ∧ At w' x l ∧ Below w.heap.size w w' := by
  have HS := Lib.hid hS; have HT := Lib.hid hT
  have b0 := (Below.refl w.heap.size w).alloc (Nat.le_refl _) (.cells #[] 41)
  have HB0 := Lib.hid b0
  have e0 : canF [] = [] := canF_eq (isOf_self canon_nil)
  have HE0 := Lib.hid e0
  clear hS hT b0 e0
  go_enter Try.func20, Try.ntmps20
  go_wp2_with fail
  go_loopw [3, 4] (fun s i wr => ∃ (pre rest : List (List Rg)) (x : Option Addr) (n c : Nat) (o : List Rg), s = .slice x n c ∧ i = .int .i64 pre.length ∧ Hid (pre ++ rest = LL) ∧ Hid (IsOf pre.flatten o ∧ n = o.length) ∧ Hid (At wr x o) ∧ Below w.heap.size w wr) (fun _ i _ => LL.length - (intOf i).toNat)
  case atStart => exact ⟨[], LL, _, _, _, [], rfl, rfl, rfl, Lib.hid ⟨isOf_self canon_nil, rfl⟩, Lib.hid (At.nil _ _), HB0.out⟩
  case round =>
    obtain ⟨pre, rest, x, n, c, o, rfl, rfl, hA, hD, hX, hb⟩ := hrel
    rcases rest with _ | ⟨X, rest⟩
    · have e1 := hA.out
      rw [List.append_nil] at e1
      subst e1
      obtain ⟨h1, rfl⟩ := hD.out
      have H1 := Lib.hid h1
      clear h1 hD
      go_wp2
      go_ret
      exact ⟨x, c, o, rfl, H1.out, hX.out, hb⟩
    · have hlt : pre.length < LL.length := by rw [← hA.out]; simp
      obtain ⟨g, oo, ax, cx, rfl, hg, p0, hR⟩ := HS.out _ _ _ hA.out
      have q0 := (hb.cell (p := ⟨g, oo + pre.length, none⟩) hg).trans p0
      have hRx : At wr ax X := at_of ((hR.below hb (Nat.le_refl _)).mono hb.size)
      have hfl : pre.flatten.length + X.length ≤ 40000 := by
        have h1 := HT.out
        rw [← hA.out, List.flatten_append, List.flatten_cons, List.length_append, List.length_append] at h1
        omega
      obtain ⟨h1, rfl⟩ := hD.out
      have hol : o.length ≤ pre.flatten.length := by rw [← canF_eq h1]; exact canF_length _
      have hbo := rboth_at x ax o X c cx 1 wr (.inl rfl) (by omega) (by omega) hX.out hRx
      have hu := isOf_grow h1 (union_is o X)
      have HBO := Lib.hid hbo; have HU := Lib.hid hu
      clear hbo hu h1 hD hRx hR p0
      generalize bothG (fun e => fop 1 (memB o e) (memB X e)) (endsL (o ++ X)) [] = l at *
      generalize LL.length = N at *
      go_wp2_with fail
      refine HBO.out.mono ?_
      rintro e w1 ⟨x1, n1, rfl, A1, b1⟩
      have HA1 := Lib.hid A1
      have B1 := hb.trans (b1.mono hb.size)
      have HD : Hid (IsOf (pre ++ [X]).flatten l ∧ l.length = l.length) := Lib.hid ⟨by simpa using HU.out, rfl⟩
      clear A1 b1 q0
      go_wp2
      go_roundw
      case rel => exact ⟨pre ++ [X], rest, x1, _, n1, l, rfl, by simp, Lib.hid (by rw [List.append_assoc]; exact hA.out), Lib.hid ⟨by simpa using HU.out, rfl⟩, HA1, B1⟩
      case measure => simp [intOf]; omega
end Go.Proofs.Ytpmcnmlpkpoopaa
