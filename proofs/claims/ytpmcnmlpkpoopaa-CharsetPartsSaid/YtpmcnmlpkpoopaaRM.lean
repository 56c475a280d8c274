/- Plain: what the equations of CharsetRunes ask of the answers. -/
import Derived.Test.YtpmcnmlpkpoopaaZ
import Derived.Test.YtpmcnmlpkpoopaaS
import Derived.Test.YtpmcnmlpkpoopaaJ
import Derived.Test.YtpmcnmlpkpoopaaH
import Derived.Test.YtpmcnmlpkpoopaaR
namespace Go.Proofs.Ytpmcnmlpkpoopaa
open Go.RowKit Go.Shelf

def hitB (l : List Rg) (n : Nat) : Bool := l.any fun r => decide (r.1 ≤ n) && decide ((n : Int) ≤ r.2)
theorem hitB_iff (l : List Rg) (n : Nat) : hitB l n = true ↔ inS l n := by
  unfold hitB
  rw [List.any_eq_true]
  constructor
  · rintro ⟨r, h1, h2⟩
    simp at h2
    exact ⟨r, h1, h2⟩
  · rintro ⟨r, h1, h2⟩
    exact ⟨r, h1, by simpa [inR] using h2⟩
def cntL (l : List Rg) : Nat → Int
  | 0 => 0
  | n + 1 => cntL l n + (if hitB l n then 1 else 0)
theorem cntL_bound (l : List Rg) : ∀ n : Nat, 0 ≤ cntL l n ∧ cntL l n ≤ n
  | 0 => by simp [cntL]
  | n + 1 => by
    have := cntL_bound l n
    rw [cntL]
    split <;> omega
theorem cntL_cons (r : Rg) (l : List Rg) (h : Canon (r :: l)) : ∀ n : Nat, cntL (r :: l) n = cntL [r] n + cntL l n
  | 0 => by simp [cntL]
  | n + 1 => by
    rw [cntL, cntL, cntL, cntL_cons r l h n]
    have h1 := hitB_iff (r :: l) n
    have h2 := hitB_iff [r] n
    have h3 := hitB_iff l n
    rw [inS_cons] at h1
    rw [inS_cons] at h2
    have h4 : inS l n → ¬ inR r n := fun hx hr => by have := h.far hx; have := hr.2; omega
    have h5 := inS_nil (n : Int)
    cases e1 : hitB (r :: l) n <;> cases e2 : hitB [r] n <;> cases e3 : hitB l n <;> simp_all
    all_goals omega
theorem cntL_one (r : Rg) (h : okR r) : ∀ n : Nat, cntL [r] n = if (n : Int) ≤ r.1 then 0 else if (n : Int) ≤ r.2 then n - r.1 else r.2 - r.1 + 1
  | 0 => by
    have := h.1
    simp [cntL]
    omega
  | n + 1 => by
    rw [cntL, cntL_one r h n]
    have h2 := hitB_iff [r] n
    rw [inS_cons] at h2
    have h5 := inS_nil (n : Int)
    have h6 : hitB [r] n = true ↔ r.1 ≤ n ∧ (n : Int) ≤ r.2 := by rw [h2]; simp [h5, inR]
    unfold okR at h
    by_cases e : hitB [r] n = true
    · rw [if_pos e]
      have := h6.1 e
      (repeat' split) <;> omega
    · rw [if_neg e]
      have : ¬ (r.1 ≤ (n : Int) ∧ (n : Int) ≤ r.2) := fun x => e (h6.2 x)
      (repeat' split) <;> omega
theorem size_cnt : ∀ l : List Rg, Canon l → sizeL l = cntL l 1114112
  | [], _ => by
    have : ∀ n : Nat, cntL [] n = 0 := fun n => by
      induction n with
      | zero => rfl
      | succ n ih => rw [cntL, ih]; simp [hitB]
    rw [this]; rfl
  | r :: l, h => by
    have hr := h.head
    rw [sizeL, size_cnt l h.tail, cntL_cons r l h, cntL_one r hr]
    unfold okR at hr
    split
    · omega
    · split <;> omega
theorem cnt_sum (u i a b : List Rg) (hu : ∀ n : Nat, hitB u n = (hitB a n || hitB b n)) (hi : ∀ n : Nat, hitB i n = (hitB a n && hitB b n)) : ∀ n : Nat, cntL u n + cntL i n = cntL a n + cntL b n
  | 0 => by simp [cntL]
  | n + 1 => by
    have := cnt_sum u i a b hu hi n
    rw [cntL, cntL, cntL, cntL, hu, hi]
    cases hitB a n <;> cases hitB b n <;> simp <;> omega
theorem sizes_eq {L M u i la lb : List Rg} (hu : IsOf (L ++ M) u) (hi : IsBoth L M i) (ha : IsOf L la) (hb : IsOf M lb) : sizeL u + sizeL i = sizeL la + sizeL lb := by
  rw [size_cnt u hu.1, size_cnt i hi.1, size_cnt la ha.1, size_cnt lb hb.1]
  refine cnt_sum u i la lb (fun n => ?_) (fun n => ?_) _
  · have h1 := hitB_iff u n
    have h2 := hitB_iff la n
    have h3 := hitB_iff lb n
    rw [hu.2] at h1
    rw [ha.2] at h2
    rw [hb.2] at h3
    unfold inU at h1 h2 h3
    rw [inS_app] at h1
    cases e1 : hitB u n <;> cases e2 : hitB la n <;> cases e3 : hitB lb n <;> simp_all
  · have h1 := hitB_iff i n
    have h2 := hitB_iff la n
    have h3 := hitB_iff lb n
    rw [hi.2] at h1
    rw [ha.2] at h2
    rw [hb.2] at h3
    cases e1 : hitB i n <;> cases e2 : hitB la n <;> cases e3 : hitB lb n <;> simp_all
theorem size_bound {l : List Rg} (h : Canon l) : 0 ≤ sizeL l ∧ sizeL l ≤ 1114112 := by
  rw [size_cnt l h]
  exact cntL_bound l _
theorem inU_canon {l : List Rg} (h : Canon l) (x : Int) : inU l x ↔ inS l x := ⟨fun h => h.2, fun hx => ⟨h.inU hx, hx⟩⟩
theorem not_not_eq {L n nn ua : List Rg} (hn : IsNot L n) (hnn : IsNot n nn) (hu : IsOf L ua) : nn = ua := by
  refine canon_one _ _ hnn.1 hu.1 fun x => ?_
  rw [hnn.2, hu.2, inU_canon hn.1, hn.2]
  unfold inU
  constructor
  · rintro ⟨h1, h2⟩
    exact Classical.byContradiction fun h3 => h2 ⟨h1, h3⟩
  · rintro ⟨h1, h2⟩
    exact ⟨h1, fun h3 => h3.2 ⟨h1, h2⟩⟩
theorem less_eq {L M m nb i : List Rg} (hm : IsLess L M m) (hn : IsNot M nb) (hi : IsBoth L nb i) : m = i := by
  refine canon_one _ _ hm.1 hi.1 fun x => ?_
  rw [hm.2, hi.2, inU_canon hn.1, hn.2]
  constructor
  · rintro ⟨h1, h2⟩
    exact ⟨h1, h1.1, h2⟩
  · rintro ⟨h1, _, h2⟩
    exact ⟨h1, h2⟩
theorem union_comm {L M u v : List Rg} (hu : IsOf (L ++ M) u) (hv : IsOf (M ++ L) v) : u = v := by
  refine canon_one _ _ hu.1 hv.1 fun x => ?_
  rw [hu.2, hv.2]
  unfold inU
  rw [inS_app, inS_app, or_comm]
end Go.Proofs.Ytpmcnmlpkpoopaa
