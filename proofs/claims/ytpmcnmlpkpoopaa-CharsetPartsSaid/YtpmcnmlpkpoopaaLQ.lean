/- Plain: what CharsetApart and CharsetParts ask of the parts. -/
import Derived.Test.YtpmcnmlpkpoopaaVB
import Derived.Test.YtpmcnmlpkpoopaaRN
namespace Go.Proofs.Ytpmcnmlpkpoopaa
open Go.RowKit Go.Shelf

def oneIf (b : Bool) : Int := if b then 1 else 0
noncomputable def numIn (r : Int) : List (List Rg) → Int
  | [] => 0
  | l :: S => oneIf (hasB l r) + numIn r S
def sumSz : List (List Rg) → Int
  | [] => 0
  | l :: S => sizeL l + sumSz S
theorem oneIf_bound (b : Bool) : 0 ≤ oneIf b ∧ oneIf b ≤ 1 := by cases b <;> simp [oneIf]
theorem numIn_app (r : Int) (l : List Rg) : ∀ S, numIn r (S ++ [l]) = numIn r S + oneIf (hasB l r)
  | [] => by simp [numIn]
  | m :: S => by rw [List.cons_append, numIn, numIn, numIn_app r l S]; omega
theorem sumSz_app (l : List Rg) : ∀ S, sumSz (S ++ [l]) = sumSz S + sizeL l
  | [] => by simp [sumSz]
  | m :: S => by rw [List.cons_append, sumSz, sumSz, sumSz_app l S]; omega
theorem numIn_bound (r : Int) : ∀ S, 0 ≤ numIn r S ∧ numIn r S ≤ S.length
  | [] => by simp [numIn]
  | l :: S => by
    have h1 := numIn_bound r S
    have h2 := oneIf_bound (hasB l r)
    rw [numIn, List.length_cons]
    omega
theorem sumSz_bound : ∀ S : List (List Rg), (∀ l ∈ S, Canon l) → 0 ≤ sumSz S ∧ sumSz S ≤ 1114112 * S.length
  | [], _ => by simp [sumSz]
  | l :: S, h => by
    have h1 := sumSz_bound S fun m hm => h m (List.mem_cons_of_mem _ hm)
    have h2 := size_bound (h l List.mem_cons_self)
    rw [sumSz, List.length_cons]
    omega
theorem numIn_zero (r : Int) : ∀ S : List (List Rg), (∀ l ∈ S, hasB l r = false) → numIn r S = 0
  | [], _ => rfl
  | l :: S, h => by rw [numIn, numIn_zero r S fun m hm => h m (List.mem_cons_of_mem _ hm), h l List.mem_cons_self]; rfl
theorem numIn_one (r : Int) : ∀ S : List (List Rg), S.Pairwise (fun l m => ∀ x, inU l x → ¬ inU m x) → (∃ l ∈ S, inU l r) → numIn r S = 1
  | [], _, ⟨l, h, _⟩ => by cases h
  | l :: S, hp, hex => by
    obtain ⟨p1, p2⟩ := List.pairwise_cons.1 hp
    rw [numIn]
    cases hb : hasB l r with
    | true =>
      rw [numIn_zero r S fun m hm => Bool.eq_false_iff.2 fun h => p1 m hm r ((hasB_iff _ _).1 hb) ((hasB_iff _ _).1 h)]
      rfl
    | false =>
      rw [numIn_one r S p2 ?_]
      · rfl
      · obtain ⟨m, hm, hx⟩ := hex
        rcases List.mem_cons.1 hm with rfl | hm
        · rw [(hasB_iff _ _).2 hx] at hb
          cases hb
        · exact ⟨m, hm, hx⟩
def cntAll (n : Nat) : List (List Rg) → Int
  | [] => 0
  | l :: S => cntL l n + cntAll n S
theorem cntAll_sum : ∀ S : List (List Rg), (∀ l ∈ S, Canon l) → sumSz S = cntAll 1114112 S
  | [], _ => rfl
  | l :: S, h => by rw [sumSz, cntAll, size_cnt l (h l List.mem_cons_self), cntAll_sum S fun m hm => h m (List.mem_cons_of_mem _ hm)]
theorem cntAll_succ (n : Nat) : ∀ S : List (List Rg), (∀ l ∈ S, Canon l) → cntAll (n + 1) S = cntAll n S + numIn n S
  | [], _ => rfl
  | l :: S, h => by
    have hh : hitB l n = hasB l n := by rw [Bool.eq_iff_iff, hitB_iff, hasB_iff, inU_canon (h l List.mem_cons_self)]
    rw [cntAll, cntAll, numIn, cntAll_succ n S fun m hm => h m (List.mem_cons_of_mem _ hm), cntL, hh]
    unfold oneIf
    omega
theorem cntAll_is (S : List (List Rg)) (h : ∀ l ∈ S, Canon l) (h1 : ∀ x : Int, 0 ≤ x → x ≤ 1114111 → numIn x S = 1) : ∀ n : Nat, n ≤ 1114112 → cntAll n S = n
  | 0, _ => by
    clear h1
    induction S with
    | nil => rfl
    | cons l S ih => rw [cntAll, ih fun m hm => h m (List.mem_cons_of_mem _ hm)]; rfl
  | n + 1, hn => by
    rw [cntAll_succ n S h, cntAll_is S h h1 n (by omega), h1 n (by omega) (by omega)]
    rfl

/-- What the parts of LL are. -/
structure PartsOf (LL S : List (List Rg)) : Prop where
  can : ∀ l ∈ S, Canon l ∧ l ≠ []
  one : ∀ x : Int, 0 ≤ x → x ≤ 1114111 → numIn x S = 1
  zero : ∀ x : Int, ¬ (0 ≤ x ∧ x ≤ 1114111) → numIn x S = 0
  sum : sumSz S = 1114112
  apart : ∀ l ∈ S, ∀ L ∈ LL, (∀ x, inS l x → inU L x) ∨ ∀ x, inS l x → ¬ inU L x
theorem key_mem {LL : List (List Rg)} {x y : Int} (h : keyL LL x = keyL LL y) {L : List Rg} (hL : L ∈ LL) : inU L x ↔ inU L y := by
  unfold keyL at h
  have := List.map_inj_left.1 h L hL
  rw [← hasB_iff, ← hasB_iff, this]
theorem parts_of {LL T : List (List Rg)} {R : List Rg} (h : PartT (keyL LL) 1114112 T R) : PartsOf LL (allP T R) := by
  have hmem : ∀ l ∈ allP T R, l ∈ T ∨ (l = R ∧ R ≠ []) := fun l hl => by
    unfold allP at hl
    rcases List.mem_append.1 hl with hl | hl
    · exact .inl hl
    · split at hl
      · cases hl
      · rename_i hn
        exact .inr ⟨List.mem_singleton.1 hl, fun e => hn (by rw [e]; rfl)⟩
  have can : ∀ l ∈ allP T R, Canon l ∧ l ≠ [] := fun l hl => by
    rcases hmem l hl with hl | ⟨rfl, hn⟩
    · exact h.can l hl
    · exact ⟨h.canR, hn⟩
  have hTp : T.Pairwise (fun l m => ∀ x, inU l x → ¬ inU m x) := by
    refine h.heads.imp_of_mem fun {l m} hl hm hlt x hx hy => ?_
    obtain ⟨l1, l2⟩ := h.can l hl
    obtain ⟨m1, m2⟩ := h.can m hm
    have a1 := (h.same l hl x hx.2).2
    have a2 := (h.same m hm x hy.2).2
    have e : l = m := canon_one _ _ l1 m1 fun y => by
      constructor
      · intro hy2
        have := l1.inU hy2
        exact (a2 y this.1 (by omega)).2 ((a1 y this.1 (by omega)).1 hy2)
      · intro hy2
        have := m1.inU hy2
        exact (a1 y this.1 (by omega)).2 ((a2 y this.1 (by omega)).1 hy2)
    rw [e] at hlt
    omega
  have hp : (allP T R).Pairwise (fun l m => ∀ x, inU l x → ¬ inU m x) := by
    unfold allP
    refine List.pairwise_append.2 ⟨hTp, by split <;> simp, fun l hl m hm x hx hy => ?_⟩
    split at hm
    · cases hm
    · rw [List.mem_singleton.1 hm] at hy
      exact (h.same l hl x hx.2).1 ((h.rest x).1 hy.2).2
  have hone : ∀ x : Int, 0 ≤ x → x ≤ 1114111 → numIn x (allP T R) = 1 := fun x h0 h1 => by
    refine numIn_one x _ hp ?_
    by_cases hk : NoK (keyL LL x)
    · have hx := (h.rest x).2 ⟨⟨h0, by omega⟩, hk⟩
      refine ⟨R, ?_, ⟨h0, h1⟩, hx⟩
      unfold allP
      rw [if_neg ?_]
      · simp
      · intro e
        rw [List.length_eq_zero_iff.1 e] at hx
        exact inS_nil x hx
    · obtain ⟨l, hl, hx⟩ := h.all x h0 (by omega) hk
      exact ⟨l, by unfold allP; exact List.mem_append_left _ hl, ⟨h0, h1⟩, hx⟩
  refine ⟨can, hone, fun x hx => numIn_zero x _ fun l hl => Bool.eq_false_iff.2 fun hb => hx ((hasB_iff _ _).1 hb).1, ?_, fun l hl L hL => ?_⟩
  · rw [cntAll_sum _ fun l hl => (can l hl).1, cntAll_is _ (fun l hl => (can l hl).1) hone _ (Nat.le_refl _)]
    rfl
  · rcases hmem l hl with hl | ⟨rfl, hn⟩
    · obtain ⟨c1, c2⟩ := h.can l hl
      have hh := hd_in c1 c2
      have hkey : ∀ x, inS l x → keyL LL x = keyL LL (hd l) := fun x hx => by
        have := c1.inU hx
        exact ((h.same l hl _ hh).2 x this.1 (by omega)).1 hx
      by_cases hL2 : inU L (hd l)
      · exact .inl fun x hx => (key_mem (hkey x hx) hL).2 hL2
      · exact .inr fun x hx hx2 => hL2 ((key_mem (hkey x hx) hL).1 hx2)
    · refine .inr fun x hx hx2 => ?_
      have hk := ((h.rest x).1 hx).2
      have := hk (hasB L x) (by unfold keyL; exact List.mem_map.2 ⟨L, hL, rfl⟩)
      rw [(hasB_iff _ _).2 hx2] at this
      cases this
theorem size_pos {l : List Rg} (h : Canon l) (hn : l ≠ []) : 0 < sizeL l := by
  cases l with
  | nil => exact absurd rfl hn
  | cons r l =>
    have h1 := size_bound h.tail
    have h2 := h.head
    unfold okR at h2
    rw [sizeL]
    omega
theorem both_cases {LL S : List (List Rg)} (h : PartsOf LL S) {l L i : List Rg} (hl : l ∈ S) (hL : L ∈ LL) (hi : IsBoth l L i) : sizeL i = sizeL l ∨ sizeL i = 0 := by
  have hc := (h.can l hl).1
  rcases h.apart l hl L hL with ha | ha
  · refine .inl ?_
    rw [canon_one i l hi.1 hc fun x => ?_]
    rw [hi.2, inU_canon hc]
    exact ⟨fun hx => hx.1, fun hx => ⟨hx, ha x hx⟩⟩
  · refine .inr ?_
    rw [canon_one i [] hi.1 canon_nil fun x => ?_]
    · rfl
    · rw [hi.2, inU_canon hc]
      exact ⟨fun hx => absurd hx.2 (ha x hx.1), fun hx => absurd hx (inS_nil x)⟩
theorem partsL_len (P : List Pc) : (partsL P).length ≤ P.length + 1 ∧ ∀ l ∈ partsL P, l.length ≤ P.length := by
  obtain ⟨h1, h2, h3⟩ := foldP_size P ([], []) 0 (by simp) (by simp) (by simp)
  unfold partsL
  split
  · exact ⟨by omega, fun l hl => by have := h3 l hl; omega⟩
  · refine ⟨by rw [List.length_append]; simp; omega, fun l hl => ?_⟩
    rcases List.mem_append.1 hl with hl | hl
    · have := h3 l hl; omega
    · rw [List.mem_singleton.1 hl]; omega
theorem parts_good (LL : List (List Rg)) : ∃ T R, partsL (pcsAll (LL.length + 1) LL) = allP T R ∧ PartT (keyL LL) 1114112 T R := parts_is (pcsAll_good _ _ (by omega))
theorem flatten_le (k : Nat) : ∀ LL : List (List Rg), (∀ L ∈ LL, L.length ≤ k) → LL.flatten.length ≤ LL.length * k
  | [], _ => by simp
  | L :: LL, h => by
    have h1 := flatten_le k LL fun M hM => h M (List.mem_cons_of_mem _ hM)
    have h2 := h L List.mem_cons_self
    rw [List.flatten_cons, List.length_append, List.length_cons, Nat.succ_mul]
    omega
end Go.Proofs.Ytpmcnmlpkpoopaa
