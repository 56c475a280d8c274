/- Plain: sets of runes as lists of ranges; canonical ones; two of the same members are one. -/
import Derived.WalkKit
import Derived.BigCall
import Derived.BigQuiet
import Derived.Deep.QuietTactic
import Derived.Lib.Hide
import Derived.Outline
import Derived.Lib.Builder
import Derived.RangeFuncRecord
import Derived.RegionTactic
import Derived.BigRegion
import Derived.Test.YtpmcnmlpkpoopaaChecked
namespace Go.Proofs.Ytpmcnmlpkpoopaa
open Go.RowKit

theorem rb {a b : Bool} (h : a = b) : Ending.returned (.bool a) = .returned (.bool b) := by rw [h]
theorem ri {k : IntKind} {a b : Int} (h : a = b) : Ending.returned (.int k a) = .returned (.int k b) := by rw [h]

/-- A range as plain data. -/
abbrev Rg := Int × Int
/-- It lies in the universe and is not empty. -/
def okR (r : Rg) : Prop := 0 ≤ r.1 ∧ r.1 ≤ r.2 ∧ r.2 ≤ 1114111
def apart (a b : Rg) : Prop := a.2 + 1 < b.1
def Canon (s : List Rg) : Prop := s.Pairwise apart ∧ ∀ r ∈ s, okR r
def inR (r : Rg) (x : Int) : Prop := r.1 ≤ x ∧ x ≤ r.2
def inS (s : List Rg) (x : Int) : Prop := ∃ r ∈ s, inR r x
def inU (s : List Rg) (x : Int) : Prop := (0 ≤ x ∧ x ≤ 1114111) ∧ inS s x
/-- l is the canonical form of s. -/
def IsOf (s l : List Rg) : Prop := Canon l ∧ ∀ x, inS l x ↔ inU s x

theorem inS_nil (x : Int) : ¬ inS [] x := by rintro ⟨r, h, _⟩; cases h
theorem inS_cons (r : Rg) (s : List Rg) (x : Int) : inS (r :: s) x ↔ inR r x ∨ inS s x := by
  constructor
  · rintro ⟨q, h, hx⟩
    rcases List.mem_cons.1 h with rfl | h
    · exact .inl hx
    · exact .inr ⟨q, h, hx⟩
  · rintro (h | ⟨q, h, hx⟩)
    · exact ⟨r, List.mem_cons_self, h⟩
    · exact ⟨q, List.mem_cons_of_mem _ h, hx⟩
theorem inS_app (s t : List Rg) (x : Int) : inS (s ++ t) x ↔ inS s x ∨ inS t x := by
  constructor
  · rintro ⟨q, h, hx⟩
    rcases List.mem_append.1 h with h | h
    · exact .inl ⟨q, h, hx⟩
    · exact .inr ⟨q, h, hx⟩
  · rintro (⟨q, h, hx⟩ | ⟨q, h, hx⟩)
    · exact ⟨q, List.mem_append_left _ h, hx⟩
    · exact ⟨q, List.mem_append_right _ h, hx⟩
theorem canon_nil : Canon [] := ⟨.nil, fun r h => by cases h⟩
theorem Canon.tail {r : Rg} {s : List Rg} (h : Canon (r :: s)) : Canon s := ⟨(List.pairwise_cons.1 h.1).2, fun q hq => h.2 q (List.mem_cons_of_mem _ hq)⟩
theorem Canon.head {r : Rg} {s : List Rg} (h : Canon (r :: s)) : okR r := h.2 r List.mem_cons_self
theorem Canon.far {r : Rg} {s : List Rg} (h : Canon (r :: s)) {x : Int} (hx : inS s x) : r.2 + 1 < x := by
  obtain ⟨q, hq, h1, h2⟩ := hx
  have := (List.pairwise_cons.1 h.1).1 q hq
  unfold apart at this
  omega
theorem Canon.inU {s : List Rg} (h : Canon s) {x : Int} (hx : inS s x) : 0 ≤ x ∧ x ≤ 1114111 := by
  obtain ⟨q, hq, h1, h2⟩ := hx
  have := h.2 q hq
  unfold okR at this
  omega
theorem canon_one : ∀ (a b : List Rg), Canon a → Canon b → (∀ x, inS a x ↔ inS b x) → a = b
  | [], [], _, _, _ => rfl
  | [], r :: b, _, hb, h => by
    have := (h r.1).2 ((inS_cons _ _ _).2 (.inl ⟨Int.le_refl _, hb.head.2.1⟩))
    exact absurd this (inS_nil _)
  | r :: a, [], ha, _, h => by
    have := (h r.1).1 ((inS_cons _ _ _).2 (.inl ⟨Int.le_refl _, ha.head.2.1⟩))
    exact absurd this (inS_nil _)
  | r :: a, q :: b, ha, hb, h => by
    have ra := ha.head
    have rb := hb.head
    unfold okR at ra rb
    have h1 : ∀ x, inS (r :: a) x → r.1 ≤ x := fun x hx => by
      rcases (inS_cons _ _ _).1 hx with hx | hx
      · exact hx.1
      · have := ha.far hx; omega
    have h2 : ∀ x, inS (q :: b) x → q.1 ≤ x := fun x hx => by
      rcases (inS_cons _ _ _).1 hx with hx | hx
      · exact hx.1
      · have := hb.far hx; omega
    have e1 : r.1 = q.1 := by
      have a1 := h2 r.1 ((h r.1).1 ((inS_cons _ _ _).2 (.inl ⟨Int.le_refl _, ra.2.1⟩)))
      have a2 := h1 q.1 ((h q.1).2 ((inS_cons _ _ _).2 (.inl ⟨Int.le_refl _, rb.2.1⟩)))
      omega
    have e2 : r.2 = q.2 := by
      refine Int.le_antisymm ?_ ?_
      · refine Int.not_lt.1 fun hl => ?_
        have := (h (q.2 + 1)).1 ((inS_cons _ _ _).2 (.inl ⟨by omega, by omega⟩))
        rcases (inS_cons _ _ _).1 this with hx | hx
        · have := hx.2; omega
        · have := hb.far hx; omega
      · refine Int.not_lt.1 fun hl => ?_
        have := (h (r.2 + 1)).2 ((inS_cons _ _ _).2 (.inl ⟨by omega, by omega⟩))
        rcases (inS_cons _ _ _).1 this with hx | hx
        · have := hx.2; omega
        · have := ha.far hx; omega
    obtain ⟨r1, r2⟩ := r
    obtain ⟨q1, q2⟩ := q
    dsimp only at e1 e2
    subst e1 e2
    rw [canon_one a b ha.tail hb.tail fun x => ?_]
    constructor
    · intro hx
      rcases (inS_cons _ _ _).1 ((h x).1 ((inS_cons _ _ _).2 (.inr hx))) with hy | hy
      · have := ha.far hx
        have := hy.2
        dsimp only at *
        omega
      · exact hy
    · intro hx
      rcases (inS_cons _ _ _).1 ((h x).2 ((inS_cons _ _ _).2 (.inr hx))) with hy | hy
      · have := hb.far hx
        have := hy.2
        dsimp only at *
        omega
      · exact hy
theorem isOf_one {s a b : List Rg} (ha : IsOf s a) (hb : IsOf s b) : a = b := canon_one a b ha.1 hb.1 fun x => (ha.2 x).trans (hb.2 x).symm
theorem isOf_self {s : List Rg} (h : Canon s) : IsOf s s := ⟨h, fun _ => ⟨fun hx => ⟨h.inU hx, hx⟩, fun hx => hx.2⟩⟩

/-- A range cut to the universe; what two ranges share. -/
def ovR (a b : Rg) : Rg := (max a.1 b.1, min a.2 b.2)
def clipR (r : Rg) : Rg := ovR r (0, 1114111)
def clipL (l : List Rg) : List Rg := (l.map clipR).filter fun r => decide (r.1 ≤ r.2)
theorem inR_ov (a b : Rg) (x : Int) : inR (ovR a b) x ↔ inR a x ∧ inR b x := by unfold inR ovR; dsimp only; omega
theorem clipL_ok {l : List Rg} {r : Rg} (h : r ∈ clipL l) : okR r := by
  unfold clipL at h
  obtain ⟨h1, h2⟩ := List.mem_filter.1 h
  obtain ⟨q, _, rfl⟩ := List.mem_map.1 h1
  have h3 := of_decide_eq_true h2
  unfold okR clipR ovR at *
  dsimp only at *
  omega
theorem clipL_in (l : List Rg) (x : Int) : inS (clipL l) x ↔ inU l x := by
  constructor
  · rintro ⟨r, hr, hx⟩
    obtain ⟨h1, h2⟩ := List.mem_filter.1 hr
    obtain ⟨q, hq, rfl⟩ := List.mem_map.1 h1
    have := (inR_ov q (0, 1114111) x).1 hx
    exact ⟨this.2, q, hq, this.1⟩
  · rintro ⟨hU, q, hq, hx⟩
    have := (inR_ov q (0, 1114111) x).2 ⟨hx, hU⟩
    refine ⟨clipR q, List.mem_filter.2 ⟨List.mem_map.2 ⟨q, hq, rfl⟩, decide_eq_true ?_⟩, this⟩
    have h1 : (clipR q).1 ≤ x := this.1
    have h2 : x ≤ (clipR q).2 := this.2
    omega

/-- What charset.add makes of a set and a range. -/
def addL (s : List Rg) (r : Rg) : List Rg :=
  match s.getLast? with
  | none => [r]
  | some q => if q.2 + 1 < r.1 then s ++ [r] else s.dropLast ++ [(q.1, max q.2 r.2)]
theorem addL_nil (r : Rg) : addL [] r = [r] := rfl
theorem addL_snoc (s : List Rg) (q r : Rg) : addL (s ++ [q]) r = if q.2 + 1 < r.1 then s ++ [q, r] else s ++ [(q.1, max q.2 r.2)] := by
  unfold addL
  rw [List.getLast?_append, List.getLast?_singleton]
  simp
theorem canon_app {s : List Rg} {r : Rg} : Canon (s ++ [r]) ↔ Canon s ∧ okR r ∧ ∀ q ∈ s, apart q r := by
  constructor
  · rintro ⟨h1, h2⟩
    obtain ⟨h3, _, h5⟩ := List.pairwise_append.1 h1
    exact ⟨⟨h3, fun q hq => h2 q (List.mem_append_left _ hq)⟩, h2 r (by simp), fun q hq => h5 q hq r (by simp)⟩
  · rintro ⟨⟨h1, h2⟩, h3, h4⟩
    refine ⟨List.pairwise_append.2 ⟨h1, List.pairwise_singleton _ _, fun q hq x hx => by rw [List.mem_singleton.1 hx]; exact h4 q hq⟩, fun q hq => ?_⟩
    rcases List.mem_append.1 hq with hq | hq
    · exact h2 q hq
    · rw [List.mem_singleton.1 hq]; exact h3
theorem apart_last {s : List Rg} {q r : Rg} (h : Canon (s ++ [q])) (hr : apart q r) : ∀ p ∈ s ++ [q], apart p r := by
  intro p hp
  rcases List.mem_append.1 hp with hp | hp
  · have h1 := (canon_app.1 h).2.2 p hp
    have h2 := (canon_app.1 h).2.1
    unfold apart okR at *
    omega
  · rw [List.mem_singleton.1 hp]; exact hr
theorem addL_canon {s : List Rg} {r : Rg} (h : Canon s) (hr : okR r) (hl : ∀ q ∈ s, q.1 ≤ r.1) : Canon (addL s r) := by
  rcases List.eq_nil_or_concat s with rfl | ⟨t, q, rfl⟩
  · rw [addL_nil]
    exact ⟨List.pairwise_singleton _ _, fun p hp => by rw [List.mem_singleton.1 hp]; exact hr⟩
  · rw [List.concat_eq_append] at *
    rw [addL_snoc]
    split
    · rename_i hq
      rw [show t ++ [q, r] = (t ++ [q]) ++ [r] by simp]
      exact canon_app.2 ⟨h, hr, apart_last h hq⟩
    · obtain ⟨h1, h2, h3⟩ := canon_app.1 h
      refine canon_app.2 ⟨h1, ?_, fun p hp => h3 p hp⟩
      unfold okR at *
      dsimp only
      omega
theorem addL_in {s : List Rg} {r : Rg} (hs : ∀ q ∈ s, okR q) (hl : ∀ q ∈ s, q.1 ≤ r.1) (x : Int) : inS (addL s r) x ↔ inS s x ∨ inR r x := by
  rcases List.eq_nil_or_concat s with rfl | ⟨t, q, rfl⟩
  · rw [addL_nil, inS_cons]
    constructor
    · rintro (h | h)
      · exact .inr h
      · exact .inl h
    · rintro (h | h)
      · exact .inr h
      · exact .inl h
  · rw [List.concat_eq_append] at *
    rw [addL_snoc]
    have hq := hl q (by simp)
    have hqo := hs q (by simp)
    split
    · rw [show t ++ [q, r] = (t ++ [q]) ++ [r] by simp, inS_app _ [r], inS_cons]
      simp [inS_nil]
    · rename_i hn
      rw [inS_app, inS_app, inS_cons, inS_cons]
      have hn2 := inS_nil x
      have : inR (q.1, max q.2 r.2) x ↔ inR q x ∨ inR r x := by
        unfold inR okR at *
        dsimp only
        omega
      rw [this]
      simp only [hn2, or_false, or_assoc]
theorem addL_first {s : List Rg} {r : Rg} (hl : ∀ q ∈ s, q.1 ≤ r.1) : ∀ q ∈ addL s r, q.1 ≤ r.1 := by
  rcases List.eq_nil_or_concat s with rfl | ⟨t, q, rfl⟩
  · intro p hp
    rw [addL_nil] at hp
    rw [List.mem_singleton.1 hp]
    omega
  · rw [List.concat_eq_append] at *
    rw [addL_snoc]
    intro p hp
    split at hp
    · rcases List.mem_append.1 hp with hp | hp
      · exact hl p (List.mem_append_left _ hp)
      · rcases List.mem_cons.1 hp with rfl | hp
        · exact hl p (by simp)
        · rw [List.mem_singleton.1 hp]; omega
    · rcases List.mem_append.1 hp with hp | hp
      · exact hl p (List.mem_append_left _ hp)
      · rw [List.mem_singleton.1 hp]
        exact hl q (by simp)
theorem addL_length (s : List Rg) (r : Rg) : (addL s r).length ≤ s.length + 1 := by
  rcases List.eq_nil_or_concat s with rfl | ⟨t, q, rfl⟩
  · rw [addL_nil]; simp
  · rw [List.concat_eq_append, addL_snoc]
    split <;> simp
theorem addL_pos (s : List Rg) (r : Rg) : 1 ≤ (addL s r).length := by
  rcases List.eq_nil_or_concat s with rfl | ⟨t, q, rfl⟩
  · rw [addL_nil]; simp
  · rw [List.concat_eq_append, addL_snoc]
    split <;> simp
/-- Ranges in the order of their first runes, added one by one. -/
theorem fold_add : ∀ (l s : List Rg), Canon s → (∀ r ∈ l, okR r) → l.Pairwise (fun a b => a.1 ≤ b.1) → (∀ q ∈ s, ∀ r ∈ l, q.1 ≤ r.1) →
    Canon (l.foldl addL s) ∧ (∀ x, inS (l.foldl addL s) x ↔ inS s x ∨ inS l x) ∧ (l.foldl addL s).length ≤ s.length + l.length
  | [], s, h, _, _, _ => ⟨h, fun x => ⟨.inl, fun h => h.resolve_right (inS_nil x)⟩, by simp⟩
  | r :: l, s, h, hl, hp, hs => by
    have h1 := hl r List.mem_cons_self
    have h2 := fun q hq => hs q hq r List.mem_cons_self
    obtain ⟨c1, c2, c3⟩ := fold_add l (addL s r) (addL_canon h h1 h2) (fun q hq => hl q (List.mem_cons_of_mem _ hq)) (List.pairwise_cons.1 hp).2 (fun q hq p hpl => Int.le_trans (addL_first h2 q hq) ((List.pairwise_cons.1 hp).1 p hpl))
    refine ⟨c1, fun x => ?_, ?_⟩
    · rw [List.foldl_cons, c2 x, addL_in h.2 h2, inS_cons, or_assoc]
    · have := addL_length s r
      rw [List.foldl_cons, List.length_cons]
      omega
theorem isOf_fold {l s : List Rg} (hp : s.Perm (clipL l)) (hs : s.Pairwise (fun a b => a.1 ≤ b.1)) : IsOf l (s.foldl addL []) ∧ (s.foldl addL []).length ≤ l.length := by
  obtain ⟨h1, h2, h3⟩ := fold_add s [] canon_nil (fun r hr => clipL_ok (hp.mem_iff.1 hr)) hs (fun q hq => by cases hq)
  refine ⟨⟨h1, fun x => ?_⟩, ?_⟩
  · rw [h2 x, ← clipL_in]
    constructor
    · rintro (h | ⟨r, hr, hx⟩)
      · exact absurd h (inS_nil x)
      · exact ⟨r, hp.mem_iff.1 hr, hx⟩
    · rintro ⟨r, hr, hx⟩
      exact .inr ⟨r, hp.mem_iff.2 hr, hx⟩
  · have h4 := hp.length_eq
    have h5 : (clipL l).length ≤ l.length := by
      unfold clipL
      have := List.length_filter_le (fun r : Rg => decide (r.1 ≤ r.2)) (l.map clipR)
      rwa [List.length_map] at this
    simp only [List.length_nil, Nat.zero_add] at h3
    omega
end Go.Proofs.Ytpmcnmlpkpoopaa
