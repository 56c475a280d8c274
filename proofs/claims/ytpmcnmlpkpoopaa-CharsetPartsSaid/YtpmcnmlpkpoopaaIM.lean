/- Plain: what charset.Inter's callback makes of the ranges and gaps of one set and the ranges of another. -/
import Derived.Test.YtpmcnmlpkpoopaaS
namespace Go.Proofs.Ytpmcnmlpkpoopaa
open Go.RowKit

/-- The ranges that end before n are dropped; those that begin by r's end are held against r. -/
def dropR (n : Int) : List Rg → List Rg
  | [] => []
  | q :: R => if q.2 < n then dropR n R else q :: R
def hitR (r : Rg) : List Rg → List Rg
  | [] => []
  | q :: R => if q.1 ≤ r.2 then ovR r q :: hitR r R else []
/-- One call of the callback: what is left of the one set, what has been found. -/
def interStep (s : List Rg × List Rg) (x : Rg × Bool) : List Rg × List Rg := (dropR x.1.1 s.1, if x.2 then s.2 ++ hitR x.1 (dropR x.1.1 s.1) else s.2)
theorem dropR_canon : ∀ (n : Int) (R : List Rg), Canon R → Canon (dropR n R)
  | _, [], h => h
  | n, q :: R, h => by
    rw [dropR]
    split
    · exact dropR_canon n R h.tail
    · exact h
theorem dropR_in : ∀ (n : Int) (R : List Rg) (x : Int), n ≤ x → (inS (dropR n R) x ↔ inS R x)
  | _, [], _, _ => Iff.rfl
  | n, q :: R, x, h => by
    rw [dropR]
    split
    · rw [dropR_in n R x h, inS_cons]
      constructor
      · exact .inr
      · rintro (h2 | h2)
        · have := h2.2; omega
        · exact h2
    · exact Iff.rfl
theorem dropR_low : ∀ (n : Int) (R : List Rg), Canon R → ∀ q ∈ dropR n R, n ≤ q.2
  | _, [], _, q, hq => by cases hq
  | n, p :: R, h, q, hq => by
    rw [dropR] at hq
    split at hq
    · exact dropR_low n R h.tail q hq
    · rename_i hp
      rcases List.mem_cons.1 hq with rfl | hq
      · omega
      · have h1 := (List.pairwise_cons.1 h.1).1 q hq
        have h2 := h.2 q (List.mem_cons_of_mem _ hq)
        unfold apart at h1
        unfold okR at h2
        omega
theorem dropR_length : ∀ (n : Int) (R : List Rg), (dropR n R).length ≤ R.length
  | _, [] => Nat.le_refl _
  | n, q :: R => by
    rw [dropR]
    split
    · have := dropR_length n R
      rw [List.length_cons]; omega
    · exact Nat.le_refl _
theorem hitR_length : ∀ (r : Rg) (R : List Rg), (hitR r R).length ≤ R.length
  | _, [] => Nat.le_refl _
  | r, q :: R => by
    rw [hitR]
    split
    · have := hitR_length r R
      rw [List.length_cons, List.length_cons]; omega
    · simp
/-- What is found in a range: canonical, within it, and just what is in both. -/
theorem hitR_is : ∀ (r : Rg) (R : List Rg), okR r → Canon R → (∀ q ∈ R, r.1 ≤ q.2) →
    Canon (hitR r R) ∧ ∀ x, inS (hitR r R) x ↔ inR r x ∧ inS R x
  | r, [], _, _, _ => ⟨canon_nil, fun x => by rw [hitR]; have := inS_nil x; simp [this]⟩
  | r, q :: R, hr, h, hl => by
    have hq := h.head
    have h1 := hl q List.mem_cons_self
    obtain ⟨c1, c2⟩ := hitR_is r R hr h.tail (fun p hp => hl p (List.mem_cons_of_mem _ hp))
    rw [hitR]
    split
    · rename_i h2
      refine ⟨⟨List.pairwise_cons.2 ⟨fun p hp => ?_, c1.1⟩, fun p hp => ?_⟩, fun x => ?_⟩
      · have hp1 := c1.2 p hp
        have := (c2 p.1).1 ⟨p, hp, Int.le_refl _, hp1.2.1⟩
        have := h.far this.2
        unfold apart ovR
        dsimp only
        omega
      · rcases List.mem_cons.1 hp with rfl | hp
        · unfold okR ovR at *
          dsimp only
          omega
        · exact c1.2 p hp
      · rw [inS_cons, inS_cons, inR_ov, c2 x]
        constructor
        · rintro (⟨a, b⟩ | ⟨a, b⟩)
          · exact ⟨a, .inl b⟩
          · exact ⟨a, .inr b⟩
        · rintro ⟨a, b | b⟩
          · exact .inl ⟨a, b⟩
          · exact .inr ⟨a, b⟩
    · rename_i h2
      refine ⟨canon_nil, fun x => ?_⟩
      have := inS_nil x
      simp only [this, false_iff]
      rintro ⟨a, b⟩
      rw [inS_cons] at b
      rcases b with b | b
      · have := a.2; have := b.1; omega
      · have := h.far b
        have := a.2
        unfold okR at hq
        omega
theorem inter_gap (s : List Rg × List Rg) (nx last : Int) : (gapL nx last).foldl interStep s = (if nx ≤ last then dropR nx s.1 else s.1, s.2) := by
  unfold gapL
  split
  · rfl
  · rfl
/-- All calls: canonical, and just what is in both. -/
theorem inter_walk : ∀ (l : List Rg) (nx : Int) (R F : List Rg), Canon l → Canon R → (∀ q ∈ l, nx ≤ q.1) →
    ∃ G, ((walkFrom nx l).foldl interStep (R, F)).2 = F ++ G ∧ Canon G ∧ ∀ x, inS G x ↔ inS l x ∧ inS R x
  | [], nx, R, F, _, _, _ => ⟨[], by rw [walkFrom, inter_gap]; simp, canon_nil, fun x => by have := inS_nil x; simp [this]⟩
  | r :: l, nx, R, F, h, hR, hl => by
    have hr := h.head
    have hnr := hl r List.mem_cons_self
    rw [walkFrom, List.foldl_append, inter_gap, List.foldl_cons]
    have hD : Canon (if nx ≤ r.1 - 1 then dropR nx R else R) := by
      split
      · exact dropR_canon nx R hR
      · exact hR
    have hDi : ∀ x, nx ≤ x → (inS (if nx ≤ r.1 - 1 then dropR nx R else R) x ↔ inS R x) := fun x hx => by
      split
      · exact dropR_in nx R x hx
      · exact Iff.rfl
    generalize (if nx ≤ r.1 - 1 then dropR nx R else R) = D at *
    obtain ⟨k1, k2⟩ := hitR_is r (dropR r.1 D) hr (dropR_canon r.1 D hD) (dropR_low r.1 D hD)
    obtain ⟨G, g1, g2, g3⟩ := inter_walk l (r.2 + 1) (dropR r.1 D) (F ++ hitR r (dropR r.1 D)) h.tail (dropR_canon r.1 D hD) (fun q hq => by
      have := (List.pairwise_cons.1 h.1).1 q hq
      unfold apart at this
      omega)
    have hs : interStep (D, F) (r, true) = (dropR r.1 D, F ++ hitR r (dropR r.1 D)) := rfl
    rw [hs, g1]
    refine ⟨hitR r (dropR r.1 D) ++ G, List.append_assoc .., ?_, fun x => ?_⟩
    · refine ⟨List.pairwise_append.2 ⟨k1.1, g2.1, fun a ha b hb => ?_⟩, fun q hq => ?_⟩
      · have ho := k1.2 a ha
        have h1 := (k2 a.2).1 ⟨a, ha, ho.2.1, Int.le_refl _⟩
        have h2 := (g3 b.1).1 ⟨b, hb, Int.le_refl _, (g2.2 b hb).2.1⟩
        have := h.far h2.1
        have := h1.1.2
        unfold apart
        omega
      · rcases List.mem_append.1 hq with hq | hq
        · exact k1.2 q hq
        · exact g2.2 q hq
    · rw [inS_app, k2 x, g3 x, inS_cons]
      unfold okR at hr
      constructor
      · rintro (⟨a, b⟩ | ⟨a, b⟩)
        · have := a.1
          exact ⟨.inl a, (hDi x (by omega)).1 ((dropR_in r.1 D x a.1).1 b)⟩
        · have := h.far a
          exact ⟨.inr a, (hDi x (by omega)).1 ((dropR_in r.1 D x (by omega)).1 b)⟩
      · rintro ⟨a | a, b⟩
        · have := a.1
          exact .inl ⟨a, (dropR_in r.1 D x a.1).2 ((hDi x (by omega)).2 b)⟩
        · have := h.far a
          exact .inr ⟨a, (dropR_in r.1 D x (by omega)).2 ((hDi x (by omega)).2 b)⟩
/-- l is the canonical form of what is in both. -/
def IsBoth (a b l : List Rg) : Prop := Canon l ∧ ∀ x, inS l x ↔ inU a x ∧ inU b x
theorem inter_bound : ∀ (d : List (Rg × Bool)) (s : List Rg × List Rg), (d.foldl interStep s).1.length ≤ s.1.length ∧ (d.foldl interStep s).2.length ≤ s.2.length + d.length * s.1.length
  | [], s => by simp
  | x :: d, s => by
    obtain ⟨h1, h2⟩ := inter_bound d (interStep s x)
    have h3 : (interStep s x).1.length ≤ s.1.length := dropR_length _ _
    have h4 : (interStep s x).2.length ≤ s.2.length + s.1.length := by
      unfold interStep
      dsimp only
      split
      · rw [List.length_append]
        have := hitR_length x.1 (dropR x.1.1 s.1)
        have := dropR_length x.1.1 s.1
        omega
      · omega
    rw [List.foldl_cons, List.length_cons]
    refine ⟨Nat.le_trans h1 h3, ?_⟩
    have h5 := Nat.mul_le_mul_left d.length h3
    rw [Nat.add_mul, Nat.one_mul]
    omega
end Go.Proofs.Ytpmcnmlpkpoopaa
