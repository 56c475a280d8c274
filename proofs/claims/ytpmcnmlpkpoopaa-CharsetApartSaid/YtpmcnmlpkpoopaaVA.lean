/- Plain: what the pieces of a list of sets are: stretches, in order, over all runes; classes by membership, numbered as they appear. -/
import Derived.Test.YtpmcnmlpkpoopaaV
import Derived.Test.YtpmcnmlpkpoopaaGM
namespace Go.Proofs.Ytpmcnmlpkpoopaa
open Go.RowKit Go.Shelf

/-- Ranges that follow upon each other, from a rune on, to the last one. -/
def Chain : Int → List Rg → Prop
  | c, [] => c = 1114112
  | c, r :: l => r.1 = c ∧ c ≤ r.2 ∧ r.2 ≤ 1114111 ∧ Chain (r.2 + 1) l
/-- Classes are numbered as they appear, behind n. -/
def Numb : Int → List Int → Prop
  | _, [] => True
  | n, p :: P => 0 ≤ p ∧ p ≤ n + 1 ∧ Numb (max n p) P
/-- Neighbours differ. -/
def Adj {α : Type} : List α → Prop
  | p :: q :: P => p ≠ q ∧ Adj (q :: P)
  | _ => True
theorem Adj.tail {α : Type} {p : α} {P : List α} (h : Adj (p :: P)) : Adj P := by
  cases P with
  | nil => trivial
  | cons q P => exact h.2
structure Good (key : Int → List Bool) (P : List Pc) : Prop where
  chain : Chain 0 (P.map (·.1))
  numb : Numb 0 (P.map (·.2))
  adj : Adj (P.map (·.2))
  same : ∀ p ∈ P, ∀ q ∈ P, ∀ x y, inR p.1 x → inR q.1 y → (p.2 = q.2 ↔ key x = key y)
  zero : ∀ p ∈ P, ∀ x, inR p.1 x → (p.2 = 0 ↔ ∀ b ∈ key x, b = false)
theorem Good.congr {k k' : Int → List Bool} {P : List Pc} (h : Good k P) (e : ∀ x y, k x = k y ↔ k' x = k' y) (e0 : ∀ x, (∀ b ∈ k x, b = false) ↔ ∀ b ∈ k' x, b = false) : Good k' P :=
  ⟨h.chain, h.numb, h.adj, fun p hp q hq x y hx hy => (h.same p hp q hq x y hx hy).trans (e x y), fun p hp x hx => (h.zero p hp x hx).trans (e0 x)⟩

/-- Whether a set holds a rune. -/
noncomputable def hasB (L : List Rg) (x : Int) : Bool := @decide (inU L x) (Classical.propDecidable _)
theorem hasB_iff (L : List Rg) (x : Int) : hasB L x = true ↔ inU L x := by unfold hasB; exact @decide_eq_true_iff _ (Classical.propDecidable _)
noncomputable def keyL (LL : List (List Rg)) (x : Int) : List Bool := LL.map fun L => hasB L x

/-- One set. -/
theorem gap_map (nx last : Int) : (pcsOf (gapL nx last)) = if nx ≤ last then [((nx, last), 0)] else [] := by
  unfold gapL pcsOf
  split <;> rfl
theorem pcsOf_app (a b : List (Rg × Bool)) : pcsOf (a ++ b) = pcsOf a ++ pcsOf b := by unfold pcsOf; rw [List.map_append]
theorem pcsOf_true (r : Rg) (d : List (Rg × Bool)) : pcsOf ((r, true) :: d) = (r, 1) :: pcsOf d := rfl
theorem walk_one : ∀ (l : List Rg) (nx : Int), Canon l → 0 ≤ nx → nx ≤ 1114112 → (∀ q ∈ l, nx ≤ q.1) →
    Chain nx ((pcsOf (walkFrom nx l)).map (·.1)) ∧ (∀ p ∈ pcsOf (walkFrom nx l), ∀ x, inR p.1 x → nx ≤ x ∧ ((p.2 = 1 ∧ inS l x) ∨ (p.2 = 0 ∧ ¬ inS l x))) ∧ Adj ((pcsOf (walkFrom nx l)).map (·.2)) ∧
      ((∀ q ∈ l, nx < q.1) → ∀ p ∈ ((pcsOf (walkFrom nx l)).map (·.2)).head?, p = 0)
  | [], nx, _, h0, h1, _ => by
    rw [walkFrom, gap_map]
    split
    · refine ⟨⟨rfl, by assumption, Int.le_refl _, rfl⟩, fun p hp x hx => ?_, trivial, fun _ p hp => by simpa using hp.symm⟩
      rw [List.mem_singleton.1 hp] at *
      exact ⟨hx.1, .inr ⟨rfl, inS_nil x⟩⟩
    · refine ⟨?_, fun p hp => (by cases hp), trivial, fun _ p hp => (by cases hp)⟩
      show nx = 1114112
      omega
  | r :: l, nx, hc, h0, h1, hl => by
    have hr := hc.head
    have hnr := hl r List.mem_cons_self
    unfold okR at hr
    have hfar : ∀ q ∈ l, r.2 + 1 < q.1 := fun q hq => by
      have := (List.pairwise_cons.1 hc.1).1 q hq
      unfold apart at this
      omega
    obtain ⟨c1, c2, c3, c4⟩ := walk_one l (r.2 + 1) hc.tail (by omega) (by omega) (fun q hq => by have := hfar q hq; omega)
    have c5 := c4 hfar
    have hmem : ∀ p ∈ (r, (1 : Int)) :: pcsOf (walkFrom (r.2 + 1) l), ∀ x, inR p.1 x → nx ≤ x ∧ ((p.2 = 1 ∧ inS (r :: l) x) ∨ (p.2 = 0 ∧ ¬ inS (r :: l) x)) := by
      intro p hp x hx
      rcases List.mem_cons.1 hp with rfl | hp
      · exact ⟨Int.le_trans hnr hx.1, .inl ⟨rfl, (inS_cons _ _ _).2 (.inl hx)⟩⟩
      · obtain ⟨d1, d2⟩ := c2 p hp x hx
        refine ⟨by omega, ?_⟩
        rcases d2 with ⟨d2, d3⟩ | ⟨d2, d3⟩
        · exact .inl ⟨d2, (inS_cons _ _ _).2 (.inr d3)⟩
        · refine .inr ⟨d2, fun h => ?_⟩
          rcases (inS_cons _ _ _).1 h with h | h
          · have := h.2; omega
          · exact d3 h
    have hadj : Adj (((r, (1 : Int)) :: pcsOf (walkFrom (r.2 + 1) l)).map (·.2)) := by
      rw [List.map_cons]
      generalize (pcsOf (walkFrom (r.2 + 1) l)).map (·.2) = Z at c3 c5
      cases Z with
      | nil => trivial
      | cons z Z => exact ⟨by have := c5 z (by simp); dsimp only; omega, c3⟩
    rw [walkFrom, pcsOf_app, pcsOf_true, gap_map]
    by_cases hg : nx ≤ r.1 - 1
    · rw [if_pos hg]
      refine ⟨⟨rfl, hg, by dsimp only; omega, ?_⟩, fun p hp x hx => ?_, ⟨by dsimp only; omega, hadj⟩, fun _ p hp => by simpa using hp.symm⟩
      · show Chain (r.1 - 1 + 1) _
        rw [show r.1 - 1 + 1 = r.1 by omega]
        exact ⟨rfl, hr.2.1, hr.2.2, c1⟩
      · rcases List.mem_cons.1 hp with rfl | hp
        · refine ⟨hx.1, .inr ⟨rfl, fun h => ?_⟩⟩
          have h2 := hx.2
          dsimp only at h2
          rcases (inS_cons _ _ _).1 h with h | h
          · have := h.1; omega
          · have := hc.far h; omega
        · exact hmem p hp x hx
    · rw [if_neg hg, List.nil_append]
      refine ⟨⟨by dsimp only; omega, by dsimp only; omega, hr.2.2, c1⟩, hmem, hadj, fun h => ?_⟩
      have := h r List.mem_cons_self
      omega
theorem numb_two : ∀ (P : List Int) (n : Int), 0 ≤ n → (∀ p ∈ P, p = 0 ∨ p = 1) → Numb n P
  | [], _, _, _ => trivial
  | p :: P, n, hn, h => by
    have h1 := h p List.mem_cons_self
    exact ⟨by omega, by omega, numb_two P _ (by omega) fun q hq => h q (List.mem_cons_of_mem _ hq)⟩
theorem chain_ok : ∀ (l : List Rg) (c : Int), 0 ≤ c → Chain c l → ∀ r ∈ l, okR r ∧ c ≤ r.1
  | [], _, _, _, r, h => by cases h
  | q :: l, c, hc, ⟨h1, h2, h3, h4⟩, r, h => by
    rcases List.mem_cons.1 h with rfl | h
    · unfold okR; omega
    · have := chain_ok l _ (by omega) h4 r h
      exact ⟨this.1, by omega⟩
theorem chain_in : ∀ (l : List Rg) (c : Int), Chain c l → ∀ x, c ≤ x → x ≤ 1114111 → ∃ r ∈ l, inR r x
  | [], c, h, x, h1, h2 => by have : c = 1114112 := h; omega
  | q :: l, c, ⟨h1, h2, h3, h4⟩, x, a, b => by
    by_cases hx : x ≤ q.2
    · exact ⟨q, List.mem_cons_self, by omega, hx⟩
    · obtain ⟨r, hr, hx⟩ := chain_in l _ h4 x (by omega) b
      exact ⟨r, List.mem_cons_of_mem _ hr, hx⟩
theorem pieces1_good (L : List Rg) : Good (fun x => [hasB L x]) (pieces1 L) := by
  have hc := canF_is L
  obtain ⟨c1, c2, c3, _⟩ := walk_one (canF L) 0 hc.1 (Int.le_refl _) (by omega) (fun q hq => (hc.1.2 q hq).1)
  have key : ∀ p ∈ pieces1 L, ∀ x, inR p.1 x → (p.2 = 1 ∧ hasB L x = true) ∨ (p.2 = 0 ∧ hasB L x = false) := fun p hp x hx => by
    rcases (c2 p hp x hx).2 with ⟨h1, h2⟩ | ⟨h1, h2⟩
    · exact .inl ⟨h1, (hasB_iff _ _).2 ((hc.2 x).1 h2)⟩
    · exact .inr ⟨h1, Bool.eq_false_iff.2 fun h => h2 ((hc.2 x).2 ((hasB_iff _ _).1 h))⟩
  refine ⟨c1, numb_two _ _ (Int.le_refl _) fun p hp => ?_, c3, fun p hp q hq x y hx hy => ?_, fun p hp x hx => ?_⟩
  · obtain ⟨q, hq, rfl⟩ := List.mem_map.1 hp
    have ho := (chain_ok _ _ (Int.le_refl _) c1 q.1 (List.mem_map.2 ⟨q, hq, rfl⟩)).1
    rcases key q hq q.1.1 ⟨Int.le_refl _, ho.2.1⟩ with h | h
    · exact .inr h.1
    · exact .inl h.1
  · rcases key p hp x hx with ⟨a1, a2⟩ | ⟨a1, a2⟩ <;> rcases key q hq y hy with ⟨b1, b2⟩ | ⟨b1, b2⟩ <;> simp [a1, a2, b1, b2]
  · rcases key p hp x hx with ⟨a1, a2⟩ | ⟨a1, a2⟩ <;> simp [a1, a2]
theorem hasB_nil (x : Int) : hasB [] x = false := Bool.eq_false_iff.2 fun h => inS_nil x ((hasB_iff _ _).1 h).2
theorem pieces1_none : Good (fun _ => []) (pieces1 []) := (pieces1_good []).congr (by simp [hasB_nil]) (by simp [hasB_nil])

/-- Two lists of pieces, met. -/
def meetP : Nat → List Pc → List Pc → List (Pc × Pc)
  | n + 1, x :: a, y :: b => (x, y) :: meetP n (if x.1.2 ≤ y.1.2 then a else x :: a) (if y.1.2 ≤ x.1.2 then b else y :: b)
  | _, _, _ => []
def prOf (s : Pc × Pc) : Pr := (s.1.2, s.2.2)
def numF : List Pr → List (Pc × Pc) → List Pc
  | _, [] => []
  | C, s :: S => (ovR s.1.1 s.2.1, (((if prOf s ∈ C then C else C ++ [prOf s]).idxOf (prOf s) : Nat) : Int)) :: numF (if prOf s ∈ C then C else C ++ [prOf s]) S
theorem comb_num : ∀ (n : Nat) (C : List Pr) (a b : List Pc), combF n C a b = numF C (meetP n a b)
  | 0, _, _, _ => rfl
  | n + 1, C, [], b => by rw [combF_nil1]; rfl
  | n + 1, C, x :: a, [] => by rw [combF_nil2]; rfl
  | n + 1, C, x :: a, y :: b => by rw [combF, meetP, numF, comb_num n]; rfl
theorem idxOf_mem_app {C D : List Pr} {p : Pr} (h : p ∈ C) : (C ++ D).idxOf p = C.idxOf p := by rw [List.idxOf_append, if_pos h]
theorem num_final : ∀ (S : List (Pc × Pc)) (C : List Pr), ∃ D, (∀ s ∈ S, prOf s ∈ C ++ D) ∧ numF C S = S.map fun s => (ovR s.1.1 s.2.1, (((C ++ D).idxOf (prOf s) : Nat) : Int))
  | [], C => ⟨[], (fun s h => by cases h), rfl⟩
  | s :: S, C => by
    by_cases h : prOf s ∈ C
    · obtain ⟨D, d1, d2⟩ := num_final S C
      refine ⟨D, fun q hq => ?_, ?_⟩
      · rcases List.mem_cons.1 hq with rfl | hq
        · exact List.mem_append_left _ h
        · exact d1 q hq
      · rw [numF, if_pos h, d2, List.map_cons, idxOf_mem_app h]
    · obtain ⟨D, d1, d2⟩ := num_final S (C ++ [prOf s])
      refine ⟨[prOf s] ++ D, fun q hq => ?_, ?_⟩
      · rcases List.mem_cons.1 hq with rfl | hq
        · simp
        · have := d1 q hq
          rwa [List.append_assoc] at this
      · rw [numF, if_neg h, d2, List.map_cons, ← List.append_assoc, idxOf_mem_app (C := C ++ [prOf s]) (by simp)]
theorem idxOf_le_len {C : List Pr} {p : Pr} (h : p ∈ C) : C.idxOf p < C.length := List.idxOf_lt_length_iff.2 h
theorem num_numb : ∀ (S : List (Pc × Pc)) (C : List Pr) (n : Int), C.length = n + 1 → 0 ≤ n → Numb n ((numF C S).map (·.2))
  | [], _, _, _, _ => trivial
  | s :: S, C, n, hn, h0 => by
    rw [numF, List.map_cons]
    by_cases h : prOf s ∈ C
    · rw [if_pos h]
      have h1 := idxOf_le_len h
      refine ⟨by dsimp only; omega, by dsimp only; omega, ?_⟩
      rw [show max n (((C.idxOf (prOf s) : Nat) : Int)) = n by omega]
      exact num_numb S C n hn h0
    · rw [if_neg h]
      have h1 : (C ++ [prOf s]).idxOf (prOf s) = C.length := by rw [List.idxOf_append, if_neg h]; simp
      rw [h1]
      refine ⟨by dsimp only; omega, by dsimp only; omega, ?_⟩
      rw [show max n ((C.length : Nat) : Int) = n + 1 by omega]
      exact num_numb S _ _ (by rw [List.length_append]; simp; omega) (by omega)
theorem idxOf_inj {C : List Pr} {p q : Pr} (hp : p ∈ C) (hq : q ∈ C) (h : C.idxOf p = C.idxOf q) : p = q := by
  have a1 := List.getElem_idxOf (idxOf_le_len hp)
  have a2 := List.getElem_idxOf (idxOf_le_len hq)
  rw [← a1, ← a2]
  simp only [h]

/-- Both lists stand at the rune c. -/
def Front (c : Int) (A B : List Pc) : Prop :=
  (A = [] ∧ B = [] ∧ c = 1114112) ∨ ∃ x a y b, A = x :: a ∧ B = y :: b ∧ x.1.1 ≤ c ∧ y.1.1 ≤ c ∧ (x.1.1 = c ∨ y.1.1 = c) ∧ c ≤ x.1.2 ∧ c ≤ y.1.2 ∧ x.1.2 ≤ 1114111 ∧ y.1.2 ≤ 1114111 ∧ Chain (x.1.2 + 1) (a.map (·.1)) ∧ Chain (y.1.2 + 1) (b.map (·.1))
theorem front_both {c : Int} {A B : List Pc} (ha : Chain c (A.map (·.1))) (hb : Chain c (B.map (·.1))) : Front c A B := by
  cases A with
  | nil =>
    have hc : c = 1114112 := ha
    cases B with
    | nil => exact .inl ⟨rfl, rfl, hc⟩
    | cons y b => obtain ⟨b1, b2, b3, b4⟩ := hb; omega
  | cons x a =>
    obtain ⟨a1, a2, a3, a4⟩ := ha
    cases B with
    | nil => have hc : c = 1114112 := hb; omega
    | cons y b =>
      obtain ⟨b1, b2, b3, b4⟩ := hb
      dsimp only at a1 a2 a3 a4 b1 b2 b3 b4
      exact .inr ⟨x, a, y, b, rfl, rfl, by omega, by omega, .inl a1, a2, b2, a3, b3, a4, b4⟩
theorem meet_is : ∀ (n : Nat) (c : Int) (A B : List Pc), A.length + B.length ≤ n → 0 ≤ c → Front c A B → Adj (A.map (·.2)) → Adj (B.map (·.2)) →
    Chain c ((meetP n A B).map fun s => ovR s.1.1 s.2.1) ∧ (∀ s ∈ meetP n A B, s.1 ∈ A ∧ s.2 ∈ B) ∧ Adj ((meetP n A B).map prOf) ∧ (∀ q ∈ ((meetP n A B).map prOf).head?, ∀ x ∈ A.head?, ∀ y ∈ B.head?, q = (x.2, y.2))
  | 0, c, A, B, hn, h0, hf, _, _ => by
    rcases hf with ⟨rfl, rfl, hc⟩ | ⟨x, a, y, b, rfl, rfl, _⟩
    · exact ⟨hc, fun s h => (by cases h), trivial, fun q h => (by cases h)⟩
    · simp at hn
  | n + 1, c, A, B, hn, h0, hf, hA, hB => by
    rcases hf with ⟨rfl, rfl, hc⟩ | ⟨x, a, y, b, rfl, rfl, h1, h2, h3, h4, h5, h6, h7, h8, h9⟩
    · exact ⟨hc, fun s h => (by cases h), trivial, fun q h => (by cases h)⟩
    · rw [List.length_cons, List.length_cons] at hn
      rw [meetP]
      have hov : ovR x.1 y.1 = (c, min x.1.2 y.1.2) := by
        unfold ovR
        rw [Prod.mk.injEq]
        exact ⟨by omega, rfl⟩
      have fin : ∀ A' B', (∀ p ∈ A', p ∈ x :: a) → (∀ p ∈ B', p ∈ y :: b) → A'.length + B'.length ≤ n → Front (min x.1.2 y.1.2 + 1) A' B' → Adj (A'.map (·.2)) → Adj (B'.map (·.2)) → (∀ p ∈ A'.head?, ∀ q ∈ B'.head?, p.2 ≠ x.2 ∨ q.2 ≠ y.2) →
          Chain c (((x, y) :: meetP n A' B').map fun s => ovR s.1.1 s.2.1) ∧ (∀ s ∈ (x, y) :: meetP n A' B', s.1 ∈ x :: a ∧ s.2 ∈ y :: b) ∧ Adj (((x, y) :: meetP n A' B').map prOf) ∧ (∀ q ∈ (((x, y) :: meetP n A' B').map prOf).head?, ∀ p ∈ (x :: a).head?, ∀ r ∈ (y :: b).head?, q = (p.2, r.2)) := by
        intro A' B' ia ib hl hf' ja jb hd
        obtain ⟨g1, g2, g3, g4⟩ := meet_is n _ A' B' hl (by omega) hf' ja jb
        refine ⟨?_, fun s hs => ?_, ?_, fun q hq p hp r hr => ?_⟩
        · rw [List.map_cons]
          show Chain c (ovR x.1 y.1 :: _)
          rw [hov]
          exact ⟨rfl, by dsimp only; omega, by dsimp only; omega, g1⟩
        · rcases List.mem_cons.1 hs with rfl | hs
          · exact ⟨List.mem_cons_self, List.mem_cons_self⟩
          · exact ⟨ia _ (g2 s hs).1, ib _ (g2 s hs).2⟩
        · rw [List.map_cons]
          rcases hf' with ⟨rfl, rfl, _⟩ | ⟨x', a', y', b', rfl, rfl, _⟩
          · cases n <;> exact trivial
          · generalize (meetP n (x' :: a') (y' :: b')).map prOf = Z at g3 g4
            cases Z with
            | nil => trivial
            | cons z Z =>
              refine ⟨fun e => ?_, g3⟩
              have e2 := g4 z (by simp) x' (by simp) y' (by simp)
              rw [← e] at e2
              have e3 : x.2 = x'.2 ∧ y.2 = y'.2 := by simpa [prOf] using e2
              rcases hd x' (by simp) y' (by simp) with h | h
              · exact h e3.1.symm
              · exact h e3.2.symm
        · simp at hq hp hr
          rw [← hq, ← hp, ← hr]; rfl
      have na : ∀ p ∈ a.head?, p.2 ≠ x.2 := fun p hp e => by
        cases a with
        | nil => cases hp
        | cons z a => simp at hp; subst hp; exact hA.1 e.symm
      have nb : ∀ p ∈ b.head?, p.2 ≠ y.2 := fun p hp e => by
        cases b with
        | nil => cases hp
        | cons z b => simp at hp; subst hp; exact hB.1 e.symm
      rcases Int.lt_trichotomy x.1.2 y.1.2 with hlt | heq | hgt
      · rw [if_pos (by omega), if_neg (by omega)]
        refine fin a (y :: b) (fun p hp => List.mem_cons_of_mem _ hp) (fun p hp => hp) (by rw [List.length_cons]; omega) ?_ hA.tail hB (fun p hp q hq => .inl (na p hp))
        rw [show min x.1.2 y.1.2 + 1 = x.1.2 + 1 by omega]
        cases a with
        | nil => have : x.1.2 + 1 = 1114112 := h8; omega
        | cons x' a =>
          obtain ⟨k1, k2, k3, k4⟩ := h8
          dsimp only at k1 k2 k3 k4
          exact .inr ⟨x', a, y, b, rfl, rfl, by omega, by omega, .inl k1, k2, by omega, k3, h7, k4, h9⟩
      · rw [if_pos (by omega), if_pos (by omega)]
        refine fin a b (fun p hp => List.mem_cons_of_mem _ hp) (fun p hp => List.mem_cons_of_mem _ hp) (by omega) ?_ hA.tail hB.tail (fun p hp q hq => .inl (na p hp))
        rw [show min x.1.2 y.1.2 + 1 = x.1.2 + 1 by omega]
        refine front_both h8 ?_
        rw [heq]
        exact h9
      · rw [if_neg (by omega), if_pos (by omega)]
        refine fin (x :: a) b (fun p hp => hp) (fun p hp => List.mem_cons_of_mem _ hp) (by rw [List.length_cons]; omega) ?_ hA hB.tail (fun p hp q hq => .inr (nb q hq))
        rw [show min x.1.2 y.1.2 + 1 = y.1.2 + 1 by omega]
        cases b with
        | nil => have : y.1.2 + 1 = 1114112 := h9; omega
        | cons y' b =>
          obtain ⟨k1, k2, k3, k4⟩ := h9
          dsimp only at k1 k2 k3 k4
          exact .inr ⟨x, a, y', b, rfl, rfl, by omega, by omega, .inr k1, by omega, k2, h6, k3, h8, k4⟩
theorem adj_map {α β : Type} (f : α → β) : ∀ (l : List α), (∀ a ∈ l, ∀ b ∈ l, f a = f b → a = b) → Adj l → Adj (l.map f)
  | [], _, _ => trivial
  | [a], _, _ => trivial
  | a :: b :: l, hi, ⟨h1, h2⟩ => ⟨fun e => h1 (hi a (by simp) b (by simp) e), adj_map f (b :: l) (fun x hx y hy => hi x (List.mem_cons_of_mem _ hx) y (List.mem_cons_of_mem _ hy)) h2⟩
theorem comb_good {kA kB : Int → List Bool} {A B : List Pc} {m : Nat} (hA : Good kA A) (hB : Good kB B) (hm : ∀ x, (kA x).length = m) : Good (fun x => kA x ++ kB x) (combineL A B) := by
  unfold combineL
  rw [comb_num]
  obtain ⟨m1, m2, m3, _⟩ := meet_is (A.length + B.length) 0 A B (Nat.le_refl _) (Int.le_refl _) (front_both hA.chain hB.chain) hA.adj hB.adj
  have hnum := num_numb (meetP (A.length + B.length) A B) [(0, 0)] 0 rfl (Int.le_refl _)
  obtain ⟨D, d1, d2⟩ := num_final (meetP (A.length + B.length) A B) [(0, 0)]
  generalize meetP (A.length + B.length) A B = S at *
  rw [d2] at hnum ⊢
  have hz : ∀ p ∈ [((0 : Int), (0 : Int))] ++ D, (((([((0 : Int), (0 : Int))] ++ D).idxOf p : Nat) : Int) = 0 ↔ p = (0, 0)) := fun p hp => by
    constructor
    · intro h
      have h0 : ([((0 : Int), (0 : Int))] ++ D).idxOf ((0 : Int), (0 : Int)) = 0 := by simp
      exact idxOf_inj hp (by simp) (by omega)
    · rintro rfl
      simp
  have hin : ∀ s x, inR (ovR s.1.1 s.2.1) x ↔ inR (s : Pc × Pc).1.1 x ∧ inR s.2.1 x := fun s x => inR_ov _ _ _
  have hlen : ∀ x y, kA x ++ kB x = kA y ++ kB y ↔ kA x = kA y ∧ kB x = kB y := fun x y => by
    constructor
    · intro h
      exact List.append_inj h (by rw [hm, hm])
    · rintro ⟨h1, h2⟩
      rw [h1, h2]
  refine ⟨?_, hnum, ?_, fun p hp q hq x y hx hy => ?_, fun p hp x hx => ?_⟩
  · rw [List.map_map]; exact m1
  · rw [List.map_map]
    have h := adj_map (fun p : Pr => ((([((0 : Int), (0 : Int))] ++ D).idxOf p : Nat) : Int)) (S.map prOf) (fun a ha b hb e => by
      obtain ⟨s, hs, rfl⟩ := List.mem_map.1 ha
      obtain ⟨t, ht, rfl⟩ := List.mem_map.1 hb
      exact idxOf_inj (d1 s hs) (d1 t ht) (by omega)) m3
    rw [List.map_map] at h
    exact h
  · obtain ⟨s, hs, rfl⟩ := List.mem_map.1 hp
    obtain ⟨t, ht, rfl⟩ := List.mem_map.1 hq
    have a1 := (hin s x).1 hx
    have a2 := (hin t y).1 hy
    have b1 := hA.same _ (m2 s hs).1 _ (m2 t ht).1 x y a1.1 a2.1
    have b2 := hB.same _ (m2 s hs).2 _ (m2 t ht).2 x y a1.2 a2.2
    rw [hlen, ← b1, ← b2]
    dsimp only
    constructor
    · intro h
      have := idxOf_inj (d1 s hs) (d1 t ht) (by omega)
      simpa [prOf] using this
    · intro h
      have : prOf s = prOf t := by simpa [prOf] using h
      rw [this]
  · obtain ⟨s, hs, rfl⟩ := List.mem_map.1 hp
    have a1 := (hin s x).1 hx
    have b1 := hA.zero _ (m2 s hs).1 x a1.1
    have b2 := hB.zero _ (m2 s hs).2 x a1.2
    dsimp only
    rw [hz _ (d1 s hs)]
    have : prOf s = (0, 0) ↔ s.1.2 = 0 ∧ s.2.2 = 0 := by simp [prOf]
    rw [this, b1, b2]
    constructor
    · rintro ⟨h1, h2⟩ b hb
      rcases List.mem_append.1 hb with hb | hb
      · exact h1 b hb
      · exact h2 b hb
    · intro h
      exact ⟨fun b hb => h b (List.mem_append_left _ hb), fun b hb => h b (List.mem_append_right _ hb)⟩
theorem pcsAll_good : ∀ (n : Nat) (LL : List (List Rg)), LL.length < n → Good (keyL LL) (pcsAll n LL)
  | 0, _, h => by omega
  | n + 1, LL, h => by
    rw [pcsAll]
    split
    · rename_i h0
      rw [List.length_eq_zero_iff.1 h0]
      exact pieces1_none
    · split
      · rename_i h0 h1
        obtain ⟨L, rfl⟩ : ∃ L, LL = [L] := List.length_eq_one_iff.1 h1
        exact pieces1_good L
      · rename_i h0 h1
        have a1 := pcsAll_good n (LL.take (LL.length / 2)) (by rw [List.length_take]; omega)
        have a2 := pcsAll_good n (LL.drop (LL.length / 2)) (by rw [List.length_drop]; omega)
        refine (comb_good (m := (LL.take (LL.length / 2)).length) a1 a2 (fun x => by simp [keyL])).congr (fun x y => ?_) (fun x => ?_)
        · unfold keyL
          rw [← List.map_append, ← List.map_append, List.take_append_drop]
        · unfold keyL
          rw [← List.map_append, List.take_append_drop]
end Go.Proofs.Ytpmcnmlpkpoopaa
