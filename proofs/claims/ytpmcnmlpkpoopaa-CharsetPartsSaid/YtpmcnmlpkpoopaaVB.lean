/- Plain: what Parts answers: the classes of the runes, each a canonical set, in the order of their first runes, the rest behind them. -/
import Derived.Test.YtpmcnmlpkpoopaaVA
namespace Go.Proofs.Ytpmcnmlpkpoopaa
open Go.RowKit Go.Shelf

def ofC (c : Int) (P : List Pc) : List Rg := (P.filter fun p => decide (p.2 = c)).map (·.1)
theorem ofC_app (c : Int) (P Q : List Pc) : ofC c (P ++ Q) = ofC c P ++ ofC c Q := by unfold ofC; rw [List.filter_append, List.map_append]
theorem ofC_cons (c : Int) (p : Pc) (P : List Pc) : ofC c (p :: P) = if p.2 = c then p.1 :: ofC c P else ofC c P := by
  unfold ofC
  rw [List.filter_cons]
  split <;> split <;> simp_all
theorem ofC_one (c : Int) (p : Pc) : ofC c [p] = if p.2 = c then [p.1] else [] := by rw [ofC_cons]; rfl
theorem ofC_mem (c : Int) (P : List Pc) (r : Rg) : r ∈ ofC c P ↔ ∃ p ∈ P, p.2 = c ∧ p.1 = r := by
  unfold ofC
  rw [List.mem_map]
  constructor
  · rintro ⟨p, h1, h2⟩
    obtain ⟨h3, h4⟩ := List.mem_filter.1 h1
    exact ⟨p, h3, of_decide_eq_true h4, h2⟩
  · rintro ⟨p, h1, h2, h3⟩
    exact ⟨p, List.mem_filter.2 ⟨h1, decide_eq_true h2⟩, h3⟩
theorem ofC_in (c : Int) (P : List Pc) (x : Int) : inS (ofC c P) x ↔ ∃ p ∈ P, p.2 = c ∧ inR p.1 x := by
  constructor
  · rintro ⟨r, hr, hx⟩
    obtain ⟨p, h1, h2, rfl⟩ := (ofC_mem _ _ _).1 hr
    exact ⟨p, h1, h2, hx⟩
  · rintro ⟨p, h1, h2, h3⟩
    exact ⟨p.1, (ofC_mem _ _ _).2 ⟨p, h1, h2, rfl⟩, h3⟩
theorem ofC_canon (k : Int) : ∀ (P : List Pc) (c : Int), 0 ≤ c → Chain c (P.map (·.1)) → Adj (P.map (·.2)) → Canon (ofC k P)
  | [], _, _, _, _ => canon_nil
  | p :: P, c, h0, hc, ha => by
    have hok := chain_ok _ _ h0 hc
    obtain ⟨h1, h2, h3, h4⟩ := hc
    have ih := ofC_canon k P _ (by omega) h4 ha.tail
    rw [ofC_cons]
    split
    · rename_i hk
      refine ⟨List.pairwise_cons.2 ⟨fun r hr => ?_, ih.1⟩, fun r hr => ?_⟩
      · obtain ⟨q, hq, hqk, rfl⟩ := (ofC_mem _ _ _).1 hr
        cases P with
        | nil => cases hq
        | cons p' P =>
          obtain ⟨k1, k2, k3, k4⟩ := h4
          rcases List.mem_cons.1 hq with rfl | hq
          · exact absurd (hk.trans hqk.symm) ha.1
          · have := (chain_ok _ _ (by dsimp only at *; omega) k4 q.1 (List.mem_map.2 ⟨q, hq, rfl⟩)).2
            unfold apart
            dsimp only at k1 k2 h1 h2 this
            omega
      · rcases List.mem_cons.1 hr with rfl | hr
        · exact (hok p.1 (by simp)).1
        · exact ih.2 r hr
    · exact ih
def hd (l : List Rg) : Int := (l.headD (0, 0)).1
theorem hd_app (l m : List Rg) (h : l ≠ []) : hd (l ++ m) = hd l := by
  cases l with
  | nil => exact absurd rfl h
  | cons x l => rfl
theorem hd_in {l : List Rg} (hc : Canon l) (h : l ≠ []) : inS l (hd l) := by
  cases l with
  | nil => exact absurd rfl h
  | cons x l => exact ⟨x, List.mem_cons_self, Int.le_refl _, hc.head.2.1⟩
theorem hd_mem {l : List Rg} (h : l ≠ []) : ∃ r ∈ l, r.1 = hd l := by
  cases l with
  | nil => exact absurd rfl h
  | cons x l => exact ⟨x, List.mem_cons_self, rfl⟩

theorem foldP_is : ∀ (P Q : List Pc) (n : Nat), Numb n (P.map (·.2)) → (∀ q ∈ Q, 0 ≤ q.2 ∧ q.2 ≤ n) → (∀ k : Nat, k < n → ofC ((k : Int) + 1) Q ≠ []) → (∀ i j : Nat, i < j → j < n → hd (ofC ((i : Int) + 1) Q) < hd (ofC ((j : Int) + 1) Q)) →
    (∀ q ∈ Q, ∀ p ∈ P, q.1.1 < p.1.1) → P.Pairwise (fun p q => p.1.1 < q.1.1) →
    ∃ m : Nat, P.foldl stepP (ofC 0 Q, (List.range n).map fun k : Nat => ofC ((k : Int) + 1) Q) = (ofC 0 (Q ++ P), (List.range m).map fun k : Nat => ofC ((k : Int) + 1) (Q ++ P)) ∧ (∀ q ∈ Q ++ P, 0 ≤ q.2 ∧ q.2 ≤ m) ∧
      (∀ k : Nat, k < m → ofC ((k : Int) + 1) (Q ++ P) ≠ []) ∧ ∀ i j : Nat, i < j → j < m → hd (ofC ((i : Int) + 1) (Q ++ P)) < hd (ofC ((j : Int) + 1) (Q ++ P))
  | [], Q, n, _, h2, h3, h4, _, _ => by
    rw [List.append_nil]
    exact ⟨n, rfl, h2, h3, h4⟩
  | p :: P, Q, n, ⟨a1, a2, a3⟩, h2, h3, h4, h5, h6 => by
    dsimp only at a1 a2 a3
    obtain ⟨b1, b2⟩ := List.pairwise_cons.1 h6
    have hQ : ∀ q ∈ Q ++ [p], ∀ r ∈ P, q.1.1 < r.1.1 := fun q hq r hr => by
      rcases List.mem_append.1 hq with hq | hq
      · exact h5 q hq r (List.mem_cons_of_mem _ hr)
      · rw [List.mem_singleton.1 hq]; exact b1 r hr
    have step : ∀ n' : Nat, (n' : Int) = max (n : Int) p.2 → stepP (ofC 0 Q, (List.range n).map fun k : Nat => ofC ((k : Int) + 1) Q) p = (ofC 0 (Q ++ [p]), (List.range n').map fun k : Nat => ofC ((k : Int) + 1) (Q ++ [p])) →
        (∀ k : Nat, k < n' → ofC ((k : Int) + 1) (Q ++ [p]) ≠ []) → (∀ i j : Nat, i < j → j < n' → hd (ofC ((i : Int) + 1) (Q ++ [p])) < hd (ofC ((j : Int) + 1) (Q ++ [p]))) →
        ∃ m : Nat, (p :: P).foldl stepP (ofC 0 Q, (List.range n).map fun k : Nat => ofC ((k : Int) + 1) Q) = (ofC 0 (Q ++ p :: P), (List.range m).map fun k : Nat => ofC ((k : Int) + 1) (Q ++ p :: P)) ∧ (∀ q ∈ Q ++ p :: P, 0 ≤ q.2 ∧ q.2 ≤ m) ∧
          (∀ k : Nat, k < m → ofC ((k : Int) + 1) (Q ++ p :: P) ≠ []) ∧ ∀ i j : Nat, i < j → j < m → hd (ofC ((i : Int) + 1) (Q ++ p :: P)) < hd (ofC ((j : Int) + 1) (Q ++ p :: P)) := by
      intro n' hn' e k1 k2
      have h := foldP_is P (Q ++ [p]) n' (by rw [hn']; exact a3) (fun q hq => by
        rcases List.mem_append.1 hq with hq | hq
        · have := h2 q hq; omega
        · rw [List.mem_singleton.1 hq]; omega) k1 k2 hQ b2
      rw [List.append_assoc, List.singleton_append] at h
      rw [List.foldl_cons, e]
      exact h
    have old : ∀ k : Nat, p.2 ≠ (k : Int) + 1 → ofC ((k : Int) + 1) (Q ++ [p]) = ofC ((k : Int) + 1) Q := fun k hk => by rw [ofC_app, ofC_one, if_neg hk, List.append_nil]
    have hds : ∀ k : Nat, k < n → hd (ofC ((k : Int) + 1) (Q ++ [p])) = hd (ofC ((k : Int) + 1) Q) := fun k hk => by rw [ofC_app, hd_app _ _ (h3 k hk)]
    have nes : ∀ k : Nat, k < n → ofC ((k : Int) + 1) (Q ++ [p]) ≠ [] := fun k hk e => by
      rw [ofC_app] at e
      exact h3 k hk (List.append_eq_nil_iff.1 e).1
    by_cases e0 : p.2 = 0
    · refine step n (by omega) ?_ nes fun i j hij hj => ?_
      · unfold stepP
        rw [if_pos e0, ofC_app, ofC_one, if_pos e0]
        congr 1
        exact List.map_congr_left fun k _ => (old k (by omega)).symm
      · rw [hds i (by omega), hds j hj]
        exact h4 i j hij hj
    · by_cases e1 : (n : Int) < p.2
      · have hp : p.2 = (n : Int) + 1 := by omega
        have hnew : ofC ((n : Int) + 1) (Q ++ [p]) = [p.1] := by
          rw [ofC_app, ofC_one, if_pos hp]
          have : ofC ((n : Int) + 1) Q = [] := by
            refine List.eq_nil_iff_forall_not_mem.2 fun r hr => ?_
            obtain ⟨q, hq, hk, _⟩ := (ofC_mem _ _ _).1 hr
            have := h2 q hq
            omega
          rw [this]; rfl
        refine step (n + 1) (by omega) ?_ (fun k hk => ?_) fun i j hij hj => ?_
        · unfold stepP
          dsimp only
          rw [if_neg e0, List.length_map, List.length_range, if_pos e1, List.range_succ, List.map_append, ofC_app 0, ofC_one, if_neg e0, List.append_nil, List.map_singleton, hnew]
          congr 2
          exact List.map_congr_left fun k hk => (old k (by have := List.mem_range.1 hk; omega)).symm
        · by_cases e : k = n
          · rw [e, hnew]; simp
          · exact nes k (by omega)
        · by_cases e : j = n
          · rw [hds i (by omega), e, hnew]
            obtain ⟨r, hr, hrh⟩ := hd_mem (h3 i (by omega))
            obtain ⟨q, hq, _, rfl⟩ := (ofC_mem _ _ _).1 hr
            rw [← hrh]
            exact h5 q hq p List.mem_cons_self
          · rw [hds i (by omega), hds j (by omega)]
            exact h4 i j hij (by omega)
      · have hk0 : ((p.2 - 1).toNat : Int) = p.2 - 1 := by omega
        have hkn : (p.2 - 1).toNat < n := by omega
        refine step n (by omega) ?_ nes fun i j hij hj => ?_
        · unfold stepP
          dsimp only
          rw [if_neg e0, List.length_map, List.length_range, if_neg e1, ofC_app 0, ofC_one, if_neg e0, List.append_nil]
          generalize hk : (p.2 - 1).toNat = k0 at *
          congr 1
          refine List.ext_getElem? fun i => ?_
          rw [List.getElem?_set, List.length_map, List.length_range]
          by_cases ei : k0 = i
          · subst ei
            rw [if_pos rfl, if_pos hkn, List.getElem?_map, List.getElem?_map, List.getElem?_range hkn]
            simp only [Option.map_some, Option.getD_some]
            rw [ofC_app, ofC_one, if_pos (by omega)]
          · rw [if_neg ei, List.getElem?_map, List.getElem?_map]
            by_cases hi : i < n
            · rw [List.getElem?_range hi]
              simp only [Option.map_some]
              rw [old i (by omega)]
            · rw [List.getElem?_eq_none (by simpa using Nat.le_of_not_lt hi)]; rfl
        · rw [hds i (by omega), hds j hj]
          exact h4 i j hij hj

def NoK (k : List Bool) : Prop := ∀ b ∈ k, b = false
/-- The classes of the runes below c: T those in some set, R the rest. -/
structure PartT (key : Int → List Bool) (c : Int) (T : List (List Rg)) (R : List Rg) : Prop where
  can : ∀ l ∈ T, Canon l ∧ l ≠ []
  canR : Canon R
  low : ∀ l ∈ T, ∀ x, inS l x → x < c
  rest : ∀ x, inS R x ↔ (0 ≤ x ∧ x < c) ∧ NoK (key x)
  same : ∀ l ∈ T, ∀ x, inS l x → ¬ NoK (key x) ∧ ∀ y, 0 ≤ y → y < c → (inS l y ↔ key y = key x)
  all : ∀ x, 0 ≤ x → x < c → ¬ NoK (key x) → ∃ l ∈ T, inS l x
  heads : T.Pairwise fun l m => hd l < hd m
def allP (T : List (List Rg)) (R : List Rg) : List (List Rg) := T ++ if R.length = 0 then [] else [R]
theorem chain_pair : ∀ (P : List Pc) (c : Int), 0 ≤ c → Chain c (P.map (·.1)) → P.Pairwise fun p q => p.1.1 < q.1.1
  | [], _, _, _ => List.Pairwise.nil
  | p :: P, c, h0, ⟨h1, h2, h3, h4⟩ => List.pairwise_cons.2 ⟨fun q hq => by
      have := (chain_ok _ _ (by omega) h4 q.1 (List.mem_map.2 ⟨q, hq, rfl⟩)).2
      dsimp only at h1 h2 this
      omega, chain_pair P _ (by omega) h4⟩
theorem parts_is {key : Int → List Bool} {P : List Pc} (h : Good key P) : ∃ T R, partsL P = allP T R ∧ PartT key 1114112 T R := by
  obtain ⟨m, e, m1, m2, m3⟩ := foldP_is P [] 0 h.numb (fun q hq => by cases hq) (fun k hk => by omega) (fun i j a b => by omega) (fun q hq => by cases hq) (chain_pair P 0 (Int.le_refl _) h.chain)
  rw [List.nil_append] at e m1 m2 m3
  have e2 : P.foldl stepP ([], []) = (ofC 0 P, (List.range m).map fun k : Nat => ofC ((k : Int) + 1) P) := e
  have hc := fun c => ofC_canon c P 0 (Int.le_refl _) h.chain h.adj
  have hcov := chain_in _ _ h.chain
  have cov : ∀ x, 0 ≤ x → x < 1114112 → ∃ p ∈ P, inR p.1 x := fun x h0 h1 => by
    obtain ⟨r, hr, hx⟩ := hcov x h0 (by omega)
    obtain ⟨p, hp, rfl⟩ := List.mem_map.1 hr
    exact ⟨p, hp, hx⟩
  have mem : ∀ l ∈ (List.range m).map (fun k : Nat => ofC ((k : Int) + 1) P), ∃ k : Nat, k < m ∧ l = ofC ((k : Int) + 1) P := fun l hl => by
    obtain ⟨k, hk, rfl⟩ := List.mem_map.1 hl
    exact ⟨k, List.mem_range.1 hk, rfl⟩
  refine ⟨(List.range m).map fun k : Nat => ofC ((k : Int) + 1) P, ofC 0 P, ?_, ?_⟩
  · unfold partsL allP
    rw [e2]
    dsimp only
    split <;> simp
  · refine ⟨fun l hl => ?_, hc 0, fun l hl x hx => ?_, fun x => ?_, fun l hl x hx => ?_, fun x h0 h1 hn => ?_, ?_⟩
    · obtain ⟨k, hk, rfl⟩ := mem l hl
      exact ⟨hc _, m2 k hk⟩
    · obtain ⟨k, hk, rfl⟩ := mem l hl
      have := (hc _).inU hx
      omega
    · constructor
      · intro hx
        have h1 := (hc 0).inU hx
        obtain ⟨p, hp, hp0, hpx⟩ := (ofC_in _ _ _).1 hx
        exact ⟨by omega, (h.zero p hp x hpx).1 hp0⟩
      · rintro ⟨⟨h0, h1⟩, hk⟩
        obtain ⟨p, hp, hpx⟩ := cov x h0 h1
        exact (ofC_in _ _ _).2 ⟨p, hp, (h.zero p hp x hpx).2 hk, hpx⟩
    · obtain ⟨k, hk, rfl⟩ := mem l hl
      obtain ⟨p, hp, hp0, hpx⟩ := (ofC_in _ _ _).1 hx
      refine ⟨fun hn => ?_, fun y h0 h1 => ?_⟩
      · have := (h.zero p hp x hpx).2 hn
        omega
      · constructor
        · intro hy
          obtain ⟨q, hq, hq0, hqy⟩ := (ofC_in _ _ _).1 hy
          exact ((h.same p hp q hq x y hpx hqy).1 (hp0.trans hq0.symm)).symm
        · intro hy
          obtain ⟨q, hq, hqy⟩ := cov y h0 h1
          exact (ofC_in _ _ _).2 ⟨q, hq, ((h.same p hp q hq x y hpx hqy).2 hy.symm).symm.trans hp0, hqy⟩
    · obtain ⟨p, hp, hpx⟩ := cov x h0 h1
      have hb := m1 p hp
      have hp0 : p.2 ≠ 0 := fun e => hn ((h.zero p hp x hpx).1 e)
      refine ⟨ofC ((((p.2 - 1).toNat : Nat) : Int) + 1) P, List.mem_map.2 ⟨(p.2 - 1).toNat, List.mem_range.2 (by omega), rfl⟩, (ofC_in _ _ _).2 ⟨p, hp, by omega, hpx⟩⟩
    · rw [List.pairwise_map]
      exact List.pairwise_lt_range.imp_of_mem fun {i j} _ hj hij => m3 i j hij (List.mem_range.1 hj)

/-- There is one such list. -/
theorem sorted_one : ∀ (T U : List (List Rg)), T.Pairwise (fun l m => hd l < hd m) → U.Pairwise (fun l m => hd l < hd m) → (∀ l, l ∈ T ↔ l ∈ U) → T = U
  | [], [], _, _, _ => rfl
  | [], u :: U, _, _, h => absurd ((h u).2 List.mem_cons_self) (by simp)
  | t :: T, [], _, _, h => absurd ((h t).1 List.mem_cons_self) (by simp)
  | t :: T, u :: U, hT, hU, h => by
    obtain ⟨t1, t2⟩ := List.pairwise_cons.1 hT
    obtain ⟨u1, u2⟩ := List.pairwise_cons.1 hU
    have e : t = u := by
      rcases List.mem_cons.1 ((h t).1 List.mem_cons_self) with e | e
      · exact e
      · rcases List.mem_cons.1 ((h u).2 List.mem_cons_self) with e2 | e2
        · exact e2.symm
        · have := u1 t e
          have := t1 u e2
          omega
    subst e
    rw [sorted_one T U t2 u2 fun l => ?_]
    constructor
    · intro hl
      rcases List.mem_cons.1 ((h l).1 (List.mem_cons_of_mem _ hl)) with e | e
      · have := t1 l hl
        rw [e] at this
        omega
      · exact e
    · intro hl
      rcases List.mem_cons.1 ((h l).2 (List.mem_cons_of_mem _ hl)) with e | e
      · have := u1 l hl
        rw [e] at this
        omega
      · exact e
theorem part_sub {key : Int → List Bool} {c : Int} {T U : List (List Rg)} {R S : List Rg} (hT : PartT key c T R) (hU : PartT key c U S) : ∀ l ∈ T, l ∈ U := by
  intro l hl
  obtain ⟨c1, c2⟩ := hT.can l hl
  have hx := hd_in c1 c2
  have h0 := (c1.inU hx).1
  have h1 := hT.low l hl _ hx
  obtain ⟨n1, n2⟩ := hT.same l hl _ hx
  obtain ⟨u, hu, hux⟩ := hU.all _ h0 h1 n1
  obtain ⟨_, k2⟩ := hU.same u hu _ hux
  have e : l = u := canon_one _ _ c1 (hU.can u hu).1 fun y => by
    constructor
    · intro hy
      have y0 := (c1.inU hy).1
      have y1 := hT.low l hl y hy
      exact (k2 y y0 y1).2 ((n2 y y0 y1).1 hy)
    · intro hy
      have y0 := ((hU.can u hu).1.inU hy).1
      have y1 := hU.low u hu y hy
      exact (n2 y y0 y1).2 ((k2 y y0 y1).1 hy)
  rw [e]
  exact hu
theorem part_one {key : Int → List Bool} {c : Int} {T U : List (List Rg)} {R S : List Rg} (hT : PartT key c T R) (hU : PartT key c U S) : T = U ∧ R = S :=
  ⟨sorted_one T U hT.heads hU.heads fun l => ⟨part_sub hT hU l, part_sub hU hT l⟩, canon_one _ _ hT.canR hU.canR fun x => (hT.rest x).trans (hU.rest x).symm⟩

/-- One more stretch. -/
theorem part_start (key : Int → List Bool) : PartT key 0 [] [] :=
  ⟨fun l h => (by cases h), canon_nil, fun l h => (by cases h), fun x => ⟨fun h => absurd h (inS_nil x), fun h => by omega⟩, fun l h => (by cases h), fun x a b => by omega, List.Pairwise.nil⟩
theorem part_rest {key : Int → List Bool} {e hi : Int} {T : List (List Rg)} {R : List Rg} (h : PartT key e T R) (h0 : 0 ≤ e) (h1 : e ≤ hi) (h2 : hi ≤ 1114111) (hk : ∀ x, e ≤ x → x ≤ hi → key x = key e) (hn : NoK (key e)) : PartT key (hi + 1) T (joinL R (e, hi)) := by
  obtain ⟨j1, j2, j3⟩ := joinL_is (lo := e) (hi := hi) h.canR h0 h1 h2 (fun q hq => ((h.rest q.2).1 ⟨q, hq, (h.canR.2 q hq).2.1, Int.le_refl _⟩).1.2)
  refine ⟨h.can, j1, fun l hl x hx => by have := h.low l hl x hx; omega, fun x => ?_, fun l hl x hx => ?_, fun x a b c => ?_, h.heads⟩
  · rw [j2, h.rest]
    constructor
    · rintro (⟨a, b⟩ | a)
      · exact ⟨by omega, b⟩
      · exact ⟨by omega, by rw [hk x a.1 a.2]; exact hn⟩
    · rintro ⟨a, b⟩
      by_cases hx : x < e
      · exact .inl ⟨⟨a.1, hx⟩, b⟩
      · exact .inr ⟨by omega, by omega⟩
  · obtain ⟨s1, s2⟩ := h.same l hl x hx
    refine ⟨s1, fun y a b => ?_⟩
    by_cases hy : y < e
    · exact s2 y a hy
    · refine ⟨fun hyl => ?_, fun hyk => ?_⟩
      · have := h.low l hl y hyl; omega
      · rw [hk y (by omega) (by omega)] at hyk
        rw [← hyk] at s1
        exact absurd hn s1
  · by_cases hx : x < e
    · exact h.all x a hx c
    · rw [hk x (by omega) (by omega)] at c
      exact absurd hn c
theorem part_new {key : Int → List Bool} {e hi : Int} {T : List (List Rg)} {R : List Rg} (h : PartT key e T R) (h0 : 0 ≤ e) (h1 : e ≤ hi) (h2 : hi ≤ 1114111) (hk : ∀ x, e ≤ x → x ≤ hi → key x = key e) (hn : ¬ NoK (key e)) (ho : ∀ l ∈ T, key (hd l) ≠ key e) : PartT key (hi + 1) (T ++ [[(e, hi)]]) R := by
  have hin : ∀ x, inS [(e, hi)] x ↔ e ≤ x ∧ x ≤ hi := fun x => by
    have := inS_nil x
    rw [inS_cons]
    simp [this, inR]
  have hne : ∀ l ∈ T, ∀ x, inS l x → key x ≠ key e := fun l hl x hx hxe => by
    obtain ⟨c1, c2⟩ := h.can l hl
    have hh := hd_in c1 c2
    obtain ⟨s1, s2⟩ := h.same l hl x hx
    have := (s2 (hd l) (c1.inU hh).1 (h.low l hl _ hh)).1 hh
    exact ho l hl (this.trans hxe)
  have hR : ∀ x, inS R x → ¬ (e ≤ x ∧ x ≤ hi) := fun x hx => by have := ((h.rest x).1 hx).1; omega
  refine ⟨fun l hl => ?_, h.canR, fun l hl x hx => ?_, fun x => ?_, fun l hl x hx => ?_, fun x a b c => ?_, ?_⟩
  · rcases List.mem_append.1 hl with hl | hl
    · exact h.can l hl
    · rw [List.mem_singleton.1 hl]
      exact ⟨canon_single.2 ⟨h0, h1, h2⟩, by simp⟩
  · rcases List.mem_append.1 hl with hl | hl
    · have := h.low l hl x hx; omega
    · rw [List.mem_singleton.1 hl, hin] at hx
      omega
  · rw [h.rest]
    constructor
    · rintro ⟨a, b⟩
      exact ⟨by omega, b⟩
    · rintro ⟨a, b⟩
      refine ⟨⟨a.1, Int.not_le.1 fun hx => ?_⟩, b⟩
      rw [hk x hx (by omega)] at b
      exact hn b
  · rcases List.mem_append.1 hl with hl | hl
    · obtain ⟨s1, s2⟩ := h.same l hl x hx
      refine ⟨s1, fun y a b => ?_⟩
      by_cases hy : y < e
      · exact s2 y a hy
      · refine ⟨fun hyl => ?_, fun hyk => ?_⟩
        · have := h.low l hl y hyl; omega
        · rw [hk y (by omega) (by omega)] at hyk
          exact absurd hyk.symm (hne l hl x hx)
    · rw [List.mem_singleton.1 hl] at hx ⊢
      have hx2 := (hin x).1 hx
      rw [hk x hx2.1 hx2.2]
      refine ⟨hn, fun y a b => ?_⟩
      rw [hin]
      refine ⟨fun hy => hk y hy.1 hy.2, fun hy => ⟨Int.not_lt.1 fun hlt => ?_, by omega⟩⟩
      obtain ⟨l, hl, hly⟩ := h.all y a hlt (by rw [hy]; exact hn)
      exact hne l hl y hly hy
  · by_cases hx : x < e
    · obtain ⟨l, hl, hlx⟩ := h.all x a hx c
      exact ⟨l, List.mem_append_left _ hl, hlx⟩
    · exact ⟨[(e, hi)], by simp, (hin x).2 ⟨by omega, by omega⟩⟩
  · refine List.pairwise_append.2 ⟨h.heads, List.pairwise_singleton _ _, fun l hl m hm => ?_⟩
    rw [List.mem_singleton.1 hm]
    obtain ⟨c1, c2⟩ := h.can l hl
    exact h.low l hl _ (hd_in c1 c2)
theorem joinL_hd (l : List Rg) (r : Rg) (h : l ≠ []) : hd (joinL l r) = hd l ∧ joinL l r ≠ [] := by
  rcases List.eq_nil_or_concat l with rfl | ⟨t, q, rfl⟩
  · exact absurd rfl h
  · rw [List.concat_eq_append, joinL_snoc]
    cases t with
    | nil => split <;> exact ⟨rfl, by simp⟩
    | cons x t => split <;> exact ⟨rfl, by simp⟩
theorem part_put {key : Int → List Bool} {e hi : Int} {T : List (List Rg)} {R l : List Rg} {k : Nat} (h : PartT key e T R) (h0 : 0 ≤ e) (h1 : e ≤ hi) (h2 : hi ≤ 1114111) (hk : ∀ x, e ≤ x → x ≤ hi → key x = key e) (hn : ¬ NoK (key e))
    (hl : T[k]? = some l) (he : key (hd l) = key e) : PartT key (hi + 1) (T.set k (joinL l (e, hi))) R := by
  have hlT := List.mem_of_getElem? hl
  have hkT : k < T.length := (List.getElem?_eq_some_iff.1 hl).1
  obtain ⟨c1, c2⟩ := h.can l hlT
  obtain ⟨j1, j2, j3⟩ := joinL_is (lo := e) (hi := hi) c1 h0 h1 h2 (fun q hq => h.low l hlT q.2 ⟨q, hq, (c1.2 q hq).2.1, Int.le_refl _⟩)
  obtain ⟨d1, d2⟩ := joinL_hd l (e, hi) c2
  have hh := hd_in c1 c2
  have hbase : ∀ y, 0 ≤ y → y < e → (inS l y ↔ key y = key e) := fun y a b => by
    rw [← he]
    exact (h.same l hlT _ hh).2 y a b
  have hmem : ∀ m ∈ T.set k (joinL l (e, hi)), (m ∈ T ∧ ∃ i, i ≠ k ∧ T[i]? = some m) ∨ m = joinL l (e, hi) := fun m hm => by
    obtain ⟨i, hi2⟩ := List.mem_iff_getElem?.1 hm
    rw [List.getElem?_set] at hi2
    by_cases ei : k = i
    · rw [if_pos ei] at hi2
      split at hi2
      · exact .inr (by simpa using hi2.symm)
      · exact .inr (by cases hi2; rfl)
    · rw [if_neg ei] at hi2
      exact .inl ⟨List.mem_of_getElem? hi2, i, fun x => ei x.symm, hi2⟩
  have hoth : ∀ m i, i ≠ k → T[i]? = some m → ∀ x, inS m x → key x ≠ key e := fun m i hi2 hm x hx hxe => by
    have hmT := List.mem_of_getElem? hm
    obtain ⟨m1, m2⟩ := h.can m hmT
    have hx0 := (m1.inU hx).1
    have hx1 := h.low m hmT x hx
    have hy := (hbase x hx0 hx1).2 hxe
    have heq : m = l := canon_one _ _ m1 c1 fun y => by
      constructor
      · intro hy2
        have y0 := (m1.inU hy2).1
        have y1 := h.low m hmT y hy2
        exact ((h.same l hlT x hy).2 y y0 y1).2 (((h.same m hmT x hx).2 y y0 y1).1 hy2)
      · intro hy2
        have y0 := (c1.inU hy2).1
        have y1 := h.low l hlT y hy2
        exact ((h.same m hmT x hx).2 y y0 y1).2 (((h.same l hlT x hy).2 y y0 y1).1 hy2)
    subst heq
    have a1 := List.getElem?_eq_some_iff.1 hm
    have a2 := List.getElem?_eq_some_iff.1 hl
    obtain ⟨b1, b2⟩ := a1
    obtain ⟨b3, b4⟩ := a2
    rcases Nat.lt_or_gt_of_ne hi2 with hlt | hgt
    · have := List.pairwise_iff_getElem.1 h.heads i k b1 b3 hlt
      rw [b2, b4] at this
      omega
    · have := List.pairwise_iff_getElem.1 h.heads k i b3 b1 hgt
      rw [b2, b4] at this
      omega
  refine ⟨fun m hm => ?_, h.canR, fun m hm x hx => ?_, fun x => ?_, fun m hm x hx => ?_, fun x a b c => ?_, ?_⟩
  · rcases hmem m hm with ⟨hm, _⟩ | rfl
    · exact h.can m hm
    · exact ⟨j1, d2⟩
  · rcases hmem m hm with ⟨hm, _⟩ | rfl
    · have := h.low m hm x hx; omega
    · rcases (j2 x).1 hx with hx | hx
      · have := h.low l hlT x hx; omega
      · omega
  · rw [h.rest]
    constructor
    · rintro ⟨a, b⟩
      exact ⟨by omega, b⟩
    · rintro ⟨a, b⟩
      refine ⟨⟨a.1, Int.not_le.1 fun hx => ?_⟩, b⟩
      rw [hk x hx (by omega)] at b
      exact hn b
  · rcases hmem m hm with ⟨hm, i, hi2, hmi⟩ | rfl
    · obtain ⟨s1, s2⟩ := h.same m hm x hx
      refine ⟨s1, fun y a b => ?_⟩
      by_cases hy : y < e
      · exact s2 y a hy
      · refine ⟨fun hyl => ?_, fun hyk => ?_⟩
        · have := h.low m hm y hyl; omega
        · rw [hk y (by omega) (by omega)] at hyk
          exact absurd hyk.symm (hoth m i hi2 hmi x hx)
    · have hkx : key x = key e := by
        rcases (j2 x).1 hx with hx | hx
        · exact (hbase x (c1.inU hx).1 (h.low l hlT x hx)).1 hx
        · exact hk x hx.1 hx.2
      rw [hkx]
      refine ⟨hn, fun y a b => ?_⟩
      rw [j2]
      by_cases hy : y < e
      · rw [hbase y a hy]
        exact ⟨fun h => h.resolve_right (by omega), .inl⟩
      · exact ⟨fun _ => hk y (by omega) (by omega), fun _ => .inr ⟨by omega, by omega⟩⟩
  · by_cases hx : x < e
    · obtain ⟨m, hm, hmx⟩ := h.all x a hx c
      obtain ⟨i, hi2⟩ := List.mem_iff_getElem?.1 hm
      by_cases ei : i = k
      · subst ei
        rw [hl] at hi2
        cases hi2
        exact ⟨_, List.mem_set hkT _, (j2 x).2 (.inl hmx)⟩
      · refine ⟨m, List.mem_iff_getElem?.2 ⟨i, ?_⟩, hmx⟩
        rw [List.getElem?_set, if_neg (fun x => ei x.symm)]
        exact hi2
    · exact ⟨_, List.mem_set hkT _, (j2 x).2 (.inr ⟨by omega, by omega⟩)⟩
  · have hh2 : (T.set k (joinL l (e, hi))).map hd = T.map hd := by
      rw [List.map_set, d1]
      refine List.ext_getElem? fun i => ?_
      rw [List.getElem?_set, List.length_map]
      by_cases ei : k = i
      · subst ei
        rw [if_pos rfl, if_pos hkT, List.getElem?_map, hl]; rfl
      · rw [if_neg ei]
    have p1 : (T.map hd).Pairwise (· < ·) := List.pairwise_map.2 h.heads
    rw [← hh2] at p1
    exact List.pairwise_map.1 p1
end Go.Proofs.Ytpmcnmlpkpoopaa
