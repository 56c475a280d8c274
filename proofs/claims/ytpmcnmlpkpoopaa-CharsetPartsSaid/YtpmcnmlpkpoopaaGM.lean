/- Plain: the reference's both: stretches between cut points, joined. -/
import Derived.Test.YtpmcnmlpkpoopaaGE
namespace Go.Proofs.Ytpmcnmlpkpoopaa
open Go.RowKit Go.Shelf

theorem joinL_is {s : List Rg} {lo hi : Int} (h : Canon s) (h0 : 0 ≤ lo) (h1 : lo ≤ hi) (h2 : hi ≤ 1114111) (hl : ∀ q ∈ s, q.2 < lo) :
    Canon (joinL s (lo, hi)) ∧ (∀ x, inS (joinL s (lo, hi)) x ↔ inS s x ∨ (lo ≤ x ∧ x ≤ hi)) ∧ ∀ q ∈ joinL s (lo, hi), q.2 ≤ hi := by
  rcases List.eq_nil_or_concat s with rfl | ⟨t, q, rfl⟩
  · have e : joinL [] (lo, hi) = [(lo, hi)] := rfl
    rw [e]
    refine ⟨canon_single.2 ⟨h0, h1, h2⟩, fun x => ?_, fun q hq => by rw [List.mem_singleton.1 hq]; exact Int.le_refl _⟩
    have := inS_nil x
    rw [inS_cons]
    simp [this, inR]
  · rw [List.concat_eq_append] at *
    have hq := hl q (by simp)
    obtain ⟨c1, c2, c3⟩ := canon_app.1 h
    have hmem : ∀ p ∈ t, p.2 ≤ hi := fun p hp => by have := hl p (by simp [hp]); omega
    rw [joinL_snoc]
    unfold okR at c2
    split
    · rename_i he
      dsimp only at he
      refine ⟨canon_app.2 ⟨c1, ⟨c2.1, by dsimp only; omega, h2⟩, fun p hp => c3 p hp⟩, fun x => ?_, fun p hp => ?_⟩
      · have hn := inS_nil x
        rw [inS_app, inS_app, inS_cons, inS_cons]
        unfold inR
        dsimp only
        constructor
        · rintro (h3 | h3 | h3)
          · exact .inl (.inl h3)
          · by_cases h4 : x ≤ q.2
            · exact .inl (.inr (.inl ⟨h3.1, h4⟩))
            · exact .inr ⟨by omega, h3.2⟩
          · exact absurd h3 hn
        · rintro ((h3 | h3 | h3) | h3)
          · exact .inl h3
          · exact .inr (.inl ⟨h3.1, by omega⟩)
          · exact absurd h3 hn
          · exact .inr (.inl ⟨by omega, h3.2⟩)
      · rcases List.mem_append.1 hp with hp | hp
        · exact hmem p hp
        · rw [List.mem_singleton.1 hp]; exact Int.le_refl _
    · rename_i he
      dsimp only at he
      refine ⟨canon_next.2 ⟨h, ⟨h0, h1, h2⟩, by dsimp only; omega⟩, fun x => ?_, fun p hp => ?_⟩
      · have hn := inS_nil x
        rw [inS_app _ [(lo, hi)], inS_cons]
        simp [hn, inR]
      · rcases List.mem_append.1 hp with hp | hp
        · rcases List.mem_append.1 hp with hp | hp
          · exact hmem p hp
          · rw [List.mem_singleton.1 hp]; omega
        · rw [List.mem_singleton.1 hp]; exact Int.le_refl _

/-- What both answers, from the cut points on. -/
def bothG (f : Int → Bool) : List Int → List Rg → List Rg
  | [], out => out
  | [e], out => if f e then joinL out (e, 1114111) else out
  | e :: e' :: E, out => bothG f (e' :: E) (if f e then joinL out (e, e' - 1) else out)
theorem bothG_is (f : Int → Bool) : ∀ (E : List Int) (e : Int) (out : List Rg), (e :: E).Pairwise (· < ·) → 0 ≤ e → (∀ a ∈ e :: E, a ≤ 1114111) → (∀ a ∈ e :: E, ∀ x, a ≤ x → x ≤ 1114111 → (∀ b ∈ e :: E, a < b → x < b) → f x = f a) →
    Canon out → (∀ q ∈ out, q.2 < e) → Canon (bothG f (e :: E) out) ∧ ∀ x, inS (bothG f (e :: E) out) x ↔ inS out x ∨ (e ≤ x ∧ x ≤ 1114111 ∧ f x = true)
  | [], e, out, _, h0, hm, hc, ho, hl => by
    have he := hm e (by simp)
    have hcc : ∀ x, e ≤ x → x ≤ 1114111 → f x = f e := fun x h1 h2 => hc e (by simp) x h1 h2 (fun b hb hlt => by rw [List.mem_singleton.1 hb] at hlt; omega)
    rw [bothG]
    split
    · rename_i hf
      obtain ⟨j1, j2, _⟩ := joinL_is ho h0 he (Int.le_refl _) hl
      refine ⟨j1, fun x => ?_⟩
      rw [j2]
      constructor
      · rintro (h | ⟨h, h'⟩)
        · exact .inl h
        · exact .inr ⟨h, h', by rw [hcc x h h', hf]⟩
      · rintro (h | ⟨h, h', _⟩)
        · exact .inl h
        · exact .inr ⟨h, h'⟩
    · rename_i hf
      refine ⟨ho, fun x => ⟨.inl, ?_⟩⟩
      rintro (h | ⟨h, h', h3⟩)
      · exact h
      · rw [hcc x h h'] at h3
        exact absurd h3 hf
  | e' :: E, e, out, hp, h0, hm, hc, ho, hl => by
    obtain ⟨hp1, hp2⟩ := List.pairwise_cons.1 hp
    have hee := hp1 e' (by simp)
    have hm' := hm e' (by simp)
    have hcc : ∀ x, e ≤ x → x < e' → f x = f e := fun x h1 h2 => hc e (by simp) x h1 (by omega) (fun b hb hlt => by
      rcases List.mem_cons.1 hb with rfl | hb
      · omega
      · rcases List.mem_cons.1 hb with rfl | hb
        · exact h2
        · have := (List.pairwise_cons.1 hp2).1 b hb; omega)
    have hc' : ∀ a ∈ e' :: E, ∀ x, a ≤ x → x ≤ 1114111 → (∀ b ∈ e' :: E, a < b → x < b) → f x = f a := fun a ha x h1 h2 h3 => hc a (List.mem_cons_of_mem _ ha) x h1 h2 (fun b hb hlt => by
      rcases List.mem_cons.1 hb with rfl | hb
      · have : e' ≤ a := by
          rcases List.mem_cons.1 ha with rfl | ha
          · exact Int.le_refl _
          · have := (List.pairwise_cons.1 hp2).1 a ha; omega
        omega
      · exact h3 b hb hlt)
    have go := fun (o2 : List Rg) (k1 : Canon o2) (k2 : ∀ q ∈ o2, q.2 < e') => bothG_is f E e' o2 hp2 (by omega) (fun a ha => hm a (List.mem_cons_of_mem _ ha)) hc' k1 k2
    rw [bothG]
    split
    · rename_i hf
      obtain ⟨j1, j2, j3⟩ := joinL_is (lo := e) (hi := e' - 1) ho h0 (by omega) (by omega) hl
      obtain ⟨g1, g2⟩ := go _ j1 (fun q hq => by have := j3 q hq; omega)
      refine ⟨g1, fun x => ?_⟩
      rw [g2, j2]
      constructor
      · rintro ((h | ⟨h, h'⟩) | ⟨h, h', h3⟩)
        · exact .inl h
        · exact .inr ⟨h, by omega, by rw [hcc x h (by omega), hf]⟩
        · exact .inr ⟨by omega, h', h3⟩
      · rintro (h | ⟨h, h', h3⟩)
        · exact .inl (.inl h)
        · by_cases h4 : x < e'
          · exact .inl (.inr ⟨h, by omega⟩)
          · exact .inr ⟨by omega, h', h3⟩
    · rename_i hf
      obtain ⟨g1, g2⟩ := go out ho (fun q hq => by have := hl q hq; omega)
      refine ⟨g1, fun x => ?_⟩
      rw [g2]
      constructor
      · rintro (h | ⟨h, h', h3⟩)
        · exact .inl h
        · exact .inr ⟨by omega, h', h3⟩
      · rintro (h | ⟨h, h', h3⟩)
        · exact .inl h
        · by_cases h4 : x < e'
          · rw [hcc x h h4] at h3
            exact absurd h3 hf
          · exact .inr ⟨by omega, h', h3⟩

/-- The cut points: ascending, from 0 on, all ends among them. -/
theorem putL_mem : ∀ (l : List Int) (r x : Int), x ∈ putL l r ↔ x ∈ l ∨ x = r
  | [], r, x => by simp [putL]
  | y :: l, r, x => by
    rw [putL]
    split
    · split
      · simp [or_comm, or_left_comm]
      · have : y = r := by omega
        subst this
        simp
        rintro rfl
        exact .inl rfl
    · rw [List.mem_cons, putL_mem l r x, List.mem_cons, or_assoc]
theorem putL_asc : ∀ (l : List Int) (r : Int), l.Pairwise (· < ·) → (putL l r).Pairwise (· < ·)
  | [], r, _ => by simp [putL]
  | y :: l, r, h => by
    obtain ⟨h1, h2⟩ := List.pairwise_cons.1 h
    rw [putL]
    split
    · split
      · refine List.pairwise_cons.2 ⟨fun x hx => ?_, h⟩
        rcases List.mem_cons.1 hx with rfl | hx
        · assumption
        · have := h1 x hx; omega
      · exact h
    · refine List.pairwise_cons.2 ⟨fun x hx => ?_, putL_asc l r h2⟩
      rcases (putL_mem l r x).1 hx with hx | rfl
      · exact h1 x hx
      · omega
theorem stepE_asc (out : List Int) (x : Rg) (h : out.Pairwise (· < ·)) : (stepE out x).Pairwise (· < ·) := by
  unfold stepE
  split
  · split
    · exact putL_asc _ _ (putL_asc _ _ h)
    · exact putL_asc _ _ h
  · exact h
theorem stepE_keep (out : List Int) (x : Rg) (y : Int) (h : y ∈ out) : y ∈ stepE out x := by
  unfold stepE
  split
  · split
    · exact (putL_mem _ _ _).2 (.inl ((putL_mem _ _ _).2 (.inl h)))
    · exact (putL_mem _ _ _).2 (.inl h)
  · exact h
theorem stepE_ends (out : List Int) (x : Rg) (h : (clipR x).1 ≤ (clipR x).2) : (clipR x).1 ∈ stepE out x ∧ ((clipR x).2 < 1114111 → (clipR x).2 + 1 ∈ stepE out x) := by
  unfold stepE
  rw [if_pos h]
  split
  · exact ⟨(putL_mem _ _ _).2 (.inl ((putL_mem _ _ _).2 (.inr rfl))), fun _ => (putL_mem _ _ _).2 (.inr rfl)⟩
  · rename_i hn
    exact ⟨(putL_mem _ _ _).2 (.inr rfl), fun h2 => absurd h2 hn⟩
theorem stepE_range (out : List Int) (x : Rg) (h : ∀ y ∈ out, 0 ≤ y ∧ y ≤ 1114111) : ∀ y ∈ stepE out x, 0 ≤ y ∧ y ≤ 1114111 := by
  intro y hy
  have hc : 0 ≤ (clipR x).1 ∧ (clipR x).2 ≤ 1114111 := by unfold clipR ovR; dsimp only; omega
  unfold stepE at hy
  split at hy
  · split at hy
    · rcases (putL_mem _ _ _).1 hy with hy | rfl
      · rcases (putL_mem _ _ _).1 hy with hy | rfl
        · exact h y hy
        · omega
      · omega
    · rcases (putL_mem _ _ _).1 hy with hy | rfl
      · exact h y hy
      · omega
  · exact h y hy
theorem foldE_is : ∀ (F : List Rg) (out : List Int), out.Pairwise (· < ·) → (∀ y ∈ out, 0 ≤ y ∧ y ≤ 1114111) →
    (F.foldl stepE out).Pairwise (· < ·) ∧ (∀ y ∈ F.foldl stepE out, 0 ≤ y ∧ y ≤ 1114111) ∧ (∀ y ∈ out, y ∈ F.foldl stepE out) ∧ ∀ x ∈ F, (clipR x).1 ≤ (clipR x).2 → (clipR x).1 ∈ F.foldl stepE out ∧ ((clipR x).2 < 1114111 → (clipR x).2 + 1 ∈ F.foldl stepE out)
  | [], out, h1, h2 => ⟨h1, h2, fun y hy => hy, fun x hx => by cases hx⟩
  | x :: F, out, h1, h2 => by
    obtain ⟨a1, a2, a3, a4⟩ := foldE_is F (stepE out x) (stepE_asc out x h1) (stepE_range out x h2)
    rw [List.foldl_cons]
    refine ⟨a1, a2, fun y hy => a3 y (stepE_keep out x y hy), fun q hq hc => ?_⟩
    rcases List.mem_cons.1 hq with rfl | hq
    · obtain ⟨b1, b2⟩ := stepE_ends out q hc
      exact ⟨a3 _ b1, fun h => a3 _ (b2 h)⟩
    · exact a4 q hq hc
/-- Between two cut points nothing changes. -/
theorem ends_const {F L : List Rg} (hL : ∀ q ∈ L, q ∈ F) {a x : Int} (ha : a ∈ endsL F) (h1 : a ≤ x) (h2 : x ≤ 1114111) (h3 : ∀ b ∈ endsL F, a < b → x < b) : inU L x ↔ inU L a := by
  obtain ⟨_, e2, _, e4⟩ := foldE_is F [0] (by simp) (by simp)
  have ha0 := e2 a ha
  unfold inU
  constructor
  · rintro ⟨_, q, hq, hx1, hx2⟩
    have hc := e4 q (hL q hq)
    unfold clipR ovR at hc
    dsimp only at hc
    have hc1 := (hc (by omega)).1
    refine ⟨ha0, q, hq, ?_, by omega⟩
    refine Int.not_lt.1 fun hlt => ?_
    have := h3 _ hc1 (by omega)
    omega
  · rintro ⟨_, q, hq, hx1, hx2⟩
    have hc := e4 q (hL q hq)
    unfold clipR ovR at hc
    dsimp only at hc
    refine ⟨by omega, q, hq, by omega, ?_⟩
    refine Int.not_lt.1 fun hlt => ?_
    have hc2 := (hc (by omega)).2 (by omega)
    have := h3 _ hc2 (by omega)
    omega
end Go.Proofs.Ytpmcnmlpkpoopaa
