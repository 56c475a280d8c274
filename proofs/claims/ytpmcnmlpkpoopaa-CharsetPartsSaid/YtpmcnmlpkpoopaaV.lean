/- charset.Parts: what the heap holds in the middle of it: a set, a slice of sets, each an own row. -/
import Derived.Test.YtpmcnmlpkpoopaaT
namespace Go.Proofs.Ytpmcnmlpkpoopaa
open Go.RowKit Go.Shelf

/-- What Parts does of one piece; what it answers. -/
def stepP (s : List Rg × List (List Rg)) (p : Pc) : List Rg × List (List Rg) :=
  if p.2 = 0 then (s.1 ++ [p.1], s.2) else if (s.2.length : Int) < p.2 then (s.1, s.2 ++ [[p.1]]) else (s.1, s.2.set (p.2 - 1).toNat ((s.2[(p.2 - 1).toNat]?.getD []) ++ [p.1]))
def partsL (P : List Pc) : List (List Rg) := if (P.foldl stepP ([], [])).1.length = 0 then (P.foldl stepP ([], [])).2 else (P.foldl stepP ([], [])).2 ++ [(P.foldl stepP ([], [])).1]
theorem stepP_size (s : List Rg × List (List Rg)) (p : Pc) (n : Nat) (h1 : s.1.length ≤ n) (h2 : s.2.length ≤ n) (h3 : ∀ l ∈ s.2, l.length ≤ n) : (stepP s p).1.length ≤ n + 1 ∧ (stepP s p).2.length ≤ n + 1 ∧ ∀ l ∈ (stepP s p).2, l.length ≤ n + 1 := by
  unfold stepP
  split
  · refine ⟨by simpa using h1, by dsimp only; omega, fun l hl => by have := h3 l hl; omega⟩
  · split
    · refine ⟨by dsimp only; omega, by simpa using h2, fun l hl => ?_⟩
      rcases List.mem_append.1 hl with hl | hl
      · have := h3 l hl; omega
      · rw [List.mem_singleton.1 hl]; simp
    · refine ⟨by dsimp only; omega, by rw [List.length_set]; omega, fun l hl => ?_⟩
      rcases List.mem_or_eq_of_mem_set hl with hl | hl
      · have := h3 l hl; omega
      · rw [hl, List.length_append]
        cases hg : s.2[(p.2 - 1).toNat]? with
        | none => simp
        | some x =>
          have := h3 x (List.mem_of_getElem? hg)
          simp; omega
theorem foldP_size : ∀ (P : List Pc) (s : List Rg × List (List Rg)) (n : Nat), s.1.length ≤ n → s.2.length ≤ n → (∀ l ∈ s.2, l.length ≤ n) → (P.foldl stepP s).1.length ≤ n + P.length ∧ (P.foldl stepP s).2.length ≤ n + P.length ∧ ∀ l ∈ (P.foldl stepP s).2, l.length ≤ n + P.length
  | [], s, n, h1, h2, h3 => ⟨by simpa using h1, by simpa using h2, by simpa using h3⟩
  | p :: P, s, n, h1, h2, h3 => by
    obtain ⟨a1, a2, a3⟩ := stepP_size s p n h1 h2 h3
    obtain ⟨b1, b2, b3⟩ := foldP_size P (stepP s p) (n + 1) a1 a2 a3
    rw [List.foldl_cons, List.length_cons]
    exact ⟨by omega, by omega, fun l hl => by have := b3 l hl; omega⟩

/-- No two of the values own one block. -/
def Ap (a b : Value) : Prop := ∀ k, a.ownBlock = some k → b.ownBlock ≠ some k
theorem Ap.ne {a b : Value} (h : Ap a b) : b.ownBlock = none ∨ b.ownBlock ≠ a.ownBlock := by
  cases hb : b.ownBlock with
  | none => exact .inl rfl
  | some k => exact .inr fun e => h k e.symm hb
def Apart (O : List Value) : Prop := ∀ (i j : Nat) (a b : Value), i ≠ j → O[i]? = some a → O[j]? = some b → Ap a b
def Under (O : List Value) (S : Nat) : Prop := ∀ a ∈ O, ∀ k, a.ownBlock = some k → k < S
theorem Apart.set {O : List Value} (h : Apart O) {S i : Nat} {v v' : Value} (hS : Under O S) (hv : O[i]? = some v) (hn : ∀ k, v'.ownBlock = some k → v.ownBlock = some k ∨ S ≤ k) : Apart (O.set i v') := by
  intro x y a b hne hx hy
  rw [List.getElem?_set] at hx hy
  by_cases ex : i = x
  · rw [if_pos ex] at hx
    rw [if_neg (fun e => hne (ex.symm.trans e))] at hy
    split at hx
    · cases hx
      intro k hk hb
      rcases hn k hk with h1 | h1
      · exact h i y v b (fun e => hne (ex.symm.trans e)) hv hy k h1 hb
      · have := hS b (List.mem_of_getElem? hy) k hb
        omega
    · cases hx
  · rw [if_neg ex] at hx
    by_cases ey : i = y
    · rw [if_pos ey] at hy
      split at hy
      · cases hy
        intro k hk hb
        rcases hn k hb with h1 | h1
        · exact h x i a v (fun e => ex e.symm) hx hv k hk h1
        · have := hS a (List.mem_of_getElem? hx) k hk
          omega
      · cases hy
    · rw [if_neg ey] at hy
      exact h x y a b hne hx hy
theorem Apart.app {O : List Value} (h : Apart O) {S : Nat} {v : Value} (hS : Under O S) (hn : ∀ k, v.ownBlock = some k → S ≤ k) : Apart (O ++ [v]) := by
  intro x y a b hne hx hy
  rw [List.getElem?_append] at hx hy
  have hone : ∀ (j : Nat) (c : Value), [v][j]? = some c → c = v ∧ j = 0 := fun j c e => by
    match j, e with
    | 0, e => simp at e; exact ⟨e.symm, rfl⟩
  split at hx <;> split at hy
  · exact h x y a b hne hx hy
  · obtain ⟨rfl, _⟩ := hone _ _ hy
    intro k hk hb
    have := hS a (List.mem_of_getElem? hx) k hk
    have := hn k hb
    omega
  · obtain ⟨rfl, _⟩ := hone _ _ hx
    intro k hk hb
    have := hS b (List.mem_of_getElem? hy) k hb
    have := hn k hk
    omega
  · obtain ⟨_, e1⟩ := hone _ _ hx
    obtain ⟨_, e2⟩ := hone _ _ hy
    omega

/-- The set nn in nv, the sets ps in pv. -/
structure PS (W : World) (base : Nat) (nv pv : Value) (nn : List Rg) (ps : List (List Rg)) (vs : List Value) : Prop where
  nset : W.ownsRow base 41 2 nv nn.length (rgCells nn)
  row : W.ownsRow base 24 1 pv ps.length vs
  each : ∀ (i : Nat) (v : Value) (l : List Rg), vs[i]? = some v → ps[i]? = some l → W.ownsRow base 41 2 v l.length (rgCells l)
  apart : Apart (nv :: pv :: vs)
theorem PS.len {W : World} {base : Nat} {nv pv : Value} {nn : List Rg} {ps : List (List Rg)} {vs : List Value} (h : PS W base nv pv nn ps vs) : vs.length = ps.length := by
  have := h.row.1
  omega
theorem PS.under {W : World} {base : Nat} {nv pv : Value} {nn : List Rg} {ps : List (List Rg)} {vs : List Value} (h : PS W base nv pv nn ps vs) : Under (nv :: pv :: vs) W.heap.size := by
  intro a ha k hk
  rcases List.mem_cons.1 ha with rfl | ha
  · exact (h.nset.lt k hk).2
  · rcases List.mem_cons.1 ha with rfl | ha
    · exact (h.row.lt k hk).2
    · obtain ⟨i, hi, e⟩ := List.mem_iff_getElem.1 ha
      have hi2 : i < ps.length := by have := h.len; omega
      exact ((h.each i a ps[i] (by rw [List.getElem?_eq_getElem hi, e]) (List.getElem?_eq_getElem hi2)).lt k hk).2
theorem PS.start (W : World) (base : Nat) : PS W base (.slice none 0 0) (.slice none 0 0) [] [] [] := by
  refine ⟨World.ownsRow_nil _ _ _ _, World.ownsRow_nil _ _ _ _, fun i v l h => by simp at h, ?_⟩
  intro i j a b hne hx hy k hk
  have : a = .slice none 0 0 := by
    have := List.mem_of_getElem? hx
    simpa using this
  rw [this] at hk
  cases hk
theorem PS.grown {W W' : World} {base : Nat} {nv pv : Value} {nn : List Rg} {ps : List (List Rg)} {vs : List Value} (h : PS W base nv pv nn ps vs) (hg : W.grownBy W' none) : PS W' base nv pv nn ps vs :=
  have hk : ∀ v : Value, v.ownBlock = none ∨ v.ownBlock ≠ none := fun v => by cases hv : v.ownBlock <;> simp
  ⟨h.nset.kept hg (hk _), h.row.kept hg (hk _), fun i v l a b => (h.each i v l a b).kept hg (hk _), h.apart⟩
theorem PS.alloc {W : World} {base : Nat} {nv pv : Value} {nn : List Rg} {ps : List (List Rg)} {vs : List Value} (h : PS W base nv pv nn ps vs) (o : Obj) : PS (W.alloc o) base nv pv nn ps vs := h.grown (World.grownBy_alloc W o _)
theorem PS.app_none {W W' : World} {base : Nat} {nv nv' pv : Value} {nn : List Rg} {ps : List (List Rg)} {vs : List Value} (h : PS W base nv pv nn ps vs) (hg : W.grownBy W' nv.ownBlock) {r : Rg}
    (ho : W'.ownsRow base 41 2 nv' (nn ++ [r]).length (rgCells (nn ++ [r]))) (hn : ∀ k, nv'.ownBlock = some k → nv.ownBlock = some k ∨ W.heap.size ≤ k) : PS W' base nv' pv (nn ++ [r]) ps vs :=
  ⟨ho, h.row.kept hg (h.apart 0 1 nv pv (by omega) rfl rfl).ne, fun i v l a b => (h.each i v l a b).kept hg (h.apart 0 (i + 2) nv v (by omega) rfl (by simpa using a)).ne,
    h.apart.set (i := 0) (v' := nv') h.under rfl hn⟩
theorem PS.push {W W' : World} {base : Nat} {nv pv pv' x : Value} {nn : List Rg} {ps : List (List Rg)} {vs : List Value} {l : List Rg} (h : PS W base nv pv nn ps vs) {W1 : World} (hg1 : W.grownBy W1 none) (hx : W1.ownsRow base 41 2 x l.length (rgCells l)) (hf : ∀ k, x.ownBlock = some k → W.heap.size ≤ k)
    (hg : W1.grownBy W' pv.ownBlock) (ho : W'.ownsRow base 24 1 pv' (ps ++ [l]).length (vs ++ [x])) (hn : ∀ k, pv'.ownBlock = some k → pv.ownBlock = some k ∨ W1.heap.size ≤ k) : PS W' base nv pv' nn (ps ++ [l]) (vs ++ [x]) := by
  have h1 := h.grown hg1
  have hxp : Ap pv x := fun k a b => by have := h.under pv (by simp) k a; have := hf k b; omega
  refine ⟨h1.nset.kept hg (h.apart 1 0 pv nv (by omega) rfl rfl).ne, ho, fun i v q a b => ?_, ?_⟩
  · rw [List.getElem?_append] at a b
    have hl := h.len
    split at a
    · rw [if_pos (by omega)] at b
      exact (h1.each i v q a b).kept hg (h.apart 1 (i + 2) pv v (by omega) rfl (by simpa using a)).ne
    · rw [if_neg (by omega)] at b
      have hi0 : i - vs.length = 0 := by
        rcases Nat.eq_zero_or_pos (i - vs.length) with e | e
        · exact e
        · rw [List.getElem?_eq_none (by simp only [List.length_cons, List.length_nil]; omega)] at a; cases a
      have hi1 : i - ps.length = 0 := by omega
      rw [hi0] at a
      rw [hi1] at b
      simp at a b
      subst a b
      exact hx.kept hg hxp.ne
  · have h2 := h.apart.app h.under hf
    have hu : Under (nv :: pv :: vs ++ [x]) W1.heap.size := fun a ha k hk => by
      rcases List.mem_append.1 ha with ha | ha
      · exact h1.under a ha k hk
      · rw [List.mem_singleton.1 ha] at hk
        exact (hx.lt k hk).2
    exact h2.set (i := 1) (v' := pv') hu rfl hn
theorem own_set1 {W : World} {base g n cap i : Nat} {vs : List Value} {v' : Value} (h : W.ownsRow base 24 1 (.slice (some ⟨g, 0, none⟩) n cap) n vs) : (W.setCell ⟨g, i, none⟩ v').ownsRow base 24 1 (.slice (some ⟨g, 0, none⟩) n cap) n (vs.set i v') := by
  obtain ⟨h1, ⟨h2, _⟩ | ⟨g', cap', cur, e, h3, h4, h5, h6, h7, h8⟩⟩ := h
  · simp at h2
  · obtain ⟨rfl, rfl⟩ : g = g' ∧ cap = cap' := by simpa using e
    refine ⟨by rw [List.length_set]; exact h1, .inr ⟨g, cap, cur.setIfInBounds i v', rfl, h3, ?_, h5, h6, by simpa using h7, ?_⟩⟩
    · simp [World.setCell, Array.getElem?_modify, h4]
    · rw [Array.toList_setIfInBounds, List.take_set, h8]
theorem PS.set {W W' : World} {base g n cap i : Nat} {nv v v' : Value} {nn : List Rg} {ps : List (List Rg)} {vs : List Value} {l l' : List Rg} (h : PS W base nv (.slice (some ⟨g, 0, none⟩) n cap) nn ps vs) (hv : vs[i]? = some v) (hl : ps[i]? = some l)
    (hg : W.grownBy W' v.ownBlock) (ho : W'.ownsRow base 41 2 v' l'.length (rgCells l')) (hn : ∀ k, v'.ownBlock = some k → v.ownBlock = some k ∨ W.heap.size ≤ k) :
    PS (W'.setCell ⟨g, i, none⟩ v') base nv (.slice (some ⟨g, 0, none⟩) n cap) nn (ps.set i l') (vs.set i v') := by
  have hlen := h.len
  have hin : n = ps.length := by
    rcases h.row.2 with ⟨h2, _⟩ | ⟨g', cap', cur, e, _⟩
    · simp at h2
    · simp at e; exact e.2.1
  have hi : i < ps.length := by
    rcases Nat.lt_or_ge i ps.length with e | e
    · exact e
    · rw [List.getElem?_eq_none e] at hl; cases hl
  have hgv : v.ownBlock ≠ some g := fun e => h.apart 1 (i + 2) _ v (by omega) rfl (by simpa using hv) g rfl e
  have hr := h.row.kept hg (h.apart (i + 2) 1 v _ (by omega) (by simpa using hv) rfl).ne
  have hgs : g < W.heap.size := h.under (.slice (some ⟨g, 0, none⟩) n cap) (by simp) g rfl
  have hv'g : v'.ownBlock ≠ some g := fun e => by
    rcases hn g e with e2 | e2
    · exact hgv e2
    · omega
  have hset : W'.grownBy (W'.setCell ⟨g, i, none⟩ v') (some g) := grown_set
  subst hin
  refine ⟨(h.nset.kept hg (h.apart (i + 2) 0 v nv (by omega) (by simpa using hv) rfl).ne).kept hset (.inr (fun e => h.apart 1 0 _ nv (by omega) rfl rfl g rfl e)), ?_, fun j a q ha hq => ?_, ?_⟩
  · rw [List.length_set]
    exact own_set1 hr
  · rw [List.getElem?_set] at ha hq
    by_cases e : i = j
    · subst e
      rw [if_pos rfl, if_pos (by omega)] at ha hq
      cases ha
      cases hq
      exact ho.kept hset (.inr hv'g)
    · rw [if_neg e] at ha hq
      exact ((h.each j a q ha hq).kept hg (h.apart (i + 2) (j + 2) v a (by omega) (by simpa using hv) (by simpa using ha)).ne).kept hset (.inr (fun e2 => h.apart 1 (j + 2) _ a (by omega) rfl (by simpa using ha) g rfl e2))
  · exact h.apart.set (i := i + 2) (v' := v') h.under (by simpa using hv) hn
theorem sts_of_rows {W : World} {base : Nat} {pv : Value} {ps : List (List Rg)} {vs : List Value} (hr : W.ownsRow base 24 1 pv ps.length vs) (he : ∀ (i : Nat) (v : Value) (l : List Rg), vs[i]? = some v → ps[i]? = some l → W.ownsRow base 41 2 v l.length (rgCells l)) :
    ∃ ao cap, pv = .slice ao ps.length cap ∧ ps.length ≤ cap ∧ Sts W W.heap.size ao ps := by
  have hlen : vs.length = ps.length := by have := hr.1; omega
  rcases hr.2 with ⟨rfl, h2⟩ | ⟨g, cap, cur, rfl, h3, h4, h5, h6, h7, h8⟩
  · refine ⟨none, 0, by rw [h2], by omega, fun pre x rest e => ?_⟩
    rw [← e] at h2
    simp at h2
  · refine ⟨_, cap, rfl, h5, fun pre x rest e => ?_⟩
    have hl : pre.length < ps.length := by rw [← e]; simp
    have hlv : pre.length < vs.length := by omega
    have hx : ps[pre.length]? = some x := by rw [← e]; simp
    have hv := List.getElem?_eq_getElem hlv
    obtain ⟨a, c, e1, hR⟩ := rgs_of_own (he _ _ _ hv hx)
    refine ⟨g, 0, a, c, rfl, (Array.getElem?_eq_some_iff.1 h4).1, ?_, hR⟩
    rw [← e1, Nat.zero_add, Lib.cell_of_heap h4, ← hv, ← h8, List.getElem?_take_of_lt (by omega), Array.getElem?_toList]
end Go.Proofs.Ytpmcnmlpkpoopaa
