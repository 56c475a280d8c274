/- charset.combine's map from pairs of classes to classes: it reads as the list of the pairs that were met, each at its number. -/
import Derived.Test.YtpmcnmlpkpoopaaP
import Derived.Maps.OwnSet
import Derived.DeepKeys4
import Derived.WideKeyArgs2
namespace Go.Proofs.Ytpmcnmlpkpoopaa
open Go.RowKit Go.Shelf Go.WideElems
open Go.Maps (Keyed)

abbrev Pr := Int × Int
abbrev prV (p : Pr) : Value := .agg #[.int .i64 p.1, .int .i64 p.2]
def okP (p : Pr) : Prop := 0 ≤ p.1 ∧ p.1 ≤ 10000000 ∧ 0 ≤ p.2 ∧ p.2 ≤ 10000000
theorem qLaid : laidOutB Try.prog = true := by kernel_rfl
theorem qKeyed : Keyed Try.prog 86 := Keyed.of_law (deep_law_laid qLaid (m := 3) (by omega) (of_decide_eq_true (by kernel_rfl)) (by kernel_rfl) (by kernel_rfl))
theorem wf64 {a : Int} (h0 : 0 ≤ a) (h1 : a ≤ 10000000) : (Lit.int .i64 a).wf = true := by
  simp [Lit.wf, IntKind.min, IntKind.max, IntKind.signed, IntKind.bits]; omega
theorem qKeyB : Try.prog.keyType 86 = true := by kernel_rfl
theorem qCells : Try.prog.cellsOf 86 = 2 := by kernel_rfl
theorem qInt : Try.prog.cellsOf 3 = 1 := by kernel_rfl
theorem qSize : ∃ n, n + 2 = Try.prog.types.size + 1 := by
  have h : 0 < Try.prog.types.size := of_decide_eq_true (by kernel_rfl)
  generalize Try.prog.types.size = m at *
  exact ⟨m - 1, by omega⟩
theorem litInt (d : Nat) {x : Int} (a1 : (Lit.int .i64 x).wf = true) : Try.prog.keyLits (d + 1) 3 [.int .i64 x] = some [.int .i64 x] := by
  have hu := Try.underlying3
  generalize Try.prog = P at *
  unfold Program.keyLits
  rw [hu]
  simp [a1]
theorem litPr (d : Nat) {x y : Int} (a1 : (Lit.int .i64 x).wf = true) (a2 : (Lit.int .i64 y).wf = true) : ∃ ls, Try.prog.keyLits (d + 2) 86 [.int .i64 x, .int .i64 y] = some ls := by
  have e1 := litInt d a1
  have e2 := litInt d a2
  have hc := qCells
  have hi := qInt
  have hu := Try.underlying86
  refine ⟨[.int .i64 x, .int .i64 y], ?_⟩
  generalize Try.prog = P at *
  unfold Program.keyLits
  rw [hu]
  simp [hc, hi, e1, e2]
theorem formPr (p : Pr) : (prV p).formed Try.prog 86 = true := by
  have hc := qCells
  have hu := Try.underlying86
  generalize Try.prog = P at *
  simp [Value.formed, hu, hc]
theorem keyPr {p : Pr} (h : okP p) : ∃ k, keyOf Try.prog 86 (prV p) = some k := by
  obtain ⟨h1, h2, h3, h4⟩ := h
  obtain ⟨n, hn⟩ := qSize
  obtain ⟨ls, hls⟩ := litPr n (wf64 h1 h2) (wf64 h3 h4)
  have hu := Try.underlying86
  have hk := qKeyB
  have hf := formPr p
  refine ⟨.string (keyBytes ls), ?_⟩
  rw [hn] at hls
  generalize Try.prog = P at *
  unfold keyOf
  rw [hu]
  simp only [hk, hf, Bool.and_self, if_true, Value.cells, hls, Option.map_some]
noncomputable def kk (p : Pr) : Lit := (keyOf Try.prog 86 (prV p)).getD (.bool false)
theorem kk_eq {p : Pr} (h : okP p) : keyOf Try.prog 86 (prV p) = some (kk p) := by
  obtain ⟨k, hk⟩ := keyPr h
  rw [kk, hk]; rfl
theorem kk_inj {p q : Pr} (hp : okP p) (hq : okP q) (h : kk p = kk q) : p = q := by
  have := qKeyed.inj (kk_eq hp) (by rw [h]; exact kk_eq hq)
  obtain ⟨p1, p2⟩ := p
  obtain ⟨q1, q2⟩ := q
  simp at this
  simp [this]

/-- Block b is a map that holds the pairs of C, each at its number. -/
def PM (W : World) (b : Nat) (C : List Pr) : Prop := ∃ (n : Nat) (D : DataW Unit), n ≤ C.length ∧ W.ownsMap Try.prog 86 (plainElem Try.prog 3) b n D ∧ Maps.size D = C.length ∧
  (∀ p, okP p → Maps.has D (kk p) = decide (p ∈ C)) ∧ (∀ p ∈ C, okP p ∧ ∀ z, D.atKey (kk p) z = .lit (.int .i64 (C.idxOf p : Nat)))
theorem PM.kept {W W' : World} {row : Option Nat} {b : Nat} {C : List Pr} (h : PM W b C) (hg : W.grownBy W' row) (hne : some b ≠ row) : PM W' b C := by
  obtain ⟨n, D, h1, h2, h3⟩ := h
  exact ⟨n, D, h1, h2.kept hg hne, h3⟩
theorem PM.alloc {W : World} {b : Nat} {C : List Pr} (h : PM W b C) (o : Obj) : PM (W.alloc o) b C := h.kept (World.grownBy_alloc W o none) (by simp)
theorem PM.drewN {W : World} {b : Nat} {C : List Pr} (h : PM W b C) (n : Nat) : PM (W.drewN n) b C := h
theorem PM.drew {W : World} {b : Nat} {C : List Pr} (h : PM W b C) : PM W.drew b C := h
theorem PM.lt {W : World} {b : Nat} {C : List Pr} (h : PM W b C) : b < W.heap.size := by
  obtain ⟨n, D, h1, h2, h3⟩ := h
  exact h2.lt
theorem PM.below {B : Nat} {W W' : World} {b : Nat} {C : List Pr} (h : PM W b C) (hb : Below B W W') (hB : b < B) : PM W' b C := by
  obtain ⟨n, D, h1, ⟨es, clock, e1, e2⟩, h3⟩ := h
  exact ⟨n, D, h1, ⟨es, clock, (hb.block _ hB).trans e1, e2⟩, h3⟩
theorem zeroInt (w : World) : (zeroValue 3).run Try.prog w = .ok (.int .i64 0) w := by kernel_rfl
theorem PM.put {W : World} {b : Nat} {C : List Pr} (h : PM W b C) {p : Pr} (hp : okP p) (hn : p ∉ C) (hl : C.length < 1000000) :
    ∃ W', (Instr.mapUpdate 87 (.map (some b)) (prV p) (.int .i64 C.length)).run Try.prog W = .ok () W' ∧ PM W' b (C ++ [p]) ∧ W.grownBy W' (some b) := by
  obtain ⟨n, D, h1, h2, h3, h4, h5⟩ := h
  have hD := h2.isMap
  have ht := h2.tidy qKeyed
  have hkey := qKeyed.key (kk_eq hp)
  obtain ⟨W', e1, e2, e3⟩ := h2.update qKeyed Try.underlying87 (by unfold maxLen; omega) (kk_eq hp) (plainElem_int Try.underlying3 (wf64 (a := (C.length : Nat)) (by omega) (by omega)))
  refine ⟨W', e1, ⟨n + 1, _, by simp; omega, e2, ?_, fun q hq => ?_, fun q hq => ?_⟩, e3⟩
  · rw [Maps.size_put ht, h4 p hp, h3]; simp [hn]
  · by_cases e : q = p
    · subst e
      rw [Maps.has_put_same hD hkey]; simp
    · rw [Maps.has_put_other (fun e' => e (kk_inj hq hp e')), h4 q hq]; simp [e]
  · by_cases e : q = p
    · subst e
      refine ⟨hp, fun z => ?_⟩
      rw [Maps.atKey_put_same hD hkey, List.idxOf_append, if_neg hn]
      simp
    · have hq' : q ∈ C := by simpa [e] using hq
      obtain ⟨a1, a2⟩ := h5 q hq'
      refine ⟨a1, fun z => ?_⟩
      rw [Maps.atKey_put_other (fun e' => e (kk_inj a1 hp e')), a2 z, List.idxOf_append, if_pos hq']
theorem PM.start (W : World) : ∃ W', (Instr.mapUpdate 87 (.map (some W.heap.size)) (prV (0, 0)) (.int .i64 0)).run Try.prog (W.alloc (.map #[] 0)) = .ok () W' ∧ PM W' W.heap.size [(0, 0)] ∧ (W.alloc (.map #[] 0)).grownBy W' (some W.heap.size) := by
  have h : PM (W.alloc (.map #[] 0)) W.heap.size [] := ⟨0, .map [], Nat.le_refl _, World.ownsMap_made W _ _ _, rfl, fun p _ => by simp [Maps.has], fun p hp => by cases hp⟩
  exact h.put (p := (0, 0)) ⟨by omega, by omega, by omega, by omega⟩ (by simp) (by simp)
theorem PM.look {W : World} {b : Nat} {C : List Pr} (h : PM W b C) {p : Pr} (hp : okP p) :
    ∃ c : Int, (Instr.lookup 87 (.map (some b)) (prV p) true).run Try.prog W = .ok (.tuple #[.int .i64 c, .bool (decide (p ∈ C))]) W := by
  obtain ⟨n, D, h1, h2, h3, h4, h5⟩ := h
  obtain ⟨v, ps, e1, e2⟩ := h2.look_ok qKeyed Try.underlying87 (zeroInt W) (plainElem_int Try.underlying3 (by decide)) (kk_eq hp)
  obtain ⟨c, rfl, _, _⟩ := plainElem_int_inv Try.underlying3 e2
  rw [h4 p hp] at e1
  exact ⟨c, e1⟩
theorem PM.get {W : World} {b : Nat} {C : List Pr} (h : PM W b C) {p : Pr} (hp : p ∈ C) :
    (Instr.lookup 87 (.map (some b)) (prV p) false).run Try.prog W = .ok (.int .i64 (C.idxOf p : Nat)) W := by
  obtain ⟨n, D, h1, h2, h3, h4, h5⟩ := h
  obtain ⟨a1, a2⟩ := h5 p hp
  obtain ⟨c, e1, e2, _⟩ := h2.lookup_int qKeyed Try.underlying87 Try.underlying3 (zeroInt W) (kk_eq a1)
  rw [a2] at e2
  injection e2 with e2
  injection e2 with _ e2
  rw [e1, ← e2]
theorem PM.len {W : World} {b : Nat} {C : List Pr} (h : PM W b C) (ty : TypeId) : (Builtin.len_ #[87] ty #[.map (some b)]).run Try.prog W = .ok (.int .i64 C.length) W := by
  obtain ⟨n, D, h1, h2, h3, h4, h5⟩ := h
  rw [h2.len Try.underlying87 ty, h3]
end Go.Proofs.Ytpmcnmlpkpoopaa
