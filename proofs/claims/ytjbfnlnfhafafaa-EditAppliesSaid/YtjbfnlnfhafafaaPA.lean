/- EditApplies: for every text and every list of edits the law returns true, and its arguments read behind the call as they read before. -/
import Derived.Test.YtjbfnlnfhafafaaOA
import Derived.Test.YtjbfnlnfhafafaaY
import Derived.Deep.Slices
import Derived.Carry
namespace Go.Proofs.Ytjbfnlnfhafafaa.applies
open Go.ChangeShapes Go.WideShapes Go.ChangeAt Go.RowKit Go.Deep
open Go.ChangeMaps (open_string shut_string)

/-- One edit's datum. -/
theorem ed_cells {H : Type} {enc : TypeId × Value → H} {W : World} {base : Nat} {sp : Nat → Bool} {held : Bool} {n : Nat} {cs : List Value} {D : DataW H × List MemPlace}
    (h : DataW.trod enc Try.prog W base sp held n 32 cs = some D) (hl : cs.length = 3) :
    ∃ l c s, cs = [.int .i64 l, .int .i64 c, .string s] ∧ s.size ≤ maxLen := by
  obtain ⟨y0, y1, y2, m, hx, _, h0, h1, h2⟩ := trod_struct3 Try.underlying32 h
  obtain ⟨l, e0, _, _⟩ := DataW.trod_int Try.underlying3 h0
  obtain ⟨c, e1, _, _⟩ := DataW.trod_int Try.underlying3 h1
  obtain ⟨s, e2, _, w2⟩ := DataW.trod_string Try.underlying9 h2
  simp only [cInt, cStr] at e0 e1 e2
  match cs, hl, e0, e1, e2 with
  | [x, y, z], _, e0, e1, e2 =>
    simp at e0 e1 e2
    subst e0 e1 e2
    exact ⟨l, c, s, rfl, w2⟩
theorem add_0 (a : Addr) : a.add 0 = a := by unfold Addr.add; rw [if_pos rfl]
theorem add_none (g o k : Nat) : (⟨g, o, none⟩ : Addr).add k = ⟨g, o + k, none⟩ := by
  unfold Addr.add
  split
  · rename_i h; subst h; rfl
  · rfl
theorem addr_of_cell {W : World} {a : Addr} {v : Value} (h : W.cell? a = some v) : a.spot = none ∧ a.block < W.heap.size := by
  unfold World.cell? at h
  split at h
  · rename_i hh
    refine ⟨?_, (Array.getElem?_eq_some_iff.1 hh).1⟩
    split at h
    · cases h
    · rename_i hs
      simpa using hs
  · cases h
/-- A slice of edits among the arguments: its edits. -/
theorem open_eds {H : Type} {enc : TypeId × Value → H} {W : World} {base : Nat} {sp : Nat → Bool} {held : Bool} {n : Nat} {v : Value} {x : DataW H × List MemPlace}
    (h : DataW.trod enc Try.prog W base sp held n 22 [v] = some x) :
    ∃ (ao : Option Addr) (L : List Ed) (cap : Nat), v = .slice ao L.length cap ∧ Eds W W.heap.size ao L ∧ ∀ y ∈ L, y.2.2.size ≤ maxLen := by
  rcases open_slice Try.underlying22 h with ⟨h0, _⟩ | ⟨a, len, cap, m, k, D, Pl, hcs, hb, hl, hm, hmm, _, hi⟩
  · obtain rfl : v = .slice none 0 0 := by simpa using h0
    refine ⟨none, [], 0, rfl, ?_, by simp⟩
    intro pre x rest e
    have := congrArg List.length e
    simp at this
  · obtain rfl : v = .slice (some a) len cap := by simpa using hcs
    have hlm : len ≤ m := by rw [hmm]; split <;> omega
    have hat : ∀ i, i < len → ∃ e : Ed, W.cell? (a.add (i * 3)) = some (.int .i64 e.1) ∧ W.cell? ((a.add (i * 3)).add 1) = some (.int .i64 e.2.1) ∧ W.cell? ((a.add (i * 3)).add 2) = some (.string e.2.2) ∧ e.2.2.size ≤ maxLen := by
      intro i hil
      obtain ⟨cs, hc, ht⟩ := hi i (by omega)
      rw [cEd] at hc
      obtain ⟨_, hcl, hcat⟩ := World.cells?_some hc
      obtain ⟨l, c, s, rfl, ws⟩ := ed_cells ht hcl
      exact ⟨(l, c, s), by have := hcat 0 (by omega); rw [add_0] at this; simpa using this, by simpa using hcat 1 (by omega), by simpa using hcat 2 (by omega), ws⟩
    have hat' : ∀ i, ∃ e : Ed, i < len → W.cell? (a.add (i * 3)) = some (.int .i64 e.1) ∧ W.cell? ((a.add (i * 3)).add 1) = some (.int .i64 e.2.1) ∧ W.cell? ((a.add (i * 3)).add 2) = some (.string e.2.2) ∧ e.2.2.size ≤ maxLen := by
      intro i
      by_cases hil : i < len
      · obtain ⟨e, he⟩ := hat i hil
        exact ⟨e, fun _ => he⟩
      · exact ⟨(0, 0, ⟨#[]⟩), fun h => absurd h hil⟩
    obtain ⟨f, hf⟩ := Classical.axiomOfChoice hat'
    refine ⟨some a, (List.range len).map f, cap, by rw [List.length_map, List.length_range], ?_, ?_⟩
    · intro pre x rest e
      have hlen := congrArg List.length e
      simp only [List.length_append, List.length_cons, List.length_map, List.length_range] at hlen
      have hx : ((List.range len).map f)[pre.length]? = some x := by rw [← e]; simp
      rw [List.getElem?_map, List.getElem?_range (by omega)] at hx
      obtain rfl : f pre.length = x := by simpa using hx
      obtain ⟨c0, c1, c2, _⟩ := hf pre.length (by omega)
      obtain ⟨z0, _, _, _⟩ := hf 0 (by omega)
      rw [Nat.zero_mul, add_0] at z0
      obtain ⟨sp, hb'⟩ := addr_of_cell z0
      obtain ⟨g, o, z⟩ := a
      change z = none at sp
      subst sp
      rw [add_none] at c0
      rw [add_none, add_none] at c1 c2
      exact ⟨g, o, rfl, hb', c0, c1, c2⟩
    · intro y hy
      obtain ⟨i, hi', rfl⟩ := List.mem_map.1 hy
      exact (hf i (List.mem_range.1 hi')).2.2.2

theorem laidOut : laidOutB Try.prog = true := by kernel_rfl

theorem contract (H : Type) (enc : TypeId × Value → H) (W : World) (base : Nat) (args : Array Value) (ds gs : List (DataW H)) (before : List MemPlace)
    (hval : ∀ (j : Nat) t v, Try.f3.params[j]? = some t → args[j]? = some v → Value.okWide Try.prog W .any base t v)
    (hW : DataW.Whole enc Try.prog Try.f3.params.toList Rows.editAppliesSpec.vars false W args.toList ds gs before) :
    Calls Try.prog 3 args W fun e W' => ∃ v, e = .returned v ∧ Rows.editAppliesSpec.post enc Try.prog Try.f3 false true false false W args v W' := by
  have hW' := hW
  obtain ⟨p, q, hA0, hV, rfl, hfz, hnd⟩ := hW
  have hA : DataW.TrodAll enc Try.prog W 0 (fun _ => true) true Try.f3.params.toList args.toList ds p := hA0
  rw [Try.params3] at hA hval
  obtain ⟨v0, vs0, d0, ds0, p0, q0, hargs, rfl, rfl, h0, r0⟩ := trodAll_cons hA
  obtain ⟨v1, vs1, d1, ds1, p1, q1, rfl, rfl, rfl, h1, r1⟩ := trodAll_cons r0
  obtain ⟨rfl, rfl, rfl⟩ := trodAll_nil r1
  obtain rfl : args = #[v0, v1] := by cases args; simp_all
  obtain ⟨rfl, rfl⟩ := trodVars_none hV
  obtain ⟨s0, rfl, rfl, rfl, w0⟩ := open_string Try.underlying9 (hval 0 9 v0 rfl rfl) h0
  obtain ⟨a0, len, cap, rfl⟩ := okWide_slice Try.underlying22 (hval 1 22 v1 rfl rfl)
  have h1k := h1
  have hlt : ∀ x ∈ p1, x.block < W.heap.size := fun x hx => by
    have := hW'.lt x
    simp at this
    exact this hx
  obtain ⟨fuel, hf⟩ := h1
  obtain ⟨ao, L, cap', hv, hE, hL⟩ := open_eds (v := .slice a0 len cap) (by simpa [Value.cells] using hf)
  obtain ⟨rfl, rfl, rfl⟩ : a0 = ao ∧ len = L.length ∧ cap = cap' := by simpa using hv
  clear hA0
  refine (EApplies_any s0 a0 L cap W w0 hE hL).mono ?_
  rintro e W' ⟨rfl, bel⟩
  refine ⟨_, rfl, _, _, _, [], [] ++ (p1 ++ []), [], hW', trodAll_cons_mk (shut_bool Try.underlying4 _) trodAll_mk0, ?_, ?_, bel.frame _, fun h => by cases h⟩
  · exact trodAll_cons_mk (shut_string Try.underlying9 w0) (trodAll_cons_mk (Below.trod laidOut (by kernel_rfl) (of_decide_eq_true (by kernel_rfl)) h1k bel hlt) trodAll_mk0)
  · rfl

set_option maxRecDepth 100000 in
theorem lifted (os : Os) (started : os.Started) (H : Type) (enc : TypeId × Value → H) :
    ReturnsInHanded {} Try.checked os 3 .any (Rows.editAppliesSpec.pre6 enc Try.prog Try.f3 Rows.editAppliesRow.domain false) (Rows.editAppliesSpec.post enc Try.prog Try.f3 false true false false) := by
  refine returnsInHanded_of_change (C := Try.checked) own started (by kernel_rfl) Try.func3
    (ChangeSpec.witness6 (enc := enc) (C := Try.checked) false ⟨#[], #[.string ⟨#[]⟩, .slice none 0 0], []⟩ 8 (by kernel_rfl) (by kernel_rfl) (by kernel_rfl) (by kernel_rfl)) ?_
  intro W base args ds gs before hval hW _ _
  exact contract H enc W base args ds gs before hval hW

theorem holds : Rows.EditAppliesSaid :=
  OpenClaim.holds_of_wide 3 Try.f3 rfl rfl rfl rfl rfl rfl rfl ⟨rfl, rfl, rfl, rfl, rfl⟩ rfl rfl rfl rfl rfl (by kernel_rfl) Try.func3 (by kernel_rfl)
    (of_decide_eq_true (by kernel_rfl)) (by unfold Func.isWrapper; first | (rw [if_pos (by decide +kernel)]; kernel_rfl) | (rw [if_neg (by decide +kernel)]; exact ⟨rfl, rfl⟩))
    (fun os started H enc _ => lifted os started H enc)
end Go.Proofs.Ytjbfnlnfhafafaa.applies
