/- A slice of ranges among the arguments: opened. -/
import Derived.Test.YtpmcnmlpkpoopaaRO
import Derived.Test.YtpmcnmlpkpoopaaRows
import Derived.ProofKit
import Derived.OpenShut
import Derived.Deep.Slices
import Derived.Carry
namespace Go.Proofs.Ytpmcnmlpkpoopaa
open Go.ChangeShapes Go.WideShapes Go.ChangeAt Go.RowKit Go.Deep

theorem own : ownKnob Try.prog.godebug = none := by kernel_rfl
theorem cI32 : Try.prog.cellsOf 21 = 1 := by kernel_rfl
theorem cRg : Try.prog.cellsOf 41 = 2 := by kernel_rfl
/-- One range's datum. -/
theorem rg_datum {H : Type} {enc : TypeId × Value → H} {W : World} {base : Nat} {sp : Nat → Bool} {held : Bool} {n : Nat} {cs : List Value} {D : DataW H × List MemPlace}
    (h : DataW.trod enc Try.prog W base sp held n 41 cs = some D) (hl : cs.length = 2) : ∃ l c, cs = [.int .i32 l, .int .i32 c] := by
  obtain ⟨y0, y1, m, hx, _, h0, h1⟩ := trod_struct2 Try.underlying41 h
  obtain ⟨l, e0, _, _⟩ := DataW.trod_int Try.underlying21 h0
  obtain ⟨c, e1, _, _⟩ := DataW.trod_int Try.underlying21 h1
  simp only [cI32] at e0 e1
  match cs, hl, e0, e1 with
  | [x, y], _, e0, e1 =>
    simp at e0 e1
    subst e0 e1
    exact ⟨l, c, rfl⟩
theorem add_0 (a : Addr) : a.add 0 = a := by unfold Addr.add; rw [if_pos rfl]
theorem add_none (g o k : Nat) : (⟨g, o, none⟩ : Addr).add k = ⟨g, o + k, none⟩ := by
  unfold Addr.add
  split
  · rename_i h; subst h; rfl
  · rfl
theorem addr_of_cell {W : World} {a : Addr} {v : Value} (h : W.cell? a = some v) : a.spot = none ∧ a.block < W.heap.size := by
  unfold World.cell? at h
  split at h
  · rename_i hh
    refine ⟨?_, (Array.getElem?_eq_some_iff.1 hh).1⟩
    split at h
    · cases h
    · rename_i hs
      simpa using hs
  · cases h
/-- A slice of ranges among the arguments (a Set, a list of ranges): its ranges. -/
theorem open_rgs {H : Type} {enc : TypeId × Value → H} {W : World} {base : Nat} {sp : Nat → Bool} {held : Bool} {n : Nat} {t : TypeId} {v : Value} {x : DataW H × List MemPlace} (ht : Try.prog.underlying t = some (.slice 41))
    (h : DataW.trod enc Try.prog W base sp held n t [v] = some x) :
    ∃ (ao : Option Addr) (L : List Rg) (cap : Nat), v = .slice ao L.length cap ∧ Rgs W W.heap.size ao L ∧ L.length ≤ cap ∧ cap ≤ maxLen := by
  rcases open_slice ht h with ⟨h0, _⟩ | ⟨a, len, cap, m, k, D, Pl, hcs, hb, hl, hm, hmm, _, hi⟩
  · obtain rfl : v = .slice none 0 0 := by simpa using h0
    refine ⟨none, [], 0, rfl, Rgs.nil _ _ _, by simp, by simp [maxLen]⟩
  · obtain rfl : v = .slice (some a) len cap := by simpa using hcs
    have hlm : len ≤ m := by rw [hmm]; split <;> omega
    have hat : ∀ i, i < len → ∃ e : Rg, W.cell? (a.add (i * 2)) = some (.int .i32 e.1) ∧ W.cell? ((a.add (i * 2)).add 1) = some (.int .i32 e.2) := by
      intro i hil
      obtain ⟨cs, hc, ht⟩ := hi i (by omega)
      rw [cRg] at hc
      obtain ⟨_, hcl, hcat⟩ := World.cells?_some hc
      obtain ⟨l, c, rfl⟩ := rg_datum ht hcl
      exact ⟨(l, c), by have := hcat 0 (by omega); rw [add_0] at this; simpa using this, by simpa using hcat 1 (by omega)⟩
    have hat' : ∀ i, ∃ e : Rg, i < len → W.cell? (a.add (i * 2)) = some (.int .i32 e.1) ∧ W.cell? ((a.add (i * 2)).add 1) = some (.int .i32 e.2) := by
      intro i
      by_cases hil : i < len
      · obtain ⟨e, he⟩ := hat i hil
        exact ⟨e, fun _ => he⟩
      · exact ⟨(0, 0), fun h => absurd h hil⟩
    obtain ⟨f, hf⟩ := Classical.axiomOfChoice hat'
    refine ⟨some a, (List.range len).map f, cap, by rw [List.length_map, List.length_range], ?_, by rw [List.length_map, List.length_range]; exact hl, hm⟩
    intro pre x rest e
    have hlen := congrArg List.length e
    simp only [List.length_append, List.length_cons, List.length_map, List.length_range] at hlen
    have hx : ((List.range len).map f)[pre.length]? = some x := by rw [← e]; simp
    rw [List.getElem?_map, List.getElem?_range (by omega)] at hx
    obtain rfl : f pre.length = x := by simpa using hx
    obtain ⟨c0, c1⟩ := hf pre.length (by omega)
    obtain ⟨z0, _⟩ := hf 0 (by omega)
    rw [Nat.zero_mul, add_0] at z0
    obtain ⟨sp, hb'⟩ := addr_of_cell z0
    obtain ⟨g, o, z⟩ := a
    change z = none at sp
    subst sp
    rw [add_none] at c0
    rw [add_none, add_none] at c1
    exact ⟨g, o, rfl, hb', c0, c1⟩
theorem laidOut : laidOutB Try.prog = true := by kernel_rfl
end Go.Proofs.Ytpmcnmlpkpoopaa
