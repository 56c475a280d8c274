/- A list of sets among the arguments: opened. -/
import Derived.Test.YtpmcnmlpkpoopaaOA
import Derived.Test.YtpmcnmlpkpoopaaLR
namespace Go.Proofs.Ytpmcnmlpkpoopaa
open Go.ChangeShapes Go.WideShapes Go.ChangeAt Go.RowKit Go.Deep

theorem cSet : Try.prog.cellsOf 24 = 1 := by kernel_rfl
/-- A slice of sets among the arguments: its sets. -/
theorem open_sts {H : Type} {enc : TypeId × Value → H} {W : World} {base : Nat} {sp : Nat → Bool} {held : Bool} {n : Nat} {v : Value} {x : DataW H × List MemPlace}
    (h : DataW.trod enc Try.prog W base sp held n 34 [v] = some x) :
    ∃ (ao : Option Addr) (LL : List (List Rg)) (cap : Nat), v = .slice ao LL.length cap ∧ Sts W W.heap.size ao LL ∧ LL.length ≤ cap ∧ cap ≤ maxLen := by
  rcases open_slice Try.underlying34 h with ⟨h0, _⟩ | ⟨a, len, cap, m, k, D, Pl, hcs, hb, hl, hm, hmm, _, hi⟩
  · obtain rfl : v = .slice none 0 0 := by simpa using h0
    refine ⟨none, [], 0, rfl, fun pre x rest e => by simp at e, by simp, by simp [maxLen]⟩
  · obtain rfl : v = .slice (some a) len cap := by simpa using hcs
    have hlm : len ≤ m := by rw [hmm]; split <;> omega
    have hat : ∀ i, i < len → ∃ L : List Rg, ∃ ao c, W.cell? (a.add i) = some (.slice ao L.length c) ∧ Rgs W W.heap.size ao L := by
      intro i hil
      obtain ⟨cs, hc, ht⟩ := hi i (by omega)
      rw [cSet] at hc
      obtain ⟨_, hcl, hcat⟩ := World.cells?_some hc
      have h0 := hcat 0 (by omega)
      rw [add_0, Nat.mul_one] at h0
      match cs, hcl, h0, ht with
      | [u], _, h0, ht =>
        obtain ⟨ao, L, c, rfl, hR, _, _⟩ := open_rgs (v := u) Try.underlying24 ht
        exact ⟨L, ao, c, by simpa using h0, hR⟩
    have hat' : ∀ i, ∃ L : List Rg, i < len → ∃ ao c, W.cell? (a.add i) = some (.slice ao L.length c) ∧ Rgs W W.heap.size ao L := by
      intro i
      by_cases hil : i < len
      · obtain ⟨e, he⟩ := hat i hil
        exact ⟨e, fun _ => he⟩
      · exact ⟨[], fun h => absurd h hil⟩
    obtain ⟨f, hf⟩ := Classical.axiomOfChoice hat'
    refine ⟨some a, (List.range len).map f, cap, by rw [List.length_map, List.length_range], ?_, by rw [List.length_map, List.length_range]; exact hl, hm⟩
    intro pre x rest e
    have hlen := congrArg List.length e
    simp only [List.length_append, List.length_cons, List.length_map, List.length_range] at hlen
    have hx : ((List.range len).map f)[pre.length]? = some x := by rw [← e]; simp
    rw [List.getElem?_map, List.getElem?_range (by omega)] at hx
    obtain rfl : f pre.length = x := by simpa using hx
    obtain ⟨ao, c, c0, c1⟩ := hf pre.length (by omega)
    obtain ⟨_, _, z0, _⟩ := hf 0 (by omega)
    rw [add_0] at z0
    obtain ⟨sp, hb'⟩ := addr_of_cell z0
    obtain ⟨g, o, z⟩ := a
    change z = none at sp
    subst sp
    rw [add_none] at c0
    exact ⟨g, o, ao, c, rfl, hb', c0, c1⟩
end Go.Proofs.Ytpmcnmlpkpoopaa
