/- An edit among the arguments: opened, and shut again. -/
import Derived.Test.YtjbfnlnfhafafaaN
import Derived.Test.YtjbfnlnfhafafaaRows
import Derived.ProofKit
import Derived.OpenShut
import Derived.ShutString
import Derived.ChangeMaps
import Derived.Deep.Strs
namespace Go.Proofs.Ytjbfnlnfhafafaa
open Go.ChangeShapes Go.WideShapes Go.ChangeAt Go.RowKit Go.Deep
open Go.ChangeMaps (open_string shut_string)

theorem own : ownKnob Try.prog.godebug = none := by kernel_rfl
theorem cInt : Try.prog.cellsOf 3 = 1 := by kernel_rfl
theorem cStr : Try.prog.cellsOf 9 = 1 := by kernel_rfl
theorem cEd : Try.prog.cellsOf 32 = 3 := by kernel_rfl
theorem open_ed {H : Type} {enc : TypeId × Value → H} {W : World} {base : Nat} {sp : Nat → Bool} {held : Bool} {r : Reach} {b0 : Nat} {v : Value} {d : DataW H} {ps : List MemPlace}
    (hval : Value.okWide Try.prog W r b0 32 v) (hd : DataW.Trod enc Try.prog W base sp held 32 v d ps) :
    ∃ l c s, v = edV l c s ∧ d = .agg [.lit (.int .i64 l), .lit (.int .i64 c), .lit (.string s.data.toList)] ∧ ps = [] ∧ (Lit.int IntKind.i64 l).wf = true ∧ (Lit.int IntKind.i64 c).wf = true ∧ s.size ≤ maxLen := by
  obtain ⟨cs, rfl, hcs⟩ := okWide_struct Try.underlying32 hval
  obtain ⟨fuel, hf⟩ := hd
  obtain ⟨y0, y1, y2, n, hx, hl, h0, h1, h2⟩ := trod_struct3 Try.underlying32 hf
  obtain ⟨l, e0, f0, w0⟩ := DataW.trod_int Try.underlying3 h0
  obtain ⟨c, e1, f1, w1⟩ := DataW.trod_int Try.underlying3 h1
  obtain ⟨s, e2, f2, w2⟩ := DataW.trod_string Try.underlying9 h2
  rw [cEd] at hcs
  simp only [cInt, cStr, Value.cells] at e0 e1 e2
  obtain ⟨xs⟩ := cs
  match xs, hcs, e0, e1, e2 with
  | [x, y, z], _, e0, e1, e2 =>
    simp at e0 e1 e2
    subst e0 e1 e2 f0 f1 f2
    simp only [Prod.mk.injEq] at hx
    exact ⟨l, c, s, rfl, hx.1, hx.2, w0, w1, w2⟩
theorem trod_str_mk {H : Type} {enc : TypeId × Value → H} {W : World} {base : Nat} {sp : Nat → Bool} {held : Bool} {s : ByteArray} (m : Nat) (ws : s.size ≤ maxLen) : DataW.trod enc Try.prog W base sp held (m + 1) 9 [.string s] = some (.lit (.string s.data.toList), []) := by
  simp [DataW.trod, Try.underlying9, ws]
theorem shut_ed {H : Type} {enc : TypeId × Value → H} {W : World} {base : Nat} {sp : Nat → Bool} {held : Bool} {l c : Int} {s : ByteArray} (wl : (Lit.int IntKind.i64 l).wf = true) (wc : (Lit.int IntKind.i64 c).wf = true) (ws : s.size ≤ maxLen) :
    DataW.Trod enc Try.prog W base sp held 32 (edV l c s) (.agg [.lit (.int .i64 l), .lit (.int .i64 c), .lit (.string s.data.toList)]) [] := by
  exact ⟨2, trod_struct3_mk (y0 := (.lit (.int .i64 l), [])) (y1 := (.lit (.int .i64 c), [])) (y2 := (.lit (.string s.data.toList), [])) Try.underlying32 (by rw [cEd]; rfl)
    (by rw [cInt]; exact trod_int_mk 0 Try.underlying3 wl) (by rw [cInt]; exact trod_int_mk 0 Try.underlying3 wc) (by rw [cStr]; exact trod_str_mk 0 ws)⟩
theorem i64_of_wf {n : Int} (h : (Lit.int IntKind.i64 n).wf = true) : -9223372036854775808 ≤ n ∧ n ≤ 9223372036854775807 := by
  simp [Lit.wf] at h
  exact h
end Go.Proofs.Ytjbfnlnfhafafaa
