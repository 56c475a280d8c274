/- The statement EditDiffs' body: every two texts. -/
import Derived.Test.YtjbfnlnfhafafaaQN
import Derived.Test.YtjbfnlnfhafafaaQE
namespace Go.Proofs.Ytjbfnlnfhafafaa
open Go.RowKit

theorem EDiffs_any (a b : ByteArray) (w : World) (ha : a.size ≤ maxLen) (hb : b.size ≤ maxLen) :
    Calls Try.prog 6 #[.string a, .string b] w fun e w' => e = .returned (.bool true) ∧ Below w.heap.size w w' := by
  by_cases hf : decide (fewN [a, b] ≤ 4000) = true
  · by_cases hab : a = b
    · subst hab
      exact EDiffs_eq a w ha hf
    · exact EDiffs_ne a b w ha hb hf hab
  · exact EDiffs_few a b w ha hb (Bool.eq_false_iff.2 hf)
end Go.Proofs.Ytjbfnlnfhafafaa
