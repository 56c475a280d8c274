/- Join and the reference's Join, for all edits. -/
import Derived.Test.YtjbfnlnfhafafaaV
import Derived.Test.YtjbfnlnfhafafaaWM
namespace Go.Proofs.Ytjbfnlnfhafafaa
open Go.RowKit

/-- What Join answers: offset, bytes deleted, text, whether. -/
def joinZ (a d : Int) (t : ByteArray) (b e : Int) (u : ByteArray) : Int × Int × ByteArray × Bool :=
  if joinC a d t.size b e u.size then (((min a.toNat b.toNat : Nat) : Int), ((joinD a.toNat d.toNat t.size b.toNat e.toNat : Nat) : Int), joinI a.toNat t b.toNat e.toNat u, true) else (0, 0, ⟨#[]⟩, false)
theorem Join_any (a d b e : Int) (t u : ByteArray) (w : World) (ht : t.size ≤ 65536) (_ : u.size ≤ 65536) {x y : Int} {z : ByteArray} {f : Bool} (hz : joinZ a d t b e u = (x, y, z, f)) :
    Calls Try.prog 17 #[edV a d t, edV b e u] w fun r w' => r = .returned (.tuple #[edV x y z, .bool f]) ∧ Below w.heap.size w w' := by
  rw [joinZ] at hz
  by_cases h : joinC a d t.size b e u.size = true
  · rw [if_pos h] at hz
    obtain ⟨a, d, b, e, rfl, rfl, rfl, rfl⟩ := join_nat h
    obtain ⟨⟨p1, p2, p3⟩, ⟨p4, p5, p6⟩, p7, p8⟩ := join_c h
    simp only [Int.toNat_natCast, Prod.mk.injEq] at hz
    obtain ⟨rfl, rfl, rfl, rfl⟩ := hz
    exact Join_yes a d b e t u w p1 p2 p4 p5 p3 p6 p7 p8
  · rw [if_neg h] at hz
    simp only [Prod.mk.injEq] at hz
    obtain ⟨rfl, rfl, rfl, rfl⟩ := hz
    exact Join_no a d b e t u w ht (Bool.eq_false_iff.2 h)
theorem rJoin_any (a d b e : Int) (t u : ByteArray) (w : World) (ht : t.size ≤ 65536) (hu : u.size ≤ 65536) {x y : Int} {z : ByteArray} {f : Bool} (hz : joinZ a d t b e u = (x, y, z, f)) :
    Calls Try.prog 18 #[edV a d t, edV b e u] w fun r w' => r = .returned (.tuple #[edV x y z, .bool f]) ∧ Below w.heap.size w w' := by
  rw [joinZ] at hz
  by_cases h : joinC a d t.size b e u.size = true
  · rw [if_pos h] at hz
    obtain ⟨a, d, b, e, rfl, rfl, rfl, rfl⟩ := join_nat h
    obtain ⟨⟨p1, p2, p3⟩, ⟨p4, p5, p6⟩, p7, p8⟩ := join_c h
    simp only [Int.toNat_natCast, Prod.mk.injEq] at hz
    obtain ⟨rfl, rfl, rfl, rfl⟩ := hz
    exact rJoin_yes a d b e t u w p1 p2 p4 p5 p3 p6 p7 p8
  · rw [if_neg h] at hz
    simp only [Prod.mk.injEq] at hz
    obtain ⟨rfl, rfl, rfl, rfl⟩ := hz
    exact rJoin_no a d b e t u w ht hu (Bool.eq_false_iff.2 h)
end Go.Proofs.Ytjbfnlnfhafafaa
