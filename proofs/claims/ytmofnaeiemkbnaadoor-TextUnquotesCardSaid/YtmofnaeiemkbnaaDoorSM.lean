/- Plain mathematics: rune boundaries and their positions grow together; each is found by the other. -/
import Derived.Test.YtmofnaeiemkbnaaDoorPB
import Derived.Test.YtmofnaeiemkbnaaDoorRS
namespace Go.Proofs.YtmofnaeiemkbnaaDoor
open Go.RowKit

/-- Both the offset and the position are behind. -/
def Beh (x y : Nat × Nat × Nat) : Prop := x.1 < y.1 ∧ (x.2.1 < y.2.1 ∨ (x.2.1 = y.2.1 ∧ x.2.2 < y.2.2))
theorem Beh.trans {x y z : Nat × Nat × Nat} (h : Beh x y) (k : Beh y z) : Beh x z := by
  obtain ⟨h1, h2⟩ := h
  obtain ⟨k1, k2⟩ := k
  exact ⟨by omega, by omega⟩
theorem beh_next (pos line col r n : Nat) (h : 1 ≤ n) : Beh (pos, line, col) (pos + n, nextL r line, nextC r col) := by
  refine ⟨by simp; omega, ?_⟩
  unfold nextL nextC
  by_cases hr : r = 10
  · simp [hr]
  · simp [hr]

theorem bounds_beh (s : ByteArray) : ∀ (f pos line col : Nat), (∀ z ∈ boundsFrom s f pos line col, z = (pos, line, col) ∨ Beh (pos, line, col) z) ∧ (boundsFrom s f pos line col).Pairwise Beh
  | 0, _, _, _ => ⟨fun z hz => by simp [boundsFrom] at hz, .nil⟩
  | f + 1, pos, line, col => by
    rw [boundsFrom]
    by_cases hp : pos < s.size
    · rw [if_pos hp]
      obtain ⟨i1, i2⟩ := bounds_beh s f (pos + (Utf8.decode s pos).2) (nextL (Utf8.decode s pos).1 line) (nextC (Utf8.decode s pos).1 col)
      have hb := beh_next pos line col (Utf8.decode s pos).1 (Utf8.decode s pos).2 (decode_facts s pos hp).1
      have ht : ∀ z ∈ boundsFrom s f (pos + (Utf8.decode s pos).2) (nextL (Utf8.decode s pos).1 line) (nextC (Utf8.decode s pos).1 col), Beh (pos, line, col) z := fun z hz => (i1 z hz).elim (fun e => e ▸ hb) (fun h => hb.trans h)
      exact ⟨fun z hz => (List.mem_cons.1 hz).elim .inl (fun h => .inr (ht z h)), List.pairwise_cons.2 ⟨ht, i2⟩⟩
    · rw [if_neg hp]
      exact ⟨fun z hz => .inl (by simpa using hz), List.pairwise_singleton _ _⟩

theorem beh_cases {L : List (Nat × Nat × Nat)} (hL : L.Pairwise Beh) : ∀ {x y}, x ∈ L → y ∈ L → x = y ∨ Beh x y ∨ Beh y x := by
  induction hL with
  | nil => intro x y hx; cases hx
  | cons h _ ih =>
    intro x y hx hy
    rcases List.mem_cons.1 hx with e1 | hx1
    · rcases List.mem_cons.1 hy with e2 | hy1
      · exact .inl (e1.trans e2.symm)
      · exact .inr (.inl (e1 ▸ h _ hy1))
    · rcases List.mem_cons.1 hy with e2 | hy1
      · exact .inr (.inr (e2 ▸ h _ hx1))
      · exact ih hx1 hy1

theorem posL_mem {L : List (Nat × Nat × Nat)} (hL : L.Pairwise Beh) : ∀ {x}, x ∈ L → posL (x.1 : Int) L = some x.2 := by
  induction hL with
  | nil => intro x hx; cases hx
  | @cons a l h _ ih =>
    intro x hx
    rw [posL]
    rcases List.mem_cons.1 hx with rfl | hx
    · rw [if_pos rfl]
    · have hb := (h _ hx).1
      rw [if_neg (by omega), if_neg (by omega)]
      exact ih hx
theorem posL_some {k : Int} {p : Nat × Nat} : ∀ {L : List (Nat × Nat × Nat)}, posL k L = some p → ∃ x ∈ L, (x.1 : Int) = k ∧ x.2 = p
  | [], h => by cases h
  | a :: L, h => by
    rw [posL] at h
    split at h
    · rename_i e
      exact ⟨a, by simp, e, Option.some.inj h⟩
    · split at h
      · cases h
      · obtain ⟨x, hx, e⟩ := posL_some h
        exact ⟨x, List.mem_cons_of_mem _ hx, e⟩
theorem plcL_mem {L : List (Nat × Nat × Nat)} (hL : L.Pairwise Beh) : ∀ {x}, x ∈ L → plcL (x.2.1 : Int) (x.2.2 : Int) L = some x.1 := by
  induction hL with
  | nil => intro x hx; cases hx
  | @cons a l h _ ih =>
    intro x hx
    rw [plcL]
    rcases List.mem_cons.1 hx with rfl | hx
    · rw [if_pos ⟨rfl, rfl⟩]
    · have hb := (h _ hx).2
      rw [if_neg (by rintro ⟨h1, h2⟩; omega)]
      exact ih hx

theorem bounds_pw (s : ByteArray) : (bounds s).Pairwise Beh := (bounds_beh s _ _ _ _).2

/-- Each rune's offset is a boundary. -/
theorem runes_bounds (s : ByteArray) : ∀ (f pos line col : Nat), ∀ x ∈ runesFrom s f pos, ∃ p : Nat × Nat, (x.2.1, p) ∈ boundsFrom s (f + 1) pos line col
  | 0, _, _, _, x, hx => by simp [runesFrom] at hx
  | f + 1, pos, line, col, x, hx => by
    rw [runesFrom] at hx
    by_cases hp : pos < s.size
    · rw [if_pos hp] at hx
      rw [boundsFrom, if_pos hp]
      rcases List.mem_cons.1 hx with rfl | hx
      · exact ⟨(line, col), by simp⟩
      · obtain ⟨p, h⟩ := runes_bounds s f _ (nextL (Utf8.decode s pos).1 line) (nextC (Utf8.decode s pos).1 col) x hx
        exact ⟨p, List.mem_cons_of_mem _ h⟩
    · rw [if_neg hp] at hx; cases hx

theorem rune_found (s : ByteArray) (x : Nat × Nat × Nat) (hx : x ∈ runesL s) : ∃ l c : Nat, posZ s (x.2.1 : Int) = (l, c, true) ∧ plcZ s l c = (x.2.1, true) := by
  obtain ⟨p, hp⟩ := runes_bounds s s.size 0 1 1 x hx
  have hp' : (x.2.1, p) ∈ bounds s := hp
  refine ⟨p.1, p.2, ?_, ?_⟩
  · rw [posZ, show posL (x.2.1 : Int) (bounds s) = some p from posL_mem (bounds_pw s) hp']
  · rw [plcZ, show plcL (p.1 : Int) (p.2 : Int) (bounds s) = some x.2.1 from plcL_mem (bounds_pw s) hp']

/-- Position at two offsets. -/
theorem pos_order (s : ByteArray) (a b : Int) (p q : Nat × Nat) (ha : posL a (bounds s) = some p) (hb : posL b (bounds s) = some q) :
    (a = b ∧ p = q) ∨ (a < b ∧ (p.1 < q.1 ∨ (p.1 = q.1 ∧ p.2 < q.2))) ∨ (b < a ∧ (q.1 < p.1 ∨ (q.1 = p.1 ∧ q.2 < p.2))) := by
  obtain ⟨x, hx, rfl, rfl⟩ := posL_some ha
  obtain ⟨y, hy, rfl, rfl⟩ := posL_some hb
  rcases beh_cases (bounds_pw s) hx hy with rfl | ⟨h1, h2⟩ | ⟨h1, h2⟩
  · exact .inl ⟨rfl, rfl⟩
  · exact .inr (.inl ⟨by omega, h2⟩)
  · exact .inr (.inr ⟨by omega, h2⟩)

theorem runes_rest {s : ByteArray} {f pos : Nat} (hp : pos ≤ s.size) (hf : s.size ≤ pos + f) : (pos = s.size ∧ runesFrom s f pos = []) ∨
    ∃ g, f = g + 1 ∧ pos < s.size ∧ runesFrom s f pos = ((Utf8.decode s pos).1, pos, (Utf8.decode s pos).2) :: runesFrom s g (pos + (Utf8.decode s pos).2) := by
  by_cases h : pos < s.size
  · obtain ⟨g, rfl⟩ : ∃ g, f = g + 1 := ⟨f - 1, by omega⟩
    exact .inr ⟨g, rfl, h, by rw [runesFrom, if_pos h]⟩
  · exact .inl ⟨by omega, by cases f <;> simp [runesFrom, h]⟩

theorem runeCells_length (l : List (Nat × Nat × Nat)) : (runeCells l).length = l.length * 3 := by
  induction l with
  | nil => rfl
  | cons a l ih => simp [runeCells] at ih ⊢; omega
theorem runeCells_at (pre rest : List (Nat × Nat × Nat)) (x : Nat × Nat × Nat) :
    (runeCells (pre ++ x :: rest))[pre.length * 3]? = some (.int .i32 x.1) ∧ (runeCells (pre ++ x :: rest))[pre.length * 3 + 1]? = some (.int .i64 x.2.1) ∧ (runeCells (pre ++ x :: rest))[pre.length * 3 + 2]? = some (.int .i64 x.2.2) := by
  have e : runeCells (pre ++ x :: rest) = runeCells pre ++ (.int .i32 x.1 :: .int .i64 x.2.1 :: .int .i64 x.2.2 :: runeCells rest) := by simp [runeCells]
  have hl := runeCells_length pre
  rw [e]
  refine ⟨?_, ?_, ?_⟩
  · rw [List.getElem?_append_right (by omega), show pre.length * 3 - (runeCells pre).length = 0 by omega]; rfl
  · rw [List.getElem?_append_right (by omega), show pre.length * 3 + 1 - (runeCells pre).length = 1 by omega]; rfl
  · rw [List.getElem?_append_right (by omega), show pre.length * 3 + 2 - (runeCells pre).length = 2 by omega]; rfl
end Go.Proofs.YtmofnaeiemkbnaaDoor
