/- text.Runes: the runes of every text of at most 300 bytes, each with its offset and its length. -/
import Derived.Test.YtmofnaeiemkbnaaDoorRN
import Derived.Test.YtmofnaeiemkbnaaDoorN
namespace Go.Proofs.YtmofnaeiemkbnaaDoor
open Go.RowKit Go.Shelf

/-- The runes from place pos on: rune, offset, length. -/
def runesFrom (s : ByteArray) : Nat → Nat → List (Nat × Nat × Nat)
  | 0, _ => []
  | f + 1, pos => if pos < s.size then ((Utf8.decode s pos).1, pos, (Utf8.decode s pos).2) :: runesFrom s f (pos + (Utf8.decode s pos).2) else []
def runesL (s : ByteArray) : List (Nat × Nat × Nat) := runesFrom s s.size 0
def runeCells (l : List (Nat × Nat × Nat)) : List Value := l.flatMap fun x => [.int .i32 x.1, .int .i64 x.2.1, .int .i64 x.2.2]

theorem runeCells_append (l : List (Nat × Nat × Nat)) (x : Nat × Nat × Nat) : runeCells (l ++ [x]) = runeCells l ++ [.int .i32 x.1, .int .i64 x.2.1, .int .i64 x.2.2] := by simp [runeCells]

theorem infoRune : (Tryd.prog.info? 36).map (fun i => (i.zero, i.size, i.bytes)) = some (some (.agg #[.int .i32 0, .int .i64 0, .int .i64 0]), 3, 24) := by kernel_rfl

theorem own_other {wr W1 : World} {b : Nat} {e : TypeId} {sz n : Nat} {v : Value} {xs : List Value} (h : wr.ownsRow (b + 1) e sz v n xs) (hk : ∀ k, k ≠ b → W1.heap[k]? = wr.heap[k]?) : W1.ownsRow (b + 1) e sz v n xs := by
  obtain ⟨h1, h2 | ⟨g, cap, cur, h2, h3, h4, h5⟩⟩ := h
  · exact ⟨h1, .inl h2⟩
  · exact ⟨h1, .inr ⟨g, cap, cur, h2, h3, (hk g (by omega)).trans h4, h5⟩⟩
theorem own_ne {wr : World} {b : Nat} {e : TypeId} {sz n : Nat} {v : Value} {xs : List Value} (h : wr.ownsRow (b + 1) e sz v n xs) : v.ownBlock ≠ some b := by
  obtain ⟨h1, ⟨rfl, _⟩ | ⟨g, cap, cur, rfl, h3, h4, h5⟩⟩ := h
  · simp [Value.ownBlock]
  · simp [Value.ownBlock]; omega
theorem own_alloc {wr : World} {b : Nat} {e : TypeId} {sz n : Nat} {v : Value} {xs : List Value} (o : Obj) (h : wr.ownsRow b e sz v n xs) : (wr.alloc o).ownsRow b e sz v n xs := h.alloc _
theorem rune_row {W : World} {r a l : Int} {t : TypeId} : ∀ j u, [Value.int .i32 r, Value.int .i64 a, Value.int .i64 l][j]? = some u → (W.alloc (Obj.cells #[Value.int .i32 r, Value.int .i64 a, Value.int .i64 l] t)).cell? ((⟨W.heap.size, 0, none⟩ : Addr).add j) = some u := by
  intro j u hj
  have hb := World.alloc_heap_new W (Obj.cells #[Value.int .i32 r, Value.int .i64 a, Value.int .i64 l] t)
  match j, hj with
  | 0, hj => simp at hj; subst hj; rw [show ((⟨W.heap.size, 0, none⟩ : Addr).add 0) = ⟨W.heap.size, 0, none⟩ by simp [Addr.add], Lib.cell_of_heap hb]; rfl
  | 1, hj => simp at hj; subst hj; rw [show ((⟨W.heap.size, 0, none⟩ : Addr).add 1) = ⟨W.heap.size, 1, none⟩ by simp [Addr.add], Lib.cell_of_heap hb]; rfl
  | 2, hj => simp at hj; subst hj; rw [show ((⟨W.heap.size, 0, none⟩ : Addr).add 2) = ⟨W.heap.size, 2, none⟩ by simp [Addr.add], Lib.cell_of_heap hb]; rfl
  | j + 3, hj => simp at hj

set_option maxHeartbeats 4000000 in
set_option maxRecDepth 100000 in
theorem Runes_any (s : ByteArray) (w : World) (hs : s.size ≤ 300) :
    Calls Tryd.prog 14 #[.string s] w fun e w' => ∃ v, e = .returned v ∧ w'.ownsRow (w.heap.size + 1) 36 3 v (runesL s).length (runeCells (runesL s)) ∧ Below w.heap.size w w' := by
  obtain ⟨i0, hi, hz0, hz1, hz2⟩ := info_parts infoRune
  go_enter Tryd.func14, Tryd.ntmps14
  go_wp2
  go_loopw [3] (fun v wr => ∃ (pre : List (Nat × Nat × Nat)) (f pos : Nat), Hid (pre ++ runesFrom s f pos = runesL s) ∧ pos ≤ s.size ∧ s.size ≤ pos + f ∧ pre.length ≤ pos ∧ wr.heap[w.heap.size]? = some (.stringIter s pos) ∧ wr.ownsRow (w.heap.size + 1) 36 3 v pre.length (runeCells pre) ∧ Below w.heap.size w wr) (fun _ wr => s.size - wr.iterPos w.heap.size)
  case atStart => exact ⟨[], s.size, 0, rfl, by omega, by omega, by simp, World.alloc_heap_new _ _, World.ownsRow_nil _ _ _ _, (Below.refl _ _).alloc (Nat.le_refl _) _⟩
  case round =>
    obtain ⟨pre, f, pos, hA, hp, hf, hl, hit, hown, hb⟩ := hrel
    by_cases hps : pos < s.size
    · have hnx : ∀ ty, (Instr.next (.pointer (some ⟨w.heap.size, 0, none⟩)) true ty).run Tryd.prog wr = _ := fun ty => Lib.run_next_any_at wr w.heap.size s pos ty hit hps
      obtain ⟨d1, d2, d3⟩ := decode_facts s pos hps
      have hc := fun w => runeLen_any s pos w hps
      obtain ⟨f, rfl⟩ : ∃ g, f = g + 1 := ⟨f - 1, by omega⟩
      have hA' := hA.out
      rw [runesFrom, if_pos hps] at hA'
      have hit1 := Lib.iterAt_heap wr w.heap.size s pos (pos + (Utf8.decode s pos).2) hit
      have hb1 := Lib.below_iterAt hb (k := w.heap.size) (Nat.le_refl _) s (pos + (Utf8.decode s pos).2)
      have ho1 : (wr.iterAt w.heap.size s (pos + (Utf8.decode s pos).2)).ownsRow (w.heap.size + 1) 36 3 _ pre.length (runeCells pre) := own_other hown (fun k hk => Lib.iterAt_other _ _ _ _ _ hk)
      obtain ⟨r, hr⟩ : ∃ r, r = (Utf8.decode s pos).1 := ⟨_, rfl⟩
      obtain ⟨n, hn⟩ : ∃ n, n = (Utf8.decode s pos).2 := ⟨_, rfl⟩
      rw [← hr, ← hn] at hnx
      rw [← hr, ← hn] at hc
      rw [← hr, ← hn] at hA'
      rw [← hn] at hit1 hb1 ho1 d1 d2
      rw [← hr] at d3
      have HA := Lib.hid hA'; clear hA' hA hr hn
      obtain ⟨W1, hW1⟩ : ∃ W1, W1 = wr.iterAt w.heap.size s (pos + n) := ⟨_, rfl⟩
      rw [← hW1] at hnx hit1 hb1 ho1
      clear hW1 hown hb
      go_wp2_with fail
      refine (hc _).mono ?_
      rintro e W2 ⟨rfl, rfl⟩
      have hsz := hb1.size
      have hne := own_ne ho1
      go_wp2_with (at_builtin; refine wpList_append_own _ rfl _ _ 29 rfl (w.heap.size + 1) 36 i0 (.agg #[.int .i32 0, .int .i64 0, .int .i64 0]) 3 24 Tryd.underlying29 hi hz0 hz1 hz2 rfl (by decide) _ _ _ rfl (own_alloc _ ho1) ⟨W2.heap.size, 0, none⟩ 1 1 [.int .i32 r, .int .i64 pos, .int .i64 n] rfl rfl ?c1 ?c2 ?c3 ?c4 ?c5 ?_)
      case c1 => exact rune_row
      case c2 => intro u hu; simp at hu; rcases hu with rfl | rfl | rfl <;> rfl
      case c3 => unfold maxLen; omega
      case c4 => omega
      case c5 => simp; omega
      intro v' w2 hown' hgrow _
      have hlt : w.heap.size < W2.heap.size := (Array.getElem?_eq_some_iff.1 hit1).1
      have hit2 : w2.heap[w.heap.size]? = some (.stringIter s (pos + n)) := by
        rw [hgrow.block _ (by simp; omega) (fun e => hne e.symm), Lib.alloc_old W2 _ _ hlt]
        exact hit1
      have hb2 : Below w.heap.size w w2 := (hb1.alloc hsz _).grown hgrow (by simp; omega) (fun k hk => (by have := (ho1.lt k hk).1; omega))
      rw [← runeCells_append pre (r, pos, n), show pre.length + 1 = (pre ++ [(r, pos, n)]).length by simp] at hown'
      clear hgrow ho1 hne hit1 hb1
      go_wp2
      go_roundw
      case rel => exact ⟨pre ++ [(r, pos, n)], f, pos + n, Lib.hid (by rw [List.append_assoc]; exact HA.out), d2, by omega, by simp; omega, hit2, hown', hb2⟩
      case measure => simp only [World.iterPos, hit2, hit]; omega
    · have hnx : ∀ ty, (Instr.next (.pointer (some ⟨w.heap.size, 0, none⟩)) true ty).run Tryd.prog wr = _ := fun ty => Lib.run_next_end_at wr w.heap.size s pos ty hit hps
      have hA' := hA.out
      have he : runesFrom s f pos = [] := by cases f <;> simp [runesFrom, hps]
      rw [he, List.append_nil] at hA'
      subst hA'
      go_wp2
      go_ret
      exact ⟨_, rfl, hown, hb⟩
end Go.Proofs.YtmofnaeiemkbnaaDoor
