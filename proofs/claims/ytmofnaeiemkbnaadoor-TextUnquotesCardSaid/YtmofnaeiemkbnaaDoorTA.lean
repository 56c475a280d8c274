/- The reference's one and Runes: every text of at most 300 bytes. -/
import Derived.Test.YtmofnaeiemkbnaaDoorRS
namespace Go.Proofs.YtmofnaeiemkbnaaDoor
open Go.RowKit Go.Shelf

set_option maxHeartbeats 4000000 in
set_option maxRecDepth 100000 in
theorem rOne_any (s : ByteArray) (w : World) (h0 : 0 < s.size) (hs : s.size ≤ 300) :
    Calls Tryd.prog 30 #[.string s] w fun e w' => e = .returned (.tuple #[.int .i32 (Utf8.decode s 0).1, .int .i64 (Utf8.decode s 0).2]) ∧ Below w.heap.size w w' := by
  obtain ⟨d1, d2, d3⟩ := decode_facts s 0 h0
  obtain ⟨r, hr⟩ : ∃ r, r = (Utf8.decode s 0).1 := ⟨_, rfl⟩
  obtain ⟨n, hn⟩ : ∃ n, n = (Utf8.decode s 0).2 := ⟨_, rfl⟩
  rw [← hn] at d1 d2
  rw [← hr] at d3
  rw [← hn, ← hr]
  have HR := Lib.hid hr; have HN := Lib.hid hn; clear hr hn
  go_enter Tryd.func30, Tryd.ntmps30
  go_wp2
  go_loopw [4, 5] (fun a b wr => ∃ pos : Nat, a = .int .i64 s.size ∧ ((pos = 0 ∧ b = .int .i32 0) ∨ (pos = n ∧ b = .int .i32 r)) ∧ wr.heap[w.heap.size]? = some (.stringIter s pos) ∧ Below w.heap.size w wr) (fun _ _ wr => s.size - wr.iterPos w.heap.size)
  case atStart => exact ⟨0, rfl, .inl ⟨rfl, rfl⟩, World.alloc_heap_new _ _, (Below.refl _ _).alloc (Nat.le_refl _) _⟩
  case round =>
    obtain ⟨pos, rfl, ⟨rfl, rfl⟩ | ⟨rfl, rfl⟩, hit, hb⟩ := hrel
    · have hnx : ∀ ty, (Instr.next (.pointer (some ⟨w.heap.size, 0, none⟩)) true ty).run Tryd.prog wr = _ := fun ty => Lib.run_next_any_at wr w.heap.size s 0 ty hit h0
      rw [← HR.out, ← HN.out] at hnx
      have hit2 := Lib.iterAt_heap wr w.heap.size s 0 (0 + n) hit
      have hb2 := Lib.below_iterAt hb (k := w.heap.size) (Nat.le_refl _) s (0 + n)
      rw [Nat.zero_add] at hnx hit2 hb2
      go_wp2
      go_roundw
      case rel => exact ⟨n, rfl, .inr ⟨rfl, rfl⟩, hit2, hb2⟩
      case measure => simp only [World.iterPos, hit2, hit]; omega
    · by_cases hps : pos < s.size
      · obtain ⟨r2, n2, hnx⟩ : ∃ (r2 n2 : Nat), ∀ ty, (Instr.next (.pointer (some ⟨w.heap.size, 0, none⟩)) true ty).run Tryd.prog wr = .ok (.tuple #[.bool true, .int .i64 pos, .int .i32 r2]) (wr.iterAt w.heap.size s (pos + n2)) := ⟨_, _, fun ty => Lib.run_next_any_at wr w.heap.size s pos ty hit hps⟩
        have hb2 := Lib.below_iterAt hb (k := w.heap.size) (Nat.le_refl _) s (pos + n2)
        go_wp2
        go_ret2
        exact ⟨rfl, hb2⟩
      · have hnx : ∀ ty, (Instr.next (.pointer (some ⟨w.heap.size, 0, none⟩)) true ty).run Tryd.prog wr = _ := fun ty => Lib.run_next_end_at wr w.heap.size s pos ty hit hps
        obtain rfl : pos = s.size := by omega
        go_wp2
        go_ret2
        exact ⟨rfl, hb⟩

theorem suffix_list (s : ByteArray) (pos : Nat) : (s.extract pos s.size).data.toList = s.data.toList.drop pos := by
  rw [ByteArray.data_extract, Array.toList_extract, List.extract_eq_take_drop]
  exact List.take_of_length_le (by rw [List.length_drop, Array.length_toList]; exact Nat.le_refl _)
theorem suffix_size (s : ByteArray) (pos : Nat) : (s.extract pos s.size).size = s.size - pos := by
  have h1 : (s.extract pos s.size).data.toList.length = (s.extract pos s.size).size := Array.length_toList
  have h2 : s.data.toList.length = s.size := Array.length_toList
  rw [← h1, suffix_list, List.length_drop, h2]
theorem suffix_decode (s : ByteArray) (pos : Nat) : Utf8.decode (s.extract pos s.size) 0 = Utf8.decode s pos := by
  rw [Lib.decode_N, Lib.decode_N, suffix_list]
  simp only [List.length_drop, Nat.sub_zero, List.getD_eq_getElem?_getD, List.getElem?_drop, Nat.add_zero, Nat.zero_add]
theorem own_below {wr w1 : World} {b : Nat} {e : TypeId} {sz n : Nat} {v : Value} {xs : List Value} (h : wr.ownsRow b e sz v n xs) (hb : Below wr.heap.size wr w1) : w1.ownsRow b e sz v n xs := by
  obtain ⟨h1, h2 | ⟨g, cap, cur, h2, h3, h4, h5⟩⟩ := h
  · exact ⟨h1, .inl h2⟩
  · exact ⟨h1, .inr ⟨g, cap, cur, h2, h3, (hb.block g (Array.getElem?_eq_some_iff.1 h4).1).trans h4, h5⟩⟩

set_option maxHeartbeats 4000000 in
set_option maxRecDepth 100000 in
theorem rRunes_any (s : ByteArray) (w : World) (hs : s.size ≤ 300) :
    Calls Tryd.prog 15 #[.string s] w fun e w' => ∃ v, e = .returned v ∧ w'.ownsRow w.heap.size 36 3 v (runesL s).length (runeCells (runesL s)) ∧ Below w.heap.size w w' := by
  obtain ⟨i0, hi, hz0, hz1, hz2⟩ := info_parts infoRune
  go_enter Tryd.func15, Tryd.ntmps15
  go_wp2
  go_loopw [3, 4] (fun v a wr => ∃ (pre : List (Nat × Nat × Nat)) (f pos : Nat), a = .int .i64 pos ∧ Hid (pre ++ runesFrom s f pos = runesL s) ∧ pos ≤ s.size ∧ s.size ≤ pos + f ∧ pre.length ≤ pos ∧ wr.ownsRow w.heap.size 36 3 v pre.length (runeCells pre) ∧ Below w.heap.size w wr) (fun _ a _ => s.size - (intOf a).toNat)
  case atStart => exact ⟨[], s.size, 0, rfl, rfl, by omega, by omega, by simp, World.ownsRow_nil _ _ _ _, Below.refl _ _⟩
  case round =>
    obtain ⟨pre, f, pos, rfl, hA, hp, hf, hl, hown, hb⟩ := hrel
    by_cases hps : pos < s.size
    · obtain ⟨d1, d2, d3⟩ := decode_facts s pos hps
      have hc := fun w => rOne_any (s.extract pos s.size) w (by rw [suffix_size]; omega) (by rw [suffix_size]; omega)
      rw [suffix_decode] at hc
      obtain ⟨f, rfl⟩ : ∃ g, f = g + 1 := ⟨f - 1, by omega⟩
      have hA' := hA.out
      rw [runesFrom, if_pos hps] at hA'
      obtain ⟨r, hr⟩ : ∃ r, r = (Utf8.decode s pos).1 := ⟨_, rfl⟩
      obtain ⟨n, hn⟩ : ∃ n, n = (Utf8.decode s pos).2 := ⟨_, rfl⟩
      rw [← hr, ← hn] at hc hA'
      rw [← hn] at d1 d2
      rw [← hr] at d3
      have HA := Lib.hid hA'; clear hA' hA hr hn
      go_wp2_with fail
      refine (hc _).mono ?_
      rintro e W2 ⟨rfl, b2⟩
      have hb1 := hb.trans (b2.mono hb.size)
      have ho1 := own_below hown b2
      have hsz := hb1.size
      clear hown hb b2
      go_wp2_with (at_builtin; refine wpList_append_own _ rfl _ _ 29 rfl w.heap.size 36 i0 (.agg #[.int .i32 0, .int .i64 0, .int .i64 0]) 3 24 Tryd.underlying29 hi hz0 hz1 hz2 rfl (by decide) _ _ _ rfl (own_alloc _ ho1) ⟨W2.heap.size, 0, none⟩ 1 1 [.int .i32 r, .int .i64 pos, .int .i64 n] rfl rfl ?c1 ?c2 ?c3 ?c4 ?c5 ?_)
      case c1 => exact rune_row
      case c2 => intro u hu; simp at hu; rcases hu with rfl | rfl | rfl <;> rfl
      case c3 => unfold maxLen; omega
      case c4 => omega
      case c5 => simp; omega
      intro v' w2 hown' hgrow _
      have hb2 : Below w.heap.size w w2 := (hb1.alloc hsz _).grown hgrow (by simp; omega) (fun k hk => (ho1.lt k hk).1)
      rw [← runeCells_append pre (r, pos, n), show pre.length + 1 = (pre ++ [(r, pos, n)]).length by simp] at hown'
      clear hgrow ho1 hb1
      go_wp2
      go_roundw
      case rel => exact ⟨pre ++ [(r, pos, n)], f, pos + n, by simp, Lib.hid (by rw [List.append_assoc]; exact HA.out), d2, by omega, by simp; omega, hown', hb2⟩
      case measure => simp [intOf]; omega
    · have hA' := hA.out
      have he : runesFrom s f pos = [] := by cases f <;> simp [runesFrom, hps]
      rw [he, List.append_nil] at hA'
      subst hA'
      go_wp2
      go_ret
      exact ⟨_, rfl, hown, hb⟩
end Go.Proofs.YtmofnaeiemkbnaaDoor
