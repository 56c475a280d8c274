/- The reference's Place: every position, of every text of at most 300 bytes; the statement TextPlaces' body. -/
import Derived.Test.YtfanaocengmpjaaDoorTB
import Derived.Test.YtfanaocengmpjaaDoorK
namespace Go.Proofs.YtfanaocengmpjaaDoor
open Go.RowKit Go.Shelf

/-- The first offset from k on whose position is (l, c). -/
def rplcF (s : ByteArray) (l c : Int) : Nat → Nat → Nat × Bool
  | 0, _ => (0, false)
  | f + 1, k => if (posZ s k).2.2 = true ∧ ((posZ s k).1 : Int) = l ∧ ((posZ s k).2.1 : Int) = c then (k, true) else rplcF s l c f (k + 1)
def rplcZ (s : ByteArray) (l c : Int) : Nat × Bool := rplcF s l c (s.size + 1) 0

set_option maxHeartbeats 4000000 in
set_option maxRecDepth 100000 in
theorem rPlace_any (s : ByteArray) (pl pc : Int) (w : World) (hs : s.size ≤ 300) :
    Calls Tryd.prog 17 #[.string s, .agg #[.int .i64 pl, .int .i64 pc]] w fun e w' => e = .returned (.tuple #[.int .i64 (rplcZ s pl pc).1, .bool (rplcZ s pl pc).2]) ∧ Below w.heap.size w w' := by
  go_enter Tryd.func17, Tryd.ntmps17
  go_wp2
  go_loopw [6] (fun i wr => ∃ (k f : Nat), i = .int .i64 k ∧ k + f = s.size + 1 ∧ Hid (rplcF s pl pc f k = rplcZ s pl pc) ∧ wr.heap[w.heap.size]? = some (.cells #[.int .i64 pl, .int .i64 pc] 25 (0, 0)) ∧ Below w.heap.size w wr) (fun i _ => s.size + 1 - (intOf i).toNat)
  case atStart => exact ⟨0, s.size + 1, rfl, by omega, rfl, World.alloc_heap_new _ _, (Below.refl _ _).alloc (Nat.le_refl _) _⟩
  case round =>
    obtain ⟨k, f, rfl, hk, hF, hx, hb⟩ := hrel
    rcases f with _ | f
    · have hF' := hF.out
      rw [rplcF] at hF'
      have HF := Lib.hid hF'
      clear hF' hF
      have g1 : ¬ k ≤ s.size := by omega
      go_wp2
      go_ret2
      exact ⟨by rw [← HF.out]; rfl, hb⟩
    · have g1 : k ≤ s.size := by omega
      obtain ⟨l1, c1, f1, hp⟩ : ∃ l1 c1 f1, posZ s k = (l1, c1, f1) := ⟨_, _, _, rfl⟩
      have hF' := hF.out
      rw [rplcF, hp] at hF'
      dsimp only at hF'
      go_wp2_with fail
      refine (rPosition_any s k _ hs).mono ?_
      rintro e w1 ⟨rfl, b1⟩
      rw [hp]
      have B1 := hb.trans (b1.mono hb.size)
      have hz1 := B1.size
      have hlt : w.heap.size < w1.heap.size := by have := b1.size; have := (Array.getElem?_eq_some_iff.1 hx).1; omega
      have B2 := B1.alloc hz1 (.cells #[.int .i64 l1, .int .i64 c1] 25)
      have y1 := World.alloc_heap_new w1 (.cells #[.int .i64 l1, .int .i64 c1] 25)
      have y2 : (w1.alloc (.cells #[.int .i64 l1, .int .i64 c1] 25)).heap[w.heap.size]? = some (.cells #[.int .i64 pl, .int .i64 pc] 25 (0, 0)) := by
        rw [Below.heap_alloc _ _ _ hlt]
        exact (b1.block _ (Array.getElem?_eq_some_iff.1 hx).1).trans hx
      have p0 : (w1.alloc (.cells #[.int .i64 l1, .int .i64 c1] 25)).cell? ⟨w1.heap.size, 0, none⟩ = some (.int .i64 l1) := by rw [Lib.cell_of_heap y1]; rfl
      have p1 : (w1.alloc (.cells #[.int .i64 l1, .int .i64 c1] 25)).cell? ⟨w1.heap.size, 1, none⟩ = some (.int .i64 c1) := by rw [Lib.cell_of_heap y1]; rfl
      have q0 : (w1.alloc (.cells #[.int .i64 l1, .int .i64 c1] 25)).cell? ⟨w.heap.size, 0, none⟩ = some (.int .i64 pl) := by rw [Lib.cell_of_heap y2]; rfl
      have q1 : (w1.alloc (.cells #[.int .i64 l1, .int .i64 c1] 25)).cell? ⟨w.heap.size, 1, none⟩ = some (.int .i64 pc) := by rw [Lib.cell_of_heap y2]; rfl
      have miss : ¬ (f1 = true ∧ (l1 : Int) = pl ∧ (c1 : Int) = pc) → Hid (rplcF s pl pc f (k + 1) = rplcZ s pl pc) := fun h => by
        refine Lib.hid ?_
        rw [← hF', if_neg]
        rintro ⟨h1, h2, h3⟩
        exact h ⟨h1, h2, h3⟩
      cases f1 with
      | false =>
        have HM := miss (by simp)
        clear miss hF hF' hp p0 p1 q0 q1
        go_wp2
        exact ⟨⟨k + 1, f, by simp, by omega, HM, y2, B2⟩, by simp [intOf]; omega⟩
      | true =>
        by_cases h1 : (l1 : Int) = pl
        · have e1 : ((l1 : Int) == pl) = true := by rw [beq_iff_eq]; exact h1
          by_cases h2 : (c1 : Int) = pc
          · have e2 : ((c1 : Int) == pc) = true := by rw [beq_iff_eq]; exact h2
            rw [if_pos ⟨rfl, h1, h2⟩] at hF'
            have HF := Lib.hid hF'
            clear miss hF hF' hp h1 h2
            go_wp2
            go_ret2
            exact ⟨by rw [← HF.out]; rfl, B2⟩
          · have e2 : ((c1 : Int) == pc) = false := by rw [beq_eq_false_iff_ne]; exact h2
            have HM := miss (fun h => h2 h.2.2)
            clear miss hF hF' hp h1 h2
            go_wp2
            exact ⟨⟨k + 1, f, by simp, by omega, HM, y2, B2⟩, by simp [intOf]; omega⟩
        · have e1 : ((l1 : Int) == pl) = false := by rw [beq_eq_false_iff_ne]; exact h1
          have HM := miss (fun h => h1 h.2.1)
          clear miss hF hF' hp h1
          go_wp2
          exact ⟨⟨k + 1, f, by simp, by omega, HM, y2, B2⟩, by simp [intOf]; omega⟩

/-- At offset j the position is (l, c). -/
def HitAt (s : ByteArray) (l c : Int) (j : Nat) : Prop := (posZ s j).2.2 = true ∧ ((posZ s j).1 : Int) = l ∧ ((posZ s j).2.1 : Int) = c
theorem rplcF_none {s : ByteArray} {l c : Int} : ∀ {f k : Nat}, (∀ j, k ≤ j → j < k + f → ¬ HitAt s l c j) → rplcF s l c f k = (0, false)
  | 0, _, _ => rfl
  | f + 1, k, h => by
    have e : ¬ ((posZ s k).2.2 = true ∧ ((posZ s k).1 : Int) = l ∧ ((posZ s k).2.1 : Int) = c) := h k (Nat.le_refl _) (by omega)
    rw [rplcF, if_neg e]
    exact rplcF_none (fun j h1 h2 => h j (by omega) (by omega))
theorem rplcF_hit {s : ByteArray} {l c : Int} {x : Nat} : ∀ {f k : Nat}, k ≤ x → x < k + f → HitAt s l c x → (∀ j, k ≤ j → j < x → ¬ HitAt s l c j) → rplcF s l c f k = (x, true)
  | 0, _, h1, h2, _, _ => by omega
  | f + 1, k, h1, h2, h3, h4 => by
    by_cases e : k = x
    · subst e
      have e : (posZ s k).2.2 = true ∧ ((posZ s k).1 : Int) = l ∧ ((posZ s k).2.1 : Int) = c := h3
      rw [rplcF, if_pos e]
    · have e : ¬ ((posZ s k).2.2 = true ∧ ((posZ s k).1 : Int) = l ∧ ((posZ s k).2.1 : Int) = c) := h4 k (Nat.le_refl _) (by omega)
      rw [rplcF, if_neg e]
      exact rplcF_hit (by omega) (by omega) h3 (fun j h5 h6 => h4 j (by omega) h6)
theorem bounds_le (s : ByteArray) : ∀ (f pos line col : Nat), pos ≤ s.size → ∀ z ∈ boundsFrom s f pos line col, z.1 ≤ s.size
  | 0, _, _, _, _, z, hz => by simp [boundsFrom] at hz
  | f + 1, pos, line, col, hp, z, hz => by
    rw [boundsFrom] at hz
    rcases List.mem_cons.1 hz with e | hz
    · rw [e]; exact hp
    · by_cases h : pos < s.size
      · rw [if_pos h] at hz
        exact bounds_le s f _ _ _ (decode_facts s pos h).2.1 z hz
      · rw [if_neg h] at hz; cases hz
theorem hit_mem {s : ByteArray} {l c : Int} {j : Nat} (h : HitAt s l c j) : ∃ x ∈ bounds s, x.1 = j ∧ AtPos l c x := by
  obtain ⟨h1, h2, h3⟩ := h
  cases hp : posL j (bounds s) with
  | none => rw [posZ, hp] at h1; cases h1
  | some p =>
    obtain ⟨x, hx, e1, e2⟩ := posL_some hp
    rw [posZ, hp] at h2 h3
    exact ⟨x, hx, by omega, by rw [e2]; exact h2, by rw [e2]; exact h3⟩
theorem mem_hit {s : ByteArray} {l c : Int} {x : Nat × Nat × Nat} (hx : x ∈ bounds s) (h : AtPos l c x) : HitAt s l c x.1 := by
  have hz : posZ s x.1 = (x.2.1, x.2.2, true) := posZ_hit (pos := x.1) (l := x.2.1) (c := x.2.2) hx rfl
  rw [HitAt, hz]
  exact ⟨rfl, h.1, h.2⟩
theorem place_eq (s : ByteArray) (l c : Int) : rplcZ s l c = plcZ s l c := by
  by_cases h : ∃ x ∈ bounds s, AtPos l c x
  · obtain ⟨x, hx, hl, hc⟩ := h
    have hle : x.1 ≤ s.size := bounds_le s _ 0 1 1 (by omega) x hx
    subst hl hc
    rw [plcZ, plcL_mem (bounds_pw s) hx]
    refine rplcF_hit (by omega) (by omega) (mem_hit hx ⟨rfl, rfl⟩) (fun j _ hj hh => ?_)
    obtain ⟨y, hy, e, h1, h2⟩ := hit_mem hh
    rcases beh_cases (bounds_pw s) hx hy with e2 | ⟨h3, h4⟩ | ⟨h3, h4⟩
    · rw [e2] at hj; omega
    · omega
    · omega
  · have hn : NoneAt l c (bounds s) := fun y hy hh => h ⟨y, hy, hh⟩
    rw [plcZ, plcL_all hn]
    exact rplcF_none (fun j _ _ hh => by
      obtain ⟨x, hx, _, ha⟩ := hit_mem hh
      exact h ⟨x, hx, ha⟩)

set_option maxHeartbeats 4000000 in
theorem TPlaces_few (s : ByteArray) (pl pc : Int) (w : World) (hs : 300 < s.size) (hT : Lib.Utf8Tabs 0 1 w) :
    Calls Tryd.prog 4 #[.string s, .agg #[.int .i64 pl, .int .i64 pc]] w fun e w' => e = .returned (.bool true) ∧ Below w.heap.size w w' := by
  have HT := Lib.hid hT; clear hT
  go_enter Tryd.func4, Tryd.ntmps4
  go_wp2_with fail
  refine (few_no _ _ hs).mono ?_
  rintro e _ ⟨rfl, rfl⟩
  have B0 := (Below.refl w.heap.size w).alloc (Nat.le_refl _) (.cells #[.int .i64 pl, .int .i64 pc] 25)
  go_wp2_with fail
  refine (knows_any _ (Utf8Tabs_below HT.out B0)).mono ?_
  rintro e w1 ⟨rfl, b1⟩
  have B1 := B0.trans (b1.mono B0.size)
  go_wp2
  go_ret
  exact ⟨rfl, B1⟩

set_option maxHeartbeats 4000000 in
theorem TPlaces_else (s : ByteArray) (pl pc : Int) (w : World) (hs : s.size ≤ 300) (hT : Lib.Utf8Tabs 0 1 w) :
    Calls Tryd.prog 4 #[.string s, .agg #[.int .i64 pl, .int .i64 pc]] w fun e w' => e = .returned (.bool true) ∧ Below w.heap.size w w' := by
  have HT := Lib.hid hT; clear hT
  obtain ⟨n, b, hz⟩ : ∃ n b, plcZ s pl pc = (n, b) := ⟨_, _, rfl⟩
  have hP := fun w => Place_any s pl pc w hs
  have hR := fun w => rPlace_any s pl pc w hs
  rw [place_eq] at hR
  rw [hz] at hP hR
  clear hz
  have B0 := (Below.refl w.heap.size w).alloc (Nat.le_refl _) (.cells #[.int .i64 pl, .int .i64 pc] 25)
  have y0 := World.alloc_heap_new w (.cells #[.int .i64 pl, .int .i64 pc] 25)
  have p0 : (w.alloc (.cells #[.int .i64 pl, .int .i64 pc] 25)).cell? ⟨w.heap.size, 0, none⟩ = some (.int .i64 pl) := by rw [Lib.cell_of_heap y0]; rfl
  have p1 : (w.alloc (.cells #[.int .i64 pl, .int .i64 pc] 25)).cell? ⟨w.heap.size, 1, none⟩ = some (.int .i64 pc) := by rw [Lib.cell_of_heap y0]; rfl
  go_enter Tryd.func4, Tryd.ntmps4
  go_wp2_with fail
  refine (few_yes _ _ hs).mono ?_
  rintro e w0 ⟨rfl, rfl⟩
  go_wp2_with fail
  refine (hP _).mono ?_
  rintro e w1 ⟨rfl, b1⟩
  have B1 := B0.trans (b1.mono B0.size)
  have y1 : w1.heap[w.heap.size]? = some (.cells #[.int .i64 pl, .int .i64 pc] 25 (0, 0)) := (b1.block _ (by simp)).trans y0
  have q0 : w1.cell? ⟨w.heap.size, 0, none⟩ = some (.int .i64 pl) := by rw [Lib.cell_of_heap y1]; rfl
  have q1 : w1.cell? ⟨w.heap.size, 1, none⟩ = some (.int .i64 pc) := by rw [Lib.cell_of_heap y1]; rfl
  go_wp2_with fail
  refine (hR _).mono ?_
  rintro e w2 ⟨rfl, b2⟩
  have B2 := B1.trans (b2.mono B1.size)
  go_wp2_with fail
  refine (knows_any _ (Utf8Tabs_below HT.out B2)).mono ?_
  rintro e w3 ⟨rfl, b3⟩
  have B3 := B2.trans (b3.mono B2.size)
  go_wp2
  go_ret
  exact ⟨rfl, B3⟩

theorem TPlaces_any (s : ByteArray) (pl pc : Int) (w : World) (hT : Lib.Utf8Tabs 0 1 w) :
    Calls Tryd.prog 4 #[.string s, .agg #[.int .i64 pl, .int .i64 pc]] w fun e w' => e = .returned (.bool true) ∧ Below w.heap.size w w' := by
  by_cases hs : s.size ≤ 300
  · exact TPlaces_else s pl pc w hs hT
  · exact TPlaces_few s pl pc w (by omega) hT
end Go.Proofs.YtfanaocengmpjaaDoor
