/- charset.Not: any list of ranges; the canonical list of the runes of the universe that are not in it. -/
import Derived.Test.YtpmcnmlpkpoopaaX
namespace Go.Proofs.Ytpmcnmlpkpoopaa
open Go.RowKit Go.Shelf

/-- The gaps, and the ranges, of what walk hands on. -/
def outs (d : List (Rg × Bool)) : List Rg := (d.filter fun x => !x.2).map (·.1)
theorem outs_app (a b : List (Rg × Bool)) : outs (a ++ b) = outs a ++ outs b := by unfold outs; rw [List.filter_append, List.map_append]
theorem outs_gap (nx last : Int) : outs (gapL nx last) = if nx ≤ last then [(nx, last)] else [] := by
  unfold gapL
  split <;> rfl
theorem outs_true (r : Rg) (d : List (Rg × Bool)) : outs ((r, true) :: d) = outs d := rfl
theorem outs_snoc (d : List (Rg × Bool)) (x : Rg × Bool) : outs (d ++ [x]) = if x.2 then outs d else outs d ++ [x.1] := by
  rw [outs_app]
  obtain ⟨r, b⟩ := x
  cases b <;> simp [outs]
/-- l is the canonical form of what is not in s. -/
def IsNot (s l : List Rg) : Prop := Canon l ∧ ∀ x, inS l x ↔ (0 ≤ x ∧ x ≤ 1114111) ∧ ¬ inU s x
theorem gap_in (nx last x : Int) : inS (if nx ≤ last then [(nx, last)] else []) x ↔ nx ≤ x ∧ x ≤ last := by
  split
  · rw [inS_cons]
    have := inS_nil x
    unfold inR
    simp [this]
  · have := inS_nil x
    simp only [this, false_iff]
    omega
theorem gaps_walk : ∀ (l : List Rg) (nx : Int), Canon l → 0 ≤ nx → nx ≤ 1114112 → (∀ q ∈ l, nx ≤ q.1) →
    Canon (outs (walkFrom nx l)) ∧ (∀ q ∈ outs (walkFrom nx l), nx ≤ q.1) ∧ (∀ x, inS (outs (walkFrom nx l)) x ↔ (nx ≤ x ∧ x ≤ 1114111) ∧ ¬ inS l x) ∧ (outs (walkFrom nx l)).length ≤ l.length + 1
  | [], nx, _, h0, h1, _ => by
    rw [walkFrom, outs_gap]
    refine ⟨?_, ?_, fun x => ?_, ?_⟩
    · split
      · exact canon_single.2 ⟨h0, by assumption, Int.le_refl _⟩
      · exact canon_nil
    · intro q hq
      split at hq
      · rw [List.mem_singleton.1 hq]; exact Int.le_refl _
      · cases hq
    · rw [gap_in]
      have := inS_nil x
      simp [this]
    · split <;> simp
  | r :: l, nx, hc, h0, h1, hl => by
    have hr := hc.head
    have hnr := hl r List.mem_cons_self
    unfold okR at hr
    obtain ⟨c1, c2, c3, c4⟩ := gaps_walk l (r.2 + 1) hc.tail (by omega) (by omega) (fun q hq => by
      have := (List.pairwise_cons.1 hc.1).1 q hq
      unfold apart at this
      omega)
    rw [walkFrom, outs_app, outs_true, outs_gap]
    refine ⟨?_, ?_, fun x => ?_, ?_⟩
    · split
      · refine ⟨List.pairwise_cons.2 ⟨fun q hq => ?_, c1.1⟩, fun q hq => ?_⟩
        · have := c2 q hq
          unfold apart
          dsimp only
          omega
        · rcases List.mem_cons.1 hq with rfl | hq
          · exact ⟨h0, by assumption, by dsimp only; omega⟩
          · exact c1.2 q hq
      · exact c1
    · intro q hq
      rcases List.mem_append.1 hq with hq | hq
      · split at hq
        · rw [List.mem_singleton.1 hq]; exact Int.le_refl _
        · cases hq
      · have := c2 q hq; omega
    · rw [inS_app, gap_in, c3 x, inS_cons]
      have hf := fun h : inS l x => hc.far h
      unfold inR
      constructor
      · rintro (h | ⟨h, h2⟩)
        · refine ⟨by omega, ?_⟩
          rintro (h3 | h3)
          · omega
          · have := hf h3; omega
        · refine ⟨by omega, ?_⟩
          rintro (h3 | h3)
          · omega
          · exact h2 h3
      · rintro ⟨h, h2⟩
        by_cases h3 : x < r.1
        · exact .inl (by omega)
        · refine .inr ⟨?_, fun h4 => h2 (.inr h4)⟩
          have h5 : ¬ (r.1 ≤ x ∧ x ≤ r.2) := fun h4 => h2 (.inl h4)
          omega
    · rw [List.length_append, List.length_cons]
      split <;> simp <;> omega
theorem isNot_walk {s l : List Rg} (h : IsOf s l) : IsNot s (outs (walkFrom 0 l)) ∧ (outs (walkFrom 0 l)).length ≤ l.length + 1 := by
  obtain ⟨c1, _, c3, c4⟩ := gaps_walk l 0 h.1 (Int.le_refl _) (by omega) (fun q hq => (h.1.2 q hq).1)
  refine ⟨⟨c1, fun x => ?_⟩, c4⟩
  rw [c3 x, h.2 x]
theorem walk_length : ∀ (l : List Rg) (nx : Int), (walkFrom nx l).length ≤ 2 * l.length + 1
  | [], nx => by rw [walkFrom, gapL]; split <;> simp
  | r :: l, nx => by
    have := walk_length l (r.2 + 1)
    rw [walkFrom, List.length_append, List.length_cons, List.length_cons, gapL]
    split <;> simp <;> omega
theorem outs_length (d : List (Rg × Bool)) : (outs d).length ≤ d.length := by
  unfold outs
  rw [List.length_map]
  exact List.length_filter_le _ _
theorem below_of_old {c : Nat} {w W W' : World} (h : Below c w W) (hs : W.heap.size ≤ W'.heap.size) (hb : ∀ k, k < c → W'.heap[k]? = W.heap[k]?) (ho : W'.os = W.os ∧ W'.tape = W.tape ∧ W'.output = W.output) : Below c w W' :=
  ⟨ho.1.trans h.os, ho.2.1.trans h.tape, ho.2.2.trans h.output, Nat.le_trans h.size hs, fun k hk => (hb k hk).trans (h.block k hk)⟩

theorem Not_walks (w : World) : Walks 100000 45 #[.pointer (some ⟨w.heap.size, 0, none⟩)] (w.alloc (.cells #[.slice none 0 0] 24)) (.slice none 0 0) (fun d v W => Held w.heap.size (w.heap.size + 3) v (outs d) W ∧ Below w.heap.size w W) where
  eg := enters_of Try.func45 (by kernel_rfl) rfl
  none := rfl
  start W hb := by
    rw [World.size_alloc] at hb
    refine ⟨⟨(hb.block _ (by omega)).trans (World.alloc_heap_new _ _), World.ownsRow_nil _ _ _ _, by omega⟩, ?_⟩
    exact ((Below.refl w.heap.size w).alloc (Nat.le_refl _) _).trans (hb.mono (by omega))
  lt d v W h := h.1.lt
  keep d v W W' h hv hs hg := by
    rw [World.size_alloc] at hv hg
    refine ⟨h.1.keep hg (by omega) (fun e => by have := hv _ e; omega), below_of_old h.2 hg.size (fun k hk => hg.block k (by have := h.2.size; omega) (by simp; omega)) ⟨hg.os, hg.tape, hg.output⟩⟩
  step d v W x rest l hc hl e h hv hs := by
    rw [World.size_alloc] at hs
    have hd : (outs d).length < 1000000 := by
      have h1 := outs_length d
      have h2 := walk_length l 0
      rw [← e, List.length_append] at h2
      omega
    refine (NotFn_any x.1 x.2 w.heap.size (w.heap.size + 3) v (outs d) W h.1 hd hs).mono ?_
    rintro e' W' ⟨rfl, v', k1, k2, k3, k4, k5⟩
    refine ⟨rfl, v', ⟨by rw [outs_snoc]; exact k1, below_of_old h.2 k2 (fun k hk => k3 k (by have := h.2.size; omega) (by omega) (fun e => by have := h.1.own.lt k e; omega)) k4⟩, ⟨k2, fun k ha hb hne => k3 k hb (by rw [World.size_alloc] at ha; omega) hne⟩, k5⟩

set_option maxHeartbeats 1000000 in
theorem Not_any (ao : Option Addr) (L : List Rg) (cap : Nat) (w : World) (hN : L.length ≤ 100000) (hR : Rgs w w.heap.size ao L) :
    Calls Try.prog 25 #[.slice ao L.length cap] w fun e w' => ∃ v l, e = .returned v ∧ IsNot L l ∧ l.length ≤ L.length + 1 ∧ w'.ownsRow w.heap.size 41 2 v l.length (rgCells l) ∧ Below w.heap.size w w' := by
  have B0 := (Below.refl w.heap.size w).alloc (Nat.le_refl _) (.cells #[.slice none 0 0] 24)
  have hw := walk_any ao L cap 45 #[.pointer (some ⟨w.heap.size, 0, none⟩)] _ _ _ 100000 (Nat.le_refl _) hN ((hR.below B0 (Nat.le_refl _)).mono B0.size) (Not_walks w)
  have HW := Lib.hid hw
  clear hw hR B0
  go_enter Try.func25, Try.ntmps25
  go_wp2_with fail
  refine HW.out.mono ?_
  rintro e w1 ⟨rfl, l, v, h1, h2, h3, h4⟩
  obtain ⟨n1, n2⟩ := isNot_walk h1
  have c0 : w1.cell? ⟨w.heap.size, 0, none⟩ = some v := by rw [Lib.cell_of_heap h3.cell]; rfl
  have N1 := Lib.hid n1; have O1 := own_low h3.own (Nat.le_add_right _ 3)
  obtain ⟨ao', n', c', rfl⟩ := own_shape O1
  clear h1 n1 h3
  go_wp2
  go_ret
  exact ⟨_, _, rfl, N1.out, by omega, O1, h4⟩
end Go.Proofs.Ytpmcnmlpkpoopaa
