/- charset.Size: any list of ranges. -/
import Derived.Test.YtpmcnmlpkpoopaaN
namespace Go.Proofs.Ytpmcnmlpkpoopaa
open Go.RowKit Go.Shelf

/-- The runes of a canonical list, counted. -/
def sizeL : List Rg → Int
  | [] => 0
  | r :: l => (r.2 - r.1 + 1) + sizeL l
/-- The ranges of what walk hands on. -/
def trues (d : List (Rg × Bool)) : List Rg := (d.filter fun x => x.2).map (·.1)
theorem trues_app (a b : List (Rg × Bool)) : trues (a ++ b) = trues a ++ trues b := by unfold trues; rw [List.filter_append, List.map_append]
theorem trues_gap (nx last : Int) : trues (gapL nx last) = [] := by
  unfold gapL
  split <;> rfl
theorem trues_walk : ∀ (l : List Rg) (nx : Int), trues (walkFrom nx l) = l
  | [], nx => by rw [walkFrom, trues_gap]
  | r :: l, nx => by
    rw [walkFrom, trues_app, trues_gap, List.nil_append]
    show r :: trues (walkFrom (r.2 + 1) l) = _
    rw [trues_walk l]
theorem sizeL_app : ∀ a b : List Rg, sizeL (a ++ b) = sizeL a + sizeL b
  | [], b => by simp [sizeL]
  | r :: a, b => by rw [List.cons_append, sizeL, sizeL, sizeL_app a b]; omega
theorem sizeL_bound : ∀ l : List Rg, (∀ r ∈ l, okR r) → 0 ≤ sizeL l ∧ sizeL l ≤ 1114112 * l.length
  | [], _ => by simp [sizeL]
  | r :: l, h => by
    have h1 := h r List.mem_cons_self
    have h2 := sizeL_bound l (fun q hq => h q (List.mem_cons_of_mem _ hq))
    unfold okR at h1
    rw [sizeL, List.length_cons]
    omega

set_option maxHeartbeats 1000000 in
theorem SizeFn_any (x : Rg) (f : Bool) (c : Nat) (n : Int) (W : World) (hc : W.heap[c]? = some (.cells #[.int .i64 n] 3 (0, 0))) (hx : f = true → okR x) (h0 : 0 ≤ n) (h1 : n ≤ 1000000000000) :
    Calls Try.prog 38 #[rgV x, .bool f, .pointer (some ⟨c, 0, none⟩)] W fun e W' => e = .returned (.tuple #[]) ∧ W'.heap[c]? = some (.cells #[.int .i64 (if f then n + (x.2 - x.1 + 1) else n)] 3 (0, 0)) ∧ W.heap.size ≤ W'.heap.size ∧
      (∀ k, k < W.heap.size → k ≠ c → W'.heap[k]? = W.heap[k]?) ∧ (W'.os = W.os ∧ W'.tape = W.tape ∧ W'.output = W.output) := by
  obtain ⟨x1, x2⟩ := x
  have y := RgAt.new W (x1, x2)
  have hcl := (Array.getElem?_eq_some_iff.1 hc).1
  have hc1 : (W.alloc (.cells #[.int .i32 x1, .int .i32 x2] 41)).heap[c]? = some (.cells #[.int .i64 n] 3 (0, 0)) := (Below.heap_alloc _ _ _ hcl).trans hc
  have hblk : ∀ k, k < W.heap.size → (W.alloc (.cells #[.int .i32 x1, .int .i32 x2] 41)).heap[k]? = W.heap[k]? := fun k hk => Below.heap_alloc _ _ _ hk
  have hz1 : (W.alloc (.cells #[.int .i32 x1, .int .i32 x2] 41)).heap.size = W.heap.size + 1 := by simp
  cases f
  · have HC := Lib.hid hc1; have HB := Lib.hid hblk
    clear y hc hc1 hblk
    go_enter Try.func38, Try.ntmps38
    go_wp2
    go_end0
    exact ⟨rfl, HC.out, by omega, fun k hk _ => HB.out k hk, rfl, rfl, rfl⟩
  · obtain ⟨o1, o2, o3⟩ := hx rfl
    have d0 := y.c0; have d1 := y.c1
    have e0 : (W.alloc (.cells #[.int .i32 x1, .int .i32 x2] 41)).cell? ⟨c, 0, none⟩ = some (.int .i64 n) := by rw [Lib.cell_of_heap hc1]; rfl
    have e1 : (W.alloc (.cells #[.int .i32 x1, .int .i32 x2] 41)).frozen? ⟨c, 0, none⟩ = false := Lib.frozen_of_heap hc1 0
    have e2 : ((W.setCell ⟨c, 0, none⟩ (.int .i64 (n + (x2 - x1 + 1)))).alloc (.cells #[.int .i32 x1, .int .i32 x2] 41)).heap[c]? = some (.cells #[.int .i64 (n + (x2 - x1 + 1))] 3 (0, 0)) := by
      rw [Below.heap_alloc _ _ _ (by simp [World.setCell]; exact hcl)]
      simp [World.setCell, Array.getElem?_modify, hc]
    have HC := Lib.hid e2
    dsimp only at o1 o2 o3 d0 d1
    clear y hc hc1 hblk hx e2
    go_enter Try.func38, Try.ntmps38
    go_wp2
    go_end0
    refine ⟨rfl, by simpa using HC.out, by simp [World.setCell], fun k hk hne => ?_, rfl, rfl, rfl⟩
    rw [Below.heap_alloc _ _ _ (by simp [World.setCell]; exact hk)]
    exact Below.heap_setCell _ _ _ _ hne
theorem Size_walks (w : World) : Walks 100000 38 #[.pointer (some ⟨w.heap.size, 0, none⟩)] (w.alloc (.cells #[.int .i64 0] 3)) (.bool false) (fun d v W => v = .bool false ∧ W.heap[w.heap.size]? = some (.cells #[.int .i64 (sizeL (trues d))] 3 (0, 0)) ∧ Below w.heap.size w W) where
  eg := enters_of Try.func38 (by kernel_rfl) rfl
  none := rfl
  start W hb := by
    rw [World.size_alloc] at hb
    exact ⟨rfl, (hb.block _ (by omega)).trans (World.alloc_heap_new _ _), ((Below.refl w.heap.size w).alloc (Nat.le_refl _) _).trans (hb.mono (by omega))⟩
  lt d v W h k e := by rw [h.1] at e; cases e
  keep d v W W' h hv hs hg := by
    rw [World.size_alloc] at hs hg
    exact ⟨h.1, (hg.block _ (by omega) (by simp; omega)).trans h.2.1, below_of_old h.2.2 hg.size (fun k hk => hg.block k (by have := h.2.2.size; omega) (by simp; omega)) ⟨hg.os, hg.tape, hg.output⟩⟩
  step d v W x rest l hc hl e h hv hs := by
    rw [World.size_alloc] at hs
    have ht := trues_walk l 0
    rw [← e, trues_app] at ht
    have hok : ∀ r ∈ trues d, okR r := fun r hr => hc.2 r (by rw [← ht]; exact List.mem_append_left _ hr)
    have hb := sizeL_bound _ hok
    have hlen : (trues d).length ≤ 100000 := by
      have := congrArg List.length ht
      rw [List.length_append] at this
      omega
    refine (SizeFn_any x.1 x.2 w.heap.size (sizeL (trues d)) W h.2.1 (fun hx => hc.2 _ (by
      rw [← ht]
      refine List.mem_append_right _ ?_
      obtain ⟨r, b⟩ := x
      subst hx
      exact List.mem_cons_self)) hb.1 (by omega)).mono ?_
    rintro e' W' ⟨rfl, k1, k2, k3, k4⟩
    refine ⟨rfl, v, ⟨h.1, ?_, below_of_old h.2.2 k2 (fun k hk => k3 k (by have := h.2.2.size; omega) (by omega)) k4⟩, ⟨k2, fun k ha hb hne => k3 k hb (by rw [World.size_alloc] at ha; omega)⟩, fun k e => .inl e⟩
    rw [trues_app, sizeL_app]
    obtain ⟨r, b⟩ := x
    cases b
    · simpa [trues, sizeL] using k1
    · simpa [trues, sizeL] using k1

set_option maxHeartbeats 1000000 in
theorem Size_any (ao : Option Addr) (L : List Rg) (cap : Nat) (w : World) (hN : L.length ≤ 100000) (hR : Rgs w w.heap.size ao L) :
    Calls Try.prog 15 #[.slice ao L.length cap] w fun e w' => ∃ l, e = .returned (.int .i64 (sizeL l)) ∧ IsOf L l ∧ Below w.heap.size w w' := by
  have B0 := (Below.refl w.heap.size w).alloc (Nat.le_refl _) (.cells #[.int .i64 0] 3)
  have hw := walk_any ao L cap 38 #[.pointer (some ⟨w.heap.size, 0, none⟩)] _ _ _ 100000 (Nat.le_refl _) hN ((hR.below B0 (Nat.le_refl _)).mono B0.size) (Size_walks w)
  have HW := Lib.hid hw
  clear hw hR B0
  go_enter Try.func15, Try.ntmps15
  go_wp2_with fail
  refine HW.out.mono ?_
  rintro e w1 ⟨rfl, l, v, h1, h2, _, h3, h4⟩
  rw [trues_walk] at h3
  have c0 : w1.cell? ⟨w.heap.size, 0, none⟩ = some (.int .i64 (sizeL l)) := by rw [Lib.cell_of_heap h3]; rfl
  have H1 := Lib.hid h1
  clear h1 h3
  go_wp2
  go_ret
  exact ⟨_, rfl, H1.out, h4⟩
end Go.Proofs.Ytpmcnmlpkpoopaa
