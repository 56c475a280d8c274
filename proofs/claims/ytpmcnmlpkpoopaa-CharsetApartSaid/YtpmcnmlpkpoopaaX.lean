/- append to an own row, and where the row lies behind it; charset.Not. -/
import Derived.Test.YtpmcnmlpkpoopaaW
namespace Go.Proofs.Ytpmcnmlpkpoopaa
open Go.RowKit Go.Shelf

theorem app_own_at (w : World) (base : Nat) (t ty e : TypeId) (i : TypeInfo) (z : Value) (size bytes : Nat) (ht : Try.prog.underlying t = some (.slice e)) (hi : Try.prog.info? e = some i) (hz : i.zero = some z)
    (hsize : i.size = size) (hby : i.bytes = bytes) (hzs : z.cells.size = size) (hsz : 0 < size) (v : Value) (n : Nat) (xs : List Value) (hown : w.ownsRow base e size v n xs)
    (a : Addr) (m c : Nat) (news : List Value) (hl : news.length = m * size) (hnews : ∀ j u, news[j]? = some u → w.cell? (a.add j) = some u) (h1 : ∀ u ∈ news, u.oneCell' = true)
    (h63 : n + m ≤ maxLen) (hbytes : (n + m) * bytes ≤ 140737488355328) (hbase : base ≤ w.heap.size) :
    ∃ v' w', (Builtin.append_ #[t, t] ty #[v, .slice (some a) m c]).run Try.prog w = .ok v' w' ∧ w'.ownsRow base e size v' (n + m) (xs ++ news) ∧ w.grownBy w' v.ownBlock ∧
      ∀ k, v'.ownBlock = some k → v.ownBlock = some k ∨ w.heap.size ≤ k := by
  obtain ⟨v', w', hr, h2, h3, h4⟩ := run_append_own (P := Try.prog) w base t ty e i z size bytes ht hi hz hsize hby hzs hsz v n xs hown a m c news hl hnews h1 h63 hbytes hbase
  refine ⟨v', w', hr, h2, h3, fun k hk => ?_⟩
  have hsm : n + m ≤ 9223372036854775807 := by simp only [maxLen] at h63; omega
  subst hsize
  subst hby
  rcases hown.2 with ⟨rfl, rfl⟩ | ⟨g, cap, cur, rfl, hbg, hg, hnc, hcm, hcs, htake⟩
  · by_cases hm : m = 0
    · rw [h4.2 ⟨rfl, hm⟩] at hk
      cases hk
    · have hq := run_append_nil (P := Try.prog) w t ty e i z ht hi hz a m c news hl hnews (by omega) (by omega) (by have hb := hbytes; simp only [Nat.zero_add] at hb; omega)
      rw [hr] at hq
      obtain ⟨rfl, _⟩ := Result.ok.inj hq
      simp [Value.ownBlock] at hk
      omega
  · by_cases hroom : n + m ≤ cap
    · have hfit : n * i.size + news.length ≤ cur.size := by rw [hl, hcs, ← Nat.add_mul]; exact Nat.mul_le_mul_right _ hroom
      have hq := run_append_room (P := Try.prog) w t ty e i ht hi g n cap cur hg a m c news hl hnews h1 hroom hfit
      rw [hr] at hq
      obtain ⟨rfl, _⟩ := Result.ok.inj hq
      exact .inl hk
    · have hq := run_append_grow (P := Try.prog) w t ty e i z ht hi hz ⟨g, 0, none⟩ n cap xs hown.1 (hown.cells (g := g) rfl) a m c news hl hnews (by omega) (by omega) (growslice_fits (by omega) hbytes)
      rw [hr] at hq
      obtain ⟨rfl, _⟩ := Result.ok.inj hq
      simp [Value.ownBlock] at hk
      omega
/-- append of one range to an own row, and where the row lies. -/
theorem wp_app_at {ops : Array Oper} {rest : List Oper} {o : Oper} {a : Act} {Q : Exit → Act → World → Prop} (hgd : o.guard = none) (s x : Operand)
    (ho : o.op = .call { callee := .builtin .append, args := #[s, x], argTypes := #[24, 24] })
    (base : Nat) (v : Value) (L : List Rg) (W : World) (hown : W.ownsRow base 41 2 v L.length (rgCells L)) (hs : a.eval s = v) (r : Rg) (c k : Nat)
    (hx : a.eval x = .slice (some ⟨k, 0, none⟩) 1 c) (hk : W.heap.size = k) (hn : L.length < 1000000) (hb : base ≤ W.heap.size)
    (h : ∀ v' w', w'.ownsRow base 41 2 v' (L ++ [r]).length (rgCells (L ++ [r])) → W.grownBy w' v.ownBlock → (∀ k, v'.ownBlock = some k → v.ownBlock = some k ∨ W.heap.size ≤ k) → wpList Try.prog ops Q rest (a.put o.dst v') w') :
    wpList Try.prog ops Q (o :: rest) a (W.alloc (.cells #[.int .i32 r.1, .int .i32 r.2] 41)) := by
  subst hk
  obtain ⟨i0, hi, hz0, hz1, hz2⟩ := info_parts infoRange
  obtain ⟨v', w', hr, h1, h2, h3⟩ := app_own_at (W.alloc (.cells #[.int .i32 r.1, .int .i32 r.2] 41)) base 24 o.type 41 i0 (.agg #[.int .i32 0, .int .i32 0]) 2 8 Try.underlying24 hi hz0 hz1 hz2 rfl (by decide) v L.length (rgCells L) (hown.alloc _) ⟨W.heap.size, 0, none⟩ 1 c [.int .i32 r.1, .int .i32 r.2] rfl
    range_row (fun u hu => by simp at hu; rcases hu with rfl | rfl <;> rfl) (by unfold maxLen; omega) (by omega) (by simp; omega)
  refine Lib.wpList_append_run _ hgd s x 24 24 ho _ _ hs hx _ _ hr (h v' w' ?_ (grown_of_alloc h2) (fun k hk => ?_))
  · rw [rgCells_app, List.length_append]
    exact h1
  · rcases h3 k hk with h | h
    · exact .inl h
    · rw [World.size_alloc] at h
      exact .inr (by omega)

theorem own_shape {w : World} {base : Nat} {e : TypeId} {sz n : Nat} {v : Value} {xs : List Value} (h : w.ownsRow base e sz v n xs) : ∃ ao n c, v = .slice ao n c := by
  rcases h.2 with ⟨rfl, _⟩ | ⟨g, cap, cur, rfl, _⟩ <;> exact ⟨_, _, _, rfl⟩
/-- A cell that holds a slice, and the own row behind it. -/
structure Held (c base : Nat) (v : Value) (F : List Rg) (W : World) : Prop where
  cell : W.heap[c]? = some (.cells #[v] 24 (0, 0))
  own : W.ownsRow base 41 2 v F.length (rgCells F)
  low : c < base
theorem Held.lt {c base : Nat} {v : Value} {F : List Rg} {W : World} (h : Held c base v F W) : ∀ k, v.ownBlock = some k → k < W.heap.size := fun k e => (h.own.lt k e).2
theorem Held.keep {c base row : Nat} {v : Value} {F : List Rg} {W W' : World} (h : Held c base v F W) (hg : W.grownBy W' (some row)) (hc : c ≠ row) (hv : v.ownBlock ≠ some row) : Held c base v F W' :=
  ⟨(hg.block c (Array.getElem?_eq_some_iff.1 h.cell).1 (by simpa using hc)).trans h.cell, h.own.kept hg (.inr hv), h.low⟩
theorem Held.alloc {c base : Nat} {v : Value} {F : List Rg} {W : World} (h : Held c base v F W) (o : Obj) : Held c base v F (W.alloc o) :=
  ⟨(Below.heap_alloc _ _ _ (Array.getElem?_eq_some_iff.1 h.cell).1).trans h.cell, h.own.alloc o, h.low⟩

set_option maxHeartbeats 1000000 in
theorem NotFn_any (x : Rg) (f : Bool) (c base : Nat) (v : Value) (F : List Rg) (W : World) (h : Held c base v F W) (hN : F.length < 1000000) (hb : base ≤ W.heap.size) :
    Calls Try.prog 45 #[rgV x, .bool f, .pointer (some ⟨c, 0, none⟩)] W fun e W' => e = .returned (.tuple #[]) ∧ ∃ v', Held c base v' (if f then F else F ++ [x]) W' ∧ W.heap.size ≤ W'.heap.size ∧
      (∀ k, k < W.heap.size → k ≠ c → v.ownBlock ≠ some k → W'.heap[k]? = W.heap[k]?) ∧ (W'.os = W.os ∧ W'.tape = W.tape ∧ W'.output = W.output) ∧ ∀ k, v'.ownBlock = some k → v.ownBlock = some k ∨ W.heap.size ≤ k := by
  obtain ⟨x1, x2⟩ := x
  have y := RgAt.new W (x1, x2)
  have h1 := h.alloc (.cells #[.int .i32 x1, .int .i32 x2] 41)
  have hz1 : (W.alloc (.cells #[.int .i32 x1, .int .i32 x2] 41)).heap.size = W.heap.size + 1 := by simp
  have hblk : ∀ k, k < W.heap.size → (W.alloc (.cells #[.int .i32 x1, .int .i32 x2] 41)).heap[k]? = W.heap[k]? := fun k hk => Below.heap_alloc _ _ _ hk
  have hcl := (Array.getElem?_eq_some_iff.1 h.cell).1
  cases f
  · have c0 : (W.alloc (.cells #[.int .i32 x1, .int .i32 x2] 41)).cell? ⟨c, 0, none⟩ = some v := by rw [Lib.cell_of_heap h1.cell]; rfl
    have d0 := y.c0; have d1 := y.c1
    have o1 := h1.own
    have HH := Lib.hid h1; have HB := Lib.hid hblk; have HL := Lib.hid h.low
    clear y h h1 hblk
    dsimp only at d0 d1
    go_enter Try.func45, Try.ntmps45
    go_wp2_with (at_builtin; refine wp_app_at rfl _ _ rfl base v F _ o1 rfl (x1, x2) 1 _ rfl hz1 hN (by omega) ?_)
    intro v' w' h2 h3 h4
    obtain ⟨ao', n', cap', rfl⟩ := own_shape h2
    have hc2 : w'.heap[c]? = some (.cells #[v] 24 (0, 0)) := (h3.block c (by omega) (fun e => by have := (o1.lt c e.symm).1; have := HL.out; omega)).trans HH.out.cell
    have e0 : w'.cell? ⟨c, 0, none⟩ = some v := by rw [Lib.cell_of_heap hc2]; rfl
    have e1 : w'.frozen? ⟨c, 0, none⟩ = false := Lib.frozen_of_heap hc2 0
    have e2 : (w'.setCell ⟨c, 0, none⟩ (.slice ao' n' cap')).heap[c]? = some (.cells #[.slice ao' n' cap'] 24 (0, 0)) := by simp [World.setCell, Array.getElem?_modify, hc2]
    have e3 : (w'.setCell ⟨c, 0, none⟩ (.slice ao' n' cap')).ownsRow base 41 2 (.slice ao' n' cap') (F ++ [(x1, x2)]).length (rgCells (F ++ [(x1, x2)])) := by rw [List.length_append]; exact World.ownsRow.kept (row := some c) h2 grown_set (.inr (fun e => by have := (h2.lt c e).1; have := HL.out; omega))
    have H2 := Lib.hid e2; have H3 := Lib.hid e3; have H4 := Lib.hid h3; have H5 := Lib.hid h4
    clear h2 h3 h4 hc2 e2 e3 o1 c0 d0 d1
    go_wp2
    go_end0
    refine ⟨rfl, _, ⟨H2.out, H3.out, HL.out⟩, ?_, fun k hk hkc hv => ?_, ⟨H4.out.os, H4.out.tape, H4.out.output⟩, fun k e => ?_⟩
    · have := H4.out.size
      simp [World.setCell]; omega
    · rw [Below.heap_setCell _ _ _ _ hkc, H4.out.block k (by omega) (fun e => hv e.symm)]
      exact HB.out k hk
    · rcases H5.out k e with h | h
      · exact .inl h
      · exact .inr (by omega)
  · have HH := Lib.hid h1; have HB := Lib.hid hblk
    clear y h h1 hblk
    go_enter Try.func45, Try.ntmps45
    go_wp2
    go_end0
    exact ⟨rfl, v, HH.out, by omega, fun k hk _ _ => HB.out k hk, ⟨rfl, rfl, rfl⟩, fun k e => .inl e⟩
end Go.Proofs.Ytpmcnmlpkpoopaa
