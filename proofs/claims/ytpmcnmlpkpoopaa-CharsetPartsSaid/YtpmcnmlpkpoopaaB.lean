/- slices.SortFunc as charset.Of calls it: an own row of ranges, sorted by their first runes. -/
import Derived.Test.YtpmcnmlpkpoopaaA
import Derived.Test.YtpmcnmlpkpoopaaShelf
import Derived.Shelf.SlSortCmp.NoneTotal
namespace Go.Proofs.Ytpmcnmlpkpoopaa
open Go.Shelf Go.RowKit Go.Lib Go.Sort

/-- A range's two cells; the cells of a list of ranges. -/
def encR (r : Rg) : List Value := [.int .i32 r.1, .int .i32 r.2]
def rgCells : List Rg → List Value
  | [] => []
  | r :: l => .int .i32 r.1 :: .int .i32 r.2 :: rgCells l
theorem rgCells_length : ∀ l : List Rg, (rgCells l).length = l.length * 2
  | [] => rfl
  | r :: l => by rw [rgCells, List.length_cons, List.length_cons, rgCells_length l, List.length_cons]; omega
theorem rgCells_app : ∀ a b : List Rg, rgCells (a ++ b) = rgCells a ++ rgCells b
  | [], b => rfl
  | r :: a, b => by rw [List.cons_append, rgCells, rgCells, rgCells_app a b]; rfl
theorem rgCells_get : ∀ (l : List Rg) (t : Nat), t < l.length * 2 → (rgCells l)[t]! = (encR l[t / 2]!)[t % 2]!
  | [], t, h => by simp at h
  | r :: l, 0, _ => rfl
  | r :: l, 1, _ => rfl
  | r :: l, t + 2, h => by
    have h1 : (t + 2) / 2 = t / 2 + 1 := by omega
    have h2 : (t + 2) % 2 = t % 2 := by omega
    rw [h1, h2]
    have := rgCells_get l t (by rw [List.length_cons] at h; omega)
    simpa [rgCells] using this
theorem flat_rg (l : List Rg) : flatK encR 2 l.toArray = (rgCells l).toArray := by
  apply ext_get!
  · simp [rgCells_length]
  · intro t ht
    rw [size_flatK] at ht
    rw [get_flatK _ _ _ _ ht]
    have := rgCells_get l t (by simpa using ht)
    simp only [List.getElem!_toArray]
    exact this.symm
theorem rgCells_one {l : List Rg} : ∀ v ∈ rgCells l, v.oneCell' = true := by
  induction l with
  | nil => intro v h; cases h
  | cons r l ih =>
    intro v h
    rw [rgCells] at h
    rcases List.mem_cons.1 h with rfl | h
    · rfl
    · rcases List.mem_cons.1 h with rfl | h
      · rfl
      · exact ih v h

theorem holds_id {w : World} {g : Nat} {cur : Array Value} {e : TypeId} {F : Array Value} (hb : w.heap[g]? = some (.cells cur e (0, 0))) (ht : cur.toList.take F.size = F.toList) : Holds id w g 0 F := by
  intro j hj
  refine ⟨?_, by simp [World.frozen?, hb]⟩
  have h1 : (cur.toList.take F.size)[j]? = F.toList[j]? := by rw [ht]
  rw [List.getElem?_take_of_lt hj] at h1
  simp only [World.cell?, hb, Nat.zero_add]
  simp only [Option.isSome_none, Bool.false_eq_true, if_false]
  rw [← Array.getElem?_toList, h1]
  simp [hj]
theorem heap_put {w : World} {g n : Nat} {os : Array Obj} {cur : Array Value} {e : TypeId} {fr : Nat × Nat} (d : Array Value) (hb : w.heap[g]? = some (.cells cur e fr)) :
    (grow (putRow id (Sort.ahead w n) g 0 d) os).heap[g]? = some (.cells (putCells id 0 d cur) e fr) := by
  have hg : g < w.heap.size := (Array.getElem?_eq_some_iff.1 hb).1
  rw [heap_grow_old _ _ (by simpa using hg)]
  simp [putRow, mapBlock, Sort.ahead, Array.getElem?_modify, hb, onCells]
theorem grownBy_put {w : World} {g n : Nat} {os : Array Obj} (d : Array Value) : w.grownBy (grow (putRow id (Sort.ahead w n) g 0 d) os) (some g) := by
  refine ⟨rfl, rfl, rfl, by simp, fun k hk hne => ?_⟩
  rw [heap_grow_old _ _ (by simpa using hk)]
  have : g ≠ k := fun e => hne (by rw [e])
  simp [putRow, mapBlock, Sort.ahead, Array.getElem?_modify, this]
theorem take_put (cur F : Array Value) (h : F.size ≤ cur.size) : (putCells id 0 F cur).toList.take F.size = F.toList := by
  apply List.ext_getElem?
  intro j
  by_cases hj : j < F.size
  · rw [List.getElem?_take_of_lt hj, Array.getElem?_toList]
    simp [putCells, hj, show j < cur.size by omega]
  · rw [List.getElem?_take_eq_none (by omega), List.getElem?_eq_none (by simp; omega)]

theorem cmp_lt (x y : Rg) : ltOf (fun x y : Rg => cmpZ x.1 y.1) x y = decide (x.1 < y.1) := by
  unfold ltOf cmpZ
  by_cases h1 : x.1 < y.1
  · simp [h1]
  · by_cases h2 : y.1 < x.1 <;> simp [h1, h2]
theorem cmp_swo : SWO (ltOf fun x y : Rg => cmpZ x.1 y.1) where
  irrefl x := by rw [cmp_lt]; simp
  trans x y z h1 h2 := by rw [cmp_lt] at *; simp at *; omega
  ntrans x y z h1 h2 := by rw [cmp_lt] at *; simp at *; omega
set_option maxHeartbeats 1000000 in
theorem OfFn_any (x y : Rg) (W : World) : Calls Try.prog 33 #[.agg #[.int .i32 x.1, .int .i32 x.2], .agg #[.int .i32 y.1, .int .i32 y.2]] W fun e w' => e = .returned (.int .i64 (cmpZ x.1 y.1)) ∧ ∃ q os', w' = grow (W.drewN q) os' := by
  have hcon := fun W' => Compare_any x.1 y.1 W'
  generalize cmpZ x.1 y.1 = r at hcon ⊢
  go_enter Try.func33, Try.ntmps33
  go_wp2_with (go_at_call 34; refine (hcon _).mono ?_; rintro e w' ⟨rfl, rfl⟩)
  go_ret
  exact ⟨rfl, 0, _, by rw [alloc_eq_grow, alloc_eq_grow, grow_grow]; rfl⟩
theorem cmp_lays (blk off size : Nat) (w : World) : CmpLays Try.prog 33 #[] encR 2 (fun x y => cmpZ x.1 y.1) blk off size w :=
  fun _ _ _ _ x y => OfFn_any x y _

set_option maxHeartbeats 1000000 in
theorem SortFunc_any (v : Value) (L : List Rg) (base : Nat) (w : World) (h : w.ownsRow base 41 2 v L.length (rgCells L)) (hN : L.length < 1000000) :
    Calls Try.prog 32 #[v, .func (.func 33) #[] #[]] w fun e w' => e = .returned (.tuple #[]) ∧
      ∃ S : List Rg, S.Perm L ∧ S.Pairwise (fun a b => a.1 ≤ b.1) ∧ w'.ownsRow base 41 2 v L.length (rgCells S) ∧ w.grownBy w' v.ownBlock := by
  have hl : ∀ (n : Nat) (W : World), n < 1000000 → Calls Try.prog 52 #[.int .u64 (n : Int)] W fun e w' => e = .returned (.int .i64 (Lib.bitLen n : Nat)) ∧ w' = W := fun n W hn => by
    have h := Any.bits_Len (SlLaysF0.n15.bits Try.layLen) (n : Int) W (by omega) (by omega)
    rwa [Int.toNat_natCast] at h
  rcases h.2 with ⟨rfl, h0⟩ | ⟨g, cap, cur, rfl, hb, hg, h1, h2, h3, h4⟩
  · have hL : L = [] := List.eq_nil_of_length_eq_zero h0
    subst hL
    have hp := fun lim W => AnyF.pdqsortCmpFunc_none Try.layPdq none 0 lim (.func (.func 33) #[] #[]) W
    have H := Lib.hid h
    clear h
    go_enter Try.func32, Try.ntmps32
    go_wp2_with fail
    refine (hl 0 _ (by omega)).mono ?_
    rintro e _ ⟨rfl, rfl⟩
    go_wp2_with fail
    refine (hp _ _).mono ?_
    rintro e _ ⟨rfl, rfl⟩
    go_wp2
    go_end0
    exact ⟨rfl, [], List.Perm.refl _, List.Pairwise.nil, H.out, ⟨rfl, rfl, rfl, Nat.le_refl _, fun _ _ _ => rfl⟩⟩
  · have hgl : g < w.heap.size := (Array.getElem?_eq_some_iff.1 hg).1
    have eg : ∀ args w, (callFunc 33 args).run Try.prog w = .ok (.enter 33 args) w := enters_of Try.func33 (by kernel_rfl) rfl
    have hH : HoldsK encR 2 w g 0 L.toArray := by
      unfold HoldsK
      rw [flat_rg]
      exact holds_id hg (by simpa [rgCells_length] using h4)
    have hcon := AnyQ.pdqsortCmpFunc_all Try.layPdq 2 Try.isAgg41 Try.sizeOf41 encR (fun x y => cmpZ x.1 y.1) 33 #[] cmp_swo g 0 cap L.toArray w eg (cmp_lays g 0 L.toArray.size w)
      ⟨fun _ => rfl, fun x v hv => by simp [encR] at hv; rcases hv with rfl | rfl <;> rfl, hH, hgl⟩ (L.toArray.size + 1) 0 L.toArray.size (Lib.bitLen L.toArray.size) L.toArray w (by omega) rfl (SWK.start hH) (Nat.zero_le _) (Nat.le_refl _) (by rw [List.size_toArray]; omega)
      (Nat.lt_of_le_of_lt (Lib.bitLen_le L.toArray.size 62 (by omega) (by rw [List.size_toArray]; omega)) (by omega)) (Or.inl rfl)
    change Calls Try.prog 51 _ _ _ at hcon
    rw [List.size_toArray] at hcon
    have hs := pdq_sorts (ltOf fun x y : Rg => cmpZ x.1 y.1) cmp_swo L.toArray 0 L.toArray.size (Lib.bitLen L.toArray.size) true true (Nat.zero_le _) (Nat.le_refl _) (Or.inl rfl)
    rw [List.size_toArray] at hs
    generalize pdq (ltOf fun x y : Rg => cmpZ x.1 y.1) L.toArray 0 L.length (Lib.bitLen L.length) true true = d at hcon hs
    have HS := Lib.hid hs
    have H1 := Lib.hid h1; have H2 := Lib.hid h2; have H3 := Lib.hid h3; have H4 := Lib.hid h4; have HG := Lib.hid hg; have H := Lib.hid h
    clear hs h1 h2 h3 h4 hg h hH
    have hln := hl L.length w hN
    generalize Lib.bitLen L.length = m at hln hcon
    generalize hn : L.length = n at *
    have hwr : IntKind.u64.wrap (n : Int) = n := by simp [IntKind.wrap, IntKind.bits, IntKind.signed]; omega
    have HN := Lib.hid hn
    clear hn hl
    go_enter Try.func32, Try.ntmps32
    go_wp2_with fail
    refine hln.mono ?_
    rintro e _ ⟨rfl, rfl⟩
    go_wp2_with fail
    refine hcon.mono ?_
    rintro e w' ⟨rfl, q, os, rfl⟩
    go_wp2
    go_end0
    obtain ⟨⟨e1, _, e3⟩, e4⟩ := HS.out
    have hsz : d.size = n := by rw [e1, List.size_toArray, HN.out]
    have hld : d.toList.length = n := by rw [Array.length_toList, hsz]
    have hfl : flatK encR 2 d = (rgCells d.toList).toArray := by
      have := flat_rg d.toList
      simpa using this
    refine ⟨rfl, d.toList, ?_, ?_, ?_, ?_⟩
    · have a1 : (d.extract 0 n).toList = d.toList := by rw [← hsz]; simp
      have a2 : (L.toArray.extract 0 n).toList = L := by
        have hz : L.toArray.size = n := by rw [List.size_toArray, HN.out]
        rw [← hz, Array.extract_size]
      rw [a1, a2] at e3
      exact e3
    · rw [List.pairwise_iff_getElem]
      intro i j hi hj hij
      have := e4 i j (Nat.zero_le _) hij (by omega)
      rw [cmp_lt, decide_eq_false_iff_not] at this
      rw [getElem!_pos d j (by omega), getElem!_pos d i (by omega)] at this
      have a1 : d.toList[i] = d[i]'(by omega) := by simp
      have a2 : d.toList[j] = d[j]'(by omega) := by simp
      rw [a1, a2]
      omega
    · have hcz : cur.size = cap * 2 := H3.out
      have hcap := H1.out
      have hF : (flatK encR 2 d).size = n * 2 := by rw [size_flatK, hsz]
      refine ⟨by rw [rgCells_length, hld], .inr ⟨g, cap, _, rfl, hb, heap_put (n := q) (os := os) (flatK encR 2 d) HG.out, H1.out, H2.out, by simp [putCells]; exact hcz, ?_⟩⟩
      have := take_put cur (flatK encR 2 d) (by rw [hF, hcz]; omega)
      rw [hF] at this
      rw [this, hfl]
    · exact grownBy_put _
end Go.Proofs.Ytpmcnmlpkpoopaa
