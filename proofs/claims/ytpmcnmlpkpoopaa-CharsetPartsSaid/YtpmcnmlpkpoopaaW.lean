/- charset.walk: any list of ranges, any callback. -/
import Derived.Test.YtpmcnmlpkpoopaaU
namespace Go.Proofs.Ytpmcnmlpkpoopaa
open Go.RowKit Go.Shelf

/-- What walk hands on: a gap, if there is one; from a rune on, the ranges of a canonical list and the gaps between. -/
def gapL (nx last : Int) : List (Rg × Bool) := if nx ≤ last then [((nx, last), false)] else []
def walkFrom : Int → List Rg → List (Rg × Bool)
  | nx, [] => gapL nx 1114111
  | nx, r :: l => gapL nx (r.1 - 1) ++ (r, true) :: walkFrom (r.2 + 1) l

set_option maxHeartbeats 1000000 in
theorem gap_any (g : FuncId) (lb : Array Value) (eg : ∀ args w, (callFunc g args).run Try.prog w = .ok (.enter g args) w) (nx last : Int) (bn bb : Nat) (W : World)
    (hn : W.cell? ⟨bn, 0, none⟩ = some (.int .i32 nx)) (hb : W.cell? ⟨bb, 0, none⟩ = some (.func (.func g) #[] lb)) (R : World → Prop)
    (hno : ¬ nx ≤ last → R W) (hyes : nx ≤ last → Calls Try.prog g (#[rgV (nx, last), .bool false] ++ lb) W fun e W' => e = .returned (.tuple #[]) ∧ R W') :
    Calls Try.prog 54 #[.int .i32 last, .pointer (some ⟨bn, 0, none⟩), .pointer (some ⟨bb, 0, none⟩)] W fun e W' => e = .returned (.tuple #[]) ∧ R W' := by
  have HN := Lib.hid hno; have HY := Lib.hid hyes
  clear hno hyes
  by_cases h : nx ≤ last
  · have H := Lib.hid (HY.out h)
    clear HN HY
    go_enter Try.func54, Try.ntmps54
    go_wp2_with fail
    refine H.out.mono ?_
    rintro e W' ⟨rfl, hR⟩
    have HR := Lib.hid hR
    clear hR
    go_wp2
    go_end0
    exact ⟨rfl, HR.out⟩
  · have H := Lib.hid (HN.out h)
    clear HN HY
    go_enter Try.func54, Try.ntmps54
    go_wp2
    go_end0
    exact ⟨rfl, H.out⟩

/-- What a callback may turn of the blocks from b on: its own row alone. -/
structure Fr (b : Nat) (v : Value) (W W' : World) : Prop where
  size : W.heap.size ≤ W'.heap.size
  block : ∀ k, b ≤ k → k < W.heap.size → v.ownBlock ≠ some k → W'.heap[k]? = W.heap[k]?
/-- A callback that walk may be handed: I d v W: it has been handed d, its own row is v. -/
structure Walks (N : Nat) (g : FuncId) (lb : Array Value) (w0 : World) (v0 : Value) (I : List (Rg × Bool) → Value → World → Prop) : Prop where
  eg : ∀ args w, (callFunc g args).run Try.prog w = .ok (.enter g args) w
  none : v0.ownBlock = none
  start : ∀ W, Below w0.heap.size w0 W → I [] v0 W
  lt : ∀ d v W, I d v W → ∀ k, v.ownBlock = some k → k < W.heap.size
  keep : ∀ d v W W', I d v W → (∀ k, v.ownBlock = some k → w0.heap.size + 2 ≤ k) → w0.heap.size + 2 ≤ W.heap.size → W.grownBy W' (some (w0.heap.size + 1)) → I d v W'
  step : ∀ d v W x rest l, Canon l → l.length ≤ N → d ++ x :: rest = walkFrom 0 l → I d v W → (∀ k, v.ownBlock = some k → w0.heap.size + 2 ≤ k) → w0.heap.size + 2 ≤ W.heap.size →
    Calls Try.prog g (#[rgV x.1, .bool x.2] ++ lb) W fun e W' => e = .returned (.tuple #[]) ∧ ∃ v', I (d ++ [x]) v' W' ∧ Fr w0.heap.size v W W' ∧ ∀ k, v'.ownBlock = some k → v.ownBlock = some k ∨ W.heap.size ≤ k
/-- walk's own blocks, in the middle of it. -/
structure WSt (b : Nat) (w1 W : World) (v : Value) (nx : Int) : Prop where
  next : W.heap[b + 1]? = some (.cells #[.int .i32 nx] 21 (0, 0))
  old : ∀ k, b ≤ k → k < w1.heap.size → k ≠ b + 1 → W.heap[k]? = w1.heap[k]?
  own : ∀ k, v.ownBlock = some k → w1.heap.size ≤ k
  size : w1.heap.size ≤ W.heap.size
  two : b + 2 ≤ w1.heap.size
theorem WSt.alloc {b : Nat} {w1 W : World} {v : Value} {nx : Int} (h : WSt b w1 W v nx) (o : Obj) : WSt b w1 (W.alloc o) v nx := by
  have h1 := h.two; have h2 := h.size
  exact ⟨(Below.heap_alloc _ _ _ (by omega)).trans h.next, fun k a c e => (Below.heap_alloc _ _ _ (by omega)).trans (h.old k a c e), h.own, by simp; omega, h1⟩
theorem WSt.fr {b : Nat} {w1 W W' : World} {v v' : Value} {nx : Int} (h : WSt b w1 W v nx) (f : Fr b v W W') (hv : ∀ k, v'.ownBlock = some k → v.ownBlock = some k ∨ W.heap.size ≤ k) : WSt b w1 W' v' nx := by
  have h1 := h.two; have h2 := h.size
  refine ⟨(f.block _ (by omega) (by omega) fun e => by have := h.own _ e; omega).trans h.next, fun k a c e => (f.block k a (by omega) fun e => by have := h.own _ e; omega).trans (h.old k a c e), fun k e => ?_, Nat.le_trans h2 f.size, h1⟩
  rcases hv k e with hk | hk
  · exact h.own k hk
  · omega
theorem WSt.set {b : Nat} {w1 W : World} {v : Value} {nx : Int} (h : WSt b w1 W v nx) (nx' : Int) : WSt b w1 (W.setCell ⟨b + 1, 0, none⟩ (.int .i32 nx')) v nx' := by
  refine ⟨?_, fun k a c e => (Below.heap_setCell _ _ _ _ e).trans (h.old k a c e), h.own, by simp [World.setCell]; exact h.size, h.two⟩
  have := h.next
  simp [World.setCell, Array.getElem?_modify, this]
theorem WSt.own2 {b : Nat} {w1 W : World} {v : Value} {nx : Int} (h : WSt b w1 W v nx) : ∀ k, v.ownBlock = some k → b + 2 ≤ k := fun k e => Nat.le_trans h.two (h.own k e)
theorem WSt.size2 {b : Nat} {w1 W : World} {v : Value} {nx : Int} (h : WSt b w1 W v nx) : b + 2 ≤ W.heap.size := Nat.le_trans h.two h.size
theorem WSt.cn {b : Nat} {w1 W : World} {v : Value} {nx : Int} (h : WSt b w1 W v nx) : W.cell? ⟨b + 1, 0, none⟩ = some (.int .i32 nx) := by rw [Lib.cell_of_heap h.next]; rfl
theorem WSt.fn {b : Nat} {w1 W : World} {v : Value} {nx : Int} (h : WSt b w1 W v nx) : W.frozen? ⟨b + 1, 0, none⟩ = false := Lib.frozen_of_heap h.next 0
theorem WSt.box {b : Nat} {w1 W : World} {v : Value} {nx : Int} (h : WSt b w1 W v nx) {F : Value} {t : TypeId} (hb : w1.heap[b]? = some (.cells #[F] t (0, 0))) : W.cell? ⟨b, 0, none⟩ = some F := by
  have := (h.old b (Nat.le_refl _) (by have := h.two; omega) (by omega)).trans hb
  rw [Lib.cell_of_heap this]; rfl
/-- An own row's cells, wherever its block is as it was. -/
theorem own_view {w : World} {base : Nat} {v : Value} {L : List Rg} (h : w.ownsRow base 41 2 v L.length (rgCells L)) :
    ∃ ao cap, v = .slice ao L.length cap ∧ ∀ pre x rest, pre ++ x :: rest = L → ∃ g, ao = some ⟨g, 0, none⟩ ∧ base ≤ g ∧ g < w.heap.size ∧ ∀ W : World, W.heap[g]? = w.heap[g]? →
      W.cell? ⟨g, pre.length * 2, none⟩ = some (.int .i32 x.1) ∧ W.cell? ⟨g, pre.length * 2 + 1, none⟩ = some (.int .i32 x.2) := by
  obtain ⟨h1, ⟨rfl, h2⟩ | ⟨g, cap, cur, rfl, h3, h4, h5, h6, h7, h8⟩⟩ := h
  · refine ⟨none, 0, by rw [h2], fun pre x rest e => ?_⟩
    rw [← e] at h2
    simp at h2
  · refine ⟨_, cap, rfl, fun pre x rest e => ⟨g, rfl, h3, (Array.getElem?_eq_some_iff.1 h4).1, fun W hW => ?_⟩⟩
    have hlen : pre.length < L.length := by rw [← e]; simp
    obtain ⟨a0, a1⟩ := rgCells_at pre x rest
    rw [e, ← h8, List.getElem?_take_of_lt (by omega), Array.getElem?_toList] at a0
    rw [e, ← h8, List.getElem?_take_of_lt (by omega), Array.getElem?_toList] at a1
    rw [Lib.cell_of_heap (hW.trans h4), Lib.cell_of_heap (hW.trans h4)]
    exact ⟨a0, a1⟩
theorem grown_alloc (W : World) (o : Obj) (row : Option Nat) : W.grownBy (W.alloc o) row := World.grownBy_alloc W o row

set_option maxHeartbeats 4000000 in
set_option maxRecDepth 100000 in
theorem walk_any (ao : Option Addr) (L : List Rg) (cap : Nat) (g : FuncId) (lb : Array Value) (w0 : World) (v0 : Value) (I : List (Rg × Bool) → Value → World → Prop) (N : Nat) (hNN : N ≤ 100000) (hN : L.length ≤ N) (hR : Rgs w0 w0.heap.size ao L) (hI : Walks N g lb w0 v0 I) :
    Calls Try.prog 37 #[.slice ao L.length cap, .func (.func g) #[] lb] w0 fun e w' => e = .returned (.tuple #[]) ∧ ∃ l v, IsOf L l ∧ l.length ≤ L.length ∧ I (walkFrom 0 l) v w' := by
  have HI := Lib.hid hI; have HR := Lib.hid hR
  have eg := hI.eg
  clear hI hR
  have n0 := World.alloc_heap_new w0 (.cells #[.func (.func g) #[] lb] 49)
  have n1 := World.alloc_heap_new (w0.alloc (.cells #[.func (.func g) #[] lb] 49)) (.cells #[.int .i32 0] 21)
  have n2 : ((w0.alloc (.cells #[.func (.func g) #[] lb] 49)).alloc (.cells #[.int .i32 0] 21)).heap.size = w0.heap.size + 2 := by simp
  have n3 := ((Below.refl w0.heap.size w0).alloc (Nat.le_refl _) (.cells #[.func (.func g) #[] lb] 49)).alloc (by simp) (.cells #[.int .i32 0] 21)
  have n4 := (Below.heap_alloc (w0.alloc (.cells #[.func (.func g) #[] lb] 49)) (.cells #[.int .i32 0] 21) w0.heap.size (by simp)).trans n0
  rw [World.size_alloc] at n1
  have R1 := (HR.out.below n3 (Nat.le_refl _)).mono (B' := ((w0.alloc (.cells #[.func (.func g) #[] lb] 49)).alloc (.cells #[.int .i32 0] 21)).heap.size) (by rw [n2]; omega)
  clear n0
  have N1 := Lib.hid n1; have N3 := Lib.hid n3; have N4 := Lib.hid n4
  clear n1 n3 n4
  go_enter Try.func37, Try.ntmps37
  go_wp2_with fail
  refine (Of_any ao L cap _ (by omega) R1).mono ?_
  rintro e w1 ⟨v1, l, rfl, h1, h2, o1, b1⟩
  rw [n2] at b1 o1
  obtain ⟨a1, c1, rfl, hv⟩ := own_view o1
  have B1 : Below w0.heap.size w0 w1 := N3.out.trans (b1.mono (by omega))
  have hs1 := b1.size
  rw [n2] at hs1
  have S0 : WSt w0.heap.size w1 w1 v0 0 := ⟨(b1.block _ (by omega)).trans N1.out, fun _ _ _ _ => rfl, fun k e => (by rw [HI.out.none] at e; cases e), Nat.le_refl _, hs1⟩
  have hbx := (b1.block w0.heap.size (by omega)).trans N4.out
  have I0 := Lib.hid (HI.out.start w1 B1)
  have HV := Lib.hid hv; have H1 := Lib.hid h1; have HS0 := Lib.hid S0; have HBX := Lib.hid hbx
  have hl5 : l.length ≤ N := by omega
  clear hv h1 S0 hbx o1 b1 N1 N3 N4 n2 R1 B1
  go_wp2_with fail
  go_loopw [12] (fun i wr => ∃ (pre rest : List Rg) (d : List (Rg × Bool)) (v : Value) (nx : Int), i = .int .i64 pre.length ∧ Hid (pre ++ rest = l) ∧ Hid (d ++ walkFrom nx rest = walkFrom 0 l) ∧ Hid (I d v wr) ∧ Hid (WSt w0.heap.size w1 wr v nx)) (fun i _ => l.length - (intOf i).toNat)
  case atStart => exact ⟨[], l, [], v0, 0, rfl, rfl, rfl, I0, HS0⟩
  case round =>
    obtain ⟨pre, rest, d, v, nx, rfl, hA, hD, hI, hS⟩ := hrel
    rcases rest with _ | ⟨⟨lo, hi⟩, r⟩
    · have hL := hA.out
      rw [List.append_nil] at hL
      have HG := gap_any g lb eg nx 1114111 (w0.heap.size + 1) w0.heap.size wr hS.out.cn (hS.out.box HBX.out) (fun W' => ∃ v, I (walkFrom 0 l) v W')
        (fun h => ⟨v, by have e := hD.out; rw [walkFrom, gapL, if_neg h, List.append_nil] at e; rw [← e]; exact hI.out⟩)
        (fun h => by
          have e := hD.out
          rw [walkFrom, gapL, if_pos h] at e
          refine (HI.out.step d v wr ((nx, 1114111), false) [] l H1.out.1 hl5 e hI.out hS.out.own2 hS.out.size2).mono ?_
          rintro e' W' ⟨rfl, v', h1, _⟩
          exact ⟨rfl, v', by rw [← e]; exact h1⟩)
      have HGG := Lib.hid HG
      clear HG
      subst hL
      go_wp2_with fail
      refine HGG.out.mono ?_
      rintro e W' ⟨rfl, v', hI'⟩
      have HI' := Lib.hid hI'
      clear hI'
      go_wp2
      go_end0
      exact ⟨rfl, _, v', H1.out, h2, HI'.out⟩
    · have hL := hA.out
      obtain ⟨g1, rfl, hbg, hgl, hc⟩ := HV.out _ _ _ hL
      obtain ⟨p0, p1⟩ := hc wr (hS.out.old g1 (by omega) hgl (by omega))
      have hlt : pre.length < l.length := by rw [← hL]; simp
      obtain ⟨k1, k2, k3⟩ := H1.out.1.2 (lo, hi) (by rw [← hL]; simp)
      have y1 := RgAt.new wr (lo, hi)
      have s1 := hS.out.alloc (.cells #[.int .i32 lo, .int .i32 hi] 41)
      have i1 := HI.out.keep d v wr _ hI.out hS.out.own2 hS.out.size2 (grown_alloc wr (.cells #[.int .i32 lo, .int .i32 hi] 41) _)
      have hz1 : (wr.alloc (.cells #[.int .i32 lo, .int .i32 hi] 41)).heap.size = wr.heap.size + 1 := by simp
      have hne : ∀ k, v.ownBlock = some k → k < wr.heap.size := HI.out.lt d v wr hI.out
      have d0 := y1.c0; have d1 := y1.c1
      dsimp only at k1 k2 k3 p0 p1 d0 d1
      have HG := gap_any g lb eg nx (lo - 1) (w0.heap.size + 1) w0.heap.size _ s1.cn (s1.box HBX.out) (fun W' => ∃ d' v', Hid (d' = d ++ gapL nx (lo - 1)) ∧ Hid (I d' v' W') ∧ Hid (WSt w0.heap.size w1 W' v' nx) ∧ Hid (RgAt W' wr.heap.size (lo, hi)) ∧ Hid (v'.ownBlock ≠ some wr.heap.size))
        (fun h => ⟨d, v, by unfold gapL; rw [if_neg h, List.append_nil]; rfl, i1, s1, y1, Lib.hid (fun e => by have := hne _ e; omega)⟩)
        (fun h => by
          have e := hD.out
          rw [walkFrom, gapL, if_pos h, List.singleton_append] at e
          refine (HI.out.step d v _ ((nx, lo - 1), false) _ l H1.out.1 hl5 e i1 s1.own2 s1.size2).mono ?_
          rintro e' W' ⟨rfl, v', h1, f1, o1⟩
          refine ⟨rfl, _, v', by unfold gapL; rw [if_pos h]; rfl, h1, s1.fr f1 o1, (f1.block _ (by have := hS.out.two; have := hS.out.size; omega) (by omega) fun e => by have := hne _ e; omega).trans y1, Lib.hid fun e => ?_⟩
          rcases o1 _ e with h | h
          · have := hne _ h; omega
          · omega)
      have HGG := Lib.hid HG
      have HL := Lib.hid hL
      have HNE := Lib.hid hne
      have hwb : w0.heap.size + 2 ≤ wr.heap.size := hS.out.size2
      clear HG y1 s1 i1 hc hL hI hS hne
      generalize hlen : l.length = Nl at *
      go_wp2_with fail
      refine HGG.out.mono ?_
      rintro e W3 ⟨rfl, d3, v3, hd3, i3, s3, y3, n3⟩
      have hst := HI.out.step d3 v3 W3 ((lo, hi), true) (walkFrom (hi + 1) r) l H1.out.1 (by omega) (by have e := hD.out; rw [walkFrom] at e; rw [hd3.out, List.append_assoc]; exact e) i3.out s3.out.own2 s3.out.size2
      have HST := Lib.hid hst
      have cb := s3.out.box HBX.out
      have c0 := y3.out.c0; have c1 := y3.out.c1
      clear hst HGG d0 d1 p0 p1
      dsimp only at c0 c1
      go_wp2_with fail
      refine HST.out.mono ?_
      rintro e W4 ⟨rfl, v4, i4, f4, o4⟩
      have s4 := s3.out.fr f4 o4
      have y4 : RgAt W4 wr.heap.size (lo, hi) := (f4.block _ (by omega) y3.out.lt n3.out).trans y3.out
      have i5 := HI.out.keep _ v4 W4 _ i4 s4.own2 s4.size2 (grown_set (o := 0) (u := .int .i32 (hi + 1)))
      have s5 := s4.set (hi + 1)
      have e1 := y4.c1
      have e2 := s4.cn
      have e3 := s4.fn
      have I5 := Lib.hid i5; have S5 := Lib.hid s5
      clear HST cb c0 c1 i3 s3 y3 n3 i4 f4 o4 s4 y4 i5 s5
      dsimp only at e1
      go_wp2
      subst hlen
      go_roundw
      case rel => exact ⟨pre ++ [(lo, hi)], r, d3 ++ [((lo, hi), true)], v4, hi + 1, by simp, Lib.hid (by rw [List.append_assoc]; exact HL.out), Lib.hid (by have e := hD.out; rw [walkFrom] at e; rw [hd3.out, ← e]; simp), I5, S5⟩
      case measure => simp [intOf]; omega
end Go.Proofs.Ytpmcnmlpkpoopaa
