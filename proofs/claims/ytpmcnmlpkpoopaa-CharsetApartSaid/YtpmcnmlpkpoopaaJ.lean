/- charset.Inter and charset.Minus: any two lists of ranges, not too long. -/
import Derived.Test.YtpmcnmlpkpoopaaIB
namespace Go.Proofs.Ytpmcnmlpkpoopaa
open Go.RowKit Go.Shelf

/-- The two cells of Inter, behind the calls d. -/
def IIn (w : World) (c1 : Nat) (lb : List Rg) (d : List (Rg × Bool)) (v : Value) (W : World) : Prop :=
  ∃ ao cap, Held w.heap.size (c1 + 3) v (d.foldl interStep (lb, [])).2 W ∧ W.heap[c1]? = some (.cells #[.slice ao (d.foldl interStep (lb, [])).1.length cap] 24 (0, 0)) ∧ (d.foldl interStep (lb, [])).1.length ≤ cap ∧
    Rg2 W (w.heap.size + 1) c1 ao (d.foldl interStep (lb, [])).1 ∧ Below w.heap.size w W
theorem Inter_walks (w w2 : World) (ao : Option Addr) (lb : List Rg) (cap : Nat) (hB : Below w.heap.size w w2) (hs : w.heap.size < w2.heap.size) (hc : w2.heap[w.heap.size]? = some (.cells #[.slice none 0 0] 24 (0, 0))) (hcap : lb.length ≤ cap) (hR : Rg2 w2 (w.heap.size + 1) w2.heap.size ao lb)
    (hlb : lb.length ≤ 400) :
    Walks 1000 44 #[.pointer (some ⟨w2.heap.size, 0, none⟩), .pointer (some ⟨w.heap.size, 0, none⟩)] (w2.alloc (.cells #[.slice ao lb.length cap] 24)) (.slice none 0 0) (IIn w w2.heap.size lb) where
  eg := enters_of Try.func44 (by kernel_rfl) rfl
  none := rfl
  start W hb := by
    rw [World.size_alloc] at hb
    have hk : ∀ k, k < w2.heap.size → W.heap[k]? = w2.heap[k]? := fun k h => (hb.block k (by omega)).trans (Below.heap_alloc _ _ _ h)
    refine ⟨ao, cap, ⟨(hk _ hs).trans hc, World.ownsRow_nil _ _ _ _, by omega⟩, (hb.block _ (by omega)).trans (World.alloc_heap_new _ _), hcap, hR.same (fun k _ h => hk k h), ?_⟩
    exact (hB.alloc hB.size _).trans (hb.mono (by omega))
  lt d v W h := by
    obtain ⟨_, _, h1, _⟩ := h
    exact h1.lt
  keep d v W W' h hv hs2 hg := by
    rw [World.size_alloc] at hv hg hs2
    obtain ⟨a, c, h1, h2, h3, h4, h5⟩ := h
    refine ⟨a, c, h1.keep hg (by omega) (fun e => by have := hv _ e; omega), (hg.block _ (by omega) (by simp; omega)).trans h2, h3, h4.same (fun k _ hk => hg.block k (by omega) (by simp; omega)), below_of_old h5 hg.size (fun k hk => hg.block k (by omega) (by simp; omega)) ⟨hg.os, hg.tape, hg.output⟩⟩
  step d v W x rest l hcn hl e h hv hs2 := by
    rw [World.size_alloc] at hs2
    obtain ⟨a, c, h1, h2, h3, h4, h5⟩ := h
    have hb := inter_bound d (lb, [])
    have hd : d.length ≤ 2001 := by
      have h6 := walk_length l 0
      rw [← e, List.length_append] at h6
      omega
    have hm := Nat.mul_le_mul hd hlb
    have hm2 : d.length * lb.length ≤ 800400 := hm
    have hb2 : (d.foldl interStep (lb, [])).2.length ≤ 800400 := by have := hb.2; simp only [List.length_nil, Nat.zero_add] at this; omega
    have hb1 : (d.foldl interStep (lb, [])).1.length ≤ 400 := Nat.le_trans hb.1 hlb
    unfold IIn
    simp only [List.foldl_append, List.foldl_cons, List.foldl_nil]
    generalize hsd : d.foldl interStep (lb, []) = s at *
    obtain ⟨R, F⟩ := s
    dsimp only at h1 h2 h3 h4 hb1 hb2
    obtain ⟨r, f⟩ := x
    cases f
    · refine (InterFn_gap r w.heap.size w2.heap.size v F R a c W h1 h2 h3 h4 hs hs2).mono ?_
      rintro e' W' ⟨rfl, v', a', c', k1, k2, k3, k4, k5, k6, k7, k8⟩
      exact ⟨rfl, v', ⟨a', c', k1, k2, k3, k4, below_of_old h5 k5 (fun k hk => k6 k (by omega) (by omega) (by omega) (fun e => by have := h1.own.lt k e; omega)) k7⟩, ⟨k5, fun k ha hb hne => k6 k hb (by rw [World.size_alloc] at ha; omega) (by rw [World.size_alloc] at ha; omega) hne⟩, k8⟩
    · refine (InterFn_in r w.heap.size w2.heap.size v F R a c W h1 h2 h3 h4 hs (by omega) (by omega) hs2).mono ?_
      rintro e' W' ⟨rfl, v', a', c', k1, k2, k3, k4, k5, k6, k7, k8⟩
      exact ⟨rfl, v', ⟨a', c', k1, k2, k3, k4, below_of_old h5 k5 (fun k hk => k6 k (by omega) (by omega) (by omega) (fun e => by have := h1.own.lt k e; omega)) k7⟩, ⟨k5, fun k ha hb hne => k6 k hb (by rw [World.size_alloc] at ha; omega) (by rw [World.size_alloc] at ha; omega) hne⟩, k8⟩

theorem isBoth_walk {a b la lb : List Rg} (ha : IsOf a la) (hb : IsOf b lb) : IsBoth a b ((walkFrom 0 la).foldl interStep (lb, [])).2 := by
  obtain ⟨G, g1, g2, g3⟩ := inter_walk la 0 lb [] ha.1 hb.1 (fun q hq => (ha.1.2 q hq).1)
  rw [g1, List.nil_append]
  refine ⟨g2, fun x => ?_⟩
  rw [g3 x, ha.2 x, hb.2 x]

set_option maxHeartbeats 1000000 in
theorem Inter_any (ao bo : Option Addr) (L M : List Rg) (ca cb : Nat) (w : World) (hL : L.length ≤ 1000) (hM : M.length ≤ 400) (hR : Rgs w w.heap.size ao L) (hS : Rgs w w.heap.size bo M) :
    Calls Try.prog 21 #[.slice ao L.length ca, .slice bo M.length cb] w fun e w' => ∃ v l, e = .returned v ∧ IsBoth L M l ∧ l.length ≤ (2 * L.length + 1) * M.length ∧ w'.ownsRow w.heap.size 41 2 v l.length (rgCells l) ∧ Below w.heap.size w w' := by
  have B0 := (Below.refl w.heap.size w).alloc (Nat.le_refl _) (.cells #[.slice none 0 0] 24)
  have hz : (w.alloc (.cells #[.slice none 0 0] 24)).heap.size = w.heap.size + 1 := by simp
  have S1 := (hS.below B0 (Nat.le_refl _)).mono B0.size
  have N0 := World.alloc_heap_new w (.cells #[.slice none 0 0] 24)
  have HS1 := Lib.hid S1; have HN0 := Lib.hid N0; have HB0 := Lib.hid B0; have HR := Lib.hid hR
  clear S1 N0 B0 hR hS
  go_enter Try.func21, Try.ntmps21
  go_wp2_with fail
  refine (Of_any bo M cb _ (by omega) HS1.out).mono ?_
  rintro e w2 ⟨v2, lb, rfl, h1, h2, o2, b2⟩
  rw [hz] at o2 b2
  obtain ⟨a2, c2, rfl, hcap, r2⟩ := rg2_of_own o2
  have B2 := HB0.out.trans (b2.mono (by omega))
  have hs2 : w.heap.size < w2.heap.size := by have := b2.size; omega
  have hw := walk_any ao L ca 44 #[.pointer (some ⟨w2.heap.size, 0, none⟩), .pointer (some ⟨w.heap.size, 0, none⟩)] _ _ _ 1000 (by omega) hL ((HR.out.below (B2.alloc B2.size (.cells #[.slice a2 lb.length c2] 24)) (Nat.le_refl _)).mono (by rw [World.size_alloc]; omega))
    (Inter_walks w w2 a2 lb c2 B2 hs2 ((b2.block _ (by omega)).trans HN0.out) hcap r2 (by omega))
  have HW := Lib.hid hw; have H1 := Lib.hid h1
  clear hw h1 o2 b2 r2 B2 HS1 HN0 HB0 HR
  go_wp2_with fail
  refine HW.out.mono ?_
  rintro e w3 ⟨rfl, la, v, k1, k2, a, c, m1, m2, m3, m4, m5⟩
  have hib := isBoth_walk k1 H1.out
  have hlen := (inter_bound (walkFrom 0 la) (lb, [])).2
  have hwl := walk_length la 0
  simp only [List.length_nil, Nat.zero_add] at hlen
  have hlen2 : ((walkFrom 0 la).foldl interStep (lb, [])).2.length ≤ (2 * L.length + 1) * M.length := Nat.le_trans hlen (Nat.mul_le_mul (by omega) h2)
  have c0 : w3.cell? ⟨w.heap.size, 0, none⟩ = some v := by rw [Lib.cell_of_heap m1.cell]; rfl
  have O3 := own_low m1.own (show w.heap.size ≤ w2.heap.size + 3 by omega)
  obtain ⟨ao', n', c', rfl⟩ := own_shape O3
  have HIB := Lib.hid hib; have HO3 := Lib.hid O3; have HL2 := Lib.hid hlen2
  clear hib hlen hlen2 m1 m2 m3 m4 O3 k1
  go_wp2
  go_ret
  exact ⟨_, _, rfl, HIB.out, HL2.out, HO3.out, m5⟩

theorem both_not {a b l m : List Rg} (hn : IsNot b m) (hb : IsBoth a m l) : Canon l ∧ ∀ x, inS l x ↔ inU a x ∧ ¬ inU b x := by
  refine ⟨hb.1, fun x => ?_⟩
  rw [hb.2 x]
  constructor
  · rintro ⟨h1, h2⟩
    exact ⟨h1, ((hn.2 x).1 h2.2).2⟩
  · rintro ⟨h1, h2⟩
    exact ⟨h1, h1.1, (hn.2 x).2 ⟨h1.1, h2⟩⟩
/-- l is the canonical form of what is in a and not in b. -/
def IsLess (a b l : List Rg) : Prop := Canon l ∧ ∀ x, inS l x ↔ inU a x ∧ ¬ inU b x
set_option maxHeartbeats 1000000 in
theorem Minus_any (ao bo : Option Addr) (L M : List Rg) (ca cb : Nat) (w : World) (hL : L.length ≤ 1000) (hM : M.length ≤ 399) (hR : Rgs w w.heap.size ao L) (hS : Rgs w w.heap.size bo M) :
    Calls Try.prog 23 #[.slice ao L.length ca, .slice bo M.length cb] w fun e w' => ∃ v l, e = .returned v ∧ IsLess L M l ∧ l.length ≤ (2 * L.length + 1) * (M.length + 1) ∧ w'.ownsRow w.heap.size 41 2 v l.length (rgCells l) ∧ Below w.heap.size w w' := by
  have hn := fun w h => Not_any bo M cb w (by omega) h
  have HR := Lib.hid hR; have HS := Lib.hid hS
  clear hR hS
  go_enter Try.func23, Try.ntmps23
  go_wp2_with fail
  refine (hn _ HS.out).mono ?_
  rintro e w1 ⟨v1, m, rfl, h1, h2, o1, b1⟩
  obtain ⟨a1, c1, rfl, r1⟩ := rgs_of_own o1
  have hi := Inter_any ao a1 L m ca c1 w1 hL (by omega) ((HR.out.below b1 (Nat.le_refl _)).mono b1.size) r1
  have HI := Lib.hid hi; have H1 := Lib.hid h1
  clear hi h1 o1 r1 hn
  go_wp2_with fail
  refine HI.out.mono ?_
  rintro e w2 ⟨v2, l, rfl, k1, k2, o2, b2⟩
  have B2 := b1.trans (b2.mono b1.size)
  have o3 := own_low o2 b1.size
  have hk := both_not H1.out k1
  have hlen : l.length ≤ (2 * L.length + 1) * (M.length + 1) := Nat.le_trans k2 (Nat.mul_le_mul_left _ h2)
  have HK := Lib.hid hk; have HL2 := Lib.hid hlen
  clear hk k1 k2 o2 b1 b2 hlen
  go_wp2
  go_ret
  exact ⟨_, l, rfl, HK.out, HL2.out, o3, B2⟩
end Go.Proofs.Ytpmcnmlpkpoopaa
