/- The reference's Parts: any list of sets. -/
import Derived.Test.YtpmcnmlpkpoopaaLB
namespace Go.Proofs.Ytpmcnmlpkpoopaa
open Go.RowKit Go.Shelf

def nextE : List Int → Int
  | [] => 1114112
  | e :: _ => e
theorem ends_stretch (LL : List (List Rg)) : ∀ (pre : List Int) (e : Int) (rest : List Int), pre ++ e :: rest = endsL LL.flatten → (0 ≤ e ∧ e ≤ nextE rest - 1 ∧ nextE rest - 1 ≤ 1114111) ∧ ∀ x, e ≤ x → x ≤ nextE rest - 1 → keyL LL x = keyL LL e := by
  intro pre e rest hE
  obtain ⟨f1, f2, f3, _⟩ := foldE_is LL.flatten [0] (by simp) (by simp)
  rw [show LL.flatten.foldl stepE [0] = endsL LL.flatten from rfl, ← hE] at f1 f2
  obtain ⟨g1, g2, g3⟩ := List.pairwise_append.1 f1
  have he := f2 e (by simp)
  have hnx : e ≤ nextE rest - 1 ∧ nextE rest - 1 ≤ 1114111 ∧ ∀ b ∈ rest, nextE rest ≤ b := by
    cases rest with
    | nil => exact ⟨by simp only [nextE]; omega, by simp only [nextE]; omega, fun b hb => by cases hb⟩
    | cons e' rest =>
      have h1 := (List.pairwise_cons.1 g2).1 e' (by simp)
      have h2 := f2 e' (by simp)
      refine ⟨by simp only [nextE]; omega, by simp only [nextE]; omega, fun b hb => ?_⟩
      simp only [nextE]
      rcases List.mem_cons.1 hb with rfl | hb
      · exact Int.le_refl _
      · have := (List.pairwise_cons.1 (List.pairwise_cons.1 g2).2).1 b hb
        omega
  refine ⟨⟨he.1, hnx.1, hnx.2.1⟩, fun x h1 h2 => ?_⟩
  unfold keyL
  refine List.map_congr_left fun L hL => ?_
  rw [Bool.eq_iff_iff, hasB_iff, hasB_iff]
  refine ends_const (F := LL.flatten) (fun q hq => List.mem_flatten.2 ⟨L, hL, hq⟩) (by rw [← hE]; simp) h1 (by omega) fun b hb hlt => ?_
  rw [← hE] at hb
  rcases List.mem_append.1 hb with hb | hb
  · have := g3 b hb e (by simp)
    omega
  · rcases List.mem_cons.1 hb with rfl | hb
    · omega
    · have := hnx.2.2 b hb
      omega
theorem ends_first (LL : List (List Rg)) : nextE (endsL LL.flatten) = 0 := by
  obtain ⟨f1, f2, f3, _⟩ := foldE_is LL.flatten [0] (by simp) (by simp)
  have h0 := f3 0 (by simp)
  rw [show LL.flatten.foldl stepE [0] = endsL LL.flatten from rfl] at f1 f2 h0
  generalize endsL LL.flatten = E at *
  cases E with
  | nil => cases h0
  | cons e E =>
    simp only [nextE]
    have := f2 e (by simp)
    rcases List.mem_cons.1 h0 with h | h
    · exact h.symm
    · have := (List.pairwise_cons.1 f1).1 0 h
      omega
/-- What the inner loop has found among p. -/
def FoundK (key : Int → List Bool) (e : Int) (p ps : List (List Rg)) (z : Int) : Prop := (z = -1 ∧ ∀ l ∈ p, key (hd l) ≠ key e) ∨ ∃ j : Nat, z = (j : Int) ∧ j < p.length ∧ ∃ l, ps[j]? = some l ∧ key (hd l) = key e
theorem FoundK.no {key : Int → List Bool} {e z : Int} {p ps : List (List Rg)} {l : List Rg} (h : FoundK key e p ps z) (hl : key (hd l) ≠ key e) : FoundK key e (p ++ [l]) ps z := by
  rcases h with ⟨h1, h2⟩ | ⟨j, h1, h2, h3⟩
  · refine .inl ⟨h1, fun m hm => ?_⟩
    rcases List.mem_append.1 hm with hm | hm
    · exact h2 m hm
    · rw [List.mem_singleton.1 hm]; exact hl
  · exact .inr ⟨j, h1, by rw [List.length_append]; omega, h3⟩
theorem FoundK.yes {key : Int → List Bool} {e : Int} {p r ps : List (List Rg)} {l : List Rg} (hp : p ++ l :: r = ps) (hl : key (hd l) = key e) : FoundK key e (p ++ [l]) ps (p.length : Int) :=
  .inr ⟨p.length, rfl, by simp, l, by rw [← hp]; simp, hl⟩
theorem own_first {W : World} {base : Nat} {v : Value} {l : List Rg} (h : W.ownsRow base 41 2 v l.length (rgCells l)) (hl : l ≠ []) : ∃ g c, v = .slice (some ⟨g, 0, none⟩) l.length c ∧ W.cell? ⟨g, 0, none⟩ = some (.int .i32 (hd l)) ∧ g < W.heap.size := by
  cases l with
  | nil => exact absurd rfl hl
  | cons x l =>
    rcases h.2 with ⟨_, h0⟩ | ⟨g, cap, cur, rfl, h3, h4, h5, h6, h7, h8⟩
    · simp at h0
    · refine ⟨g, cap, rfl, ?_, (Array.getElem?_eq_some_iff.1 h4).1⟩
      have := h.cellAt 0 (by simp)
      rw [this]
      rfl
theorem allP_nil {T : List (List Rg)} {R : List Rg} (h : R.length = 0) : allP T R = T := by unfold allP; rw [if_pos h, List.append_nil]
theorem allP_one {T : List (List Rg)} {R : List Rg} (h : ¬ R.length = 0) : allP T R = T ++ [R] := by unfold allP; rw [if_neg h]

set_option maxHeartbeats 8000000 in
set_option maxRecDepth 100000 in
theorem rParts_any (ao : Option Addr) (LL : List (List Rg)) (cap : Nat) (w : World) (hN : LL.length ≤ 30000) (hT : LL.flatten.length ≤ 30000) (hS : Sts w w.heap.size ao LL) :
    Calls Try.prog 30 #[.slice ao LL.length cap] w fun e w' => ∃ T R a c, e = .returned (.slice a (allP T R).length c) ∧ PartT (keyL LL) 1114112 T R ∧ Sts w' w'.heap.size a (allP T R) ∧ Below w.heap.size w w' := by
  have he := rends_any ao LL cap w (by omega) (by omega) hS
  have hl : ∀ L ∈ LL, L.length ≤ 30000 := fun L hL => by
    obtain ⟨a, b, rfl⟩ := List.append_of_mem hL
    rw [List.flatten_append, List.flatten_cons, List.length_append, List.length_append] at hT
    omega
  have HS := Lib.hid hS; have HE := Lib.hid he; have HL := Lib.hid hl
  have hst := ends_stretch LL
  have hfs := ends_first LL
  have f3 := foldE_length LL.flatten [0]
  rw [show LL.flatten.foldl stepE [0] = endsL LL.flatten from rfl] at f3
  clear hS he hl
  go_enter Try.func30, Try.ntmps30
  go_wp2_with fail
  refine HE.out.mono ?_
  rintro e w1 ⟨ae, ce, rfl, hi, b1⟩
  have HI := Lib.hid hi; have HB1 := Lib.hid b1
  generalize hEE : endsL LL.flatten = E at *
  have hEl : E.length ≤ 100000 := by simp only [List.length_cons, List.length_nil] at f3; omega
  have HST := Lib.hid hst; have HFS := Lib.hid hfs
  have HP0 := Lib.hid (PS.start2 w1)
  have HB2 := Lib.hid (((Below.refl w1.heap.size w1).alloc (Nat.le_refl _) (.cells #[] 24)).alloc (by simp) (.cells #[] 41))
  clear hst hfs f3 hi b1 HE hEE
  go_wp2_with fail
  go_loopw [4, 5, 6] (fun s4 s5 i wr => ∃ (pre rest : List Int) (nv pv : Value) (nn : List Rg) (ps : List (List Rg)) (vs : List Value), pv = s4 ∧ nv = s5 ∧ i = .int .i64 pre.length ∧ Hid (pre ++ rest = E) ∧ Hid (PartT (keyL LL) (nextE rest) ps nn) ∧ Hid (nn.length ≤ pre.length ∧ ps.length ≤ pre.length ∧ ∀ l ∈ ps, l.length ≤ pre.length) ∧ Hid (PS wr w1.heap.size nv pv nn ps vs) ∧ Below w1.heap.size w1 wr) (fun _ _ i _ => E.length - (intOf i).toNat)
  case atStart => exact ⟨[], E, _, _, [], [], [], rfl, rfl, rfl, rfl, Lib.hid (by rw [HFS.out]; exact part_start _), Lib.hid ⟨by simp, by simp, by simp⟩, HP0, HB2.out⟩
  case round =>
    obtain ⟨pre, rest, nv, pv, nn, ps, vs, rfl, rfl, rfl, hA, hPT, hC, hP, hb⟩ := hrel
    obtain ⟨hC1, hC2, hC3⟩ := hC.out
    have hpl : pre.length ≤ E.length := by rw [← hA.out]; simp
    obtain ⟨an, cn, rfl, _, _⟩ := own_len hP.out.nset
    obtain ⟨ap, cp, rfl, hpc, hpm⟩ := own_len hP.out.row
    have hbw : Below w.heap.size w wr := HB1.out.trans (hb.mono HB1.out.size)
    rcases rest with _ | ⟨e, rest⟩
    · have e1 := hA.out
      rw [List.append_nil] at e1
      have hple : pre.length = E.length := by rw [e1]
      by_cases hn0 : nn.length = 0
      · obtain ⟨a', c', e3, h4, h5⟩ := sts_of_rows hP.out.row hP.out.each
        obtain ⟨rfl, rfl⟩ : ap = a' ∧ cp = c' := by simpa using e3
        have HX : Hid (∃ T R a c, Ending.returned (.slice ap ps.length cp) = .returned (.slice a (allP T R).length c) ∧ PartT (keyL LL) 1114112 T R ∧ Sts wr wr.heap.size a (allP T R) ∧ Below w.heap.size w wr) := Lib.hid ⟨ps, nn, ap, cp, by rw [allP_nil hn0], hPT.out, by rw [allP_nil hn0]; exact h5, hbw⟩
        clear e3 h5 hA hPT hP e1 hC hC3
        generalize ps.length = M at *
        generalize nn.length = K at *
        subst hn0
        go_wp2
        go_ret
        exact HX.out
      · have hn1 : 0 < nn.length := by omega
        have hw1 : w1.heap.size ≤ wr.heap.size := hb.size
        have hM : ps.length < 1000000 := by omega
        have HX := hP.out.row
        have hlen : (ps ++ [nn]).length = ps.length + 1 := by simp
        have HLEN := Lib.hid hlen
        have HAP := Lib.hid (allP_one (T := ps) hn0)
        clear hA hlen e1 hC hC3
        generalize hMM : ps.length = M at *
        generalize hKK : nn.length = K at *
        go_wp2_with (at_builtin; refine wp_app_set rfl _ _ rfl w1.heap.size _ M vs _ HX rfl an K cn 1 _ rfl rfl hM hw1 ?_)
        intro v' w' h1 h2 h3
        obtain ⟨a', c', rfl, k1, k2⟩ := own_len h1
        have hb5 : Below w.heap.size w w' := hbw.grown h2 hbw.size (fun k hk => by have h4 := (HX.lt k hk).1; have h5 := HB1.out.size; omega)
        rw [← HLEN.out] at h1
        obtain ⟨ao5, cap5, e3, h4, h5⟩ := sts_of_rows h1 (hP.out.fin h2)
        obtain ⟨rfl, rfl⟩ : a' = ao5 ∧ c' = cap5 := by
          rw [HLEN.out] at e3
          simpa using e3
        have HE : Hid (∃ T R a c, Ending.returned (.slice a' (M + 1) c') = .returned (.slice a (allP T R).length c) ∧ PartT (keyL LL) 1114112 T R ∧ Sts w' w'.heap.size a (allP T R) ∧ Below w.heap.size w w') := Lib.hid ⟨ps, nn, a', c', by rw [HAP.out, HLEN.out], hPT.out, by rw [HAP.out]; exact h5, hb5⟩
        clear e3 h5 h1 h2 h3 hP HX hPT
        go_wp2
        go_ret
        exact HE.out
    · have hlt : pre.length < E.length := by rw [← hA.out]; simp
      obtain ⟨ge, oe, rfl, hge, p0⟩ := HI.out _ _ _ hA.out
      have q0 := (hb.cell (p := ⟨ge, oe + pre.length, none⟩) hge).trans p0
      obtain ⟨her, hkc⟩ := HST.out pre e rest hA.out
      have hPT2 : PartT (keyL LL) e ps nn := hPT.out
      have hno := rnone_any ao LL cap e wr (by omega) HL.out ((HS.out.below hbw (Nat.le_refl _)).mono hbw.size)
      have HNO := Lib.hid hno; have HKC := Lib.hid hkc; have HPT := Lib.hid hPT2; have HBR := Lib.hid hb; have HQ0 := Lib.hid q0; have HPP := Lib.hid p0
      have hgr : ge < wr.heap.size := Nat.lt_of_lt_of_le hge hb.size
      have hwr1 : w1.heap.size ≤ wr.heap.size := hb.size
      clear hno hkc hPT hPT2 hb p0
      generalize hLL : LL.length = LN at *
      rcases rest with _ | ⟨e', rest⟩
      · have hla : pre.length + 1 = E.length := by rw [← hA.out]; simp
        have hnx : (1114111 : Int) + 1 = nextE [] := by simp only [nextE] <;> omega
        have her2 : 0 ≤ e ∧ e ≤ (1114111 : Int) ∧ (1114111 : Int) ≤ 1114111 := by simp only [nextE] at her; omega
        have HK2 : Hid (∀ x, e ≤ x → x ≤ (1114111 : Int) → keyL LL x = keyL LL e) := Lib.hid (fun x h1 h2 => HKC.out x h1 (by simp only [nextE]; omega))
        have hA2 : Hid ((pre ++ [e]) ++ [] = E) := Lib.hid (by rw [List.append_assoc]; exact hA.out)
        have HNX := Lib.hid hnx
        obtain ⟨her3, her4, her5⟩ := her2
        clear her HKC hA hnx
        go_wp2_with fail
        refine HNO.out.mono ?_
        rintro e1 w3 ⟨q, rfl, hq, b3⟩
        have q3 := (b3.cell (p := ⟨ge, oe + pre.length, none⟩) hgr).trans HQ0.out
        have HP3 := Lib.hid (hP.out.below b3)
        have HD3 := Lib.hid (HBR.out.trans (b3.mono hwr1))
        have HW3 := Lib.hid (hbw.trans (b3.mono hbw.size))
        have hw3 : w1.heap.size ≤ w3.heap.size := HD3.out.size
        clear b3 HNO HQ0 hP
        cases q
        · have hnk : ¬ NoK (keyL LL e) := fun h => by have := hq.2 h; cases this
          have HNK := Lib.hid hnk
          clear hq hnk
          generalize hMM : ps.length = M at *
          go_wp2_with fail
          go_loopw [8, 9] (fun s8 k wr => ∃ (p r : List (List Rg)) (z : Int), s8 = .int .i64 z ∧ k = .int .i64 p.length ∧ Hid (p ++ r = ps) ∧ Hid (FoundK (keyL LL) e p ps z) ∧ Hid (PS wr w1.heap.size (.slice an nn.length cn) (.slice ap M cp) nn ps vs) ∧ Below w3.heap.size w3 wr) (fun _ k _ => M - (intOf k).toNat)
          case atStart => exact ⟨[], ps, -1, rfl, rfl, rfl, Lib.hid (Or.inl ⟨rfl, by simp⟩), HP3, Below.refl _ _⟩
          case round =>
            obtain ⟨p, r, z, rfl, rfl, hA1, hF, hP1, hb1⟩ := hrel
            have k0 := (hb1.cell (p := ⟨ge, oe + pre.length, none⟩) (Nat.lt_of_lt_of_le hge hw3)).trans q3
            have HD4 := Lib.hid (HD3.out.trans (hb1.mono hw3))
            have HW4 := Lib.hid (HW3.out.trans (hb1.mono HW3.out.size))
            have hw4 : w1.heap.size ≤ wr.heap.size := HD4.out.size
            rcases r with _ | ⟨l, r⟩
            · have e1 := hA1.out
              rw [List.append_nil] at e1
              have hpM : p.length = M := by rw [e1, hMM]
              rcases hF.out with ⟨rfl, hfn⟩ | ⟨j, rfl, hj, l, hlj, hke⟩
              · have HT5 := Lib.hid (part_new (hi := (1114111 : Int)) HPT.out her3 her4 her5 HK2.out HNK.out (by rw [← e1]; exact hfn))
                rw [HNX.out] at HT5
                have hn9 : M < 1000000 := by omega
                have HXP := Lib.hid ((hP1.out.alloc (.cells #[.int .i32 e, .int .i32 ((1114111 : Int))] 41)).row)
                have HE := Lib.hid (one_rg wr w1.heap.size (e, (1114111 : Int)) hw4)
                have hz2 : (wr.alloc (.cells #[.int .i32 e, .int .i32 ((1114111 : Int))] 41)).heap.size = wr.heap.size + 1 := by simp
                have hw5 : w1.heap.size ≤ (wr.alloc (.cells #[.int .i32 e, .int .i32 ((1114111 : Int))] 41)).heap.size := by rw [hz2]; omega
                have hb2 := Lib.hid (HD4.out.alloc hw4 (.cells #[.int .i32 e, .int .i32 ((1114111 : Int))] 41))
                have HG2 := Lib.hid (World.grownBy_alloc wr (.cells #[.int .i32 e, .int .i32 ((1114111 : Int))] 41) none)
                have HF2 : Hid (∀ k, (Value.slice (some ⟨wr.heap.size, 0, none⟩) 1 1).ownBlock = some k → wr.heap.size ≤ k) := Lib.hid (fun k e => by simp only [Value.ownBlock, Option.some.injEq] at e; omega)
                have HX := HXP.out
                rw [hMM] at HX
                have HC5 : Hid (nn.length ≤ (pre ++ [e]).length ∧ (ps ++ [[(e, (1114111 : Int))]]).length ≤ (pre ++ [e]).length ∧ ∀ l ∈ ps ++ [[(e, (1114111 : Int))]], l.length ≤ (pre ++ [e]).length) := Lib.hid (by
                  rw [List.length_append, List.length_append, hMM]
                  refine ⟨by simp; omega, by simp; omega, fun l hl => ?_⟩
                  rcases List.mem_append.1 hl with hl | hl
                  · have := hC3 l hl; simp; omega
                  · rw [List.mem_singleton.1 hl]; simp)
                clear hF hfn hC hC3 e1
                go_wp2_with (at_builtin; refine wp_app_set rfl _ _ rfl w1.heap.size _ M vs _ HX rfl (some ⟨wr.heap.size, 0, none⟩) 1 1 1 _ rfl hz2 hn9 hw5 ?_)
                intro v' w' h1 h2 h3
                obtain ⟨a', c', rfl, k1, k2⟩ := own_len h1
                have hb5 := Lib.hid (hb2.out.grown h2 hw5 (fun k hk => (HX.lt k hk).1))
                have HPN := Lib.hid (hP1.out.push HG2.out HE.out HF2.out h2 (by rw [List.length_append, hMM]; exact h1) (fun k e => by rw [hz2]; exact h3 k e))
                clear h1 h2 h3 hP1 k0 HX HXP HE HF2 HG2 hb2
                go_wp2
                go_roundw
                case rel => exact ⟨pre ++ [e], [], _, _, _, _, _, rfl, rfl, by simp, hA2, HT5, HC5, HPN, hb5.out⟩
                case measure => simp [intOf]; omega
              · have HT5 := Lib.hid (part_put (hi := (1114111 : Int)) HPT.out her3 her4 her5 HK2.out HNK.out hlj hke)
                rw [HNX.out] at HT5
                have hjM : j < M := by omega
                have hjZ : (j : Int) < (M : Int) := by omega
                have hj1 : j < M * 1 := by omega
                have hcan := HPT.out.can l (List.mem_of_getElem? hlj)
                have hl9 := hC3 l (List.mem_of_getElem? hlj)
                obtain ⟨u, hu⟩ : ∃ u, vs[j]? = some u := ⟨vs[j]'(by have := hP1.out.len; omega), List.getElem?_eq_getElem _⟩
                have hE := hP1.out.each j u l hu hlj
                obtain ⟨au, cu, rfl, _, _⟩ := own_len hE
                obtain ⟨gp, rfl⟩ : ∃ gp, ap = some ⟨gp, 0, none⟩ := by
                  rcases hP1.out.row.2 with ⟨h0, _⟩ | ⟨g', cap', cur, e, _⟩
                  · simp at h0; omega
                  · simp at e; exact ⟨g', e.1⟩
                have hrow := hP1.out.row
                rw [hMM] at hrow
                have ci : wr.cell? ⟨gp, j, none⟩ = some (.slice au l.length cu) := by rw [hrow.cellAt j hj1]; exact hu
                have HC5 : Hid (nn.length ≤ (pre ++ [e]).length ∧ (ps.set j (joinL l (e, (1114111 : Int)))).length ≤ (pre ++ [e]).length ∧ ∀ m ∈ ps.set j (joinL l (e, (1114111 : Int))), m.length ≤ (pre ++ [e]).length) := Lib.hid (by
                  rw [List.length_append, List.length_set, hMM]
                  refine ⟨by simp; omega, by simp; omega, fun m hm => ?_⟩
                  rcases List.mem_or_eq_of_mem_set hm with hm | hm
                  · have := hC3 m hm; simp; omega
                  · have := joinL_length l (e, (1114111 : Int)); rw [hm]; simp; omega)
                have HU := Lib.hid hu; have HLJ := Lib.hid hlj; have HCAN := Lib.hid hcan
                have HE0 : Hid (wr.drew.ownsRow w1.heap.size 41 2 (.slice au l.length cu) l.length (rgCells l)) := Lib.hid hE
                have HP0' : Hid (PS wr.drew w1.heap.size (.slice an nn.length cn) (.slice (some ⟨gp, 0, none⟩) M cp) nn ps vs) := Lib.hid (hP1.out.grown (grown_drew ⟨rfl, rfl, rfl, Nat.le_refl _, fun _ _ _ => rfl⟩))
                have HD5 : Hid (Below w1.heap.size w1 wr.drew) := Lib.hid ⟨HD4.out.os, HD4.out.tape, HD4.out.output, HD4.out.size, HD4.out.block⟩
                have hw0 : w1.heap.size ≤ wr.drew.heap.size := hw4
                have d0 : wr.drew.cell? ⟨gp, j, none⟩ = some (.slice au l.length cu) := ci
                have d1 : wr.drew.cell? ⟨ge, oe + pre.length, none⟩ = some (.int .i32 e) := k0
                have hl8 : l.length < 900000 := by omega
                clear hF hC hC3 e1 hu hlj hE hrow ci hcan k0 hke
                go_wp2_with fail
                refine wp_region_held_drew (S := fun w' => w'.cell? ⟨ge, oe + pre.length, none⟩ = some (.int .i32 e)) (by kernel_rfl) ?_ (fun hHeld => ?_)
                · exact d1
                try dsimp only at hHeld
                generalize wr.drew = w0 at *
                refine wpAnyH_take (i := 0) (v := ?vxp1) rfl (by kernel_rfl) (by kernel_rfl) (by kernel_rfl) (fun _ _ _ h => h) (Or.inl ⟨by rfl, ?hyxp1⟩) (by assumption) ?restxp1
                case hyxp1 => (intro W9 hSw; (try dsimp only at hSw); go_simp; try with_reducible rfl)
                try simp only [List.getElem_toArray, List.getElem_cons_zero, Act.put, List.setIfInBounds_toArray, List.set_cons_zero, List.set_cons_succ]
                refine wpAnyH_take (i := 1) (v := ?vxp2) rfl (by kernel_rfl) (by kernel_rfl) (by kernel_rfl) (fun _ _ _ h => h) (Or.inl ⟨by rfl, ?hyxp2⟩) (by assumption) ?restxp2
                case hyxp2 => (intro W9 hSw; (try dsimp only at hSw); go_simp; try with_reducible rfl)
                try simp only [List.getElem_toArray, List.getElem_cons_zero, List.getElem_cons_succ, Act.put, List.setIfInBounds_toArray, List.set_cons_zero, List.set_cons_succ]
                refine wpAnyH_take (i := 2) (v := ?vxp3) rfl (by kernel_rfl) (by kernel_rfl) (by kernel_rfl) (fun _ _ _ h => h) (Or.inl ⟨by rfl, ?hyxp3⟩) (by assumption) ?restxp3
                case hyxp3 => (intro W9 hSw; (try dsimp only at hSw); go_simp; try with_reducible rfl)
                try simp only [List.getElem_toArray, List.getElem_cons_zero, List.getElem_cons_succ, Act.put, List.setIfInBounds_toArray, List.set_cons_zero, List.set_cons_succ]
                refine wpAnyH_take (i := 3) (v := ?vxp4) rfl (by kernel_rfl) (by kernel_rfl) (by kernel_rfl) (fun _ _ _ h => h) (Or.inl ⟨by rfl, ?hyxp4⟩) (by assumption) ?restxp4
                case hyxp4 => (intro W9 hSw; (try dsimp only at hSw); go_simp; try with_reducible rfl)
                try simp only [List.getElem_toArray, List.getElem_cons_zero, List.getElem_cons_succ, Act.put, List.setIfInBounds_toArray, List.set_cons_zero, List.set_cons_succ]
                refine wpAnyH_take (i := 4) (v := ?vxp5) rfl (by kernel_rfl) (by kernel_rfl) (by kernel_rfl) (fun _ _ _ h => h) (Or.inl ⟨by rfl, ?hyxp5⟩) (by assumption) ?restxp5
                case hyxp5 => (intro W9 hSw; (try dsimp only at hSw); go_simp; try with_reducible rfl)
                try simp only [List.getElem_toArray, List.getElem_cons_zero, List.getElem_cons_succ, Act.put, List.setIfInBounds_toArray, List.set_cons_zero, List.set_cons_succ]
                refine wpAnyH_take (i := 6) (v := ?vxp6) rfl (by kernel_rfl) (by kernel_rfl) (by kernel_rfl) (fun _ _ _ h => h) (Or.inl ⟨by rfl, ?hyxp6⟩) (by assumption) ?restxp6
                case hyxp6 => (intro W9 hSw; (try dsimp only at hSw); go_simp; try with_reducible rfl)
                try simp only [List.getElem_toArray, List.getElem_cons_zero, List.getElem_cons_succ, Act.put, List.setIfInBounds_toArray, List.set_cons_zero, List.set_cons_succ]
                refine wpAnyH_take (i := 7) (v := ?vxp7) rfl (by kernel_rfl) (by kernel_rfl) (by kernel_rfl) (fun _ _ _ h => h) (Or.inl ⟨by rfl, ?hyxp7⟩) (by assumption) ?restxp7
                case hyxp7 => (intro W9 hSw; (try dsimp only at hSw); go_simp; try with_reducible rfl)
                try simp only [List.getElem_toArray, List.getElem_cons_zero, List.getElem_cons_succ, Act.put, List.setIfInBounds_toArray, List.set_cons_zero, List.set_cons_succ]
                refine wpAnyH_take (i := 8) (v := ?vxp8) rfl (by kernel_rfl) (by kernel_rfl) (by kernel_rfl) (fun _ _ _ h => h) (Or.inl ⟨by rfl, ?hyxp8⟩) (by assumption) ?restxp8
                case hyxp8 => (intro W9 hSw; (try dsimp only at hSw); go_simp; try with_reducible rfl)
                try simp only [List.getElem_toArray, List.getElem_cons_zero, List.getElem_cons_succ, Act.put, List.setIfInBounds_toArray, List.set_cons_zero, List.set_cons_succ]
                refine wpAnyH_take (i := 9) (v := ?vxp9) rfl (by kernel_rfl) (by kernel_rfl) (by kernel_rfl) (fun _ _ _ h => h) (Or.inl ⟨by rfl, ?hyxp9⟩) (by assumption) ?restxp9
                case hyxp9 => (intro W9 hSw; (try dsimp only at hSw); go_simp; try with_reducible rfl)
                try simp only [List.getElem_toArray, List.getElem_cons_zero, List.getElem_cons_succ, Act.put, List.setIfInBounds_toArray, List.set_cons_zero, List.set_cons_succ]
                refine wpAnyH_take (i := 10) (v := ?vxp10) rfl (by kernel_rfl) (by kernel_rfl) (by kernel_rfl) (fun _ _ _ h => h) (Or.inl ⟨by rfl, ?hyxp10⟩) (by assumption) ?restxp10
                case hyxp10 => (intro W9 hSw; (try dsimp only at hSw); go_simp; try with_reducible rfl)
                try simp only [List.getElem_toArray, List.getElem_cons_zero, List.getElem_cons_succ, Act.put, List.setIfInBounds_toArray, List.set_cons_zero, List.set_cons_succ]
                refine wpAnyH_ready (rs := [5]) (by kernel_rfl) (by simp) ?_
                refine AllReadyH.cons rfl (fun K hK => ?_) AllReadyH.nil
                go_simp
                refine hK.out _ _ ?_ (fun hHeld => ?_)
                · exact d1
                clear hK K
                try dsimp only at hHeld
                try simp only [List.getElem_toArray, List.getElem_cons_zero, List.getElem_cons_succ, Act.put, List.setIfInBounds_toArray, List.set_cons_zero, List.set_cons_succ]
                refine wpAnyH_ready (rs := [11]) (by kernel_rfl) (by simp) ?_
                refine AllReadyH.cons rfl (fun K hK => ?_) AllReadyH.nil
                go_simp
                refine (rjoin3_any _ l w1.heap.size e ((1114111 : Int)) w0 HE0.out hw0 hl8 HCAN.out.1.2).mono ?_
                rintro e2 w5 ⟨v5, rfl, h1, h2, h3⟩
                obtain ⟨a5, c5, rfl, _, _⟩ := own_len h1
                have hrow5 := HP0'.out.row.kept h2 (HP0'.out.apart (j + 2) 1 _ _ (by simp) (by simpa using HU.out) rfl).ne
                rw [hMM] at hrow5
                have k5 : w5.cell? ⟨gp, j, none⟩ = some (.slice au l.length cu) := by rw [hrow5.cellAt j hj1]; exact HU.out
                have f5 := row_frozen hrow5 j
                have HPN := Lib.hid (HP0'.out.set HU.out HLJ.out h2 h1 h3)
                have hb5 := HD5.out.grown h2 hw0 (fun k hk => (HE0.out.lt k hk).1)
                have HB6 := Lib.hid (hb5.setCell (p := ⟨gp, j, none⟩) (HP0'.out.row.lt gp rfl).1 (.slice a5 (joinL l (e, (1114111 : Int))).length c5))
                have d5 := (hb5.cell (p := ⟨ge, oe + pre.length, none⟩) hge).trans HPP.out
                have D6 := Lib.hid ((HB6.out.cell (p := ⟨ge, oe + pre.length, none⟩) hge).trans HPP.out)
                clear h1 h2 h3 hrow5 hb5 d0 d1
                generalize (joinL l (e, (1114111 : Int))).length = JL at *
                go_wp2_with fail
                refine hK.out _ _ ?_ (fun hHeld => ?_)
                · exact d5
                clear hK K
                try dsimp only at hHeld
                try simp only [List.getElem_toArray, List.getElem_cons_zero, List.getElem_cons_succ, Act.put, List.setIfInBounds_toArray, List.set_cons_zero, List.set_cons_succ]
                refine wpAnyH_take (i := 12) (v := ?vxp11) rfl (by kernel_rfl) (by kernel_rfl) (by kernel_rfl) (fun _ _ _ h => h) (Or.inl ⟨by rfl, ?hyxp11⟩) (by assumption) ?restxp11
                case hyxp11 => (intro W9 hSw; (try dsimp only at hSw); go_simp; try with_reducible rfl)
                try simp only [List.getElem_toArray, List.getElem_cons_zero, List.getElem_cons_succ, Act.put, List.setIfInBounds_toArray, List.set_cons_zero, List.set_cons_succ]
                refine wpAnyH_ready (rs := [13]) (by kernel_rfl) (by simp) ?_
                refine AllReadyH.cons rfl (fun K hK => ?_) AllReadyH.nil
                go_simp
                refine hK.out _ _ ?_ (fun hHeld => ?_)
                · exact D6.out
                clear hK K
                try dsimp only at hHeld
                try simp only [List.getElem_toArray, List.getElem_cons_zero, List.getElem_cons_succ, Act.put, List.setIfInBounds_toArray, List.set_cons_zero, List.set_cons_succ]
                refine wpAnyH_done (by kernel_rfl) ?_ _
                clear hHeld
                go_wp2
                go_roundw
                case rel => exact ⟨pre ++ [e], [], _, _, _, _, _, rfl, rfl, by simp, hA2, HT5, HC5, HPN, HB6.out⟩
                case measure => simp [intOf]; omega
            · have hlM : p.length < M := by rw [← hMM, ← hA1.out]; simp
              have hlj : ps[p.length]? = some l := by rw [← hA1.out]; simp
              have hA3 : Hid ((p ++ [l]) ++ r = ps) := Lib.hid (by rw [List.append_assoc]; exact hA1.out)
              have hj1 : p.length < M * 1 := by omega
              have hcan := HPT.out.can l (List.mem_of_getElem? hlj)
              obtain ⟨u, hu⟩ : ∃ u, vs[p.length]? = some u := ⟨vs[p.length]'(by have := hP1.out.len; omega), List.getElem?_eq_getElem _⟩
              have hE := hP1.out.each p.length u l hu hlj
              obtain ⟨gl, cu, rfl, cl, hgl⟩ := own_first hE hcan.2
              have hl0 : 0 < l.length := List.length_pos_iff.2 hcan.2
              obtain ⟨gp, rfl⟩ : ∃ gp, ap = some ⟨gp, 0, none⟩ := by
                rcases hP1.out.row.2 with ⟨h0, _⟩ | ⟨g', cap', cur, e, _⟩
                · simp at h0; omega
                · simp at e; exact ⟨g', e.1⟩
              have hrow := hP1.out.row
              rw [hMM] at hrow
              have hgp := (hrow.lt gp rfl).2
              have ci : wr.drew.cell? ⟨gp, p.length, none⟩ = some (.slice (some ⟨gl, 0, none⟩) l.length cu) := by
                show wr.cell? ⟨gp, p.length, none⟩ = _
                rw [hrow.cellAt p.length hj1]; exact hu
              have d1 : wr.drew.cell? ⟨ge, oe + pre.length, none⟩ = some (.int .i32 e) := k0
              have d2 : wr.drew.cell? ⟨gl, 0, none⟩ = some (.int .i32 (hd l)) := cl
              have HP0' : Hid (PS wr.drew w1.heap.size (.slice an nn.length cn) (.slice (some ⟨gp, 0, none⟩) M cp) nn ps vs) := Lib.hid (hP1.out.grown (grown_drew ⟨rfl, rfl, rfl, Nat.le_refl _, fun _ _ _ => rfl⟩))
              have HD5 : Hid (Below w3.heap.size w3 wr.drew) := Lib.hid ⟨hb1.os, hb1.tape, hb1.output, hb1.size, hb1.block⟩
              have hwr : Below w.heap.size w wr.drew := ⟨HW4.out.os, HW4.out.tape, HW4.out.output, HW4.out.size, HW4.out.block⟩
              have hal := ralike_any ao LL cap (hd l) e wr.drew (by omega) HL.out ((HS.out.below hwr (Nat.le_refl _)).mono hwr.size)
              rw [hLL] at hal
              have HAL := Lib.hid hal
              have hgE : ge < wr.drew.heap.size := Nat.lt_of_lt_of_le hge hw4
              have hgL : gl < wr.drew.heap.size := hgl
              have hgP : gp < wr.drew.heap.size := hgp
              have hsz0 : w3.heap.size ≤ wr.drew.heap.size := hb1.size
              generalize hhd : hd l = hdl at *
              clear hal hE hrow hu hcan cl k0 hwr hP1 hb1 HD4 HW4
              go_wp2_with fail
              refine wp_region_held_drew (S := fun w' => w'.cell? ⟨ge, oe + pre.length, none⟩ = some (.int .i32 e) ∧ w'.cell? ⟨gp, p.length, none⟩ = some (.slice (some ⟨gl, 0, none⟩) l.length cu) ∧ w'.cell? ⟨gl, 0, none⟩ = some (.int .i32 hdl)) (by kernel_rfl) ?_ (fun hHeld => ?_)
              · exact ⟨d1, ci, d2⟩
              try dsimp only at hHeld
              generalize wr.drew = w0 at *
              refine wpAnyH_take (i := 0) (v := ?vxa1) rfl (by kernel_rfl) (by kernel_rfl) (by kernel_rfl) (fun _ _ _ h => h) (Or.inl ⟨by rfl, ?hyxa1⟩) (by assumption) ?restxa1
              case hyxa1 => (intro W9 hSw; (try dsimp only at hSw); go_simp; try with_reducible rfl)
              try simp only [List.getElem_toArray, List.getElem_cons_zero, Act.put, List.setIfInBounds_toArray, List.set_cons_zero, List.set_cons_succ]
              refine wpAnyH_take (i := 1) (v := ?vxa2) rfl (by kernel_rfl) (by kernel_rfl) (by kernel_rfl) (fun _ _ _ h => h) (Or.inl ⟨by rfl, ?hyxa2⟩) (by assumption) ?restxa2
              case hyxa2 => (intro W9 hSw; (try dsimp only at hSw); go_simp; try with_reducible rfl)
              try simp only [List.getElem_toArray, List.getElem_cons_zero, List.getElem_cons_succ, Act.put, List.setIfInBounds_toArray, List.set_cons_zero, List.set_cons_succ]
              refine wpAnyH_take (i := 2) (v := ?vxa3) rfl (by kernel_rfl) (by kernel_rfl) (by kernel_rfl) (fun _ _ _ h => h) (Or.inl ⟨by rfl, ?hyxa3⟩) (by assumption) ?restxa3
              case hyxa3 => (intro W9 hSw; (try dsimp only at hSw); go_simp; try with_reducible rfl)
              try simp only [List.getElem_toArray, List.getElem_cons_zero, List.getElem_cons_succ, Act.put, List.setIfInBounds_toArray, List.set_cons_zero, List.set_cons_succ]
              refine wpAnyH_take (i := 3) (v := ?vxa4) rfl (by kernel_rfl) (by kernel_rfl) (by kernel_rfl) (fun _ _ _ h => h) (Or.inl ⟨by rfl, ?hyxa4⟩) (by assumption) ?restxa4
              case hyxa4 => (intro W9 hSw; (try dsimp only at hSw); go_simp; try with_reducible rfl)
              try simp only [List.getElem_toArray, List.getElem_cons_zero, List.getElem_cons_succ, Act.put, List.setIfInBounds_toArray, List.set_cons_zero, List.set_cons_succ]
              refine wpAnyH_take (i := 4) (v := ?vxa5) rfl (by kernel_rfl) (by kernel_rfl) (by kernel_rfl) (fun _ _ _ h => h) (Or.inl ⟨by rfl, ?hyxa5⟩) (by assumption) ?restxa5
              case hyxa5 => (intro W9 hSw; (try dsimp only at hSw); go_simp; try with_reducible rfl)
              try simp only [List.getElem_toArray, List.getElem_cons_zero, List.getElem_cons_succ, Act.put, List.setIfInBounds_toArray, List.set_cons_zero, List.set_cons_succ]
              refine wpAnyH_take (i := 5) (v := ?vxa6) rfl (by kernel_rfl) (by kernel_rfl) (by kernel_rfl) (fun _ _ _ h => h) (Or.inl ⟨by rfl, ?hyxa6⟩) (by assumption) ?restxa6
              case hyxa6 => (intro W9 hSw; (try dsimp only at hSw); go_simp; try with_reducible rfl)
              try simp only [List.getElem_toArray, List.getElem_cons_zero, List.getElem_cons_succ, Act.put, List.setIfInBounds_toArray, List.set_cons_zero, List.set_cons_succ]
              refine wpAnyH_take (i := 6) (v := ?vxa7) rfl (by kernel_rfl) (by kernel_rfl) (by kernel_rfl) (fun _ _ _ h => h) (Or.inl ⟨by rfl, ?hyxa7⟩) (by assumption) ?restxa7
              case hyxa7 => (intro W9 hSw; (try dsimp only at hSw); go_simp; try with_reducible rfl)
              try simp only [List.getElem_toArray, List.getElem_cons_zero, List.getElem_cons_succ, Act.put, List.setIfInBounds_toArray, List.set_cons_zero, List.set_cons_succ]
              refine wpAnyH_take (i := 7) (v := ?vxa8) rfl (by kernel_rfl) (by kernel_rfl) (by kernel_rfl) (fun _ _ _ h => h) (Or.inl ⟨by rfl, ?hyxa8⟩) (by assumption) ?restxa8
              case hyxa8 => (intro W9 hSw; (try dsimp only at hSw); go_simp; try with_reducible rfl)
              try simp only [List.getElem_toArray, List.getElem_cons_zero, List.getElem_cons_succ, Act.put, List.setIfInBounds_toArray, List.set_cons_zero, List.set_cons_succ]
              refine wpAnyH_take (i := 8) (v := ?vxa9) rfl (by kernel_rfl) (by kernel_rfl) (by kernel_rfl) (fun _ _ _ h => h) (Or.inl ⟨by rfl, ?hyxa9⟩) (by assumption) ?restxa9
              case hyxa9 => (intro W9 hSw; (try dsimp only at hSw); go_simp; try with_reducible rfl)
              try simp only [List.getElem_toArray, List.getElem_cons_zero, List.getElem_cons_succ, Act.put, List.setIfInBounds_toArray, List.set_cons_zero, List.set_cons_succ]
              refine wpAnyH_take (i := 9) (v := ?vxa10) rfl (by kernel_rfl) (by kernel_rfl) (by kernel_rfl) (fun _ _ _ h => h) (Or.inl ⟨by rfl, ?hyxa10⟩) (by assumption) ?restxa10
              case hyxa10 => (intro W9 hSw; (try dsimp only at hSw); go_simp; try with_reducible rfl)
              try simp only [List.getElem_toArray, List.getElem_cons_zero, List.getElem_cons_succ, Act.put, List.setIfInBounds_toArray, List.set_cons_zero, List.set_cons_succ]
              refine wpAnyH_take (i := 10) (v := ?vxa11) rfl (by kernel_rfl) (by kernel_rfl) (by kernel_rfl) (fun _ _ _ h => h) (Or.inl ⟨by rfl, ?hyxa11⟩) (by assumption) ?restxa11
              case hyxa11 => (intro W9 hSw; (try dsimp only at hSw); go_simp; try with_reducible rfl)
              try simp only [List.getElem_toArray, List.getElem_cons_zero, List.getElem_cons_succ, Act.put, List.setIfInBounds_toArray, List.set_cons_zero, List.set_cons_succ]
              refine wpAnyH_take (i := 11) (v := ?vxa12) rfl (by kernel_rfl) (by kernel_rfl) (by kernel_rfl) (fun _ _ _ h => h) (Or.inl ⟨by rfl, ?hyxa12⟩) (by assumption) ?restxa12
              case hyxa12 => (intro W9 hSw; (try dsimp only at hSw); go_simp; try with_reducible rfl)
              try simp only [List.getElem_toArray, List.getElem_cons_zero, List.getElem_cons_succ, Act.put, List.setIfInBounds_toArray, List.set_cons_zero, List.set_cons_succ]
              refine wpAnyH_ready (rs := [12]) (by kernel_rfl) (by simp) ?_
              refine AllReadyH.cons rfl (fun K hK => ?_) AllReadyH.nil
              go_simp
              refine HAL.out.mono ?_
              rintro e2 w5 ⟨q, rfl, hq, b5⟩
              have d15 := (b5.cell (p := ⟨ge, oe + pre.length, none⟩) hgE).trans d1
              have ci5 := (b5.cell (p := ⟨gp, p.length, none⟩) hgP).trans ci
              have d25 := (b5.cell (p := ⟨gl, 0, none⟩) hgL).trans d2
              have HP5 := Lib.hid (HP0'.out.below b5)
              have HD6 := Lib.hid (HD5.out.trans (b5.mono hsz0))
              have HFY : Hid (q = true → FoundK (keyL LL) e (p ++ [l]) ps (p.length : Int)) := Lib.hid (fun h => FoundK.yes hA1.out (by rw [hhd]; exact hq.1 h))
              have HFN : Hid (q = false → FoundK (keyL LL) e (p ++ [l]) ps z) := Lib.hid (fun h => hF.out.no (by rw [hhd]; intro h2; have := hq.2 h2; rw [h] at this; cases this))
              clear b5 hq d1 ci d2 hF
              go_wp2_with fail
              refine hK.out _ _ ?_ (fun hHeld => ?_)
              · exact ⟨d15, ci5, d25⟩
              clear hK K
              try dsimp only at hHeld
              try simp only [List.getElem_toArray, List.getElem_cons_zero, List.getElem_cons_succ, Act.put, List.setIfInBounds_toArray, List.set_cons_zero, List.set_cons_succ]
              refine wpAnyH_done (by kernel_rfl) ?_ _
              clear hHeld
              clear d15 ci5 d25
              cases q
              · go_wp2
                go_roundw
                case rel => exact ⟨p ++ [l], r, z, rfl, by simp, hA3, Lib.hid (HFN.out rfl), HP5, HD6.out⟩
                case measure => simp [intOf]; omega
              · go_wp2
                go_roundw
                case rel => exact ⟨p ++ [l], r, _, rfl, by simp, hA3, Lib.hid (HFY.out rfl), HP5, HD6.out⟩
                case measure => simp [intOf]; omega
        · have hnk : NoK (keyL LL e) := hq.1 rfl
          have HT5 := Lib.hid (part_rest (hi := (1114111 : Int)) HPT.out her3 her4 her5 HK2.out hnk)
          rw [HNX.out] at HT5
          have hnl : nn.length < 900000 := by omega
          have HX := HP3.out.nset
          have HCR := Lib.hid HPT.out.canR.2
          have HC5 : Hid ((joinL nn (e, (1114111 : Int))).length ≤ (pre ++ [e]).length ∧ ps.length ≤ (pre ++ [e]).length ∧ ∀ l ∈ ps, l.length ≤ (pre ++ [e]).length) := Lib.hid (by
            have := joinL_length nn (e, (1114111 : Int))
            rw [List.length_append]
            refine ⟨by simp; omega, by simp; omega, fun l hl => ?_⟩
            have := hC3 l hl; simp; omega)
          clear hq hnk hC hC3
          go_wp2_with fail
          refine (rjoin3_any _ nn w1.heap.size e ((1114111 : Int)) w3 HX hw3 hnl HCR.out).mono ?_
          rintro e2 w4 ⟨v4, rfl, o4, g4, f4⟩
          have HP4 := Lib.hid (HP3.out.put_none g4 o4 f4)
          have HD4 := Lib.hid (HD3.out.grown g4 hw3 (fun k hk => (HX.lt k hk).1))
          clear o4 g4 f4 HX HP3
          go_wp2
          go_roundw
          case rel => exact ⟨pre ++ [e], [], _, _, _, ps, vs, rfl, rfl, by simp, hA2, HT5, HC5, HP4, HD4.out⟩
          case measure => simp [intOf]; omega
      · have hlb : pre.length + 1 < E.length := by rw [← hA.out]; simp
        have hA9 : (pre ++ [e]) ++ e' :: rest = E := by rw [List.append_assoc]; exact hA.out
        have hn := ins_at HI.out hA9 rfl
        have r0 := (HBR.out.cell (p := ⟨ge, oe + (pre ++ [e]).length, none⟩) hn.2).trans hn.1
        rw [List.length_append, List.length_cons, List.length_nil, Nat.zero_add] at r0
        have hep : 0 ≤ e' - 1 ∧ e' - 1 ≤ 1114111 := by simp only [nextE] at her; omega
        clear hn hA9
        have hnx : (e' - 1) + 1 = nextE (e' :: rest) := by simp only [nextE] <;> omega
        have her2 : 0 ≤ e ∧ e ≤ (e' - 1) ∧ (e' - 1) ≤ 1114111 := by simp only [nextE] at her; omega
        have HK2 : Hid (∀ x, e ≤ x → x ≤ (e' - 1) → keyL LL x = keyL LL e) := Lib.hid (fun x h1 h2 => HKC.out x h1 (by simp only [nextE]; omega))
        have hA2 : Hid ((pre ++ [e]) ++ (e' :: rest) = E) := Lib.hid (by rw [List.append_assoc]; exact hA.out)
        have HNX := Lib.hid hnx
        obtain ⟨her3, her4, her5⟩ := her2
        clear her HKC hA hnx
        go_wp2_with fail
        refine HNO.out.mono ?_
        rintro e1 w3 ⟨q, rfl, hq, b3⟩
        have q3 := (b3.cell (p := ⟨ge, oe + pre.length, none⟩) hgr).trans HQ0.out
        have HP3 := Lib.hid (hP.out.below b3)
        have HD3 := Lib.hid (HBR.out.trans (b3.mono hwr1))
        have HW3 := Lib.hid (hbw.trans (b3.mono hbw.size))
        have hw3 : w1.heap.size ≤ w3.heap.size := HD3.out.size
        clear b3 HNO HQ0 hP
        cases q
        · have hnk : ¬ NoK (keyL LL e) := fun h => by have := hq.2 h; cases this
          have HNK := Lib.hid hnk
          clear hq hnk
          generalize hMM : ps.length = M at *
          go_wp2_with fail
          go_loopw [8, 9] (fun s8 k wr => ∃ (p r : List (List Rg)) (z : Int), s8 = .int .i64 z ∧ k = .int .i64 p.length ∧ Hid (p ++ r = ps) ∧ Hid (FoundK (keyL LL) e p ps z) ∧ Hid (PS wr w1.heap.size (.slice an nn.length cn) (.slice ap M cp) nn ps vs) ∧ Below w3.heap.size w3 wr) (fun _ k _ => M - (intOf k).toNat)
          case atStart => exact ⟨[], ps, -1, rfl, rfl, rfl, Lib.hid (Or.inl ⟨rfl, by simp⟩), HP3, Below.refl _ _⟩
          case round =>
            obtain ⟨p, r, z, rfl, rfl, hA1, hF, hP1, hb1⟩ := hrel
            have k0 := (hb1.cell (p := ⟨ge, oe + pre.length, none⟩) (Nat.lt_of_lt_of_le hge hw3)).trans q3
            have HD4 := Lib.hid (HD3.out.trans (hb1.mono hw3))
            have HW4 := Lib.hid (HW3.out.trans (hb1.mono HW3.out.size))
            have hw4 : w1.heap.size ≤ wr.heap.size := HD4.out.size
            rcases r with _ | ⟨l, r⟩
            · have e1 := hA1.out
              rw [List.append_nil] at e1
              have hpM : p.length = M := by rw [e1, hMM]
              rcases hF.out with ⟨rfl, hfn⟩ | ⟨j, rfl, hj, l, hlj, hke⟩
              · have HT5 := Lib.hid (part_new (hi := (e' - 1)) HPT.out her3 her4 her5 HK2.out HNK.out (by rw [← e1]; exact hfn))
                rw [HNX.out] at HT5
                have hn9 : M < 1000000 := by omega
                have HXP := Lib.hid ((hP1.out.alloc (.cells #[.int .i32 e, .int .i32 ((e' - 1))] 41)).row)
                have HE := Lib.hid (one_rg wr w1.heap.size (e, (e' - 1)) hw4)
                have hz2 : (wr.alloc (.cells #[.int .i32 e, .int .i32 ((e' - 1))] 41)).heap.size = wr.heap.size + 1 := by simp
                have hw5 : w1.heap.size ≤ (wr.alloc (.cells #[.int .i32 e, .int .i32 ((e' - 1))] 41)).heap.size := by rw [hz2]; omega
                have hb2 := Lib.hid (HD4.out.alloc hw4 (.cells #[.int .i32 e, .int .i32 ((e' - 1))] 41))
                have HG2 := Lib.hid (World.grownBy_alloc wr (.cells #[.int .i32 e, .int .i32 ((e' - 1))] 41) none)
                have HF2 : Hid (∀ k, (Value.slice (some ⟨wr.heap.size, 0, none⟩) 1 1).ownBlock = some k → wr.heap.size ≤ k) := Lib.hid (fun k e => by simp only [Value.ownBlock, Option.some.injEq] at e; omega)
                have HX := HXP.out
                rw [hMM] at HX
                have HC5 : Hid (nn.length ≤ (pre ++ [e]).length ∧ (ps ++ [[(e, (e' - 1))]]).length ≤ (pre ++ [e]).length ∧ ∀ l ∈ ps ++ [[(e, (e' - 1))]], l.length ≤ (pre ++ [e]).length) := Lib.hid (by
                  rw [List.length_append, List.length_append, hMM]
                  refine ⟨by simp; omega, by simp; omega, fun l hl => ?_⟩
                  rcases List.mem_append.1 hl with hl | hl
                  · have := hC3 l hl; simp; omega
                  · rw [List.mem_singleton.1 hl]; simp)
                clear hF hfn hC hC3 e1
                go_wp2_with (at_builtin; refine wp_app_set rfl _ _ rfl w1.heap.size _ M vs _ HX rfl (some ⟨wr.heap.size, 0, none⟩) 1 1 1 _ rfl hz2 hn9 hw5 ?_)
                intro v' w' h1 h2 h3
                obtain ⟨a', c', rfl, k1, k2⟩ := own_len h1
                have hb5 := Lib.hid (hb2.out.grown h2 hw5 (fun k hk => (HX.lt k hk).1))
                have HPN := Lib.hid (hP1.out.push HG2.out HE.out HF2.out h2 (by rw [List.length_append, hMM]; exact h1) (fun k e => by rw [hz2]; exact h3 k e))
                clear h1 h2 h3 hP1 k0 HX HXP HE HF2 HG2 hb2
                go_wp2
                go_roundw
                case rel => exact ⟨pre ++ [e], (e' :: rest), _, _, _, _, _, rfl, rfl, by simp, hA2, HT5, HC5, HPN, hb5.out⟩
                case measure => simp [intOf]; omega
              · have HT5 := Lib.hid (part_put (hi := (e' - 1)) HPT.out her3 her4 her5 HK2.out HNK.out hlj hke)
                rw [HNX.out] at HT5
                have hjM : j < M := by omega
                have hjZ : (j : Int) < (M : Int) := by omega
                have hj1 : j < M * 1 := by omega
                have hcan := HPT.out.can l (List.mem_of_getElem? hlj)
                have hl9 := hC3 l (List.mem_of_getElem? hlj)
                obtain ⟨u, hu⟩ : ∃ u, vs[j]? = some u := ⟨vs[j]'(by have := hP1.out.len; omega), List.getElem?_eq_getElem _⟩
                have hE := hP1.out.each j u l hu hlj
                obtain ⟨au, cu, rfl, _, _⟩ := own_len hE
                obtain ⟨gp, rfl⟩ : ∃ gp, ap = some ⟨gp, 0, none⟩ := by
                  rcases hP1.out.row.2 with ⟨h0, _⟩ | ⟨g', cap', cur, e, _⟩
                  · simp at h0; omega
                  · simp at e; exact ⟨g', e.1⟩
                have hrow := hP1.out.row
                rw [hMM] at hrow
                have ci : wr.cell? ⟨gp, j, none⟩ = some (.slice au l.length cu) := by rw [hrow.cellAt j hj1]; exact hu
                have HC5 : Hid (nn.length ≤ (pre ++ [e]).length ∧ (ps.set j (joinL l (e, (e' - 1)))).length ≤ (pre ++ [e]).length ∧ ∀ m ∈ ps.set j (joinL l (e, (e' - 1))), m.length ≤ (pre ++ [e]).length) := Lib.hid (by
                  rw [List.length_append, List.length_set, hMM]
                  refine ⟨by simp; omega, by simp; omega, fun m hm => ?_⟩
                  rcases List.mem_or_eq_of_mem_set hm with hm | hm
                  · have := hC3 m hm; simp; omega
                  · have := joinL_length l (e, (e' - 1)); rw [hm]; simp; omega)
                have HU := Lib.hid hu; have HLJ := Lib.hid hlj; have HCAN := Lib.hid hcan
                have HE0 : Hid (wr.drew.ownsRow w1.heap.size 41 2 (.slice au l.length cu) l.length (rgCells l)) := Lib.hid hE
                have HP0' : Hid (PS wr.drew w1.heap.size (.slice an nn.length cn) (.slice (some ⟨gp, 0, none⟩) M cp) nn ps vs) := Lib.hid (hP1.out.grown (grown_drew ⟨rfl, rfl, rfl, Nat.le_refl _, fun _ _ _ => rfl⟩))
                have HD5 : Hid (Below w1.heap.size w1 wr.drew) := Lib.hid ⟨HD4.out.os, HD4.out.tape, HD4.out.output, HD4.out.size, HD4.out.block⟩
                have hw0 : w1.heap.size ≤ wr.drew.heap.size := hw4
                have d0 : wr.drew.cell? ⟨gp, j, none⟩ = some (.slice au l.length cu) := ci
                have d1 : wr.drew.cell? ⟨ge, oe + pre.length, none⟩ = some (.int .i32 e) := k0
                have hl8 : l.length < 900000 := by omega
                clear hF hC hC3 e1 hu hlj hE hrow ci hcan k0 hke
                go_wp2_with fail
                refine wp_region_held_drew (S := fun w' => w'.cell? ⟨ge, oe + pre.length, none⟩ = some (.int .i32 e)) (by kernel_rfl) ?_ (fun hHeld => ?_)
                · exact d1
                try dsimp only at hHeld
                generalize wr.drew = w0 at *
                refine wpAnyH_take (i := 0) (v := ?vyp1) rfl (by kernel_rfl) (by kernel_rfl) (by kernel_rfl) (fun _ _ _ h => h) (Or.inl ⟨by rfl, ?hyyp1⟩) (by assumption) ?restyp1
                case hyyp1 => (intro W9 hSw; (try dsimp only at hSw); go_simp; try with_reducible rfl)
                try simp only [List.getElem_toArray, List.getElem_cons_zero, Act.put, List.setIfInBounds_toArray, List.set_cons_zero, List.set_cons_succ]
                refine wpAnyH_take (i := 1) (v := ?vyp2) rfl (by kernel_rfl) (by kernel_rfl) (by kernel_rfl) (fun _ _ _ h => h) (Or.inl ⟨by rfl, ?hyyp2⟩) (by assumption) ?restyp2
                case hyyp2 => (intro W9 hSw; (try dsimp only at hSw); go_simp; try with_reducible rfl)
                try simp only [List.getElem_toArray, List.getElem_cons_zero, List.getElem_cons_succ, Act.put, List.setIfInBounds_toArray, List.set_cons_zero, List.set_cons_succ]
                refine wpAnyH_take (i := 2) (v := ?vyp3) rfl (by kernel_rfl) (by kernel_rfl) (by kernel_rfl) (fun _ _ _ h => h) (Or.inl ⟨by rfl, ?hyyp3⟩) (by assumption) ?restyp3
                case hyyp3 => (intro W9 hSw; (try dsimp only at hSw); go_simp; try with_reducible rfl)
                try simp only [List.getElem_toArray, List.getElem_cons_zero, List.getElem_cons_succ, Act.put, List.setIfInBounds_toArray, List.set_cons_zero, List.set_cons_succ]
                refine wpAnyH_take (i := 3) (v := ?vyp4) rfl (by kernel_rfl) (by kernel_rfl) (by kernel_rfl) (fun _ _ _ h => h) (Or.inl ⟨by rfl, ?hyyp4⟩) (by assumption) ?restyp4
                case hyyp4 => (intro W9 hSw; (try dsimp only at hSw); go_simp; try with_reducible rfl)
                try simp only [List.getElem_toArray, List.getElem_cons_zero, List.getElem_cons_succ, Act.put, List.setIfInBounds_toArray, List.set_cons_zero, List.set_cons_succ]
                refine wpAnyH_take (i := 4) (v := ?vyp5) rfl (by kernel_rfl) (by kernel_rfl) (by kernel_rfl) (fun _ _ _ h => h) (Or.inl ⟨by rfl, ?hyyp5⟩) (by assumption) ?restyp5
                case hyyp5 => (intro W9 hSw; (try dsimp only at hSw); go_simp; try with_reducible rfl)
                try simp only [List.getElem_toArray, List.getElem_cons_zero, List.getElem_cons_succ, Act.put, List.setIfInBounds_toArray, List.set_cons_zero, List.set_cons_succ]
                refine wpAnyH_take (i := 6) (v := ?vyp6) rfl (by kernel_rfl) (by kernel_rfl) (by kernel_rfl) (fun _ _ _ h => h) (Or.inl ⟨by rfl, ?hyyp6⟩) (by assumption) ?restyp6
                case hyyp6 => (intro W9 hSw; (try dsimp only at hSw); go_simp; try with_reducible rfl)
                try simp only [List.getElem_toArray, List.getElem_cons_zero, List.getElem_cons_succ, Act.put, List.setIfInBounds_toArray, List.set_cons_zero, List.set_cons_succ]
                refine wpAnyH_take (i := 7) (v := ?vyp7) rfl (by kernel_rfl) (by kernel_rfl) (by kernel_rfl) (fun _ _ _ h => h) (Or.inl ⟨by rfl, ?hyyp7⟩) (by assumption) ?restyp7
                case hyyp7 => (intro W9 hSw; (try dsimp only at hSw); go_simp; try with_reducible rfl)
                try simp only [List.getElem_toArray, List.getElem_cons_zero, List.getElem_cons_succ, Act.put, List.setIfInBounds_toArray, List.set_cons_zero, List.set_cons_succ]
                refine wpAnyH_take (i := 8) (v := ?vyp8) rfl (by kernel_rfl) (by kernel_rfl) (by kernel_rfl) (fun _ _ _ h => h) (Or.inl ⟨by rfl, ?hyyp8⟩) (by assumption) ?restyp8
                case hyyp8 => (intro W9 hSw; (try dsimp only at hSw); go_simp; try with_reducible rfl)
                try simp only [List.getElem_toArray, List.getElem_cons_zero, List.getElem_cons_succ, Act.put, List.setIfInBounds_toArray, List.set_cons_zero, List.set_cons_succ]
                refine wpAnyH_take (i := 9) (v := ?vyp9) rfl (by kernel_rfl) (by kernel_rfl) (by kernel_rfl) (fun _ _ _ h => h) (Or.inl ⟨by rfl, ?hyyp9⟩) (by assumption) ?restyp9
                case hyyp9 => (intro W9 hSw; (try dsimp only at hSw); go_simp; try with_reducible rfl)
                try simp only [List.getElem_toArray, List.getElem_cons_zero, List.getElem_cons_succ, Act.put, List.setIfInBounds_toArray, List.set_cons_zero, List.set_cons_succ]
                refine wpAnyH_take (i := 10) (v := ?vyp10) rfl (by kernel_rfl) (by kernel_rfl) (by kernel_rfl) (fun _ _ _ h => h) (Or.inl ⟨by rfl, ?hyyp10⟩) (by assumption) ?restyp10
                case hyyp10 => (intro W9 hSw; (try dsimp only at hSw); go_simp; try with_reducible rfl)
                try simp only [List.getElem_toArray, List.getElem_cons_zero, List.getElem_cons_succ, Act.put, List.setIfInBounds_toArray, List.set_cons_zero, List.set_cons_succ]
                refine wpAnyH_ready (rs := [5]) (by kernel_rfl) (by simp) ?_
                refine AllReadyH.cons rfl (fun K hK => ?_) AllReadyH.nil
                go_simp
                refine hK.out _ _ ?_ (fun hHeld => ?_)
                · exact d1
                clear hK K
                try dsimp only at hHeld
                try simp only [List.getElem_toArray, List.getElem_cons_zero, List.getElem_cons_succ, Act.put, List.setIfInBounds_toArray, List.set_cons_zero, List.set_cons_succ]
                refine wpAnyH_ready (rs := [11]) (by kernel_rfl) (by simp) ?_
                refine AllReadyH.cons rfl (fun K hK => ?_) AllReadyH.nil
                go_simp
                refine (rjoin3_any _ l w1.heap.size e ((e' - 1)) w0 HE0.out hw0 hl8 HCAN.out.1.2).mono ?_
                rintro e2 w5 ⟨v5, rfl, h1, h2, h3⟩
                obtain ⟨a5, c5, rfl, _, _⟩ := own_len h1
                have hrow5 := HP0'.out.row.kept h2 (HP0'.out.apart (j + 2) 1 _ _ (by simp) (by simpa using HU.out) rfl).ne
                rw [hMM] at hrow5
                have k5 : w5.cell? ⟨gp, j, none⟩ = some (.slice au l.length cu) := by rw [hrow5.cellAt j hj1]; exact HU.out
                have f5 := row_frozen hrow5 j
                have HPN := Lib.hid (HP0'.out.set HU.out HLJ.out h2 h1 h3)
                have hb5 := HD5.out.grown h2 hw0 (fun k hk => (HE0.out.lt k hk).1)
                have HB6 := Lib.hid (hb5.setCell (p := ⟨gp, j, none⟩) (HP0'.out.row.lt gp rfl).1 (.slice a5 (joinL l (e, (e' - 1))).length c5))
                have d5 := (hb5.cell (p := ⟨ge, oe + pre.length, none⟩) hge).trans HPP.out
                have D6 := Lib.hid ((HB6.out.cell (p := ⟨ge, oe + pre.length, none⟩) hge).trans HPP.out)
                clear h1 h2 h3 hrow5 hb5 d0 d1
                generalize (joinL l (e, (e' - 1))).length = JL at *
                go_wp2_with fail
                refine hK.out _ _ ?_ (fun hHeld => ?_)
                · exact d5
                clear hK K
                try dsimp only at hHeld
                try simp only [List.getElem_toArray, List.getElem_cons_zero, List.getElem_cons_succ, Act.put, List.setIfInBounds_toArray, List.set_cons_zero, List.set_cons_succ]
                refine wpAnyH_take (i := 12) (v := ?vyp11) rfl (by kernel_rfl) (by kernel_rfl) (by kernel_rfl) (fun _ _ _ h => h) (Or.inl ⟨by rfl, ?hyyp11⟩) (by assumption) ?restyp11
                case hyyp11 => (intro W9 hSw; (try dsimp only at hSw); go_simp; try with_reducible rfl)
                try simp only [List.getElem_toArray, List.getElem_cons_zero, List.getElem_cons_succ, Act.put, List.setIfInBounds_toArray, List.set_cons_zero, List.set_cons_succ]
                refine wpAnyH_ready (rs := [13]) (by kernel_rfl) (by simp) ?_
                refine AllReadyH.cons rfl (fun K hK => ?_) AllReadyH.nil
                go_simp
                refine hK.out _ _ ?_ (fun hHeld => ?_)
                · exact D6.out
                clear hK K
                try dsimp only at hHeld
                try simp only [List.getElem_toArray, List.getElem_cons_zero, List.getElem_cons_succ, Act.put, List.setIfInBounds_toArray, List.set_cons_zero, List.set_cons_succ]
                refine wpAnyH_done (by kernel_rfl) ?_ _
                clear hHeld
                go_wp2
                go_roundw
                case rel => exact ⟨pre ++ [e], (e' :: rest), _, _, _, _, _, rfl, rfl, by simp, hA2, HT5, HC5, HPN, HB6.out⟩
                case measure => simp [intOf]; omega
            · have hlM : p.length < M := by rw [← hMM, ← hA1.out]; simp
              have hlj : ps[p.length]? = some l := by rw [← hA1.out]; simp
              have hA3 : Hid ((p ++ [l]) ++ r = ps) := Lib.hid (by rw [List.append_assoc]; exact hA1.out)
              have hj1 : p.length < M * 1 := by omega
              have hcan := HPT.out.can l (List.mem_of_getElem? hlj)
              obtain ⟨u, hu⟩ : ∃ u, vs[p.length]? = some u := ⟨vs[p.length]'(by have := hP1.out.len; omega), List.getElem?_eq_getElem _⟩
              have hE := hP1.out.each p.length u l hu hlj
              obtain ⟨gl, cu, rfl, cl, hgl⟩ := own_first hE hcan.2
              have hl0 : 0 < l.length := List.length_pos_iff.2 hcan.2
              obtain ⟨gp, rfl⟩ : ∃ gp, ap = some ⟨gp, 0, none⟩ := by
                rcases hP1.out.row.2 with ⟨h0, _⟩ | ⟨g', cap', cur, e, _⟩
                · simp at h0; omega
                · simp at e; exact ⟨g', e.1⟩
              have hrow := hP1.out.row
              rw [hMM] at hrow
              have hgp := (hrow.lt gp rfl).2
              have ci : wr.drew.cell? ⟨gp, p.length, none⟩ = some (.slice (some ⟨gl, 0, none⟩) l.length cu) := by
                show wr.cell? ⟨gp, p.length, none⟩ = _
                rw [hrow.cellAt p.length hj1]; exact hu
              have d1 : wr.drew.cell? ⟨ge, oe + pre.length, none⟩ = some (.int .i32 e) := k0
              have d2 : wr.drew.cell? ⟨gl, 0, none⟩ = some (.int .i32 (hd l)) := cl
              have HP0' : Hid (PS wr.drew w1.heap.size (.slice an nn.length cn) (.slice (some ⟨gp, 0, none⟩) M cp) nn ps vs) := Lib.hid (hP1.out.grown (grown_drew ⟨rfl, rfl, rfl, Nat.le_refl _, fun _ _ _ => rfl⟩))
              have HD5 : Hid (Below w3.heap.size w3 wr.drew) := Lib.hid ⟨hb1.os, hb1.tape, hb1.output, hb1.size, hb1.block⟩
              have hwr : Below w.heap.size w wr.drew := ⟨HW4.out.os, HW4.out.tape, HW4.out.output, HW4.out.size, HW4.out.block⟩
              have hal := ralike_any ao LL cap (hd l) e wr.drew (by omega) HL.out ((HS.out.below hwr (Nat.le_refl _)).mono hwr.size)
              rw [hLL] at hal
              have HAL := Lib.hid hal
              have hgE : ge < wr.drew.heap.size := Nat.lt_of_lt_of_le hge hw4
              have hgL : gl < wr.drew.heap.size := hgl
              have hgP : gp < wr.drew.heap.size := hgp
              have hsz0 : w3.heap.size ≤ wr.drew.heap.size := hb1.size
              generalize hhd : hd l = hdl at *
              clear hal hE hrow hu hcan cl k0 hwr hP1 hb1 HD4 HW4
              go_wp2_with fail
              refine wp_region_held_drew (S := fun w' => w'.cell? ⟨ge, oe + pre.length, none⟩ = some (.int .i32 e) ∧ w'.cell? ⟨gp, p.length, none⟩ = some (.slice (some ⟨gl, 0, none⟩) l.length cu) ∧ w'.cell? ⟨gl, 0, none⟩ = some (.int .i32 hdl)) (by kernel_rfl) ?_ (fun hHeld => ?_)
              · exact ⟨d1, ci, d2⟩
              try dsimp only at hHeld
              generalize wr.drew = w0 at *
              refine wpAnyH_take (i := 0) (v := ?vya1) rfl (by kernel_rfl) (by kernel_rfl) (by kernel_rfl) (fun _ _ _ h => h) (Or.inl ⟨by rfl, ?hyya1⟩) (by assumption) ?restya1
              case hyya1 => (intro W9 hSw; (try dsimp only at hSw); go_simp; try with_reducible rfl)
              try simp only [List.getElem_toArray, List.getElem_cons_zero, Act.put, List.setIfInBounds_toArray, List.set_cons_zero, List.set_cons_succ]
              refine wpAnyH_take (i := 1) (v := ?vya2) rfl (by kernel_rfl) (by kernel_rfl) (by kernel_rfl) (fun _ _ _ h => h) (Or.inl ⟨by rfl, ?hyya2⟩) (by assumption) ?restya2
              case hyya2 => (intro W9 hSw; (try dsimp only at hSw); go_simp; try with_reducible rfl)
              try simp only [List.getElem_toArray, List.getElem_cons_zero, List.getElem_cons_succ, Act.put, List.setIfInBounds_toArray, List.set_cons_zero, List.set_cons_succ]
              refine wpAnyH_take (i := 2) (v := ?vya3) rfl (by kernel_rfl) (by kernel_rfl) (by kernel_rfl) (fun _ _ _ h => h) (Or.inl ⟨by rfl, ?hyya3⟩) (by assumption) ?restya3
              case hyya3 => (intro W9 hSw; (try dsimp only at hSw); go_simp; try with_reducible rfl)
              try simp only [List.getElem_toArray, List.getElem_cons_zero, List.getElem_cons_succ, Act.put, List.setIfInBounds_toArray, List.set_cons_zero, List.set_cons_succ]
              refine wpAnyH_take (i := 3) (v := ?vya4) rfl (by kernel_rfl) (by kernel_rfl) (by kernel_rfl) (fun _ _ _ h => h) (Or.inl ⟨by rfl, ?hyya4⟩) (by assumption) ?restya4
              case hyya4 => (intro W9 hSw; (try dsimp only at hSw); go_simp; try with_reducible rfl)
              try simp only [List.getElem_toArray, List.getElem_cons_zero, List.getElem_cons_succ, Act.put, List.setIfInBounds_toArray, List.set_cons_zero, List.set_cons_succ]
              refine wpAnyH_take (i := 4) (v := ?vya5) rfl (by kernel_rfl) (by kernel_rfl) (by kernel_rfl) (fun _ _ _ h => h) (Or.inl ⟨by rfl, ?hyya5⟩) (by assumption) ?restya5
              case hyya5 => (intro W9 hSw; (try dsimp only at hSw); go_simp; try with_reducible rfl)
              try simp only [List.getElem_toArray, List.getElem_cons_zero, List.getElem_cons_succ, Act.put, List.setIfInBounds_toArray, List.set_cons_zero, List.set_cons_succ]
              refine wpAnyH_take (i := 5) (v := ?vya6) rfl (by kernel_rfl) (by kernel_rfl) (by kernel_rfl) (fun _ _ _ h => h) (Or.inl ⟨by rfl, ?hyya6⟩) (by assumption) ?restya6
              case hyya6 => (intro W9 hSw; (try dsimp only at hSw); go_simp; try with_reducible rfl)
              try simp only [List.getElem_toArray, List.getElem_cons_zero, List.getElem_cons_succ, Act.put, List.setIfInBounds_toArray, List.set_cons_zero, List.set_cons_succ]
              refine wpAnyH_take (i := 6) (v := ?vya7) rfl (by kernel_rfl) (by kernel_rfl) (by kernel_rfl) (fun _ _ _ h => h) (Or.inl ⟨by rfl, ?hyya7⟩) (by assumption) ?restya7
              case hyya7 => (intro W9 hSw; (try dsimp only at hSw); go_simp; try with_reducible rfl)
              try simp only [List.getElem_toArray, List.getElem_cons_zero, List.getElem_cons_succ, Act.put, List.setIfInBounds_toArray, List.set_cons_zero, List.set_cons_succ]
              refine wpAnyH_take (i := 7) (v := ?vya8) rfl (by kernel_rfl) (by kernel_rfl) (by kernel_rfl) (fun _ _ _ h => h) (Or.inl ⟨by rfl, ?hyya8⟩) (by assumption) ?restya8
              case hyya8 => (intro W9 hSw; (try dsimp only at hSw); go_simp; try with_reducible rfl)
              try simp only [List.getElem_toArray, List.getElem_cons_zero, List.getElem_cons_succ, Act.put, List.setIfInBounds_toArray, List.set_cons_zero, List.set_cons_succ]
              refine wpAnyH_take (i := 8) (v := ?vya9) rfl (by kernel_rfl) (by kernel_rfl) (by kernel_rfl) (fun _ _ _ h => h) (Or.inl ⟨by rfl, ?hyya9⟩) (by assumption) ?restya9
              case hyya9 => (intro W9 hSw; (try dsimp only at hSw); go_simp; try with_reducible rfl)
              try simp only [List.getElem_toArray, List.getElem_cons_zero, List.getElem_cons_succ, Act.put, List.setIfInBounds_toArray, List.set_cons_zero, List.set_cons_succ]
              refine wpAnyH_take (i := 9) (v := ?vya10) rfl (by kernel_rfl) (by kernel_rfl) (by kernel_rfl) (fun _ _ _ h => h) (Or.inl ⟨by rfl, ?hyya10⟩) (by assumption) ?restya10
              case hyya10 => (intro W9 hSw; (try dsimp only at hSw); go_simp; try with_reducible rfl)
              try simp only [List.getElem_toArray, List.getElem_cons_zero, List.getElem_cons_succ, Act.put, List.setIfInBounds_toArray, List.set_cons_zero, List.set_cons_succ]
              refine wpAnyH_take (i := 10) (v := ?vya11) rfl (by kernel_rfl) (by kernel_rfl) (by kernel_rfl) (fun _ _ _ h => h) (Or.inl ⟨by rfl, ?hyya11⟩) (by assumption) ?restya11
              case hyya11 => (intro W9 hSw; (try dsimp only at hSw); go_simp; try with_reducible rfl)
              try simp only [List.getElem_toArray, List.getElem_cons_zero, List.getElem_cons_succ, Act.put, List.setIfInBounds_toArray, List.set_cons_zero, List.set_cons_succ]
              refine wpAnyH_take (i := 11) (v := ?vya12) rfl (by kernel_rfl) (by kernel_rfl) (by kernel_rfl) (fun _ _ _ h => h) (Or.inl ⟨by rfl, ?hyya12⟩) (by assumption) ?restya12
              case hyya12 => (intro W9 hSw; (try dsimp only at hSw); go_simp; try with_reducible rfl)
              try simp only [List.getElem_toArray, List.getElem_cons_zero, List.getElem_cons_succ, Act.put, List.setIfInBounds_toArray, List.set_cons_zero, List.set_cons_succ]
              refine wpAnyH_ready (rs := [12]) (by kernel_rfl) (by simp) ?_
              refine AllReadyH.cons rfl (fun K hK => ?_) AllReadyH.nil
              go_simp
              refine HAL.out.mono ?_
              rintro e2 w5 ⟨q, rfl, hq, b5⟩
              have d15 := (b5.cell (p := ⟨ge, oe + pre.length, none⟩) hgE).trans d1
              have ci5 := (b5.cell (p := ⟨gp, p.length, none⟩) hgP).trans ci
              have d25 := (b5.cell (p := ⟨gl, 0, none⟩) hgL).trans d2
              have HP5 := Lib.hid (HP0'.out.below b5)
              have HD6 := Lib.hid (HD5.out.trans (b5.mono hsz0))
              have HFY : Hid (q = true → FoundK (keyL LL) e (p ++ [l]) ps (p.length : Int)) := Lib.hid (fun h => FoundK.yes hA1.out (by rw [hhd]; exact hq.1 h))
              have HFN : Hid (q = false → FoundK (keyL LL) e (p ++ [l]) ps z) := Lib.hid (fun h => hF.out.no (by rw [hhd]; intro h2; have := hq.2 h2; rw [h] at this; cases this))
              clear b5 hq d1 ci d2 hF
              go_wp2_with fail
              refine hK.out _ _ ?_ (fun hHeld => ?_)
              · exact ⟨d15, ci5, d25⟩
              clear hK K
              try dsimp only at hHeld
              try simp only [List.getElem_toArray, List.getElem_cons_zero, List.getElem_cons_succ, Act.put, List.setIfInBounds_toArray, List.set_cons_zero, List.set_cons_succ]
              refine wpAnyH_done (by kernel_rfl) ?_ _
              clear hHeld
              clear d15 ci5 d25
              cases q
              · go_wp2
                go_roundw
                case rel => exact ⟨p ++ [l], r, z, rfl, by simp, hA3, Lib.hid (HFN.out rfl), HP5, HD6.out⟩
                case measure => simp [intOf]; omega
              · go_wp2
                go_roundw
                case rel => exact ⟨p ++ [l], r, _, rfl, by simp, hA3, Lib.hid (HFY.out rfl), HP5, HD6.out⟩
                case measure => simp [intOf]; omega
        · have hnk : NoK (keyL LL e) := hq.1 rfl
          have HT5 := Lib.hid (part_rest (hi := (e' - 1)) HPT.out her3 her4 her5 HK2.out hnk)
          rw [HNX.out] at HT5
          have hnl : nn.length < 900000 := by omega
          have HX := HP3.out.nset
          have HCR := Lib.hid HPT.out.canR.2
          have HC5 : Hid ((joinL nn (e, (e' - 1))).length ≤ (pre ++ [e]).length ∧ ps.length ≤ (pre ++ [e]).length ∧ ∀ l ∈ ps, l.length ≤ (pre ++ [e]).length) := Lib.hid (by
            have := joinL_length nn (e, (e' - 1))
            rw [List.length_append]
            refine ⟨by simp; omega, by simp; omega, fun l hl => ?_⟩
            have := hC3 l hl; simp; omega)
          clear hq hnk hC hC3
          go_wp2_with fail
          refine (rjoin3_any _ nn w1.heap.size e ((e' - 1)) w3 HX hw3 hnl HCR.out).mono ?_
          rintro e2 w4 ⟨v4, rfl, o4, g4, f4⟩
          have HP4 := Lib.hid (HP3.out.put_none g4 o4 f4)
          have HD4 := Lib.hid (HD3.out.grown g4 hw3 (fun k hk => (HX.lt k hk).1))
          clear o4 g4 f4 HX HP3
          go_wp2
          go_roundw
          case rel => exact ⟨pre ++ [e], (e' :: rest), _, _, _, ps, vs, rfl, rfl, by simp, hA2, HT5, HC5, HP4, HD4.out⟩
          case measure => simp [intOf]; omega
end Go.Proofs.Ytpmcnmlpkpoopaa
