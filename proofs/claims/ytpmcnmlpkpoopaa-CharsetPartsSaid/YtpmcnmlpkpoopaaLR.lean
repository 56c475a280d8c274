/- CharsetParts, CharsetApart: they answer true, for any list of sets. -/
import Derived.Test.YtpmcnmlpkpoopaaLQ
import Derived.Test.YtpmcnmlpkpoopaaLP
namespace Go.Proofs.Ytpmcnmlpkpoopaa
open Go.RowKit Go.Shelf

theorem sts_now {w W : World} {a : Option Addr} {LL : List (List Rg)} (h : Sts w w.heap.size a LL) (b : Below w.heap.size w W) : Sts W W.heap.size a LL := (h.below b (Nat.le_refl _)).mono b.size
/-- What the walk asks of the program's Parts. -/
theorem parts_at (ao : Option Addr) (LL : List (List Rg)) (cap : Nat) (w : World) (hc : LL.length ≤ cap) (hcb : cap ≤ 9223372036854775807) (hN : LL.length ≤ 12) (hl : ∀ L ∈ LL, L.length ≤ 12) (hS : Sts w w.heap.size ao LL) :
    Calls Try.prog 29 #[.slice ao LL.length cap] w fun e w' => ∃ S a c, e = .returned (.slice a S.length c) ∧ (∃ T R, S = allP T R ∧ PartT (keyL LL) 1114112 T R) ∧ S.length ≤ 400 ∧ (∀ l ∈ S, l.length ≤ 400) ∧ Sts w' w'.heap.size a S ∧ Below w.heap.size w w' := by
  have hT := flatten_le 12 LL hl
  have hT2 : LL.flatten.length ≤ 144 := Nat.le_trans hT (Nat.mul_le_mul_right 12 hN)
  refine (Parts_any LL ao cap w hc hcb (by omega) (by omega) hS).mono ?_
  rintro e w' ⟨a, c, rfl, h1, h2, h3, h4⟩
  have hP := pcsAll_length (LL.length + 1) LL (by omega)
  obtain ⟨k1, k2⟩ := partsL_len (pcsAll (LL.length + 1) LL)
  exact ⟨_, a, c, rfl, parts_good LL, by omega, fun l hl => by have := k2 l hl; omega, h3, h4⟩
theorem rparts_at (ao : Option Addr) (LL S : List (List Rg)) (cap : Nat) (w : World) (hN : LL.length ≤ 12) (hl : ∀ L ∈ LL, L.length ≤ 12) (hp : ∃ T R, S = allP T R ∧ PartT (keyL LL) 1114112 T R) (hS : Sts w w.heap.size ao LL) :
    Calls Try.prog 30 #[.slice ao LL.length cap] w fun e w' => ∃ a c, e = .returned (.slice a S.length c) ∧ Sts w' w'.heap.size a S ∧ Below w.heap.size w w' := by
  have hT := flatten_le 12 LL hl
  have hT2 : LL.flatten.length ≤ 144 := Nat.le_trans hT (Nat.mul_le_mul_right 12 hN)
  obtain ⟨T, Q, rfl, hp⟩ := hp
  refine (rParts_any ao LL cap w (by omega) (by omega) hS).mono ?_
  rintro e w' ⟨T', Q', a, c, rfl, h1, h2, h3⟩
  obtain ⟨rfl, rfl⟩ := part_one hp h1
  exact ⟨a, c, rfl, h2, h3⟩
theorem union_at (ao : Option Addr) (LL : List (List Rg)) (cap : Nat) (w : World) (hN : LL.length ≤ 12) (hl : ∀ L ∈ LL, L.length ≤ 12) (hS : Sts w w.heap.size ao LL) :
    Calls Try.prog 19 #[.slice ao LL.length cap] w fun e w' => ∃ x n l, e = .returned (.slice x l.length n) ∧ IsOf LL.flatten l ∧ l.length ≤ 2000 ∧ At w' x l ∧ Below w.heap.size w w' := by
  have hT := flatten_le 12 LL hl
  have hT2 : LL.flatten.length ≤ 144 := Nat.le_trans hT (Nat.mul_le_mul_right 12 hN)
  refine (Union_any ao LL cap w (by omega) (by omega) hS).mono ?_
  rintro e w' ⟨v, l, rfl, h, h2, o, b⟩
  obtain ⟨x, n, rfl, R⟩ := rgs_of_own o
  exact ⟨x, n, l, rfl, h, by omega, at_of R, b⟩
theorem runion_at (ao : Option Addr) (LL : List (List Rg)) (cap : Nat) (w : World) (hN : LL.length ≤ 12) (hl : ∀ L ∈ LL, L.length ≤ 12) (hS : Sts w w.heap.size ao LL) :
    Calls Try.prog 20 #[.slice ao LL.length cap] w fun e w' => ∃ x n l, e = .returned (.slice x l.length n) ∧ IsOf LL.flatten l ∧ At w' x l ∧ Below w.heap.size w w' := by
  have hT := flatten_le 12 LL hl
  have hT2 : LL.flatten.length ≤ 144 := Nat.le_trans hT (Nat.mul_le_mul_right 12 hN)
  exact rUnion_any ao LL cap w (by omega) (by omega) hS
theorem inter12 (a b : Option Addr) (L M : List Rg) (c d : Nat) (w : World) (hL : L.length ≤ 400) (hM : M.length ≤ 12) (ha : At w a L) (hb : At w b M) :
    Calls Try.prog 21 #[.slice a L.length c, .slice b M.length d] w fun e w' => ∃ x n l, e = .returned (.slice x l.length n) ∧ IsBoth L M l ∧ l.length ≤ 30000 ∧ At w' x l ∧ Below w.heap.size w w' := by
  refine (Inter_any a b L M c d w (by omega) (by omega) ha.now hb.now).mono ?_
  rintro e w' ⟨v, l, rfl, h, h2, o, b⟩
  obtain ⟨x, n, rfl, R⟩ := rgs_of_own o
  have h3 : (2 * L.length + 1) * M.length ≤ 801 * 12 := Nat.mul_le_mul (by omega) hM
  exact ⟨x, n, l, rfl, h, by omega, at_of R, b⟩

set_option maxHeartbeats 2000000 in
theorem CharsetParts_any (ao : Option Addr) (LL : List (List Rg)) (cap : Nat) (w : World) (hc : LL.length ≤ cap) (hcb : cap ≤ 9223372036854775807) (hS : Sts w w.heap.size ao LL) :
    Calls Try.prog 6 #[.slice ao LL.length cap] w fun e w' => e = .returned (.bool true) ∧ Below w.heap.size w w' := by
  have HS := Lib.hid hS
  have HF := Lib.hid (cfew_any ao LL cap w (by omega) hS)
  clear hS
  go_enter Try.func6, Try.ntmps6
  go_wp2_with fail
  refine HF.out.mono ?_
  rintro e w1 ⟨b, rfl, hb, b1⟩
  have HB1 := Lib.hid b1
  cases b
  · clear hb b1 HF
    go_wp2_with fail
    refine (cknows_any w1).mono ?_
    rintro e w2 ⟨rfl, b2⟩
    have HB2 := Lib.hid (HB1.out.trans (b2.mono HB1.out.size))
    clear b2
    go_wp2
    go_ret
    exact ⟨rfl, HB2.out⟩
  · obtain ⟨hN, hl⟩ := hb rfl
    have HL := Lib.hid hl
    have HP := Lib.hid (parts_at ao LL cap w1 hc hcb hN hl (sts_now HS.out b1))
    clear hb b1 HF hl
    go_wp2_with fail
    refine HP.out.mono ?_
    rintro e w2 ⟨S, a2, c2, rfl, hp, hs1, hs2, hS2, b2⟩
    have HB2 := Lib.hid (HB1.out.trans (b2.mono HB1.out.size)); have HS2 := Lib.hid hS2; have HSL := Lib.hid hs2
    have HR := Lib.hid (rparts_at ao LL S cap w2 hN HL.out hp (sts_now HS.out HB2.out))
    clear hp hs2 hS2 b2 HP
    go_wp2_with fail
    refine HR.out.mono ?_
    rintro e w3 ⟨a3, c3, rfl, hS3, b3⟩
    have HB3 := Lib.hid (HB2.out.trans (b3.mono HB2.out.size)); have HS3 := Lib.hid hS3
    have HE := Lib.hid (rsameall_eq a2 a3 S c2 c3 w3 (by omega) (fun l hl => by have := HSL.out l hl; omega) (sts_now HS2.out b3) hS3)
    clear hS3 b3 HR
    go_wp2_with fail
    refine HE.out.mono ?_
    rintro e w4 ⟨rfl, b4⟩
    have HB4 := Lib.hid (HB3.out.trans (b4.mono HB3.out.size))
    have HU := Lib.hid (union_at ao LL cap w4 hN HL.out (sts_now HS.out HB4.out))
    clear b4 HE
    go_wp2_with fail
    refine HU.out.mono ?_
    rintro e w5 ⟨x5, n5, l5, rfl, h5, k5, A5, b5⟩
    have HB5 := Lib.hid (HB4.out.trans (b5.mono HB4.out.size)); have HA5 := Lib.hid A5; have H5 := Lib.hid h5
    have HU2 := Lib.hid (runion_at ao LL cap w5 hN HL.out (sts_now HS.out HB5.out))
    clear b5 A5 h5 HU
    go_wp2_with fail
    refine HU2.out.mono ?_
    rintro e w6 ⟨x6, n6, l6, rfl, h6, A6, b6⟩
    have HB6 := Lib.hid (HB5.out.trans (b6.mono HB5.out.size))
    have HQ := Lib.hid (same_eq x5 x6 l5 l6 n5 n6 w6 (by omega) (isOf_one H5.out h6) (HA5.out.later b6) A6)
    clear b6 A6 h6 HU2
    go_wp2_with fail
    refine HQ.out.mono ?_
    rintro e w7 ⟨rfl, b7⟩
    have HB7 := Lib.hid (HB6.out.trans (b7.mono HB6.out.size))
    clear b7 HQ
    go_wp2_with fail
    refine (cknows_any w7).mono ?_
    rintro e w8 ⟨rfl, b8⟩
    have HB8 := Lib.hid (HB7.out.trans (b8.mono HB7.out.size))
    clear b8
    go_wp2
    go_ret
    exact ⟨rfl, HB8.out⟩

theorem tell_in (r : Int) (S LL : List (List Rg)) (h : PartsOf LL S) : numIn r S = if 0 ≤ r ∧ r ≤ 1114111 then 1 else 0 := by
  split
  · rename_i hr
    exact h.one r hr.1 hr.2
  · rename_i hr
    exact h.zero r hr
set_option maxHeartbeats 4000000 in
set_option maxRecDepth 100000 in
theorem CharsetApart_any (ao : Option Addr) (LL : List (List Rg)) (cap : Nat) (r : Int) (w : World) (hc : LL.length ≤ cap) (hcb : cap ≤ 9223372036854775807) (hS : Sts w w.heap.size ao LL) :
    Calls Try.prog 8 #[.slice ao LL.length cap, .int .i32 r] w fun e w' => e = .returned (.bool true) ∧ Below w.heap.size w w' := by
  have HS := Lib.hid hS
  have HF := Lib.hid (cfew_any ao LL cap w (by omega) hS)
  clear hS
  go_enter Try.func8, Try.ntmps8
  go_wp2_with fail
  refine HF.out.mono ?_
  rintro e w1 ⟨b, rfl, hb, b1⟩
  have HB1 := Lib.hid b1
  cases b
  · clear hb b1 HF
    go_wp2_with fail
    refine (cknows_any w1).mono ?_
    rintro e w2 ⟨rfl, b2⟩
    have HB2 := Lib.hid (HB1.out.trans (b2.mono HB1.out.size))
    clear b2
    go_wp2
    go_ret
    exact ⟨rfl, HB2.out⟩
  · obtain ⟨hN, hl⟩ := hb rfl
    have HL := Lib.hid hl
    have HP := Lib.hid (parts_at ao LL cap w1 hc hcb hN hl (sts_now HS.out b1))
    clear hb b1 HF hl
    go_wp2_with fail
    refine HP.out.mono ?_
    rintro e w2 ⟨S, a2, c2, rfl, hp, hs1, hs2, hS2, b2⟩
    have HPO : Hid (PartsOf LL S) := Lib.hid (by obtain ⟨T, Q, rfl, h⟩ := hp; exact parts_of h)
    have HB2 := Lib.hid (HB1.out.trans (b2.mono HB1.out.size)); have HS2 := Lib.hid hS2; have HSL := Lib.hid hs2
    clear hp hs2 hS2 b2 HP
    generalize hLN : LL.length = LN at *
    go_wp2_with fail
    go_loopw [6, 7, 8] (fun s6 s7 i wr => ∃ (pre rest : List (List Rg)) (n al : Int), s6 = .int .i64 n ∧ s7 = .int .i64 al ∧ i = .int .i64 pre.length ∧ Hid (pre ++ rest = S) ∧ Hid (n = numIn r pre ∧ al = sumSz pre) ∧ Below w2.heap.size w2 wr) (fun _ _ i _ => S.length - (intOf i).toNat)
    case atStart => exact ⟨[], S, 0, 0, rfl, rfl, rfl, rfl, Lib.hid ⟨rfl, rfl⟩, Below.refl _ _⟩
    case round =>
      obtain ⟨pre, rest, n, al, rfl, rfl, rfl, hA, hV, hb⟩ := hrel
      have HBW := Lib.hid (HB2.out.trans (hb.mono HB2.out.size))
      rcases rest with _ | ⟨l, rest⟩
      · have e1 := hA.out
        rw [List.append_nil] at e1
        have hpl : pre.length = S.length := by rw [e1]
        obtain ⟨v1, v2⟩ := hV.out
        rw [e1, HPO.out.sum] at v2
        rw [e1, tell_in r S LL HPO.out] at v1
        subst v2
        have HK := Lib.hid (cknows_any wr)
        clear e1 hA hV hb
        generalize S.length = SN at *
        by_cases hr0 : 0 ≤ r
        · by_cases hr1 : r ≤ 1114111
          · rw [if_pos ⟨hr0, hr1⟩] at v1
            subst v1
            go_wp2_with fail
            refine HK.out.mono ?_
            rintro e w9 ⟨rfl, b9⟩
            have HB9 := Lib.hid (HBW.out.trans (b9.mono HBW.out.size))
            clear b9
            go_wp2
            go_ret
            exact ⟨rfl, HB9.out⟩
          · rw [if_neg (fun h => hr1 h.2)] at v1
            subst v1
            go_wp2_with fail
            refine HK.out.mono ?_
            rintro e w9 ⟨rfl, b9⟩
            have HB9 := Lib.hid (HBW.out.trans (b9.mono HBW.out.size))
            clear b9
            go_wp2
            go_ret
            exact ⟨rfl, HB9.out⟩
        · rw [if_neg (fun h => hr0 h.1)] at v1
          subst v1
          go_wp2_with fail
          refine HK.out.mono ?_
          rintro e w9 ⟨rfl, b9⟩
          have HB9 := Lib.hid (HBW.out.trans (b9.mono HBW.out.size))
          clear b9
          go_wp2
          go_ret
          exact ⟨rfl, HB9.out⟩
      · have hlt : pre.length < S.length := by rw [← hA.out]; simp
        have hlS : l ∈ S := by rw [← hA.out]; simp
        obtain ⟨g, o, ax, cx, rfl, hg, p0, hX⟩ := HS2.out _ _ _ hA.out
        have q0 := (hb.cell (p := ⟨g, o + pre.length, none⟩) hg).trans p0
        have HX : Hid (At wr ax l) := Lib.hid (at_of ((hX.below hb (Nat.le_refl _)).mono hb.size))
        obtain ⟨hcan, hne⟩ := HPO.out.can l hlS
        have hll := HSL.out l hlS
        have hsp := size_pos hcan hne
        have hsb := (size_bound hcan).2
        obtain ⟨nb1, nb2⟩ := numIn_bound r pre
        obtain ⟨sb1, sb2⟩ := sumSz_bound pre (fun m hm => (HPO.out.can m (by rw [← hA.out]; simp [hm])).1)
        rw [← hV.out.1] at nb1 nb2
        rw [← hV.out.2] at sb1 sb2
        have hpl4 : pre.length ≤ 400 := by omega
        have HLS := Lib.hid hlS; have HCAN := Lib.hid hcan; have HW := Lib.hid hb
        have HN1 : Hid (∀ k, hasB l r = k → n + oneIf k = numIn r (pre ++ [l])) := Lib.hid (fun k e => by rw [numIn_app, hV.out.1, e])
        have HA1 : Hid (al + sizeL l = sumSz (pre ++ [l])) := Lib.hid (by rw [sumSz_app, hV.out.2])
        have HINT : Hid (∀ L ∈ LL, ∀ i, IsBoth l L i → sizeL i = sizeL l ∨ sizeL i = 0) := Lib.hid (fun L hL i hi => both_cases HPO.out HLS.out hL hi)
        have hA2 : Hid ((pre ++ [l]) ++ rest = S) := Lib.hid (by rw [List.append_assoc]; exact hA.out)
        have HH := Lib.hid (has1 ax l cx r (hasB l r) wr (by omega) (hasB_iff _ _) HX.out)
        have HLX := Lib.hid hX; have HP0 := Lib.hid p0
        have HSZ := fun (W : World) (b : Below wr.heap.size wr W) => size1 ax l l cx W (by omega) (isOf_self HCAN.out) (HX.out.later b)
        have HSZ := Lib.hid HSZ
        have hgr : g < wr.heap.size := Nat.lt_of_lt_of_le hg hb.size
        clear hX hne hlS hcan hA hV hb p0
        have HWR : Hid (Below wr.heap.size wr wr) := Lib.hid (Below.refl _ _)
        generalize hSN : S.length = SN at *
        generalize hsz : sizeL l = sz at *
        have hsp1 : ¬ (sz = 0) := by omega
        have hsp2 : (sz == 0) = false := by simpa using hsp1
        have hsp3 : (sz != 0) = true := by simpa using hsp1
        generalize hasB l r = k at *
        go_wp2_with fail
        refine HH.out.mono ?_
        rintro e w3 ⟨rfl, b3⟩
        have q3 := (b3.cell (p := ⟨g, o + pre.length, none⟩) hgr).trans q0
        have HB3 := Lib.hid b3
        have HN1' := Lib.hid (HN1.out k rfl)
        clear b3 q0 HN1
        cases k
        · rw [show oneIf false = 0 from rfl] at HN1'
          rw [Int.add_zero] at HN1'
          go_wp2_with fail
          refine (HSZ.out w3 HB3.out).mono ?_
          rintro e w4 ⟨rfl, b4⟩
          have q4 := (b4.cell (p := ⟨g, o + pre.length, none⟩) (Nat.lt_of_lt_of_le hgr HB3.out.size)).trans q3
          have HB4 := Lib.hid (HB3.out.trans (b4.mono HB3.out.size))
          clear b4 q3 HB3
          go_wp2_with fail
          refine (HSZ.out w4 HB4.out).mono ?_
          rintro e w5 ⟨rfl, b5⟩
          have q5 := (b5.cell (p := ⟨g, o + pre.length, none⟩) (Nat.lt_of_lt_of_le hgr HB4.out.size)).trans q4
          have HB5 := Lib.hid (HB4.out.trans (b5.mono HB4.out.size))
          clear b5 q4 HB4
          have HX5 := Lib.hid (HX.out.later HB5.out)
          have HW5 := Lib.hid (HW.out.trans (HB5.out.mono HW.out.size))
          have HSZ5 : Hid (∀ (W : World) (b : Below w5.heap.size w5 W), Calls Try.prog 15 #[.slice ax l.length cx] W fun e W' => e = .returned (.int .i64 sz) ∧ Below W.heap.size W W') := Lib.hid (fun W b => HSZ.out W (HB5.out.trans (b.mono HB5.out.size)))
          have hg5 : g < w5.heap.size := Nat.lt_of_lt_of_le hgr HB5.out.size
          have HQ5 := Lib.hid q5
          clear HX HW HSZ HB5 HWR hgr q5
          go_wp2_with fail
          go_loopw [9] (fun k wr => ∃ (p q : List (List Rg)), k = .int .i64 p.length ∧ Hid (p ++ q = LL) ∧ Below w5.heap.size w5 wr) (fun k _ => LN - (intOf k).toNat)
          case atStart => exact ⟨[], LL, rfl, rfl, Below.refl _ _⟩
          case round =>
            obtain ⟨p, q, rfl, hA3, hb3⟩ := hrel
            have t0 := (hb3.cell (p := ⟨g, o + pre.length, none⟩) hg5).trans HQ5.out
            have HW3 := Lib.hid (HW5.out.trans (hb3.mono HW5.out.size))
            rcases q with _ | ⟨L, q⟩
            · have e1 := hA3.out
              rw [List.append_nil] at e1
              have hpL : p.length = LN := by rw [e1, hLN]
              clear e1 hA3 hb3
              go_wp2
              go_roundw
              case rel => exact ⟨pre ++ [l], rest, n, al + sz, rfl, rfl, by simp, hA2, Lib.hid ⟨HN1'.out, HA1.out⟩, HW3.out⟩
              case measure => simp [intOf]; omega
            · have hlt3 : p.length < LN := by rw [← hLN, ← hA3.out]; simp
              have hLL : L ∈ LL := by rw [← hA3.out]; simp
              have hLl := HL.out L hLL
              obtain ⟨g2, o2, ay, cy, rfl, hg2, s0, hY⟩ := HS.out _ _ _ hA3.out
              have HWQ : Hid (Below w.heap.size w wr) := Lib.hid (HB2.out.trans (HW3.out.mono HB2.out.size))
              have hbd : Below w5.heap.size w5 wr.drew := ⟨hb3.os, hb3.tape, hb3.output, hb3.size, hb3.block⟩
              have hwd : Below w.heap.size w wr.drew := ⟨HWQ.out.os, HWQ.out.tape, HWQ.out.output, HWQ.out.size, HWQ.out.block⟩
              have d0 : wr.drew.cell? ⟨g, o + pre.length, none⟩ = some (.slice ax l.length cx) := t0
              have d1 : wr.drew.cell? ⟨g2, o2 + p.length, none⟩ = some (.slice ay L.length cy) := (hwd.cell (p := ⟨g2, o2 + p.length, none⟩) hg2).trans s0
              have HIN := Lib.hid (inter12 ax ay l L cx cy wr.drew hll hLl (HX5.out.later hbd) (at_of ((hY.below hwd (Nat.le_refl _)).mono hwd.size)))
              have HIT := Lib.hid (HINT.out L hLL)
              have hA4 : Hid ((p ++ [L]) ++ q = LL) := Lib.hid (by rw [List.append_assoc]; exact hA3.out)
              have HBD := Lib.hid hbd; have HWD := Lib.hid hwd
              clear hLL hLl hY s0 t0 hb3 HWQ hA3 hbd hwd
              go_wp2_with fail
              refine wp_region_held_drew (S := fun w' => w'.cell? ⟨g, o + pre.length, none⟩ = some (.slice ax l.length cx) ∧ w'.cell? ⟨g2, o2 + p.length, none⟩ = some (.slice ay L.length cy)) (by kernel_rfl) ?_ (fun hHeld => ?_)
              · exact ⟨d0, d1⟩
              try dsimp only at hHeld
              generalize wr.drew = w0 at *
              refine wpAnyH_take (i := 0) (v := ?vf1) rfl (by kernel_rfl) (by kernel_rfl) (by kernel_rfl) (fun _ _ _ h => h) (Or.inl ⟨by rfl, ?hyf1⟩) (by assumption) ?restf1
              case hyf1 => (intro W9 hSw; (try dsimp only at hSw); go_simp; try with_reducible rfl)
              try simp only [List.getElem_toArray, List.getElem_cons_zero, Act.put, List.setIfInBounds_toArray, List.set_cons_zero, List.set_cons_succ]
              refine wpAnyH_take (i := 1) (v := ?vf2) rfl (by kernel_rfl) (by kernel_rfl) (by kernel_rfl) (fun _ _ _ h => h) (Or.inl ⟨by rfl, ?hyf2⟩) (by assumption) ?restf2
              case hyf2 => (intro W9 hSw; (try dsimp only at hSw); go_simp; try with_reducible rfl)
              try simp only [List.getElem_toArray, List.getElem_cons_zero, List.getElem_cons_succ, Act.put, List.setIfInBounds_toArray, List.set_cons_zero, List.set_cons_succ]
              refine wpAnyH_take (i := 2) (v := ?vf3) rfl (by kernel_rfl) (by kernel_rfl) (by kernel_rfl) (fun _ _ _ h => h) (Or.inl ⟨by rfl, ?hyf3⟩) (by assumption) ?restf3
              case hyf3 => (intro W9 hSw; (try dsimp only at hSw); go_simp; try with_reducible rfl)
              try simp only [List.getElem_toArray, List.getElem_cons_zero, List.getElem_cons_succ, Act.put, List.setIfInBounds_toArray, List.set_cons_zero, List.set_cons_succ]
              refine wpAnyH_take (i := 3) (v := ?vf4) rfl (by kernel_rfl) (by kernel_rfl) (by kernel_rfl) (fun _ _ _ h => h) (Or.inl ⟨by rfl, ?hyf4⟩) (by assumption) ?restf4
              case hyf4 => (intro W9 hSw; (try dsimp only at hSw); go_simp; try with_reducible rfl)
              try simp only [List.getElem_toArray, List.getElem_cons_zero, List.getElem_cons_succ, Act.put, List.setIfInBounds_toArray, List.set_cons_zero, List.set_cons_succ]
              refine wpAnyH_take (i := 4) (v := ?vf5) rfl (by kernel_rfl) (by kernel_rfl) (by kernel_rfl) (fun _ _ _ h => h) (Or.inl ⟨by rfl, ?hyf5⟩) (by assumption) ?restf5
              case hyf5 => (intro W9 hSw; (try dsimp only at hSw); go_simp; try with_reducible rfl)
              try simp only [List.getElem_toArray, List.getElem_cons_zero, List.getElem_cons_succ, Act.put, List.setIfInBounds_toArray, List.set_cons_zero, List.set_cons_succ]
              refine wpAnyH_take (i := 5) (v := ?vf6) rfl (by kernel_rfl) (by kernel_rfl) (by kernel_rfl) (fun _ _ _ h => h) (Or.inl ⟨by rfl, ?hyf6⟩) (by assumption) ?restf6
              case hyf6 => (intro W9 hSw; (try dsimp only at hSw); go_simp; try with_reducible rfl)
              try simp only [List.getElem_toArray, List.getElem_cons_zero, List.getElem_cons_succ, Act.put, List.setIfInBounds_toArray, List.set_cons_zero, List.set_cons_succ]
              refine wpAnyH_take (i := 6) (v := ?vf7) rfl (by kernel_rfl) (by kernel_rfl) (by kernel_rfl) (fun _ _ _ h => h) (Or.inl ⟨by rfl, ?hyf7⟩) (by assumption) ?restf7
              case hyf7 => (intro W9 hSw; (try dsimp only at hSw); go_simp; try with_reducible rfl)
              try simp only [List.getElem_toArray, List.getElem_cons_zero, List.getElem_cons_succ, Act.put, List.setIfInBounds_toArray, List.set_cons_zero, List.set_cons_succ]
              refine wpAnyH_take (i := 7) (v := ?vf8) rfl (by kernel_rfl) (by kernel_rfl) (by kernel_rfl) (fun _ _ _ h => h) (Or.inl ⟨by rfl, ?hyf8⟩) (by assumption) ?restf8
              case hyf8 => (intro W9 hSw; (try dsimp only at hSw); go_simp; try with_reducible rfl)
              try simp only [List.getElem_toArray, List.getElem_cons_zero, List.getElem_cons_succ, Act.put, List.setIfInBounds_toArray, List.set_cons_zero, List.set_cons_succ]
              refine wpAnyH_ready (rs := [8]) (by kernel_rfl) (by simp) ?_
              refine AllReadyH.cons rfl (fun K hK => ?_) AllReadyH.nil
              go_simp
              refine HIN.out.mono ?_
              rintro e w6 ⟨x, m, i, rfl, hi, hil, hAi, b6⟩
              have d06 := (b6.cell (p := ⟨g, o + pre.length, none⟩) (Nat.lt_of_lt_of_le hg5 HBD.out.size)).trans d0
              have d16 := (b6.cell (p := ⟨g2, o2 + p.length, none⟩) (Nat.lt_of_lt_of_le hg2 HWD.out.size)).trans d1
              have HB6 := Lib.hid (HBD.out.trans (b6.mono HBD.out.size)); have HW6 := Lib.hid (HWD.out.trans (b6.mono HWD.out.size))
              have HI6 := Lib.hid (HIT.out i hi)
              have HS6 := Lib.hid (size1 x i i m w6 hil (isOf_self hi.1) hAi)
              clear b6 hi hAi d0 d1 HIN
              generalize sizeL i = si at *
              go_wp2_with fail
              refine hK.out _ _ ?_ (fun hHeld => ?_)
              · exact ⟨d06, d16⟩
              clear hK K
              try dsimp only at hHeld
              try simp only [List.getElem_toArray, List.getElem_cons_zero, List.getElem_cons_succ, Act.put, List.setIfInBounds_toArray, List.set_cons_zero, List.set_cons_succ]
              refine wpAnyH_ready (rs := [9]) (by kernel_rfl) (by simp) ?_
              refine AllReadyH.cons rfl (fun K hK => ?_) AllReadyH.nil
              go_simp
              refine HS6.out.mono ?_
              rintro e w7 ⟨rfl, b7⟩
              have d07 := (b7.cell (p := ⟨g, o + pre.length, none⟩) (Nat.lt_of_lt_of_le hg5 HB6.out.size)).trans d06
              have d17 := (b7.cell (p := ⟨g2, o2 + p.length, none⟩) (Nat.lt_of_lt_of_le hg2 HW6.out.size)).trans d16
              have HB7 := Lib.hid (HB6.out.trans (b7.mono HB6.out.size))
              clear b7 d06 d16 HS6
              go_wp2_with fail
              refine hK.out _ _ ?_ (fun hHeld => ?_)
              · exact ⟨d07, d17⟩
              clear hK K
              try dsimp only at hHeld
              try simp only [List.getElem_toArray, List.getElem_cons_zero, List.getElem_cons_succ, Act.put, List.setIfInBounds_toArray, List.set_cons_zero, List.set_cons_succ]
              refine wpAnyH_take (i := 10) (v := ?vf9) rfl (by kernel_rfl) (by kernel_rfl) (by kernel_rfl) (fun _ _ _ h => h) (Or.inl ⟨by rfl, ?hyf9⟩) (by assumption) ?restf9
              case hyf9 => (intro W9 hSw; (try dsimp only at hSw); go_simp; try with_reducible rfl)
              try simp only [List.getElem_toArray, List.getElem_cons_zero, List.getElem_cons_succ, Act.put, List.setIfInBounds_toArray, List.set_cons_zero, List.set_cons_succ]
              refine wpAnyH_done (by kernel_rfl) ?_ _
              clear hHeld
              rcases HI6.out with hsi | hsi
              · subst si
                go_wp2_with fail
                refine (HSZ5.out w7 HB7.out).mono ?_
                rintro e w8 ⟨rfl, b8⟩
                have HB8 := Lib.hid (HB7.out.trans (b8.mono HB7.out.size))
                clear b8 d07 d17
                go_wp2
                go_roundw
                case rel => first | exact ⟨p ++ [L], q, by simp, hA4, HB8.out⟩ | exact ⟨p ++ [L], by simp, ⟨q, hA4⟩, HB8.out⟩
                case measure => simp [intOf]; omega
              · subst si
                clear d07 d17
                go_wp2
                go_roundw
                case rel => first | exact ⟨p ++ [L], q, by simp, hA4, HB7.out⟩ | exact ⟨p ++ [L], by simp, ⟨q, hA4⟩, HB7.out⟩
                case measure => simp [intOf]; omega
        · rw [show oneIf true = 1 from rfl] at HN1'
          go_wp2_with fail
          refine (HSZ.out w3 HB3.out).mono ?_
          rintro e w4 ⟨rfl, b4⟩
          have q4 := (b4.cell (p := ⟨g, o + pre.length, none⟩) (Nat.lt_of_lt_of_le hgr HB3.out.size)).trans q3
          have HB4 := Lib.hid (HB3.out.trans (b4.mono HB3.out.size))
          clear b4 q3 HB3
          go_wp2_with fail
          refine (HSZ.out w4 HB4.out).mono ?_
          rintro e w5 ⟨rfl, b5⟩
          have q5 := (b5.cell (p := ⟨g, o + pre.length, none⟩) (Nat.lt_of_lt_of_le hgr HB4.out.size)).trans q4
          have HB5 := Lib.hid (HB4.out.trans (b5.mono HB4.out.size))
          clear b5 q4 HB4
          have HX5 := Lib.hid (HX.out.later HB5.out)
          have HW5 := Lib.hid (HW.out.trans (HB5.out.mono HW.out.size))
          have HSZ5 : Hid (∀ (W : World) (b : Below w5.heap.size w5 W), Calls Try.prog 15 #[.slice ax l.length cx] W fun e W' => e = .returned (.int .i64 sz) ∧ Below W.heap.size W W') := Lib.hid (fun W b => HSZ.out W (HB5.out.trans (b.mono HB5.out.size)))
          have hg5 : g < w5.heap.size := Nat.lt_of_lt_of_le hgr HB5.out.size
          have HQ5 := Lib.hid q5
          clear HX HW HSZ HB5 HWR hgr q5
          go_wp2_with fail
          go_loopw [9] (fun k wr => ∃ (p q : List (List Rg)), k = .int .i64 p.length ∧ Hid (p ++ q = LL) ∧ Below w5.heap.size w5 wr) (fun k _ => LN - (intOf k).toNat)
          case atStart => exact ⟨[], LL, rfl, rfl, Below.refl _ _⟩
          case round =>
            obtain ⟨p, q, rfl, hA3, hb3⟩ := hrel
            have t0 := (hb3.cell (p := ⟨g, o + pre.length, none⟩) hg5).trans HQ5.out
            have HW3 := Lib.hid (HW5.out.trans (hb3.mono HW5.out.size))
            rcases q with _ | ⟨L, q⟩
            · have e1 := hA3.out
              rw [List.append_nil] at e1
              have hpL : p.length = LN := by rw [e1, hLN]
              clear e1 hA3 hb3
              go_wp2
              go_roundw
              case rel => exact ⟨pre ++ [l], rest, n + 1, al + sz, rfl, rfl, by simp, hA2, Lib.hid ⟨HN1'.out, HA1.out⟩, HW3.out⟩
              case measure => simp [intOf]; omega
            · have hlt3 : p.length < LN := by rw [← hLN, ← hA3.out]; simp
              have hLL : L ∈ LL := by rw [← hA3.out]; simp
              have hLl := HL.out L hLL
              obtain ⟨g2, o2, ay, cy, rfl, hg2, s0, hY⟩ := HS.out _ _ _ hA3.out
              have HWQ : Hid (Below w.heap.size w wr) := Lib.hid (HB2.out.trans (HW3.out.mono HB2.out.size))
              have hbd : Below w5.heap.size w5 wr.drew := ⟨hb3.os, hb3.tape, hb3.output, hb3.size, hb3.block⟩
              have hwd : Below w.heap.size w wr.drew := ⟨HWQ.out.os, HWQ.out.tape, HWQ.out.output, HWQ.out.size, HWQ.out.block⟩
              have d0 : wr.drew.cell? ⟨g, o + pre.length, none⟩ = some (.slice ax l.length cx) := t0
              have d1 : wr.drew.cell? ⟨g2, o2 + p.length, none⟩ = some (.slice ay L.length cy) := (hwd.cell (p := ⟨g2, o2 + p.length, none⟩) hg2).trans s0
              have HIN := Lib.hid (inter12 ax ay l L cx cy wr.drew hll hLl (HX5.out.later hbd) (at_of ((hY.below hwd (Nat.le_refl _)).mono hwd.size)))
              have HIT := Lib.hid (HINT.out L hLL)
              have hA4 : Hid ((p ++ [L]) ++ q = LL) := Lib.hid (by rw [List.append_assoc]; exact hA3.out)
              have HBD := Lib.hid hbd; have HWD := Lib.hid hwd
              clear hLL hLl hY s0 t0 hb3 HWQ hA3 hbd hwd
              go_wp2_with fail
              refine wp_region_held_drew (S := fun w' => w'.cell? ⟨g, o + pre.length, none⟩ = some (.slice ax l.length cx) ∧ w'.cell? ⟨g2, o2 + p.length, none⟩ = some (.slice ay L.length cy)) (by kernel_rfl) ?_ (fun hHeld => ?_)
              · exact ⟨d0, d1⟩
              try dsimp only at hHeld
              generalize wr.drew = w0 at *
              refine wpAnyH_take (i := 0) (v := ?vt1) rfl (by kernel_rfl) (by kernel_rfl) (by kernel_rfl) (fun _ _ _ h => h) (Or.inl ⟨by rfl, ?hyt1⟩) (by assumption) ?restt1
              case hyt1 => (intro W9 hSw; (try dsimp only at hSw); go_simp; try with_reducible rfl)
              try simp only [List.getElem_toArray, List.getElem_cons_zero, Act.put, List.setIfInBounds_toArray, List.set_cons_zero, List.set_cons_succ]
              refine wpAnyH_take (i := 1) (v := ?vt2) rfl (by kernel_rfl) (by kernel_rfl) (by kernel_rfl) (fun _ _ _ h => h) (Or.inl ⟨by rfl, ?hyt2⟩) (by assumption) ?restt2
              case hyt2 => (intro W9 hSw; (try dsimp only at hSw); go_simp; try with_reducible rfl)
              try simp only [List.getElem_toArray, List.getElem_cons_zero, List.getElem_cons_succ, Act.put, List.setIfInBounds_toArray, List.set_cons_zero, List.set_cons_succ]
              refine wpAnyH_take (i := 2) (v := ?vt3) rfl (by kernel_rfl) (by kernel_rfl) (by kernel_rfl) (fun _ _ _ h => h) (Or.inl ⟨by rfl, ?hyt3⟩) (by assumption) ?restt3
              case hyt3 => (intro W9 hSw; (try dsimp only at hSw); go_simp; try with_reducible rfl)
              try simp only [List.getElem_toArray, List.getElem_cons_zero, List.getElem_cons_succ, Act.put, List.setIfInBounds_toArray, List.set_cons_zero, List.set_cons_succ]
              refine wpAnyH_take (i := 3) (v := ?vt4) rfl (by kernel_rfl) (by kernel_rfl) (by kernel_rfl) (fun _ _ _ h => h) (Or.inl ⟨by rfl, ?hyt4⟩) (by assumption) ?restt4
              case hyt4 => (intro W9 hSw; (try dsimp only at hSw); go_simp; try with_reducible rfl)
              try simp only [List.getElem_toArray, List.getElem_cons_zero, List.getElem_cons_succ, Act.put, List.setIfInBounds_toArray, List.set_cons_zero, List.set_cons_succ]
              refine wpAnyH_take (i := 4) (v := ?vt5) rfl (by kernel_rfl) (by kernel_rfl) (by kernel_rfl) (fun _ _ _ h => h) (Or.inl ⟨by rfl, ?hyt5⟩) (by assumption) ?restt5
              case hyt5 => (intro W9 hSw; (try dsimp only at hSw); go_simp; try with_reducible rfl)
              try simp only [List.getElem_toArray, List.getElem_cons_zero, List.getElem_cons_succ, Act.put, List.setIfInBounds_toArray, List.set_cons_zero, List.set_cons_succ]
              refine wpAnyH_take (i := 5) (v := ?vt6) rfl (by kernel_rfl) (by kernel_rfl) (by kernel_rfl) (fun _ _ _ h => h) (Or.inl ⟨by rfl, ?hyt6⟩) (by assumption) ?restt6
              case hyt6 => (intro W9 hSw; (try dsimp only at hSw); go_simp; try with_reducible rfl)
              try simp only [List.getElem_toArray, List.getElem_cons_zero, List.getElem_cons_succ, Act.put, List.setIfInBounds_toArray, List.set_cons_zero, List.set_cons_succ]
              refine wpAnyH_take (i := 6) (v := ?vt7) rfl (by kernel_rfl) (by kernel_rfl) (by kernel_rfl) (fun _ _ _ h => h) (Or.inl ⟨by rfl, ?hyt7⟩) (by assumption) ?restt7
              case hyt7 => (intro W9 hSw; (try dsimp only at hSw); go_simp; try with_reducible rfl)
              try simp only [List.getElem_toArray, List.getElem_cons_zero, List.getElem_cons_succ, Act.put, List.setIfInBounds_toArray, List.set_cons_zero, List.set_cons_succ]
              refine wpAnyH_take (i := 7) (v := ?vt8) rfl (by kernel_rfl) (by kernel_rfl) (by kernel_rfl) (fun _ _ _ h => h) (Or.inl ⟨by rfl, ?hyt8⟩) (by assumption) ?restt8
              case hyt8 => (intro W9 hSw; (try dsimp only at hSw); go_simp; try with_reducible rfl)
              try simp only [List.getElem_toArray, List.getElem_cons_zero, List.getElem_cons_succ, Act.put, List.setIfInBounds_toArray, List.set_cons_zero, List.set_cons_succ]
              refine wpAnyH_ready (rs := [8]) (by kernel_rfl) (by simp) ?_
              refine AllReadyH.cons rfl (fun K hK => ?_) AllReadyH.nil
              go_simp
              refine HIN.out.mono ?_
              rintro e w6 ⟨x, m, i, rfl, hi, hil, hAi, b6⟩
              have d06 := (b6.cell (p := ⟨g, o + pre.length, none⟩) (Nat.lt_of_lt_of_le hg5 HBD.out.size)).trans d0
              have d16 := (b6.cell (p := ⟨g2, o2 + p.length, none⟩) (Nat.lt_of_lt_of_le hg2 HWD.out.size)).trans d1
              have HB6 := Lib.hid (HBD.out.trans (b6.mono HBD.out.size)); have HW6 := Lib.hid (HWD.out.trans (b6.mono HWD.out.size))
              have HI6 := Lib.hid (HIT.out i hi)
              have HS6 := Lib.hid (size1 x i i m w6 hil (isOf_self hi.1) hAi)
              clear b6 hi hAi d0 d1 HIN
              generalize sizeL i = si at *
              go_wp2_with fail
              refine hK.out _ _ ?_ (fun hHeld => ?_)
              · exact ⟨d06, d16⟩
              clear hK K
              try dsimp only at hHeld
              try simp only [List.getElem_toArray, List.getElem_cons_zero, List.getElem_cons_succ, Act.put, List.setIfInBounds_toArray, List.set_cons_zero, List.set_cons_succ]
              refine wpAnyH_ready (rs := [9]) (by kernel_rfl) (by simp) ?_
              refine AllReadyH.cons rfl (fun K hK => ?_) AllReadyH.nil
              go_simp
              refine HS6.out.mono ?_
              rintro e w7 ⟨rfl, b7⟩
              have d07 := (b7.cell (p := ⟨g, o + pre.length, none⟩) (Nat.lt_of_lt_of_le hg5 HB6.out.size)).trans d06
              have d17 := (b7.cell (p := ⟨g2, o2 + p.length, none⟩) (Nat.lt_of_lt_of_le hg2 HW6.out.size)).trans d16
              have HB7 := Lib.hid (HB6.out.trans (b7.mono HB6.out.size))
              clear b7 d06 d16 HS6
              go_wp2_with fail
              refine hK.out _ _ ?_ (fun hHeld => ?_)
              · exact ⟨d07, d17⟩
              clear hK K
              try dsimp only at hHeld
              try simp only [List.getElem_toArray, List.getElem_cons_zero, List.getElem_cons_succ, Act.put, List.setIfInBounds_toArray, List.set_cons_zero, List.set_cons_succ]
              refine wpAnyH_take (i := 10) (v := ?vt9) rfl (by kernel_rfl) (by kernel_rfl) (by kernel_rfl) (fun _ _ _ h => h) (Or.inl ⟨by rfl, ?hyt9⟩) (by assumption) ?restt9
              case hyt9 => (intro W9 hSw; (try dsimp only at hSw); go_simp; try with_reducible rfl)
              try simp only [List.getElem_toArray, List.getElem_cons_zero, List.getElem_cons_succ, Act.put, List.setIfInBounds_toArray, List.set_cons_zero, List.set_cons_succ]
              refine wpAnyH_done (by kernel_rfl) ?_ _
              clear hHeld
              rcases HI6.out with hsi | hsi
              · subst si
                go_wp2_with fail
                refine (HSZ5.out w7 HB7.out).mono ?_
                rintro e w8 ⟨rfl, b8⟩
                have HB8 := Lib.hid (HB7.out.trans (b8.mono HB7.out.size))
                clear b8 d07 d17
                go_wp2
                go_roundw
                case rel => first | exact ⟨p ++ [L], q, by simp, hA4, HB8.out⟩ | exact ⟨p ++ [L], by simp, ⟨q, hA4⟩, HB8.out⟩
                case measure => simp [intOf]; omega
              · subst si
                clear d07 d17
                go_wp2
                go_roundw
                case rel => first | exact ⟨p ++ [L], q, by simp, hA4, HB7.out⟩ | exact ⟨p ++ [L], by simp, ⟨q, hA4⟩, HB7.out⟩
                case measure => simp [intOf]; omega
end Go.Proofs.Ytpmcnmlpkpoopaa
