/- CharsetRunes: it answers true, for any two lists of ranges and any rune. -/
import Derived.Test.YtpmcnmlpkpoopaaRN
namespace Go.Proofs.Ytpmcnmlpkpoopaa
open Go.RowKit Go.Shelf

theorem Runes_long (ao bo : Option Addr) (n m c d : Nat) (r : Int) (w : World) (h : 40 < n ∨ (n ≤ 40 ∧ 40 < m)) :
    Calls Try.prog 7 #[.slice ao n c, .slice bo m d, .int .i32 r] w fun e w' => e = .returned (.bool true) ∧ Below w.heap.size w w' := by
  have hk := Lib.hid (cknows_any w)
  rcases h with h | ⟨h0, h⟩
  · go_enter Try.func7, Try.ntmps7
    go_wp2_with fail
    refine hk.out.mono ?_
    rintro e w1 ⟨rfl, b1⟩
    go_wp2
    go_ret
    exact ⟨rfl, b1⟩
  · go_enter Try.func7, Try.ntmps7
    go_wp2_with fail
    refine hk.out.mono ?_
    rintro e w1 ⟨rfl, b1⟩
    go_wp2
    go_ret
    exact ⟨rfl, b1⟩
theorem has_union {L M u : List Rg} {r : Int} {x y : Bool} (hu : IsOf (L ++ M) u) (hx : x = true ↔ inU L r) (hy : y = true ↔ inU M r) : (x || y) = true ↔ inU u r := by
  rw [inU_canon hu.1, hu.2]
  unfold inU at *
  rw [inS_app, Bool.or_eq_true, hx, hy]
  constructor
  · rintro (h | h)
    · exact ⟨h.1, .inl h.2⟩
    · exact ⟨h.1, .inr h.2⟩
  · rintro ⟨h, h1 | h1⟩
    · exact .inl ⟨h, h1⟩
    · exact .inr ⟨h, h1⟩
theorem has_inter {L M u : List Rg} {r : Int} {x y : Bool} (hu : IsBoth L M u) (hx : x = true ↔ inU L r) (hy : y = true ↔ inU M r) : (x && y) = true ↔ inU u r := by
  rw [inU_canon hu.1, hu.2, Bool.and_eq_true, hx, hy]
theorem has_minus {L M u : List Rg} {r : Int} {x y : Bool} (hu : IsLess L M u) (hx : x = true ↔ inU L r) (hy : y = true ↔ inU M r) : (x && !y) = true ↔ inU u r := by
  rw [inU_canon hu.1, hu.2, Bool.and_eq_true, hx, ← hy]
  simp
theorem has_not {L u : List Rg} {r : Int} {x z : Bool} (hu : IsNot L u) (hx : x = true ↔ inU L r) (hz : z = true ↔ 0 ≤ r ∧ r ≤ 1114111) : (z && !x) = true ↔ inU u r := by
  rw [inU_canon hu.1, hu.2, Bool.and_eq_true, hz, ← hx]
  simp

set_option maxHeartbeats 4000000 in
set_option maxRecDepth 100000 in
theorem Runes_short (ao bo : Option Addr) (L M : List Rg) (c d : Nat) (r : Int) (w : World) (hL : L.length ≤ 40) (hM : M.length ≤ 40) (hA : At w ao L) (hB : At w bo M) :
    Calls Try.prog 7 #[.slice ao L.length c, .slice bo M.length d, .int .i32 r] w fun e w' => e = .returned (.bool true) ∧ Below w.heap.size w w' := by
  obtain ⟨x, hx⟩ : ∃ x : Bool, x = true ↔ inU L r := by
    by_cases h : inU L r
    · exact ⟨true, by simp [h]⟩
    · exact ⟨false, by simp [h]⟩
  obtain ⟨y, hy⟩ : ∃ x : Bool, x = true ↔ inU M r := by
    by_cases h : inU M r
    · exact ⟨true, by simp [h]⟩
    · exact ⟨false, by simp [h]⟩
  obtain ⟨z, hz⟩ : ∃ z : Bool, z = true ↔ 0 ≤ r ∧ r ≤ 1114111 := ⟨decide (0 ≤ r ∧ r ≤ 1114111), by simp⟩
  have HA := Lib.hid hA; have HB := Lib.hid hB; have HX := Lib.hid hx; have HY := Lib.hid hy; have HZ := Lib.hid hz
  obtain ⟨la, hla⟩ : ∃ l, IsOf L l := ⟨_, canF_is L⟩
  obtain ⟨lb, hlb⟩ : ∃ l, IsOf M l := ⟨_, canF_is M⟩
  have HLA := Lib.hid hla; have HLB := Lib.hid hlb
  clear hA hB hx hy hz hla hlb
  go_enter Try.func7, Try.ntmps7
  go_upto_region 3 with fail
  go_cut [7] from 14 to 142 (fun s7 wx => s7 = .bool z ∧ wx = w)
  case first =>
    by_cases h0 : 0 ≤ r
    · by_cases h1 : r ≤ 1114111
      · have hz1 : z = true := HZ.out.2 ⟨h0, h1⟩
        go_wp2_with fail
        go_meet
        exact ⟨by rw [hz1], rfl⟩
      · have hz1 : z = false := by
          cases z
          · rfl
          · exact absurd (HZ.out.1 rfl).2 h1
        go_wp2_with fail
        go_meet
        exact ⟨by rw [hz1], rfl⟩
    · have hz1 : z = false := by
        cases z
        · rfl
        · exact absurd (HZ.out.1 rfl).1 h0
      go_wp2_with fail
      go_meet
      exact ⟨by rw [hz1], rfl⟩
  case rest =>
    obtain ⟨rfl, rfl⟩ := hcut
    go_wp2_with fail
    refine (has1 ao L c r x wc (by omega) HX.out HA.out).mono ?_
    rintro e w1 ⟨rfl, b1⟩
    have HA1 := Lib.hid (HA.out.later b1); have HB1 := Lib.hid (HB.out.later b1); have hbb := b1
    clear b1 HA HB
    go_wp2_with fail
    refine (has1 bo M d r y w1 (by omega) HY.out HB1.out).mono ?_
    rintro e w2 ⟨rfl, b2⟩
    have HA2 := Lib.hid (HA1.out.later b2); have HB2 := Lib.hid (HB1.out.later b2); have hbb := hbb.trans (b2.mono hbb.size)
    clear b2 HA1 HB1
    go_wp2_with fail
    refine (union2 ao bo L M c d w2 (by omega) (by omega) HA2.out HB2.out).mono ?_
    rintro e w3 ⟨au, nu, u, rfl, hu, lu, Au, b3⟩
    have HA3 := Lib.hid (HA2.out.later b3); have HB3 := Lib.hid (HB2.out.later b3); have HU3 := Lib.hid Au; have HU := Lib.hid hu; have hbb := hbb.trans (b3.mono hbb.size)
    clear b3 HA2 HB2 Au hu
    go_wp2_with fail
    refine (inter2 ao bo L M c d w3 (by omega) (by omega) HA3.out HB3.out).mono ?_
    rintro e w4 ⟨ai, ni, i, rfl, hi, li, Ai, b4⟩
    have HA4 := Lib.hid (HA3.out.later b4); have HB4 := Lib.hid (HB3.out.later b4); have HU4 := Lib.hid (HU3.out.later b4); have HI4 := Lib.hid Ai; have HI := Lib.hid hi; have hbb := hbb.trans (b4.mono hbb.size)
    clear b4 HA3 HB3 HU3 Ai hi
    go_wp2_with fail
    refine (minus2 ao bo L M c d w4 (by omega) (by omega) HA4.out HB4.out).mono ?_
    rintro e w5 ⟨am, nm, m, rfl, hm, lm, Am, b5⟩
    have HA5 := Lib.hid (HA4.out.later b5); have HB5 := Lib.hid (HB4.out.later b5); have HU5 := Lib.hid (HU4.out.later b5); have HI5 := Lib.hid (HI4.out.later b5); have HM5 := Lib.hid Am; have HM := Lib.hid hm; have hbb := hbb.trans (b5.mono hbb.size)
    clear b5 HA4 HB4 HU4 HI4 Am hm
    go_wp2_with fail
    refine (not1 ao L c w5 (by omega) HA5.out).mono ?_
    rintro e w6 ⟨an, nn, n, rfl, hn, ln, An, b6⟩
    have HA := Lib.hid (HA5.out.later b6); have HB := Lib.hid (HB5.out.later b6); have HUA := Lib.hid (HU5.out.later b6); have HIA := Lib.hid (HI5.out.later b6); have HMA := Lib.hid (HM5.out.later b6); have HNA := Lib.hid An; have HN := Lib.hid hn; have HBB := Lib.hid (hbb.trans (b6.mono hbb.size))
    clear b6 HA5 HB5 HU5 HI5 HM5 An hn hbb
    have ln2 : n.length ≤ 30000 := by omega
    have ku := Lib.hid (has_union HU.out HX.out HY.out); have ki := Lib.hid (has_inter HI.out HX.out HY.out); have km := Lib.hid (has_minus HM.out HX.out HY.out); have kn := Lib.hid (has_not HN.out HX.out HZ.out)
    go_upto_region 6 with fail
    go_cut [86] from 14 to 142 (fun s86 wx => s86 = .bool false ∧ Below w6.heap.size w6 wx)
    case first =>
      cases x <;> cases y <;> cases z
      all_goals
        go_wp2_with fail
        refine (has1 au u nu r _ w6 (by omega) ku.out HUA.out).mono ?_
        rintro e w7 ⟨rfl, b7⟩
        have hb7 := Lib.hid b7
        clear b7
        go_wp2_with fail
        refine (has1 ai i ni r _ w7 (by omega) ki.out (HIA.out.later hb7.out)).mono ?_
        rintro e w8 ⟨rfl, b8⟩
        have hb8 := Lib.hid (hb7.out.trans (b8.mono hb7.out.size))
        clear b8
        go_wp2_with fail
        refine (has1 am m nm r _ w8 (by omega) km.out (HMA.out.later hb8.out)).mono ?_
        rintro e w9 ⟨rfl, b9⟩
        have hb9 := Lib.hid (hb8.out.trans (b9.mono hb8.out.size))
        clear b9
        go_wp2_with fail
        refine (has1 an n nn r _ w9 (by omega) kn.out (HNA.out.later hb9.out)).mono ?_
        rintro e w10 ⟨rfl, b10⟩
        have hb10 := Lib.hid (hb9.out.trans (b10.mono hb9.out.size))
        clear b10
        go_wp2_with fail
        go_meet
        exact ⟨rfl, hb10.out⟩
    case rest =>
      obtain ⟨rfl, hb6⟩ := hcut
      have hb6 := Lib.hid hb6
      clear ku ki km kn HX HY HZ
      go_wp2_with fail
      refine (right1 au u nu wc (by omega) HU.out.1 (HUA.out.later hb6.out)).mono ?_
      rintro e w7 ⟨rfl, b7⟩
      have hb7 := Lib.hid (hb6.out.trans (b7.mono hb6.out.size))
      clear b7
      go_wp2_with fail
      refine (right1 ai i ni w7 (by omega) HI.out.1 (HIA.out.later hb7.out)).mono ?_
      rintro e w8 ⟨rfl, b8⟩
      have hb8 := Lib.hid (hb7.out.trans (b8.mono hb7.out.size))
      clear b8
      go_wp2_with fail
      refine (right1 am m nm w8 (by omega) HM.out.1 (HMA.out.later hb8.out)).mono ?_
      rintro e w9 ⟨rfl, b9⟩
      have hb9 := Lib.hid (hb8.out.trans (b9.mono hb8.out.size))
      clear b9
      go_wp2_with fail
      refine (right1 an n nn w9 (by omega) HN.out.1 (HNA.out.later hb9.out)).mono ?_
      rintro e w10 ⟨rfl, b10⟩
      have hb10 := Lib.hid (hb9.out.trans (b10.mono hb9.out.size))
      clear b10
      have hsz := sizes_eq HU.out HI.out HLA.out HLB.out
      have s1 := size_bound HU.out.1; have s2 := size_bound HI.out.1; have s3 := size_bound HLA.out.1; have s4 := size_bound HLB.out.1
      have HS1 := Lib.hid (isOf_self HU.out.1); have HS2 := Lib.hid (isOf_self HI.out.1)
      obtain ⟨su, hsu⟩ : ∃ s, sizeL u = s := ⟨_, rfl⟩
      obtain ⟨si, hsi⟩ : ∃ s, sizeL i = s := ⟨_, rfl⟩
      obtain ⟨sa, hsa⟩ : ∃ s, sizeL la = s := ⟨_, rfl⟩
      obtain ⟨sb, hsb⟩ : ∃ s, sizeL lb = s := ⟨_, rfl⟩
      rw [hsu, hsi, hsa, hsb] at hsz
      rw [hsu] at s1; rw [hsi] at s2; rw [hsa] at s3; rw [hsb] at s4
      obtain ⟨st, hst⟩ : ∃ s, sa + sb = s := ⟨_, rfl⟩
      have st1 : -9223372036854775808 ≤ st := by omega
      have st2 : st ≤ 9223372036854775807 := by omega
      rw [hst] at hsz
      have HU1 := Lib.hid hsu; have HU2 := Lib.hid hsi; have HU3 := Lib.hid hsa; have HU4 := Lib.hid hsb
      clear hsu hsi hsa hsb s1 s2 s3 s4
      go_wp2_with fail
      refine (size1 au u _ nu w10 (by omega) HS1.out (HUA.out.later hb10.out)).mono ?_
      rintro e w11 ⟨rfl, b11⟩
      have hb11 := Lib.hid (hb10.out.trans (b11.mono hb10.out.size))
      clear b11
      rw [HU1.out]
      go_wp2_with fail
      refine (size1 ai i _ ni w11 (by omega) HS2.out (HIA.out.later hb11.out)).mono ?_
      rintro e w12 ⟨rfl, b12⟩
      have hb12 := Lib.hid (hb11.out.trans (b12.mono hb11.out.size))
      clear b12
      rw [HU2.out]
      go_wp2_with fail
      refine (size1 ao L _ c w12 (by omega) HLA.out (HA.out.later hb12.out)).mono ?_
      rintro e w13 ⟨rfl, b13⟩
      have hb13 := Lib.hid (hb12.out.trans (b13.mono hb12.out.size))
      clear b13
      rw [HU3.out]
      go_wp2_with fail
      refine (size1 bo M _ d w13 (by omega) HLB.out (HB.out.later hb13.out)).mono ?_
      rintro e w14 ⟨rfl, b14⟩
      have hb14 := Lib.hid (hb13.out.trans (b14.mono hb13.out.size))
      clear b14
      rw [HU4.out]
      go_wp2_with fail
      refine (not1 an n nn w14 ln2 (HNA.out.later hb14.out)).mono ?_
      rintro e w15 ⟨a1, n1, l1, rfl, h1, le1, A1, b15⟩
      have hb15 := Lib.hid (hb14.out.trans (b15.mono hb14.out.size))
      clear b15
      have K1 := Lib.hid h1; have H1 := Lib.hid A1
      clear h1 A1
      go_wp2_with fail
      refine (union1 ao L c w15 (by omega) (HA.out.later hb15.out)).mono ?_
      rintro e w16 ⟨a2, n2, l2, rfl, h2, le2, A2, b16⟩
      have H1 := Lib.hid (H1.out.later b16)
      have hb16 := Lib.hid (hb15.out.trans (b16.mono hb15.out.size))
      clear b16
      have K2 := Lib.hid h2; have H2 := Lib.hid A2
      clear h2 A2
      go_wp2_with fail
      refine (same_eq a1 a2 l1 l2 n1 n2 w16 (by omega) (not_not_eq HN.out K1.out K2.out) H1.out H2.out).mono ?_
      rintro e w17 ⟨rfl, b17⟩
      have hb17 := Lib.hid (hb16.out.trans (b17.mono hb16.out.size))
      clear b17
      go_wp2_with fail
      refine (not1 bo M d w17 (by omega) (HB.out.later hb17.out)).mono ?_
      rintro e w18 ⟨a3, n3, l3, rfl, h3, le3, A3, b18⟩
      have hb18 := Lib.hid (hb17.out.trans (b18.mono hb17.out.size))
      clear b18
      have K3 := Lib.hid h3; have H3 := Lib.hid A3
      clear h3 A3
      go_wp2_with fail
      refine (inter2 ao a3 L l3 c n3 w18 (by omega) (by omega) (HA.out.later hb18.out) H3.out).mono ?_
      rintro e w19 ⟨a4, n4, l4, rfl, h4, le4, A4, b19⟩
      have hb19 := Lib.hid (hb18.out.trans (b19.mono hb18.out.size))
      clear b19
      have K4 := Lib.hid h4; have H4 := Lib.hid A4
      clear h4 A4
      go_wp2_with fail
      refine (same_eq am a4 m l4 nm n4 w19 (by omega) (less_eq HM.out K3.out K4.out) (HMA.out.later hb19.out) H4.out).mono ?_
      rintro e w20 ⟨rfl, b20⟩
      have hb20 := Lib.hid (hb19.out.trans (b20.mono hb19.out.size))
      clear b20
      go_wp2_with fail
      refine (union2 bo ao M L d c w20 (by omega) (by omega) (HB.out.later hb20.out) (HA.out.later hb20.out)).mono ?_
      rintro e w21 ⟨a5, n5, l5, rfl, h5, le5, A5, b21⟩
      have hb21 := Lib.hid (hb20.out.trans (b21.mono hb20.out.size))
      clear b21
      have K5 := Lib.hid h5; have H5 := Lib.hid A5
      clear h5 A5
      go_wp2_with fail
      refine (same_eq au a5 u l5 nu n5 w21 (by omega) (union_comm HU.out K5.out) (HUA.out.later hb21.out) H5.out).mono ?_
      rintro e w22 ⟨rfl, b22⟩
      have hb22 := Lib.hid (hb21.out.trans (b22.mono hb21.out.size))
      clear b22
      go_wp2_with fail
      refine (cknows_any w22).mono ?_
      rintro e w23 ⟨rfl, b23⟩
      have hb23 := Lib.hid (hb22.out.trans (b23.mono hb22.out.size))
      clear b23
      go_wp2
      go_ret
      exact ⟨rfl, HBB.out.trans (hb23.out.mono HBB.out.size)⟩
theorem CharsetRunes_any (ao bo : Option Addr) (L M : List Rg) (c d : Nat) (r : Int) (w : World) (hA : At w ao L) (hB : At w bo M) :
    Calls Try.prog 7 #[.slice ao L.length c, .slice bo M.length d, .int .i32 r] w fun e w' => e = .returned (.bool true) ∧ Below w.heap.size w w' := by
  by_cases h1 : L.length ≤ 40
  · by_cases h2 : M.length ≤ 40
    · exact Runes_short ao bo L M c d r w h1 h2 hA hB
    · exact Runes_long ao bo _ _ c d r w (.inr ⟨h1, by omega⟩)
  · exact Runes_long ao bo _ _ c d r w (.inl (by omega))
end Go.Proofs.Ytpmcnmlpkpoopaa
