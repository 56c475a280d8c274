/- CharsetOps: it answers true, for any two lists of ranges. -/
import Derived.Test.YtaofhccgdcmojaaGU
namespace Go.Proofs.Ytaofhccgdcmojaa
open Go.RowKit Go.Shelf

theorem runion2 (a b : Option Addr) (L M : List Rg) (c d : Nat) (w : World) (hL : L.length ≤ 1000) (hM : M.length ≤ 1000) (ha : At w a L) (hb : At w b M) :
    Calls Try.prog 20 #[.slice (some ⟨w.heap.size, 0, none⟩) 2 2] (w.alloc (.cells #[.slice a L.length c, .slice b M.length d] 24)) fun e w' => ∃ x n l, e = .returned (.slice x l.length n) ∧ IsOf (L ++ M) l ∧ At w' x l ∧ Below w.heap.size w w' := by
  have bl := (Below.refl w.heap.size w).alloc (Nat.le_refl _) (.cells #[.slice a L.length c, .slice b M.length d] 24)
  refine (rUnion_any (some ⟨w.heap.size, 0, none⟩) [L, M] 2 _ (by simp) (by simp; omega) ((sts_new2 w (c := w.heap.size) rfl ha.now hb.now (Nat.le_refl _)).mono (by simp))).mono ?_
  rintro e w' ⟨x, n, l, rfl, h, A, b⟩
  exact ⟨x, n, l, rfl, by simpa using h, A, bl.trans (b.mono bl.size)⟩
theorem both_one {L M a b : List Rg} (ha : IsBoth L M a) (hb : IsBoth L M b) : a = b := canon_one a b ha.1 hb.1 fun x => (ha.2 x).trans (hb.2 x).symm
theorem less_one {L M a b : List Rg} (ha : IsLess L M a) (hb : IsLess L M b) : a = b := canon_one a b ha.1 hb.1 fun x => (ha.2 x).trans (hb.2 x).symm
theorem not_one {L a b : List Rg} (ha : IsNot L a) (hb : IsNot L b) : a = b := canon_one a b ha.1 hb.1 fun x => (ha.2 x).trans (hb.2 x).symm
set_option maxHeartbeats 1000000 in
theorem Ops_long (ao bo : Option Addr) (n m c d : Nat) (w : World) (h : 40 < n ∨ (n ≤ 40 ∧ 40 < m)) :
    Calls Try.prog 5 #[.slice ao n c, .slice bo m d] w fun e w' => e = .returned (.bool true) ∧ Below w.heap.size w w' := by
  have hk := Lib.hid (cknows_any w)
  rcases h with h | ⟨h0, h⟩
  · go_enter Try.func5, Try.ntmps5
    go_wp2_with fail
    refine hk.out.mono ?_
    rintro e w1 ⟨rfl, b1⟩
    go_wp2
    go_ret
    exact ⟨rfl, b1⟩
  · go_enter Try.func5, Try.ntmps5
    go_wp2_with fail
    refine hk.out.mono ?_
    rintro e w1 ⟨rfl, b1⟩
    go_wp2
    go_ret
    exact ⟨rfl, b1⟩
set_option maxHeartbeats 4000000 in
theorem Ops_short (ao bo : Option Addr) (L M : List Rg) (c d : Nat) (w : World) (hL : L.length ≤ 40) (hM : M.length ≤ 40) (hA : At w ao L) (hB : At w bo M) :
    Calls Try.prog 5 #[.slice ao L.length c, .slice bo M.length d] w fun e w' => e = .returned (.bool true) ∧ Below w.heap.size w w' := by
  have HA := Lib.hid hA; have HB := Lib.hid hB; have hb0 := Lib.hid (Below.refl w.heap.size w)
  clear hA hB
  go_enter Try.func5, Try.ntmps5
  go_wp2_with fail
  refine (union2 ao bo L M c d w (by omega) (by omega) (HA.out.later hb0.out) (HB.out.later hb0.out)).mono ?_
  rintro e w1 ⟨xu, nu, lu, rfl, hu, leu, Au, b1⟩
  have hb1 := Lib.hid (hb0.out.trans (b1.mono hb0.out.size))
  have Hu := Lib.hid hu; have Xu := Lib.hid Au
  clear hu Au
  clear b1
  go_wp2_with fail
  refine (runion2 ao bo L M c d w1 (by omega) (by omega) (HA.out.later hb1.out) (HB.out.later hb1.out)).mono ?_
  rintro e w2 ⟨yu, ou, ru, rfl, gu, Bu, b2⟩
  have hb2 := Lib.hid (hb1.out.trans (b2.mono hb1.out.size))
  have Gu := Lib.hid gu; have Yu := Lib.hid Bu; have Xu := Lib.hid (Xu.out.later b2)
  clear gu Bu
  clear b2
  go_wp2_with fail
  refine (same_eq xu yu lu ru nu ou w2 (by omega) (isOf_one Hu.out Gu.out) Xu.out Yu.out).mono ?_
  rintro e w3 ⟨rfl, b3⟩
  have hb3 := Lib.hid (hb2.out.trans (b3.mono hb2.out.size))
  clear b3
  go_wp2_with fail
  refine (inter2 ao bo L M c d w3 (by omega) (by omega) (HA.out.later hb3.out) (HB.out.later hb3.out)).mono ?_
  rintro e w4 ⟨xi, ni, li, rfl, hi, lei, Ai, b4⟩
  have hb4 := Lib.hid (hb3.out.trans (b4.mono hb3.out.size))
  have Hi := Lib.hid hi; have Xi := Lib.hid Ai
  clear hi Ai
  clear b4
  go_wp2_with fail
  refine (rInter_any ao bo L M c d w4 (by omega) (by omega) (HA.out.later hb4.out) (HB.out.later hb4.out)).mono ?_
  rintro e w5 ⟨yi, oi, ri, rfl, gi, Bi, b5⟩
  have hb5 := Lib.hid (hb4.out.trans (b5.mono hb4.out.size))
  have Gi := Lib.hid gi; have Yi := Lib.hid Bi; have Xi := Lib.hid (Xi.out.later b5)
  clear gi Bi
  clear b5
  go_wp2_with fail
  refine (same_eq xi yi li ri ni oi w5 (by omega) (both_one Hi.out Gi.out) Xi.out Yi.out).mono ?_
  rintro e w6 ⟨rfl, b6⟩
  have hb6 := Lib.hid (hb5.out.trans (b6.mono hb5.out.size))
  clear b6
  go_wp2_with fail
  refine (minus2 ao bo L M c d w6 (by omega) (by omega) (HA.out.later hb6.out) (HB.out.later hb6.out)).mono ?_
  rintro e w7 ⟨xm, nm, lm, rfl, hm, lem, Am, b7⟩
  have hb7 := Lib.hid (hb6.out.trans (b7.mono hb6.out.size))
  have Hm := Lib.hid hm; have Xm := Lib.hid Am
  clear hm Am
  clear b7
  go_wp2_with fail
  refine (rMinus_any ao bo L M c d w7 (by omega) (by omega) (HA.out.later hb7.out) (HB.out.later hb7.out)).mono ?_
  rintro e w8 ⟨ym, om, rm, rfl, gm, Bm, b8⟩
  have hb8 := Lib.hid (hb7.out.trans (b8.mono hb7.out.size))
  have Gm := Lib.hid gm; have Ym := Lib.hid Bm; have Xm := Lib.hid (Xm.out.later b8)
  clear gm Bm
  clear b8
  go_wp2_with fail
  refine (same_eq xm ym lm rm nm om w8 (by omega) (less_one Hm.out Gm.out) Xm.out Ym.out).mono ?_
  rintro e w9 ⟨rfl, b9⟩
  have hb9 := Lib.hid (hb8.out.trans (b9.mono hb8.out.size))
  clear b9
  go_wp2_with fail
  refine (not1 ao L c w9 (by omega) (HA.out.later hb9.out)).mono ?_
  rintro e w10 ⟨xn, nn, ln, rfl, hn, len, An, b10⟩
  have hb10 := Lib.hid (hb9.out.trans (b10.mono hb9.out.size))
  have Hn := Lib.hid hn; have Xn := Lib.hid An
  clear hn An
  clear b10
  go_wp2_with fail
  refine (rNot_any ao L c w10 (by omega) (HA.out.later hb10.out)).mono ?_
  rintro e w11 ⟨yn, on, rn, rfl, gn, Bn, b11⟩
  have hb11 := Lib.hid (hb10.out.trans (b11.mono hb10.out.size))
  have Gn := Lib.hid gn; have Yn := Lib.hid Bn; have Xn := Lib.hid (Xn.out.later b11)
  clear gn Bn
  clear b11
  go_wp2_with fail
  refine (same_eq xn yn ln rn nn on w11 (by omega) (not_one Hn.out Gn.out) Xn.out Yn.out).mono ?_
  rintro e w12 ⟨rfl, b12⟩
  have hb12 := Lib.hid (hb11.out.trans (b12.mono hb11.out.size))
  clear b12
  go_wp2_with fail
  refine (cknows_any w12).mono ?_
  rintro e w13 ⟨rfl, b13⟩
  have hb13 := Lib.hid (hb12.out.trans (b13.mono hb12.out.size))
  clear b13
  go_wp2
  go_ret
  exact ⟨rfl, hb13.out⟩
theorem CharsetOps_any (ao bo : Option Addr) (L M : List Rg) (c d : Nat) (w : World) (hA : At w ao L) (hB : At w bo M) :
    Calls Try.prog 5 #[.slice ao L.length c, .slice bo M.length d] w fun e w' => e = .returned (.bool true) ∧ Below w.heap.size w w' := by
  by_cases h1 : L.length ≤ 40
  · by_cases h2 : M.length ≤ 40
    · exact Ops_short ao bo L M c d w h1 h2 hA hB
    · exact Ops_long ao bo _ _ c d w (.inr ⟨h1, by omega⟩)
  · exact Ops_long ao bo _ _ c d w (.inl (by omega))
end Go.Proofs.Ytaofhccgdcmojaa
