/- charset.Parts: any list of sets. -/
import Derived.Test.YtpmcnmlpkpoopaaV
import Derived.Test.YtpmcnmlpkpoopaaIB
import Derived.IntWalk
namespace Go.Proofs.Ytpmcnmlpkpoopaa
open Go.RowKit Go.Shelf

theorem infoSet : (Try.prog.info? 24).map (fun i => (i.zero, i.size, i.bytes)) = some (some (.slice none 0 0), 1, 24) := by kernel_rfl
theorem own_len {w : World} {base : Nat} {e : TypeId} {sz n : Nat} {v : Value} {xs : List Value} (h : w.ownsRow base e sz v n xs) : ∃ ao c, v = .slice ao n c ∧ n ≤ c ∧ c ≤ maxLen := by
  rcases h.2 with ⟨rfl, rfl⟩ | ⟨g, cap, cur, rfl, _, _, h1, h2, _⟩
  · exact ⟨_, _, rfl, Nat.le_refl _, by simp [maxLen]⟩
  · exact ⟨_, _, rfl, h1, h2⟩
/-- append of one set to an own row of sets. -/
theorem wp_app_set {ops : Array Oper} {rest : List Oper} {o : Oper} {a : Act} {Q : Exit → Act → World → Prop} (hgd : o.guard = none) (s x : Operand)
    (ho : o.op = .call { callee := .builtin .append, args := #[s, x], argTypes := #[34, 34] })
    (base : Nat) (v : Value) (n : Nat) (vs : List Value) (W : World) (hown : W.ownsRow base 24 1 v n vs) (hs : a.eval s = v) (ao : Option Addr) (m c0 c k : Nat)
    (hx : a.eval x = .slice (some ⟨k, 0, none⟩) 1 c) (hk : W.heap.size = k) (hn : n < 1000000) (hb : base ≤ W.heap.size)
    (h : ∀ v' w', w'.ownsRow base 24 1 v' (n + 1) (vs ++ [.slice ao m c0]) → W.grownBy w' v.ownBlock → (∀ k, v'.ownBlock = some k → v.ownBlock = some k ∨ W.heap.size ≤ k) → wpList Try.prog ops Q rest (a.put o.dst v') w') :
    wpList Try.prog ops Q (o :: rest) a (W.alloc (.cells #[.slice ao m c0] 24)) := by
  subst hk
  obtain ⟨i0, hi, hz0, hz1, hz2⟩ := info_parts infoSet
  obtain ⟨v', w', hr, h1, h2, h3⟩ := app_own_at (W.alloc (.cells #[.slice ao m c0] 24)) base 34 o.type 24 i0 (.slice none 0 0) 1 24 Try.underlying34 hi hz0 hz1 hz2 rfl (by decide) v n vs (hown.alloc _) ⟨W.heap.size, 0, none⟩ 1 c [.slice ao m c0] rfl
    (fun j u hj => by
      have hb := World.alloc_heap_new W (.cells #[.slice ao m c0] 24)
      match j, hj with
      | 0, hj => simp at hj; subst hj; rw [show ((⟨W.heap.size, 0, none⟩ : Addr).add 0) = ⟨W.heap.size, 0, none⟩ by simp [Addr.add], Lib.cell_of_heap hb]; rfl) (fun u hu => by simp at hu; subst hu; rfl) (by unfold maxLen; omega) (by omega) (by simp; omega)
  refine Lib.wpList_append_run _ hgd s x 34 34 ho _ _ hs hx _ _ hr (h v' w' h1 (grown_of_alloc h2) (fun k hk => ?_))
  rcases h3 k hk with h | h
  · exact .inl h
  · rw [World.size_alloc] at h
    exact .inr (by omega)
theorem row_frozen {w : World} {base : Nat} {e : TypeId} {sz n m g cap : Nat} {xs : List Value} (h : w.ownsRow base e sz (.slice (some ⟨g, 0, none⟩) m cap) n xs) (j : Nat) : w.frozen? ⟨g, j, none⟩ = false := by
  rcases h.2 with ⟨h2, _⟩ | ⟨g', cap', cur, e, _, h4, _⟩
  · simp at h2
  · obtain ⟨rfl, _⟩ : g = g' ∧ m = n := by simp at e; exact ⟨e.1, e.2.1⟩
    exact Lib.frozen_of_heap h4 j
theorem one_rg (W : World) (base : Nat) (r : Rg) (hb : base ≤ W.heap.size) : (W.alloc (.cells #[.int .i32 r.1, .int .i32 r.2] 41)).ownsRow base 41 2 (.slice (some ⟨W.heap.size, 0, none⟩) 1 1) [r].length (rgCells [r]) :=
  World.ownsRow_lit W #[.int .i32 r.1, .int .i32 r.2] 1 hb (by simp [maxLen]) rfl

theorem PS.fin {W W' : World} {base : Nat} {nv pv : Value} {nn : List Rg} {ps : List (List Rg)} {vs : List Value} (h : PS W base nv pv nn ps vs) (hg : W.grownBy W' pv.ownBlock) :
    ∀ (i : Nat) (v : Value) (l : List Rg), (vs ++ [nv])[i]? = some v → (ps ++ [nn])[i]? = some l → W'.ownsRow base 41 2 v l.length (rgCells l) := by
  intro i v q a b
  rw [List.getElem?_append] at a b
  have hl := h.len
  split at a
  · rw [if_pos (by omega)] at b
    exact (h.each i v q a b).kept hg (h.apart 1 (i + 2) pv v (by omega) rfl (by simpa using a)).ne
  · rw [if_neg (by omega)] at b
    have hi0 : i - vs.length = 0 := by
      rcases Nat.eq_zero_or_pos (i - vs.length) with e | e
      · exact e
      · rw [List.getElem?_eq_none (by simp only [List.length_cons, List.length_nil]; omega)] at a; cases a
    have hi1 : i - ps.length = 0 := by omega
    rw [hi0] at a
    rw [hi1] at b
    simp at a b
    subst a b
    exact h.nset.kept hg (h.apart 1 0 pv nv (by omega) rfl rfl).ne
theorem parts_end {B : Nat} {w w' : World} {P : List Pc} {L : List (List Rg)} (e2 : partsL P = L) {ao : Option Addr} {n cap : Nat} (hn : n = L.length) (h1 : L.length ≤ cap) (h2 : cap ≤ maxLen) (h3 : Sts w' w'.heap.size ao L) (h4 : Below B w w') :
    ∃ ao' cap', Ending.returned (.slice ao n cap) = .returned (.slice ao' (partsL P).length cap') ∧ (partsL P).length ≤ cap' ∧ cap' ≤ 9223372036854775807 ∧ Sts w' w'.heap.size ao' (partsL P) ∧ Below B w w' := by
  subst e2 hn
  exact ⟨ao, cap, rfl, h1, by simpa [maxLen] using h2, h3, h4⟩

set_option maxHeartbeats 4000000 in
set_option maxRecDepth 100000 in
theorem Parts_any (LL : List (List Rg)) (a : Option Addr) (c : Nat) (w : World) (hc : LL.length ≤ c) (hcb : c ≤ 9223372036854775807) (hN : LL.length ≤ 100000) (hT : LL.flatten.length ≤ 100000) (hS : Sts w w.heap.size a LL) :
    Calls Try.prog 29 #[.slice a LL.length c] w fun e w' => ∃ ao cap, e = .returned (.slice ao (partsL (pcsAll (LL.length + 1) LL)).length cap) ∧ (partsL (pcsAll (LL.length + 1) LL)).length ≤ cap ∧ cap ≤ 9223372036854775807 ∧ Sts w' w'.heap.size ao (partsL (pcsAll (LL.length + 1) LL)) ∧ Below w.heap.size w w' := by
  have hp := pieces_any (LL.length + 1) LL a c w (by omega) hc hcb hN hT hS
  have hl := pcsAll_length (LL.length + 1) LL (by omega)
  have hk := pcsAll_class (LL.length + 1) LL (by omega)
  have hF : (pcsAll (LL.length + 1) LL).length ≤ 300001 := by omega
  have HP := Lib.hid hp; have HK := Lib.hid hk
  clear hp hk hS hl
  generalize pcsAll (LL.length + 1) LL = F at *
  generalize LL.length = N at *
  go_enter Try.func29, Try.ntmps29
  go_wp2_with fail
  refine HP.out.mono ?_
  rintro e w1 ⟨v1, rfl, o1, b1⟩
  obtain ⟨a1, c1, rfl, P1⟩ := pcs_of_own o1
  have HP1 := Lib.hid P1; have HB1 := Lib.hid b1
  clear P1 b1 o1 HP
  go_wp2_with fail
  go_loopw [3, 4, 10] (fun s3 s4 i wr => ∃ (pre rest : List Pc) (nv pv : Value) (nn : List Rg) (ps : List (List Rg)) (vs : List Value), nv = s3 ∧ pv = s4 ∧ i = .int .i64 pre.length ∧ Hid (pre ++ rest = F) ∧ Hid (pre.foldl stepP ([], []) = (nn, ps)) ∧ Hid (PS wr w1.heap.size nv pv nn ps vs) ∧ Below w1.heap.size w1 wr) (fun _ _ i _ => F.length - (intOf i).toNat)
  case atStart => exact ⟨[], F, _, _, [], [], [], rfl, rfl, rfl, rfl, rfl, Lib.hid (PS.start _ _), Below.refl _ _⟩
  case round =>
    obtain ⟨pre, rest, nv, pv, nn, ps, vs, rfl, rfl, rfl, hA, hD, hP, hb⟩ := hrel
    have hsz := foldP_size pre ([], []) 0 (by simp) (by simp) (by simp)
    rw [hD.out] at hsz
    simp only [Nat.zero_add] at hsz
    have hpl : pre.length ≤ F.length := by rw [← hA.out]; simp
    obtain ⟨an, cn, rfl, _, _⟩ := own_len hP.out.nset
    obtain ⟨ap, cp, rfl, hpc, hpm⟩ := own_len hP.out.row
    rcases rest with _ | ⟨⟨⟨x1, x2⟩, x3⟩, rest⟩
    · have e1 := hA.out
      rw [List.append_nil] at e1
      subst e1
      have hbw : Below w.heap.size w wr := HB1.out.trans (hb.mono HB1.out.size)
      by_cases hn0 : nn.length = 0
      · have e2 : partsL pre = ps := by unfold partsL; rw [hD.out, if_pos hn0]
        obtain ⟨ao, cap, e3, h4, h5⟩ := sts_of_rows hP.out.row hP.out.each
        obtain ⟨rfl, rfl⟩ : ap = ao ∧ cp = cap := by simpa using e3
        have HE := Lib.hid (parts_end (n := ps.length) e2 rfl h4 hpm h5 hbw)
        clear e3 h5 hA hD hP e2 hsz
        generalize ps.length = M at *
        generalize nn.length = K at *
        subst hn0
        go_wp2
        go_ret
        exact HE.out
      · have e2 : partsL pre = ps ++ [nn] := by unfold partsL; rw [hD.out, if_neg hn0]
        have hn1 : 0 < nn.length := by omega
        have hw1 : w1.heap.size ≤ wr.heap.size := hb.size
        have hM : ps.length < 1000000 := by omega
        have HX := hP.out.row
        have E2 := Lib.hid e2
        have hlen : (ps ++ [nn]).length = ps.length + 1 := by simp
        have hlv := hP.out.len
        have HLEN := Lib.hid hlen
        clear e2 hA hD hsz hlen
        generalize hMM : ps.length = M at *
        generalize hKK : nn.length = K at *
        go_wp2_with (at_builtin; refine wp_app_set rfl _ _ rfl w1.heap.size _ M vs _ HX rfl an K cn 1 _ rfl rfl hM hw1 ?_)
        intro v' w' h1 h2 h3
        obtain ⟨a', c', rfl, k1, k2⟩ := own_len h1
        have hb5 : Below w.heap.size w w' := hbw.grown h2 hbw.size (fun k hk => by have h4 := (HX.lt k hk).1; have h5 := HB1.out.size; omega)
        rw [← HLEN.out] at h1
        obtain ⟨ao, cap, e3, h4, h5⟩ := sts_of_rows h1 (hP.out.fin h2)
        obtain ⟨rfl, rfl⟩ : a' = ao ∧ c' = cap := by
          rw [HLEN.out] at e3
          simpa using e3
        have HE := Lib.hid (parts_end (n := M + 1) E2.out HLEN.out.symm h4 k2 h5 hb5)
        clear e3 h5 h1 h2 h3 hP HX
        go_wp2
        go_ret
        exact HE.out
    · have hlt : pre.length < F.length := by rw [← hA.out]; simp
      obtain ⟨g, o, rfl, hg, p0, p1, p2⟩ := HP1.out _ _ _ hA.out
      have q0 := (hb.cell (p := ⟨g, o + pre.length * 3, none⟩) hg).trans p0
      have q1 := (hb.cell (p := ⟨g, o + pre.length * 3 + 1, none⟩) hg).trans p1
      have q2 := (hb.cell (p := ⟨g, o + pre.length * 3 + 2, none⟩) hg).trans p2
      have hk3 := HK.out ((x1, x2), x3) (by rw [← hA.out]; simp)
      have y := PcAt.new wr ((x1, x2), x3)
      have d0 := y.c0; have d1 := y.c1; have d2 := y.c2
      have hP1 := hP.out.alloc (.cells #[.int .i32 x1, .int .i32 x2, .int .i64 x3] 58)
      have hb1 := hb.alloc hb.size (.cells #[.int .i32 x1, .int .i32 x2, .int .i64 x3] 58)
      have hz1 : (wr.alloc (.cells #[.int .i32 x1, .int .i32 x2, .int .i64 x3] 58)).heap.size = wr.heap.size + 1 := by simp
      have hws : w1.heap.size ≤ wr.heap.size := hb.size
      have hw1 : w1.heap.size ≤ (wr.alloc (.cells #[.int .i32 x1, .int .i32 x2, .int .i64 x3] 58)).heap.size := by rw [hz1]; omega
      have hDn : (pre ++ [((x1, x2), x3)]).foldl stepP ([], []) = stepP (nn, ps) ((x1, x2), x3) := by rw [List.foldl_append, hD.out]; rfl
      have hst : stepP (nn, ps) ((x1, x2), x3) = if x3 = 0 then (nn ++ [(x1, x2)], ps) else if (ps.length : Int) < x3 then (nn, ps ++ [[(x1, x2)]]) else (nn, ps.set (x3 - 1).toNat ((ps[(x3 - 1).toNat]?.getD []) ++ [(x1, x2)])) := rfl
      rw [hst] at hDn
      clear hst
      have hL9 : F.length ≤ 1000000 := by omega
      dsimp only at q0 q1 q2 d0 d1 d2 hDn hk3
      have HP9 := hP
      clear p0 p1 p2 y hb hP
      by_cases c0 : x3 = 0
      · subst c0
        rw [if_pos rfl] at hDn
        have hn9 : nn.length < 1000000 := by omega
        have HX := hP1.nset
        have HDn := Lib.hid hDn; have HP := Lib.hid hP1
        clear hDn hP1 hD hsz
        generalize hKK : nn.length = K at *
        go_wp2_with (at_builtin; refine wp_app_at rfl _ _ rfl w1.heap.size _ nn _ (by rw [hKK]; exact HX) rfl (x1, x2) 1 _ rfl hz1 (by omega) hw1 ?_)
        intro v' w' h1 h2 h3
        obtain ⟨a', c', rfl, k1, k2⟩ := own_len h1
        have hb5 := hb1.grown h2 hw1 (fun k hk => (HX.lt k hk).1)
        have HPN := Lib.hid (HP.out.app_none h2 (r := (x1, x2)) (by rw [List.length_append, hKK]; exact h1) (fun k e => by rw [hz1]; exact h3 k e))
        clear h1 h2 h3 HP hb1 d0 d1 d2 q0 q1 q2 HX
        go_wp2
        go_roundw
        case rel => exact ⟨pre ++ [((x1, x2), 0)], rest, _, _, _, _, vs, rfl, rfl, by simp, Lib.hid (by rw [List.append_assoc]; exact hA.out), HDn, HPN, hb5⟩
        case measure => simp [intOf]; omega
      · rw [if_neg c0] at hDn
        by_cases c1 : (ps.length : Int) < x3
        · rw [if_pos c1] at hDn
          have hn9 : ps.length < 1000000 := by omega
          have y2 := RgAt.new (wr.alloc (.cells #[.int .i32 x1, .int .i32 x2, .int .i64 x3] 58)) (x1, x2)
          have HXP := Lib.hid ((hP1.alloc (.cells #[.int .i32 x1, .int .i32 x2] 41)).row)
          have HE := Lib.hid (one_rg (wr.alloc (.cells #[.int .i32 x1, .int .i32 x2, .int .i64 x3] 58)) w1.heap.size (x1, x2) hw1)
          have hz2 : ((wr.alloc (.cells #[.int .i32 x1, .int .i32 x2, .int .i64 x3] 58)).alloc (.cells #[.int .i32 x1, .int .i32 x2] 41)).heap.size = wr.heap.size + 2 := by simp
          have hw2 : w1.heap.size ≤ ((wr.alloc (.cells #[.int .i32 x1, .int .i32 x2, .int .i64 x3] 58)).alloc (.cells #[.int .i32 x1, .int .i32 x2] 41)).heap.size := by rw [hz2]; omega
          have hb2 := hb1.alloc hw1 (.cells #[.int .i32 x1, .int .i32 x2] 41)
          have hg2 := World.grownBy_alloc (wr.alloc (.cells #[.int .i32 x1, .int .i32 x2, .int .i64 x3] 58)) (.cells #[.int .i32 x1, .int .i32 x2] 41) none
          have hf : ∀ k, (Value.slice (some ⟨wr.heap.size + 1, 0, none⟩) 1 1).ownBlock = some k → (wr.alloc (.cells #[.int .i32 x1, .int .i32 x2, .int .i64 x3] 58)).heap.size ≤ k := fun k e => by
            simp only [Value.ownBlock, Option.some.injEq] at e
            omega
          have HDn := Lib.hid hDn; have HP := Lib.hid hP1; have HG2 := Lib.hid hg2; have HF := Lib.hid hf
          have HX := HXP.out
          rw [hz1] at HE
          clear hDn hP1 hD hsz y2 hg2 hf
          generalize hMM : ps.length = M at *
          go_wp2_with (at_builtin; refine wp_app_set rfl _ _ rfl w1.heap.size _ M vs _ HX rfl (some ⟨wr.heap.size + 1, 0, none⟩) 1 1 1 _ rfl hz2 hn9 hw2 ?_)
          intro v' w' h1 h2 h3
          obtain ⟨a', c', rfl, k1, k2⟩ := own_len h1
          have hb5 := hb2.grown h2 hw2 (fun k hk => (HX.lt k hk).1)
          have HPN := Lib.hid (HP.out.push HG2.out HE.out HF.out h2 (by rw [List.length_append, hMM]; exact h1) (fun k e => by rw [hz2]; exact h3 k e))
          clear h1 h2 h3 HP hb1 hb2 d0 d1 d2 q0 q1 q2 HX HXP HE HF HG2
          go_wp2
          go_roundw
          case rel => exact ⟨pre ++ [((x1, x2), x3)], rest, _, _, _, _, _, rfl, rfl, by simp, Lib.hid (by rw [List.append_assoc]; exact hA.out), HDn, HPN, hb5⟩
          case measure => simp [intOf]; omega
        · rw [if_neg c1] at hDn
          obtain ⟨i, rfl⟩ : ∃ i : Nat, x3 = (i : Int) + 1 := ⟨(x3 - 1).toNat, by omega⟩
          have hi : i < ps.length := by omega
          have hi3 : ((i : Int) + 1 - 1).toNat = i := by omega
          obtain ⟨pl, hpl⟩ : ∃ pl, ps[i]? = some pl := ⟨_, List.getElem?_eq_getElem hi⟩
          rw [hi3, hpl, Option.getD_some] at hDn
          have hlv := hP1.len
          obtain ⟨u, hu⟩ : ∃ u, vs[i]? = some u := ⟨vs[i]'(by omega), List.getElem?_eq_getElem (by omega)⟩
          have hl9 : pl.length < 1000000 := by have := hsz.2.2 pl (List.mem_of_getElem? hpl); omega
          have hE := hP1.each i u pl hu hpl
          obtain ⟨au, cu, rfl, _, _⟩ := own_len hE
          obtain ⟨gp, rfl⟩ : ∃ gp, ap = some ⟨gp, 0, none⟩ := by
            rcases hP1.row.2 with ⟨h0, _⟩ | ⟨g', cap', cur, e, _⟩
            · simp at h0; omega
            · simp at e; exact ⟨g', e.1⟩
          have ci : (wr.alloc (.cells #[.int .i32 x1, .int .i32 x2, .int .i64 (i + 1)] 58)).cell? ⟨gp, i, none⟩ = some (.slice au pl.length cu) := by rw [hP1.row.cellAt i (by omega)]; exact hu
          have HDn := Lib.hid hDn; have HP := Lib.hid hP1; have HE := Lib.hid hE; have HPL := Lib.hid hpl; have HU := Lib.hid hu
          clear hDn hP1 hD hE hpl hu hsz hi3
          generalize hMM : ps.length = M at *
          generalize hpp : pl.length = KL at *
          go_wp2_with fail
          have HWI : Hid (IntKind.i64.wrap (i : Int) = (i : Int)) := Lib.hid (IntWalk.i64_in _ (by omega))
          have HWJ : Hid (wrap64 (i : Int) = (i : Int)) := Lib.hid (by unfold wrap64; omega)
          have hiM : (i : Int) < (M : Int) := Int.ofNat_lt.2 hi
          have hi1 : i < M * 1 := by omega
          have hK1 : (pl ++ [(x1, x2)]).length = KL + 1 := by rw [List.length_append, hpp]; rfl
          have HPr : Hid (PS wr w1.heap.size (.slice an nn.length cn) (.slice (some ⟨gp, 0, none⟩) M cp) nn ps vs) := HP9
          have V := PcAt.new wr ((x1, x2), (i : Int) + 1)
          have hn6 : wr.heap.size < (wr.alloc (.cells #[.int .i32 x1, .int .i32 x2, .int .i64 (i + 1)] 58)).heap.size := by rw [hz1]; omega
          have hne6 : (Value.slice au KL cu).ownBlock ≠ some wr.heap.size := fun e => by
            have := HPr.out.under (.slice au KL cu) (by simp only [List.mem_cons]; exact .inr (.inr (List.mem_of_getElem? HU.out))) _ e
            omega
          dsimp only at V
          generalize hW1 : wr.alloc (.cells #[.int .i32 x1, .int .i32 x2, .int .i64 (i + 1)] 58) = W1 at *
          have HV : Hid (PcAt W1.drew wr.heap.size ((x1, x2), (i : Int) + 1)) := Lib.hid V
          have HVA : Hid (PcAt (W1.drew.alloc (.cells #[.int .i32 x1, .int .i32 x2] 41)) wr.heap.size ((x1, x2), (i : Int) + 1)) := Lib.hid (HV.out.alloc _)
          have HE0 : Hid (W1.drew.ownsRow w1.heap.size 41 2 (.slice au KL cu) pl.length (rgCells pl)) := by rw [hpp]; exact HE
          have HP0 : Hid (PS W1.drew w1.heap.size (.slice an nn.length cn) (.slice (some ⟨gp, 0, none⟩) M cp) nn ps vs) := Lib.hid (HP.out.grown (grown_drew ⟨rfl, rfl, rfl, Nat.le_refl _, fun _ _ _ => rfl⟩))
          have hb0 : Below w1.heap.size w1 W1.drew := ⟨hb1.os, hb1.tape, hb1.output, hb1.size, hb1.block⟩
          have hw0 : w1.heap.size ≤ W1.drew.heap.size := hw1
          have hl8 : pl.length < 1000000 := by omega
          have k0 : W1.drew.cell? ⟨gp, i, none⟩ = some (.slice au KL cu) := ci
          have k4 := cell_al k0 (HP0.out.row.lt gp rfl).2 (.cells #[.int .i32 x1, .int .i32 x2] 41)
          clear V HP HE hb1 ci d0 d1 d2 q0 q1 q2 hW1 hw1
          generalize hn6e : wr.heap.size = n6 at *
          refine wp_region_held_drew (S := fun w' => w'.cell? ⟨n6, 0, none⟩ = some (.int .i32 x1) ∧ w'.cell? ⟨n6, 1, none⟩ = some (.int .i32 x2) ∧ w'.cell? ⟨n6, 2, none⟩ = some (.int .i64 (i + 1))) (by kernel_rfl) ?_ (fun hHeld => ?_)
          · exact ⟨HV.out.c0, HV.out.c1, HV.out.c2⟩
          try dsimp only at hHeld
          generalize W1.drew = w0 at *
          have hwi := HWI.out; have hwj := HWJ.out
          refine wpAnyH_take (i := 0) (v := ?v1) rfl (by kernel_rfl) (by kernel_rfl) (by kernel_rfl) (fun _ _ _ h => h) (Or.inl ⟨by rfl, ?hy1⟩) (by assumption) ?rest1
          case hy1 => (intro W9 hSw; (try dsimp only at hSw); go_simp; try with_reducible rfl)
          try simp only [List.getElem_toArray, List.getElem_cons_zero, Act.put, List.setIfInBounds_toArray, List.set_cons_zero, List.set_cons_succ]
          refine wpAnyH_take (i := 1) (v := ?v2) rfl (by kernel_rfl) (by kernel_rfl) (by kernel_rfl) (fun _ _ _ h => h) (Or.inl ⟨by rfl, ?hy2⟩) (by assumption) ?rest2
          case hy2 => (intro W9 hSw; (try dsimp only at hSw); go_simp; try with_reducible rfl)
          try simp only [List.getElem_toArray, List.getElem_cons_zero, List.getElem_cons_succ, Act.put, List.setIfInBounds_toArray, List.set_cons_zero, List.set_cons_succ]
          refine wpAnyH_take (i := 2) (v := ?v3) rfl (by kernel_rfl) (by kernel_rfl) (by kernel_rfl) (fun _ _ _ h => h) (Or.inl ⟨by rfl, ?hy3⟩) (by assumption) ?rest3
          case hy3 => (intro W9 hSw; (try dsimp only at hSw); go_simp; try with_reducible rfl)
          try simp only [List.getElem_toArray, List.getElem_cons_zero, List.getElem_cons_succ, Act.put, List.setIfInBounds_toArray, List.set_cons_zero, List.set_cons_succ]
          refine wpAnyH_take (i := 3) (v := ?v4) rfl (by kernel_rfl) (by kernel_rfl) (by kernel_rfl) (fun _ _ _ h => h) (Or.inl ⟨by rfl, ?hy4⟩) (by assumption) ?rest4
          case hy4 => (intro W9 hSw; (try dsimp only at hSw); go_simp; try with_reducible rfl)
          try simp only [List.getElem_toArray, List.getElem_cons_zero, List.getElem_cons_succ, Act.put, List.setIfInBounds_toArray, List.set_cons_zero, List.set_cons_succ]
          refine wpAnyH_take (i := 4) (v := ?v5) rfl (by kernel_rfl) (by kernel_rfl) (by kernel_rfl) (fun _ _ _ h => h) (Or.inl ⟨by rfl, ?hy5⟩) (by assumption) ?rest5
          case hy5 => (intro W9 hSw; (try dsimp only at hSw); go_simp; try with_reducible rfl)
          try simp only [List.getElem_toArray, List.getElem_cons_zero, List.getElem_cons_succ, Act.put, List.setIfInBounds_toArray, List.set_cons_zero, List.set_cons_succ]
          refine wpAnyH_take (i := 5) (v := ?v6) rfl (by kernel_rfl) (by kernel_rfl) (by kernel_rfl) (fun _ _ _ h => h) (Or.inl ⟨by rfl, ?hy6⟩) (by assumption) ?rest6
          case hy6 => (intro W9 hSw; (try dsimp only at hSw); go_simp; try with_reducible rfl)
          try simp only [List.getElem_toArray, List.getElem_cons_zero, List.getElem_cons_succ, Act.put, List.setIfInBounds_toArray, List.set_cons_zero, List.set_cons_succ]
          refine wpAnyH_take (i := 6) (v := ?v7) rfl (by kernel_rfl) (by kernel_rfl) (by kernel_rfl) (fun _ _ _ h => h) (Or.inl ⟨by rfl, ?hy7⟩) (by assumption) ?rest7
          case hy7 => (intro W9 hSw; (try dsimp only at hSw); go_simp; try with_reducible rfl)
          try simp only [List.getElem_toArray, List.getElem_cons_zero, List.getElem_cons_succ, Act.put, List.setIfInBounds_toArray, List.set_cons_zero, List.set_cons_succ]
          refine wpAnyH_take (i := 7) (v := ?v8) rfl (by kernel_rfl) (by kernel_rfl) (by kernel_rfl) (fun _ _ _ h => h) (Or.inl ⟨by rfl, ?hy8⟩) (by assumption) ?rest8
          case hy8 => (intro W9 hSw; (try dsimp only at hSw); go_simp; try with_reducible rfl)
          try simp only [List.getElem_toArray, List.getElem_cons_zero, List.getElem_cons_succ, Act.put, List.setIfInBounds_toArray, List.set_cons_zero, List.set_cons_succ]
          refine wpAnyH_take (i := 8) (v := ?v9) rfl (by kernel_rfl) (by kernel_rfl) (by kernel_rfl) (fun _ _ _ h => h) (Or.inl ⟨by rfl, ?hy9⟩) (by assumption) ?rest9
          case hy9 => (intro W9 hSw; (try dsimp only at hSw); go_simp; try with_reducible rfl)
          try simp only [List.getElem_toArray, List.getElem_cons_zero, List.getElem_cons_succ, Act.put, List.setIfInBounds_toArray, List.set_cons_zero, List.set_cons_succ]
          refine wpAnyH_take (i := 10) (v := ?v10) rfl (by kernel_rfl) (by kernel_rfl) (by kernel_rfl) (fun _ _ _ h => h) (Or.inl ⟨by rfl, ?hy10⟩) (by assumption) ?rest10
          case hy10 => (intro W9 hSw; (try dsimp only at hSw); go_simp; try with_reducible rfl)
          try simp only [List.getElem_toArray, List.getElem_cons_zero, List.getElem_cons_succ, Act.put, List.setIfInBounds_toArray, List.set_cons_zero, List.set_cons_succ]
          refine wpAnyH_take (i := 11) (v := ?v11) rfl (by kernel_rfl) (by kernel_rfl) (by kernel_rfl) (fun _ _ _ h => h) (Or.inl ⟨by rfl, ?hy11⟩) (by assumption) ?rest11
          case hy11 => (intro W9 hSw; (try dsimp only at hSw); go_simp; try with_reducible rfl)
          try simp only [List.getElem_toArray, List.getElem_cons_zero, List.getElem_cons_succ, Act.put, List.setIfInBounds_toArray, List.set_cons_zero, List.set_cons_succ]
          clear hwi hwj
          refine wpAnyH_ready (rs := [9, 12]) (by kernel_rfl) (by simp) ?_
          refine AllReadyH.cons rfl (fun K hK => ?_) (AllReadyH.cons rfl (fun K hK => ?_) (AllReadyH.nil))
          · skip
            go_simp
            refine hK.out _ _ ?_ (fun hHeld => ?_)
            · exact ⟨HV.out.c0, HV.out.c1, HV.out.c2⟩
            clear hK K
            try dsimp only at hHeld
            try simp only [List.getElem_toArray, List.getElem_cons_zero, List.getElem_cons_succ, Act.put, List.setIfInBounds_toArray, List.set_cons_zero, List.set_cons_succ]
            refine wpAnyH_ready (rs := [12]) (by kernel_rfl) (by simp) ?_
            refine AllReadyH.cons rfl (fun K hK => ?_) (AllReadyH.nil)
            go_simp
            refine hK.out _ _ ?_ (fun hHeld => ?_)
            · exact ⟨HVA.out.c0, HVA.out.c1, HVA.out.c2⟩
            clear hK K
            try dsimp only at hHeld
            try simp only [List.getElem_toArray, List.getElem_cons_zero, List.getElem_cons_succ, Act.put, List.setIfInBounds_toArray, List.set_cons_zero, List.set_cons_succ]
            refine wpAnyH_ready (rs := [13]) (by kernel_rfl) (by simp) ?_
            refine AllReadyH.cons rfl (fun K hK => ?_) (AllReadyH.nil)
            refine step_app_at rfl _ _ rfl w1.heap.size _ pl w0 HE0.out rfl (x1, x2) 1 _ rfl rfl hl8 hw0 ?_
            intro v5 w5 h1 h2 h3
            obtain ⟨a5, c5, hv5, _, _⟩ := own_len h1
            rw [hK1] at hv5
            subst hv5
            have hrow5 := HP0.out.row.kept h2 (HP0.out.apart (i + 2) 1 _ _ (by simp) (by simpa using HU.out) rfl).ne
            rw [hMM] at hrow5
            have k5 : w5.cell? ⟨gp, i, none⟩ = some (.slice au KL cu) := by rw [hrow5.cellAt i hi1]; exact HU.out
            have f5 := row_frozen hrow5 i
            have HPN := Lib.hid (HP0.out.set HU.out HPL.out h2 h1 h3)
            have hb5 : Below w1.heap.size w1 w5 := hb0.grown h2 hw0 (fun k hk => (HE0.out.lt k hk).1)
            have hb6 := hb5.setCell (p := ⟨gp, i, none⟩) (HP0.out.row.lt gp rfl).1 (.slice a5 (KL + 1) c5)
            have V5 := HV.out.grown h2 (fun e => by have := hne6; exact this e.symm)
            have HV5 := Lib.hid V5
            have HV6 : Hid (PcAt (w5.setCell ⟨gp, i, none⟩ (.slice a5 (KL + 1) c5)) n6 ((x1, x2), (i : Int) + 1)) := Lib.hid ((Below.heap_setCell w5 ⟨gp, i, none⟩ (.slice a5 (KL + 1) c5) n6 (by show n6 ≠ gp; have := (HPr.out.row.lt gp rfl).2; omega)).trans V5)
            clear h1 h2 h3 hrow5 V5
            refine hK.out _ _ ?_ (fun hHeld => ?_)
            · exact ⟨HV5.out.c0, HV5.out.c1, HV5.out.c2⟩
            clear hK K
            try dsimp only at hHeld
            try simp only [List.getElem_toArray, List.getElem_cons_zero, List.getElem_cons_succ, Act.put, List.setIfInBounds_toArray, List.set_cons_zero, List.set_cons_succ]
            have hwi := HWI.out; have hwj := HWJ.out
            refine wpAnyH_take (i := 14) (v := ?v12) rfl (by kernel_rfl) (by kernel_rfl) (by kernel_rfl) (fun _ _ _ h => h) (Or.inl ⟨by rfl, ?hy12⟩) (by assumption) ?rest12
            case hy12 => (intro W9 hSw; (try dsimp only at hSw); go_simp; try with_reducible rfl)
            try simp only [List.getElem_toArray, List.getElem_cons_zero, List.getElem_cons_succ, Act.put, List.setIfInBounds_toArray, List.set_cons_zero, List.set_cons_succ]
            clear hwi hwj
            refine wpAnyH_ready (rs := [15]) (by kernel_rfl) (by simp) ?_
            refine AllReadyH.cons rfl (fun K hK => ?_) (AllReadyH.nil)
            go_simp
            refine hK.out _ _ ?_ (fun hHeld => ?_)
            · exact ⟨HV6.out.c0, HV6.out.c1, HV6.out.c2⟩
            clear hK K
            try dsimp only at hHeld
            try simp only [List.getElem_toArray, List.getElem_cons_zero, List.getElem_cons_succ, Act.put, List.setIfInBounds_toArray, List.set_cons_zero, List.set_cons_succ]
            refine wpAnyH_done (by kernel_rfl) ?_ _
            go_wp2
            go_roundw
            case rel => exact ⟨pre ++ [((x1, x2), (i : Int) + 1)], rest, _, _, _, _, _, rfl, rfl, by simp, Lib.hid (by rw [List.append_assoc]; exact hA.out), HDn, HPN, hb6⟩
            case measure => simp [intOf]; omega
          · skip
            go_simp
            refine hK.out _ _ ?_ (fun hHeld => ?_)
            · exact ⟨HVA.out.c0, HVA.out.c1, HVA.out.c2⟩
            clear hK K
            try dsimp only at hHeld
            try simp only [List.getElem_toArray, List.getElem_cons_zero, List.getElem_cons_succ, Act.put, List.setIfInBounds_toArray, List.set_cons_zero, List.set_cons_succ]
            refine wpAnyH_ready (rs := [9]) (by kernel_rfl) (by simp) ?_
            refine AllReadyH.cons rfl (fun K hK => ?_) (AllReadyH.nil)
            go_simp
            refine hK.out _ _ ?_ (fun hHeld => ?_)
            · exact ⟨HVA.out.c0, HVA.out.c1, HVA.out.c2⟩
            clear hK K
            try dsimp only at hHeld
            try simp only [List.getElem_toArray, List.getElem_cons_zero, List.getElem_cons_succ, Act.put, List.setIfInBounds_toArray, List.set_cons_zero, List.set_cons_succ]
            refine wpAnyH_ready (rs := [13]) (by kernel_rfl) (by simp) ?_
            refine AllReadyH.cons rfl (fun K hK => ?_) (AllReadyH.nil)
            refine step_app_at rfl _ _ rfl w1.heap.size _ pl w0 HE0.out rfl (x1, x2) 1 _ rfl rfl hl8 hw0 ?_
            intro v5 w5 h1 h2 h3
            obtain ⟨a5, c5, hv5, _, _⟩ := own_len h1
            rw [hK1] at hv5
            subst hv5
            have hrow5 := HP0.out.row.kept h2 (HP0.out.apart (i + 2) 1 _ _ (by simp) (by simpa using HU.out) rfl).ne
            rw [hMM] at hrow5
            have k5 : w5.cell? ⟨gp, i, none⟩ = some (.slice au KL cu) := by rw [hrow5.cellAt i hi1]; exact HU.out
            have f5 := row_frozen hrow5 i
            have HPN := Lib.hid (HP0.out.set HU.out HPL.out h2 h1 h3)
            have hb5 : Below w1.heap.size w1 w5 := hb0.grown h2 hw0 (fun k hk => (HE0.out.lt k hk).1)
            have hb6 := hb5.setCell (p := ⟨gp, i, none⟩) (HP0.out.row.lt gp rfl).1 (.slice a5 (KL + 1) c5)
            have V5 := HV.out.grown h2 (fun e => by have := hne6; exact this e.symm)
            have HV5 := Lib.hid V5
            have HV6 : Hid (PcAt (w5.setCell ⟨gp, i, none⟩ (.slice a5 (KL + 1) c5)) n6 ((x1, x2), (i : Int) + 1)) := Lib.hid ((Below.heap_setCell w5 ⟨gp, i, none⟩ (.slice a5 (KL + 1) c5) n6 (by show n6 ≠ gp; have := (HPr.out.row.lt gp rfl).2; omega)).trans V5)
            clear h1 h2 h3 hrow5 V5
            refine hK.out _ _ ?_ (fun hHeld => ?_)
            · exact ⟨HV5.out.c0, HV5.out.c1, HV5.out.c2⟩
            clear hK K
            try dsimp only at hHeld
            try simp only [List.getElem_toArray, List.getElem_cons_zero, List.getElem_cons_succ, Act.put, List.setIfInBounds_toArray, List.set_cons_zero, List.set_cons_succ]
            have hwi := HWI.out; have hwj := HWJ.out
            refine wpAnyH_take (i := 14) (v := ?v13) rfl (by kernel_rfl) (by kernel_rfl) (by kernel_rfl) (fun _ _ _ h => h) (Or.inl ⟨by rfl, ?hy13⟩) (by assumption) ?rest13
            case hy13 => (intro W9 hSw; (try dsimp only at hSw); go_simp; try with_reducible rfl)
            try simp only [List.getElem_toArray, List.getElem_cons_zero, List.getElem_cons_succ, Act.put, List.setIfInBounds_toArray, List.set_cons_zero, List.set_cons_succ]
            clear hwi hwj
            refine wpAnyH_ready (rs := [15]) (by kernel_rfl) (by simp) ?_
            refine AllReadyH.cons rfl (fun K hK => ?_) (AllReadyH.nil)
            go_simp
            refine hK.out _ _ ?_ (fun hHeld => ?_)
            · exact ⟨HV6.out.c0, HV6.out.c1, HV6.out.c2⟩
            clear hK K
            try dsimp only at hHeld
            try simp only [List.getElem_toArray, List.getElem_cons_zero, List.getElem_cons_succ, Act.put, List.setIfInBounds_toArray, List.set_cons_zero, List.set_cons_succ]
            refine wpAnyH_done (by kernel_rfl) ?_ _
            go_wp2
            go_roundw
            case rel => exact ⟨pre ++ [((x1, x2), (i : Int) + 1)], rest, _, _, _, _, _, rfl, rfl, by simp, Lib.hid (by rw [List.append_assoc]; exact hA.out), HDn, HPN, hb6⟩
            case measure => simp [intOf]; omega
end Go.Proofs.Ytpmcnmlpkpoopaa
