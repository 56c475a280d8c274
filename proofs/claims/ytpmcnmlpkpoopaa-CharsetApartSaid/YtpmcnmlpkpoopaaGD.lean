/- The reference of charset: ends. -/
import Derived.Test.YtpmcnmlpkpoopaaGC
namespace Go.Proofs.Ytpmcnmlpkpoopaa
open Go.RowKit Go.Shelf

def stepE (out : List Int) (x : Rg) : List Int :=
  if (clipR x).1 ≤ (clipR x).2 then (if (clipR x).2 < 1114111 then putL (putL out (clipR x).1) ((clipR x).2 + 1) else putL out (clipR x).1) else out
def endsL (F : List Rg) : List Int := F.foldl stepE [0]
theorem stepE_length (out : List Int) (x : Rg) : (stepE out x).length ≤ out.length + 2 := by
  have h1 := putL_length out (clipR x).1
  have h2 := putL_length (putL out (clipR x).1) ((clipR x).2 + 1)
  unfold stepE
  split
  · split <;> omega
  · omega
theorem foldE_length : ∀ (F : List Rg) (out : List Int), (F.foldl stepE out).length ≤ out.length + 2 * F.length
  | [], out => by simp
  | x :: F, out => by
    have h1 := stepE_length out x
    have h2 := foldE_length F (stepE out x)
    rw [List.foldl_cons, List.length_cons]
    omega
theorem one_in (w : World) (r : Int) : Ins (w.alloc (.cells #[.int .i32 r] 21)) (w.heap.size + 1) (some ⟨w.heap.size, 0, none⟩) [r] := by
  intro pre x rest e
  have y := World.alloc_heap_new w (.cells #[.int .i32 r] 21)
  match pre, e with
  | [], e =>
    injection e with e _
    subst e
    exact ⟨_, 0, rfl, by omega, by rw [Lib.cell_of_heap y]; rfl⟩
  | p :: pre, e => simp at e

set_option maxHeartbeats 800000 in
set_option maxRecDepth 100000 in
theorem rends_any (ao : Option Addr) (LL : List (List Rg)) (cap : Nat) (w : World) (hN : LL.length ≤ 100000) (hT : LL.flatten.length ≤ 100000) (hS : Sts w w.heap.size ao LL) :
    Calls Try.prog 47 #[.slice ao LL.length cap] w fun e w' => ∃ a c, e = .returned (.slice a (endsL LL.flatten).length c) ∧ Ins w' w'.heap.size a (endsL LL.flatten) ∧ Below w.heap.size w w' := by
  have HS := Lib.hid hS; clear hS
  have hi0 := one_in w 0
  have hb0 := (Below.refl w.heap.size w).alloc (Nat.le_refl _) (.cells #[.int .i32 0] 21)
  have HI0 := Lib.hid (hi0.mono (B' := (w.alloc (.cells #[.int .i32 0] 21)).heap.size) (by simp)); have HB0 := Lib.hid hb0
  have HT := Lib.hid hT
  clear hi0 hb0 hT
  go_enter Try.func47, Try.ntmps47
  go_wp2_with fail
  go_loopw [3, 4] (fun s3 i wr => ∃ (pre rest : List (List Rg)) (a : Option Addr) (n c : Nat) (out : List Int), s3 = .slice a n c ∧ i = .int .i64 pre.length ∧ Hid (pre ++ rest = LL) ∧ Hid (out = endsL pre.flatten ∧ n = out.length) ∧ Hid (Ins wr wr.heap.size a out) ∧ Below w.heap.size w wr) (fun _ i _ => LL.length - (intOf i).toNat)
  case atStart => exact ⟨[], LL, _, _, _, [0], rfl, rfl, rfl, Lib.hid ⟨rfl, rfl⟩, HI0, HB0.out⟩
  case round =>
    obtain ⟨pre, rest, a, n, c, out, rfl, rfl, hA, hD, hI, hb⟩ := hrel
    rcases rest with _ | ⟨X, rest⟩
    · have e1 := hA.out
      rw [List.append_nil] at e1
      subst e1
      obtain ⟨e2, rfl⟩ := hD.out
      have HE : Hid (∃ a' c', Ending.returned (.slice a out.length c) = .returned (.slice a' (endsL pre.flatten).length c') ∧ Ins wr wr.heap.size a' (endsL pre.flatten) ∧ Below w.heap.size w wr) := Lib.hid (by rw [← e2]; exact ⟨a, c, rfl, hI.out, hb⟩)
      clear hD e2
      go_wp2
      go_ret
      exact HE.out
    · have hlt : pre.length < LL.length := by rw [← hA.out]; simp
      obtain ⟨g, o, ax, cx, rfl, hg, p0, hX⟩ := HS.out _ _ _ hA.out
      have q0 := (hb.cell (p := ⟨g, o + pre.length, none⟩) hg).trans p0
      have HX := Lib.hid hX
      have hfl : pre.flatten.length + X.length ≤ 100000 := by
        have h1 := HT.out
        rw [← hA.out, List.flatten_append, List.flatten_cons, List.length_append, List.length_append] at h1
        omega
      clear hX p0
      obtain ⟨hout, hnn⟩ := hD.out
      have HOUT := Lib.hid hout
      have hol : out.length ≤ 1 + 2 * pre.flatten.length := by rw [hout]; exact foldE_length _ _
      clear hD hout
      subst hnn
      generalize hNN : LL.length = N at *
      go_wp2_with fail
      go_loopw [3, 5] (fun s3 i wq => ∃ (p r : List Rg) (a1 : Option Addr) (n1 c1 : Nat) (o1 : List Int), s3 = .slice a1 n1 c1 ∧ i = .int .i64 p.length ∧ Hid (p ++ r = X) ∧ Hid (o1 = p.foldl stepE out ∧ n1 = o1.length) ∧ Hid (Ins wq wq.heap.size a1 o1) ∧ Below w.heap.size w wq) (fun _ i _ => X.length - (intOf i).toNat)
      case atStart => exact ⟨[], X, _, _, _, out, rfl, rfl, rfl, Lib.hid ⟨rfl, rfl⟩, hI, hb⟩
      case round =>
        obtain ⟨p, r, a1, n1, c1, o1, rfl, rfl, hA1, hD1, hI1, hb1⟩ := hrel
        have k0 := (hb1.cell (p := ⟨g, o + pre.length, none⟩) hg).trans ((hb.cell (p := ⟨g, o + pre.length, none⟩) hg).symm.trans q0)
        rcases r with _ | ⟨⟨x1, x2⟩, r⟩
        · have e1 := hA1.out
          rw [List.append_nil] at e1
          obtain ⟨e2, e3⟩ := hD1.out
          have HE : Hid (o1 = endsL (pre ++ [X]).flatten ∧ n1 = o1.length) := Lib.hid ⟨by rw [e2, HOUT.out, e1, List.flatten_append]; simp [endsL, List.foldl_append], e3⟩
          have hpx : p.length = X.length := by rw [e1]
          clear hD1 e2 e3 q0
          go_wp2
          go_roundw
          case rel => exact ⟨pre ++ [X], rest, a1, n1, c1, o1, rfl, by simp, Lib.hid (by rw [List.append_assoc]; exact hA.out), HE, hI1, hb1⟩
          case measure => simp [intOf]; omega
        · have hlx : p.length < X.length := by rw [← hA1.out]; simp
          obtain ⟨gx, ox, rfl, hgx, r0, r1⟩ := HX.out _ _ _ hA1.out
          have s0 := (hb1.cell (p := ⟨gx, ox + p.length * 2, none⟩) hgx).trans r0
          have s1 := (hb1.cell (p := ⟨gx, ox + p.length * 2 + 1, none⟩) hgx).trans r1
          obtain ⟨e2, rfl⟩ := hD1.out
          have hl1 : o1.length ≤ out.length + 2 * p.length := by rw [e2]; exact foldE_length _ _
          have HE2 := Lib.hid e2
          dsimp only at s0 s1
          clear r0 r1 hD1 e2 q0
          have hstep : Hid ((p ++ [(x1, x2)]).foldl stepE out = stepE o1 (x1, x2)) := Lib.hid (by rw [List.foldl_append, ← HE2.out]; rfl)
          have hA3 : Hid ((p ++ [(x1, x2)]) ++ r = X) := Lib.hid (by rw [List.append_assoc]; exact hA1.out)
          generalize hXX : X.length = NX at *
          go_wp2_with fail
          refine (rcut_any (x1, x2) wr).mono ?_
          rintro e w1 ⟨rfl, b1⟩
          have hI2 := (hI1.out.below b1 (Nat.le_refl _)).mono b1.size
          have B1 := hb1.trans (b1.mono hb1.size)
          have hst2 : stepE o1 (x1, x2) = if (clipR (x1, x2)).1 ≤ (clipR (x1, x2)).2 then (if (clipR (x1, x2)).2 < 1114111 then putL (putL o1 (clipR (x1, x2)).1) ((clipR (x1, x2)).2 + 1) else putL o1 (clipR (x1, x2)).1) else o1 := rfl
          generalize hcc : clipR (x1, x2) = cc at *
          obtain ⟨d1, d2⟩ := cc
          have y := RgAt.new w1 (d1, d2)
          have u0 := y.c0; have u1 := y.c1
          have bl := (Below.refl w1.heap.size w1).alloc (Nat.le_refl _) (.cells #[.int .i32 d1, .int .i32 d2] 41)
          have B2 := B1.trans (bl.mono B1.size)
          have HI3 := Lib.hid ((hI2.below bl (Nat.le_refl _)).mono bl.size)
          have HY := Lib.hid y
          have hd1b : (d1, d2) = clipR (x1, x2) := hcc.symm
          have hd2 : d2 ≤ 1114111 := by
            have := congrArg Prod.snd hd1b
            unfold clipR ovR at this
            dsimp only at this
            omega
          have hd1p : 0 ≤ d1 := by
            have := congrArg Prod.fst hd1b
            unfold clipR ovR at this
            dsimp only at this
            omega
          dsimp only at u0 u1 hst2
          clear y hcc b1 B1 hb1 bl hI2 hI1 s0 s1 hd1b hstep
          by_cases h1 : d1 ≤ d2
          · rw [if_pos h1] at hst2
            have hlo : o1.length ≤ 900000 := by omega
            go_wp2_with fail
            refine (rput_in a1 o1 c1 d1 _ hlo HI3.out).mono ?_
            rintro e w5 ⟨a5, c5, rfl, i5, b5⟩
            have B5 := B2.trans (b5.mono B2.size)
            have y5 := HY.out.below b5 (by simp)
            have v0 := y5.c0; have v1 := y5.c1
            have HI5 := Lib.hid i5
            have hpl := putL_length o1 d1
            dsimp only at v0 v1
            clear i5 b5 y5 u0 u1 B2
            by_cases h2 : d2 < 1114111
            · rw [if_pos h2] at hst2
              have hlo2 : (putL o1 d1).length ≤ 900000 := by omega
              have HST := Lib.hid hst2
              clear hst2
              have hp2 := rput_in a5 (putL o1 d1) c5 (d2 + 1) w5 hlo2 HI5.out
              have HP2 := Lib.hid hp2
              clear hp2
              generalize (putL o1 d1).length = PP at *
              have hd2p : 0 ≤ d2 := by omega
              have hd2q : d2 + 1 ≤ 1114111 := by omega
              go_wp2_with fail
              refine HP2.out.mono ?_
              rintro e w6 ⟨a6, c6, rfl, i6, b6⟩
              have B6 := B5.trans (b6.mono B5.size)
              have HI6 := Lib.hid i6
              clear i6 b6
              have HR : Hid (putL (putL o1 d1) (d2 + 1) = (p ++ [(x1, x2)]).foldl stepE out) := Lib.hid (by rw [List.foldl_append, ← HE2.out]; exact HST.out.symm)
              go_wp2
              go_roundw
              case rel => exact ⟨p ++ [(x1, x2)], r, _, _, _, _, rfl, by simp, hA3, Lib.hid ⟨HR.out, rfl⟩, HI6, B6⟩
              case measure => simp [intOf]; omega
            · rw [if_neg h2] at hst2
              have HST := Lib.hid hst2
              clear hst2
              have HR : Hid (putL o1 d1 = (p ++ [(x1, x2)]).foldl stepE out) := Lib.hid (by rw [List.foldl_append, ← HE2.out]; exact HST.out.symm)
              go_wp2
              go_roundw
              case rel => exact ⟨p ++ [(x1, x2)], r, _, _, _, _, rfl, by simp, hA3, Lib.hid ⟨HR.out, rfl⟩, HI5, B5⟩
              case measure => simp [intOf]; omega
          · rw [if_neg h1] at hst2
            have HST := Lib.hid hst2
            clear hst2
            have HR : Hid (o1 = (p ++ [(x1, x2)]).foldl stepE out) := Lib.hid (by rw [List.foldl_append, ← HE2.out]; exact HST.out.symm)
            go_wp2
            go_roundw
            case rel => exact ⟨p ++ [(x1, x2)], r, _, _, _, _, rfl, by simp, hA3, Lib.hid ⟨HR.out, rfl⟩, HI3, B2⟩
            case measure => simp [intOf]; omega
end Go.Proofs.Ytpmcnmlpkpoopaa
