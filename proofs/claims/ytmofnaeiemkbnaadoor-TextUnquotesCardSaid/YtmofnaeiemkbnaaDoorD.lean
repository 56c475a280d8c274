/- The iterator of package text's digits: it yields the digits of n to the base b, the greatest first, for a loop body that keeps its two captured cells. Conditions: 2 ≤ b ≤ 16, n < 2^64. -/
import Derived.RangeFuncNested
import Derived.RangeFuncBound
import Derived.RangeFuncCalls
import Derived.RangeFuncLeaves
import Derived.Shelf.Abstract
import Derived.Shelf.RegionOpen
import Derived.WalkKit
import Derived.OwnWalkIn
import Derived.TacticsInMore
import Derived.RegionIn
import Derived.LoopNIn
import Derived.LoopIn
import Derived.Sort.QuietIn
import Derived.Sort.CutIn
import Derived.Lib.Hide
import Derived.Outline
import Derived.Test.YtmofnaeiemkbnaaDoorM
import Derived.Test.YtmofnaeiemkbnaaDoorB
namespace Go.Proofs.YtmofnaeiemkbnaaDoor
open Go.RowKit Go.Shelf
attribute [local go_sem] Oper.semAt_some

/-- What a round of a loop over one of the two iterators keeps: cells from block n₁ on, but rows of bytes; and walks. -/
def KpA (n₁ : Nat) (A B : World) : Prop := A.heap.size ≤ B.heap.size ∧ ∀ k o, n₁ ≤ k → A.heap[k]? = some o → (o.isCells = true ∨ o.isWalk = true) → (∀ c fz, o ≠ .cells c 5 fz) → B.heap[k]? = some o
theorem KpA.refl (n₁ : Nat) (A : World) : KpA n₁ A A := ⟨Nat.le_refl _, fun _ _ _ h _ _ => h⟩
theorem KpA.trans {n₁ : Nat} {A B C : World} (h : KpA n₁ A B) (k : KpA n₁ B C) : KpA n₁ A C :=
  ⟨Nat.le_trans h.1 k.1, fun i o hi hA ho hb => k.2 i o hi (h.2 i o hi hA ho hb) ho hb⟩
theorem KpA.turn {n₁ : Nat} {w : World} (W : World) (l : Nat) (o o' : Obj) (_ : w.heap.size ≤ l) (h : W.heap[l]? = some o) (hc : o.isCells = false) (hw : o.isWalk = false) : KpA n₁ W (W.putObj l o') :=
  ⟨by simp, fun k x _ hx ho _ => (World.putObj_heap_other (fun e => by subst e; rw [h] at hx; cases hx; simp [hc, hw] at ho)).trans hx⟩

theorem digits_any (n b : Int) (w : World) : Calls Tryd.prog 33 #[.int .u64 n, .int .u64 b] w fun e w' =>
    e = .returned (.func (.func 50) #[] #[.pointer (some ⟨w.heap.size, 0, none⟩), .pointer (some ⟨w.heap.size + 1, 0, none⟩)]) ∧ w' = (w.alloc (.cells #[.int .u64 n] 51)).alloc (.cells #[.int .u64 b] 51) := by
  go_enter Tryd.func33, Tryd.ntmps33
  go_wp2
  go_ret
  exact ⟨rfl, rfl⟩

theorem idx_hex (d : Nat) (hd : d < 16) (w : World) : (Instr.index 9 (.string { data := #[48, 49, 50, 51, 52, 53, 54, 55, 56, 57, 97, 98, 99, 100, 101, 102] }) (.int .u64 (d : Int))).run Tryd.prog w = .ok (.int .u8 (hexC d).toNat) w := by
  have h : d = 0 ∨ d = 1 ∨ d = 2 ∨ d = 3 ∨ d = 4 ∨ d = 5 ∨ d = 6 ∨ d = 7 ∨ d = 8 ∨ d = 9 ∨ d = 10 ∨ d = 11 ∨ d = 12 ∨ d = 13 ∨ d = 14 ∨ d = 15 := by omega
  rcases h with rfl | rfl | rfl | rfl | rfl | rfl | rfl | rfl | rfl | rfl | rfl | rfl | rfl | rfl | rfl | rfl <;> rfl

set_option maxRecDepth 100000 in
set_option maxHeartbeats 1000000 in
theorem digitsFn_in (n : Nat) (hn : 1 ≤ n) (l Bn Bb n₁ : Nat) (x b : Nat) (hx : x < 18446744073709551616) (hb2 : 2 ≤ b) (hb16 : b ≤ 16) (h1n : n₁ ≤ Bn) (h1b : n₁ ≤ Bb) (J Jx : List UInt8 → World → Prop)
    (hY : ∀ pre (c : UInt8) W, J pre W → pre.length < (digs b x).length → YieldAt Fence.wide (n - 1) Tryd.prog l #[.int .u8 c.toNat] W fun e W' =>
      (e = .returned (.bool true) ∧ J (pre ++ [c]) W' ∧ KpA n₁ W W') ∨ (e = .returned (.bool false) ∧ Jx (pre ++ [c]) W'))
    (W : World) (hcn : Boxed W Bn 51 (.int .u64 x)) (hcb : Boxed W Bb 51 (.int .u64 b)) (h0 : J [] W) (hJd : ∀ p W m, J p W → J p (W.drewN m)) :
    CallsIn Fence.wide n Tryd.prog 50 #[.func (.yield l) #[] #[], .pointer (some ⟨Bn, 0, none⟩), .pointer (some ⟨Bb, 0, none⟩)] W fun e W' => (∃ v, e = .returned v) ∧
      ((∃ ys, ys = digs b x ∧ J ys W') ∨ (∃ pre, pre <+: digs b x ∧ Jx pre W')) := by
  refine callsIn_of_wp Tryd.func50 rfl trivial ?_ rfl
  simp only [Tryd.ntmps50, List.size_toArray, List.length_cons, List.length_nil, Nat.reduceAdd, Nat.reduceSub, Array.replicate_succ, Array.replicate_zero, List.push_toArray, List.append_toArray, List.nil_append, List.cons_append]
  gi_wp2
  gi_loopw [4] (fun u wr => ∃ v f : Nat, u = .int .u64 v ∧ 1 ≤ v ∧ (v ≤ x ∨ v ≤ 1) ∧ Hid (unitOf b x f v = unitOf b x 64 1 ∧ 18446744073709551616 ≤ v * 2 ^ f) ∧ Boxed wr Bn 51 (.int .u64 x) ∧ Boxed wr Bb 51 (.int .u64 b) ∧ J [] wr)
    (fun u wr => x + 1 - (intOf u).toNat)
  case atStart => exact ⟨1, 64, rfl, Nat.le_refl _, .inr (Nat.le_refl _), ⟨rfl, by decide⟩, hcn, hcb, h0⟩
  case round =>
    obtain ⟨v, f, rfl, hv1, hvx, hu, bn, bb, hj⟩ := hrel
    have cn := bn.cell
    have cb := bb.cell
    by_cases hq : b ≤ x / v
    · have hqi : (b : Int) ≤ (x : Int) / (v : Int) := by exact_mod_cast hq
      have hmul : v * b ≤ x := by have := Nat.mul_le_of_le_div v b x hq; rw [Nat.mul_comm]; exact this
      have hmi : (v : Int) * (b : Int) ≤ (x : Int) := by exact_mod_cast hmul
      have hm0 : 0 ≤ (v : Int) * (b : Int) := Int.mul_nonneg (Int.natCast_nonneg _) (Int.natCast_nonneg _)
      have hd0 : 0 ≤ (x : Int) / (v : Int) := Int.ediv_nonneg (Int.natCast_nonneg _) (Int.natCast_nonneg _)
      have hd1 : (x : Int) / (v : Int) ≤ (x : Int) := Int.ediv_le_self _ (Int.natCast_nonneg _)
      have hv1i : 1 ≤ (v : Int) := by exact_mod_cast hv1
      have e1 : IntKind.u64.wrap ((x : Int) / (v : Int)) = (x : Int) / (v : Int) := IntWalk.u64_in _ (by omega)
      have e2 : decide ((b : Int) ≤ (x : Int) / (v : Int)) = true := decide_eq_true hqi
      gi_wp2
      refine wpIn_region_quiet_lit (F := Fence.wide) rfl (by kernel_rfl) (by kernel_rfl) ?_
      repeat (gi_big_quiet_step (fail))
      refine wpQuietIn_nil ?_
      rintro _ ⟨nq, rfl⟩
      clear e1 e2
      gi_wp2
      obtain ⟨f', hu'⟩ := unit_step hq hb2 hx hmul hu
      exact ⟨⟨v * b, f', by rw [Int.natCast_mul], by have := Nat.mul_le_mul_left v hb2; omega, .inl hmul, hu', bn, bb, hJd _ _ _ hj⟩, by
        have hvb : v * 2 ≤ v * b := Nat.mul_le_mul_left v hb2
        have e : ((v : Int) * (b : Int)).toNat = v * b := by rw [← Int.natCast_mul, Int.toNat_natCast]
        simp only [intOf, e, Int.toNat_natCast]; omega⟩
    · have hqi : ¬ (b : Int) ≤ (x : Int) / (v : Int) := by intro h; exact hq (by exact_mod_cast h)
      have hd0 : 0 ≤ (x : Int) / (v : Int) := Int.ediv_nonneg (Int.natCast_nonneg _) (Int.natCast_nonneg _)
      have hd1 : (x : Int) / (v : Int) ≤ (x : Int) := Int.ediv_le_self _ (Int.natCast_nonneg _)
      have hv1i : 1 ≤ (v : Int) := by exact_mod_cast hv1
      have e1 : IntKind.u64.wrap ((x : Int) / (v : Int)) = (x : Int) / (v : Int) := IntWalk.u64_in _ (by omega)
      have e2 : decide ((b : Int) ≤ (x : Int) / (v : Int)) = false := decide_eq_false hqi
      gi_wp2
      refine wpIn_region_quiet_lit (F := Fence.wide) rfl (by kernel_rfl) (by kernel_rfl) ?_
      repeat (gi_big_quiet_step (fail))
      refine wpQuietIn_nil ?_
      rintro _ ⟨nq, rfl⟩
      clear e1 e2
      gi_wp2
      have hU := unit_end hq hu.1
      gi_loopw [4] (fun u wr => ∃ (v f : Nat) (pre : List UInt8), u = .int .u64 v ∧ Hid (v < 18446744073709551616) ∧ Hid (pre ++ digsU b x f v = digs b x ∧ v < 2 ^ f) ∧ Boxed wr Bn 51 (.int .u64 x) ∧ Boxed wr Bb 51 (.int .u64 b) ∧ J pre wr)
        (fun u wr => (intOf u).toNat)
      case atStart =>
        have hv64 : v < 18446744073709551616 := by omega
        exact ⟨v, 64, [], rfl, hv64, ⟨by rw [hU]; rfl, by simpa using hv64⟩, bn, bb, hJd _ _ _ hj⟩
      case round =>
        clear hqi hd0 hd1 hv1i hvx hv1 hU hu cn cb bn bb hj hq
        obtain ⟨v, f, pre, rfl, hv64, hd, bn, bb, hj⟩ := hrel
        have cn := bn.cell
        have cb := bb.cell
        by_cases hv0 : v = 0
        · subst hv0
          gi_wp2
          go_end0
          exact ⟨⟨_, rfl⟩, .inl ⟨pre, by have := hd.1; rwa [digs_end, List.append_nil] at this, hj⟩⟩
        · have hv1 : 1 ≤ (v : Int) := by omega
          have hd0 : 0 ≤ (x : Int) / (v : Int) := Int.ediv_nonneg (Int.natCast_nonneg _) (Int.natCast_nonneg _)
          have hd1 : (x : Int) / (v : Int) ≤ (x : Int) := Int.ediv_le_self _ (Int.natCast_nonneg _)
          obtain ⟨f', hd', hv'⟩ := digs_step (n := x) hb2 (Nat.pos_of_ne_zero hv0) hd.2
          have hlen' : pre.length < (digs b x).length := by rw [← hd.1, hd', List.length_append, List.length_cons]; omega
          obtain ⟨fn, tmps, assign, body, hy, hR⟩ := hY pre (hexC (x / v % b)) wr.drew (hJd _ _ 1 hj) hlen'
          have hD := Lib.hid (And.intro hd' hv'); clear hd' hv' hlen'
          have HX := Lib.hid hx; clear hx
          have HV := hv64
          have ed : IntKind.u64.wrap ((x : Int) / (v : Int)) = (x : Int) / (v : Int) := IntWalk.u64_in _ (by have := HX.out; omega)
          have er : IntKind.u64.wrap ((x : Int) / (v : Int) % (b : Int)) = (x : Int) / (v : Int) % (b : Int) := IntWalk.u64_in _ (by
            have h1 := Int.emod_nonneg ((x : Int) / (v : Int)) (b := (b : Int)) (by omega)
            have h2 := Int.emod_lt_of_pos ((x : Int) / (v : Int)) (b := (b : Int)) (by omega)
            omega)
          have hb' : x / v % b < 16 := Nat.lt_of_lt_of_le (Nat.mod_lt _ (by omega)) hb16
          have hix : ∀ w, (Instr.index 9 (.string { data := #[48, 49, 50, 51, 52, 53, 54, 55, 56, 57, 97, 98, 99, 100, 101, 102] }) (.int .u64 ((x : Int) / (v : Int) % (b : Int)))).run Tryd.prog w = .ok (.int .u8 (hexC (x / v % b)).toNat) w := fun w => by
            have := idx_hex (x / v % b) hb' w
            rwa [Int.natCast_emod, Int.natCast_ediv] at this
          clear hb'
          gi_wp2
          have hbz : ¬ b = 0 := by omega
          have et : ((x : Int) / (v : Int)).tmod (b : Int) = (x : Int) / (v : Int) % (b : Int) := Int.tmod_eq_emod_of_nonneg hd0
          have hR2 := hR.mono (R' := fun e W' => ∃ bv : Bool, e = .returned (.bool bv) ∧ Hid ((bv = true ∧ J (pre ++ [hexC (x / v % b)]) W' ∧ KpA n₁ wr.drew W') ∨ (bv = false ∧ Jx (pre ++ [hexC (x / v % b)]) W'))) (by
            rintro e W' (⟨rfl, h⟩ | ⟨rfl, h⟩)
            · exact ⟨true, rfl, .inl ⟨rfl, h⟩⟩
            · exact ⟨false, rfl, .inr ⟨rfl, h⟩⟩)
          clear hR
          gi_region_with (refine hR2.mono ?_; rintro e W3 ⟨bv, rfl, hp⟩)
          all_goals
            cases bv
            · rcases hp with ⟨h, _⟩ | ⟨_, hx3⟩
              · cases h
              · gi_wp2
                refine bodyPost_ret (results_none rfl _ _ _) rfl ?_
                exact ⟨⟨_, rfl⟩, .inr ⟨_, ⟨_, by rw [← hd.1, hD.out.1, List.append_assoc]; rfl⟩, hx3⟩⟩
            · rcases hp with ⟨_, hJ3, hk3⟩ | ⟨h, _⟩
              · have bn3 : Boxed W3 Bn 51 (.int .u64 x) := hk3.2 Bn _ h1n bn (.inl rfl) (fun _ _ h => by cases h)
                have bb3 : Boxed W3 Bb 51 (.int .u64 b) := hk3.2 Bb _ h1b bb (.inl rfl) (fun _ _ h => by cases h)
                have cn3 := bn3.cell
                have cb3 := bb3.cell
                clear ed er et hix
                have ev : IntKind.u64.wrap ((v : Int) / (b : Int)) = (v : Int) / (b : Int) := IntWalk.u64_in _ (by
                  have h1 : 0 ≤ (v : Int) / (b : Int) := Int.ediv_nonneg (Int.natCast_nonneg _) (Int.natCast_nonneg _)
                  have h2 : (v : Int) / (b : Int) ≤ (v : Int) := Int.ediv_le_self _ (Int.natCast_nonneg _)
                  have h3 : v < 18446744073709551616 := HV.out
                  omega)
                gi_wp2
                go_roundw
                case rel => exact ⟨v / b, f', pre ++ [hexC (x / v % b)], by rw [Int.natCast_ediv], Nat.lt_of_le_of_lt (Nat.div_le_self _ _) HV.out, ⟨by rw [← hd.1, hD.out.1, List.append_assoc]; rfl, hD.out.2⟩, bn3, bb3, hJ3⟩
                case measure =>
                  have e : ((v : Int) / (b : Int)).toNat = v / b := by rw [← Int.natCast_ediv, Int.toNat_natCast]
                  have h1 : v / b ≤ v / 2 := Nat.div_le_div_left hb2 (by omega)
                  simp only [intOf, e]
                  simp
                  omega
              · cases h
theorem grownBy_drewN (W : World) (m : Nat) (row : Option Nat) : W.grownBy (W.drewN m) row := ⟨rfl, rfl, rfl, Nat.le_refl _, fun _ _ _ => rfl⟩

/-- A value of digits, ranged over. -/
theorem digits_stops (n : Nat) (hn : 1 ≤ n) (Bn Bb n₁ : Nat) (x b : Nat) (hx : x < 18446744073709551616) (hb2 : 2 ≤ b) (hb16 : b ≤ 16) (h1n : n₁ ≤ Bn) (h1b : n₁ ≤ Bb) (w : World) (hcn : Boxed w Bn 51 (.int .u64 x)) (hcb : Boxed w Bb 51 (.int .u64 b)) :
    SeqStopsK Fence.wide n Tryd.prog 50 #[.pointer (some ⟨Bn, 0, none⟩), .pointer (some ⟨Bb, 0, none⟩)] (fun c : UInt8 => #[.int .u8 c.toNat]) (KpA n₁) (fun ys => ys = digs b x) (fun pre => pre <+: digs b x) (digs b x).length w :=
  fun l J Jx W hW hJ _ hY h0 => digitsFn_in n hn l Bn Bb n₁ x b hx hb2 hb16 h1n h1b J Jx hY W ((hW.block Bn hcn.lt).trans hcn) ((hW.block Bb hcb.lt).trans hcb) h0 (fun p W m h => hJ p W _ none h (grownBy_drewN W m none) (fun r e => by cases e))

/-- A builder stays one while a block that is no cells turns. -/
theorem builderF_own {β : Type} (B b : Nat) (f : β → List Value) : Own (fun s W => Lib.IsBuilderF 55 5 B b (f s) W) := by
  intro s X Y row h hg hr
  have aux : ∀ {p}, Lib.BuilderAtF 55 5 B b p (f s) X → Lib.BuilderAtF 55 5 B b p (f s) Y := by
    rintro p ⟨hB, v, hb, hown, hne⟩
    refine ⟨hB, v, (hg.block b (Array.getElem?_eq_some_iff.1 hb).1 (fun e => ?_)).trans hb, hown.kept hg ?_, hne⟩
    · obtain ⟨o, ho, hc⟩ := hr b e.symm
      rw [hb] at ho; cases ho; cases hc
    · rcases hown.2 with ⟨rfl, _⟩ | ⟨g, cap, cur, fz, rfl, _, hgg, _⟩
      · exact .inl rfl
      · refine .inr (fun e => ?_)
        obtain ⟨o, ho, hc⟩ := hr g (by rw [← e]; rfl)
        rw [hgg] at ho; cases ho; cases hc
  exact h.imp aux aux

/-- A builder stays one while what lay lies. -/
theorem builder_below {B b : Nat} {bs : List Value} {W W' : World} (h : Lib.IsBuilderF 55 5 B b bs W) (hb : Below W.heap.size W W') : Lib.IsBuilderF 55 5 B b bs W' := by
  have aux : ∀ {p}, Lib.BuilderAtF 55 5 B b p bs W → Lib.BuilderAtF 55 5 B b p bs W' := by
    rintro p ⟨hB, v, hbb, hown, hne⟩
    refine ⟨hB, v, (hb.block b (Array.getElem?_eq_some_iff.1 hbb).1).trans hbb, ⟨hown.1, ?_⟩, hne⟩
    rcases hown.2 with h0 | ⟨g, cap, cur, fz, hv, hg, hgg, rest⟩
    · exact .inl h0
    · exact .inr ⟨g, cap, cur, fz, hv, hg, (hb.block g (Array.getElem?_eq_some_iff.1 hgg).1).trans hgg, rest⟩
  exact h.imp aux aux

/-- What a writer of the builder keeps is what a round owes. -/
theorem kpA_of_others {b n₁ : Nat} {A B : World} (hn : b < n₁) (hs : A.heap.size ≤ B.heap.size) (h : Lib.OthersKept 5 (some b) A B) : KpA n₁ A B :=
  ⟨hs, fun k o hk ho _ hu => h k o ho (fun e => by cases e; omega) hu⟩
theorem keepsFrom_of_others {b : Nat} {A B : World} {D : Nat} {cs : Array Value} {T : TypeId} {fz : Nat × Nat} (hb : A.heap[b]? = some (.cells cs T fz)) (hs : A.heap.size ≤ B.heap.size) (h : Lib.OthersKept 5 (some b) A B) : KeepsFrom D A B :=
  ⟨hs, fun k o _ ho hc => h k o ho (fun e => by cases e; rw [hb] at ho; cases ho; cases hc) (fun _ _ e => by subst e; cases hc)⟩
end Go.Proofs.YtmofnaeiemkbnaaDoor
