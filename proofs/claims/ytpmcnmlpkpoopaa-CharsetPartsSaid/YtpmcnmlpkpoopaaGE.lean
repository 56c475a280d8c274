/- The reference of charset: join. -/
import Derived.Test.YtpmcnmlpkpoopaaGD
namespace Go.Proofs.Ytpmcnmlpkpoopaa
open Go.RowKit Go.Shelf

def joinL (s : List Rg) (r : Rg) : List Rg :=
  match s.getLast? with
  | none => [r]
  | some q => if q.2 + 1 = r.1 then s.dropLast ++ [(q.1, r.2)] else s ++ [r]
theorem joinL_nil (r : Rg) : joinL [] r = [] ++ [r] := rfl
theorem joinL_snoc (s : List Rg) (q r : Rg) : joinL (s ++ [q]) r = if q.2 + 1 = r.1 then s ++ [(q.1, r.2)] else s ++ [q] ++ [r] := by
  unfold joinL
  rw [List.getLast?_append, List.getLast?_singleton]
  simp
/-- append of a whole slice to an empty own row. -/
theorem wp_copy_rgs {ops : Array Oper} {rest : List Oper} {o : Oper} {a : Act} {Q : Exit → Act → World → Prop} (hgd : o.guard = none) (s x : Operand)
    (ho : o.op = .call { callee := .builtin .append, args := #[s, x], argTypes := #[24, 24] }) (hty : o.type = 24)
    (base : Nat) (v : Value) (W : World) (hown : W.ownsRow base 41 2 v 0 []) (hs : a.eval s = v) (b : Option Addr) (M : List Rg) (c n : Nat) (hM : Rgs W W.heap.size b M) (hl : M.length = n)
    (hx : a.eval x = .slice b n c) (hn : n < 1000000) (hb : base ≤ W.heap.size)
    (h : ∀ v' w', w'.ownsRow base 41 2 v' M.length (rgCells M) → W.grownBy w' v.ownBlock → wpList Try.prog ops Q rest (a.put o.dst v') w') :
    wpList Try.prog ops Q (o :: rest) a W := by
  subst hl
  exact wp_app_rgs hgd s x ho hty base v [] W hown hs b M c hM hx (by simpa using hn) hb h
set_option maxHeartbeats 1000000 in
theorem rjoin_any (v : Value) (L : List Rg) (base : Nat) (lo hi : Int) (w : World) (h : w.ownsRow base 41 2 v L.length (rgCells L)) (hb : base ≤ w.heap.size) (hN : L.length < 900000) (hok : ∀ q ∈ L, okR q) :
    Calls Try.prog 49 #[v, .int .i32 lo, .int .i32 hi] w fun e w' => ∃ v', e = .returned v' ∧ w'.ownsRow base 41 2 v' (joinL L (lo, hi)).length (rgCells (joinL L (lo, hi))) ∧ w.grownBy w' v.ownBlock := by
  rcases List.eq_nil_or_concat L with rfl | ⟨T, q, rfl⟩
  · have HL := Lib.hid (joinL_nil (lo, hi))
    obtain ⟨a, c, rfl, _, _⟩ := own_len h
    go_enter Try.func49, Try.ntmps49
    go_wp2_with (at_builtin; refine wp_app_rg rfl _ _ rfl base _ [] w h rfl (lo, hi) 1 _ rfl rfl (by simp) hb ?_)
    intro v' w' h1 h2
    have H1 := Lib.hid h1
    obtain ⟨a', c', rfl, _, _⟩ := own_len h1
    clear h1
    go_wp2
    go_ret
    exact ⟨_, rfl, by rw [HL.out]; exact H1.out, h2⟩
  · rw [List.concat_eq_append] at *
    have hlen : (T ++ [q]).length = T.length + 1 := by simp
    obtain ⟨g, cap, rfl, hbg, hgs, c0, c1, _, _⟩ := own_last h
    have hq := hok q (by simp)
    obtain ⟨o1, o2, o3⟩ := hq
    have H := Lib.hid h
    have hj := joinL_snoc T q (lo, hi)
    obtain ⟨q1, q2⟩ := q
    dsimp only at c0 c1 o1 o2 o3 hj
    by_cases e1 : q2 + 1 = lo
    · rw [if_pos e1] at hj
      have HJ := Lib.hid hj
      have hR := rgs_of_own h
      obtain ⟨a', c', e2, hR⟩ := hR
      rw [hlen] at e2
      obtain ⟨rfl, rfl⟩ : some ⟨g, 0, none⟩ = a' ∧ cap = c' := by simpa using e2
      have bl := (Below.refl w.heap.size w).alloc (Nat.le_refl _) (.cells #[] 41)
      have HR := Lib.hid ((hR.below bl (Nat.le_refl _)).mono bl.size)
      have O0 := World.ownsRow_lit (base := w.heap.size) (e := 41) (size := 2) w #[] 0 (Nat.le_refl _) (by simp [maxLen]) rfl
      have hb1 : w.heap.size ≤ (w.alloc (.cells #[] 41)).heap.size := by simp
      have hG := Lib.hid (fun row => World.grownBy_alloc w (.cells #[] 41) row)
      have hN1 : T.length < 900000 := by omega
      have hN9 : T.length + 1 < 1000000 := by omega
      clear e2 hR bl hj h hok
      subst e1
      go_enter Try.func49, Try.ntmps49
      go_wp2_with (at_builtin; refine wp_copy_rgs rfl _ _ rfl rfl w.heap.size (.slice (some ⟨w.heap.size, 0, none⟩) 0 0) (w.alloc (.cells #[] 41)) O0 rfl (some ⟨g, 0, none⟩) (T ++ [(q1, q2)]) cap (T.length + 1) HR.out hlen rfl hN9 hb1 ?_)
      intro v5 w5 h1 h2
      rw [← hlen] at h1
      obtain ⟨g5, cap5, rfl, hb5, hs5, k0, k1, kf, kset⟩ := own_last h1
      have KS := Lib.hid (kset hi); have KF := kf (T.length * 2 + 1)
      have H2 := Lib.hid h2
      dsimp only at k0 k1
      clear h1 h2 kset kf O0 c0 c1
      go_wp2
      go_ret
      refine ⟨_, rfl, by rw [HJ.out]; exact own_low KS.out hb, ⟨H2.out.os, H2.out.tape, H2.out.output, ?_, fun k hk _ => ?_⟩⟩
      · have := H2.out.size
        simp [World.setCell] at this ⊢
        omega
      · refine (Below.heap_setCell w5 ⟨g5, T.length * 2 + 1, none⟩ (.int .i32 hi) k (by show k ≠ g5; omega)).trans ((H2.out.block k (by simp; omega) (by simp [Value.ownBlock]; omega)).trans (Below.heap_alloc _ _ _ hk))
    · rw [if_neg e1] at hj
      have HJ := Lib.hid hj
      have hne : ¬ (q2 + 1 = lo) := e1
      have hN1 : T.length < 900000 := by omega
      clear hj hok
      go_enter Try.func49, Try.ntmps49
      go_wp2_with (at_builtin; refine wp_app_rg rfl _ _ rfl base _ (T ++ [(q1, q2)]) w h rfl (lo, hi) 1 _ rfl rfl (by simp; omega) hb ?_)
      intro v' w' h1 h2
      have H1 := Lib.hid h1
      obtain ⟨a', c', rfl, _, _⟩ := own_len h1
      clear h1
      go_wp2
      go_ret
      exact ⟨_, rfl, by rw [HJ.out, show (T ++ [(q1, q2)] ++ [(lo, hi)]).length = T.length + 2 by simp, List.append_assoc]; exact H1.out, h2⟩
end Go.Proofs.Ytpmcnmlpkpoopaa
