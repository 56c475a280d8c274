/- The reference of charset: Size. -/
import Derived.Test.YtaofhccgdcmojaaGO
import Derived.Test.YtaofhccgdcmojaaGB
namespace Go.Proofs.Ytaofhccgdcmojaa
open Go.RowKit Go.Shelf

theorem canon_len {l : List Rg} (h : Canon l) : l.length < 9000000 := by
  have h2 := size_bound h
  have h3 : ∀ m : List Rg, (∀ r ∈ m, okR r) → (m.length : Int) ≤ sizeL m := fun m hm => by
    induction m with
    | nil => simp [sizeL]
    | cons r m ih =>
      have := hm r List.mem_cons_self
      have := ih (fun q hq => hm q (List.mem_cons_of_mem _ hq))
      unfold okR at *
      rw [sizeL, List.length_cons]
      omega
  have := h3 l h.2
  omega
theorem canon_front {a b : List Rg} (h : Canon (a ++ b)) : Canon a := canon_pre h
set_option maxHeartbeats 1000000 in
theorem rSize_any (ao : Option Addr) (L l : List Rg) (c : Nat) (w : World) (hL : L.length ≤ 50000) (hl : IsOf L l) (hA : At w ao L) :
    Calls Try.prog 16 #[.slice ao L.length c] w fun e w' => e = .returned (.int .i64 (sizeL l)) ∧ Below w.heap.size w w' := by
  have HA := Lib.hid hA; have HL := Lib.hid hl
  clear hA hl
  go_enter Try.func16, Try.ntmps16
  go_wp2_with fail
  refine (rOf_any ao L c w hL HA.out).mono ?_
  rintro e w1 ⟨x, n, l2, rfl, h1, A1, b1⟩
  have hll := isOf_one h1 HL.out
  subst hll
  have HC := Lib.hid h1.1; have H1 := Lib.hid A1.now; have HB1 := Lib.hid b1
  have hlen : l2.length < 9000000 := canon_len h1.1
  clear h1 A1 b1
  go_wp2_with fail
  go_loopw [3, 5] (fun s i wr => ∃ (pre rest : List Rg), s = .int .i64 (sizeL pre) ∧ i = .int .i64 pre.length ∧ Hid (pre ++ rest = l2) ∧ Below w1.heap.size w1 wr) (fun _ i _ => l2.length - (intOf i).toNat)
  case atStart => exact ⟨[], l2, rfl, rfl, rfl, Below.refl _ _⟩
  case round =>
    obtain ⟨pre, rest, rfl, rfl, hA, hb⟩ := hrel
    have hcp : Canon pre := canon_front (b := rest) (by rw [hA.out]; exact HC.out)
    have hsz := size_bound hcp
    obtain ⟨sp, hsp⟩ : ∃ s, sizeL pre = s := ⟨_, rfl⟩
    rcases rest with _ | ⟨⟨x1, x2⟩, rest⟩
    · have e1 := hA.out
      rw [List.append_nil] at e1
      subst e1
      clear hsz hcp hA
      go_wp2
      go_ret
      exact ⟨rfl, HB1.out.trans (hb.mono HB1.out.size)⟩
    · have hlt : pre.length < l2.length := by rw [← hA.out]; simp
      obtain ⟨g, o, rfl, hg, p0, p1⟩ := H1.out _ _ _ hA.out
      have q0 := (hb.cell (p := ⟨g, o + pre.length * 2, none⟩) hg).trans p0
      have q1 := (hb.cell (p := ⟨g, o + pre.length * 2 + 1, none⟩) hg).trans p1
      have hok := HC.out.2 (x1, x2) (by rw [← hA.out]; simp)
      obtain ⟨o1, o2, o3⟩ := hok
      have HS : Hid (sizeL (pre ++ [(x1, x2)]) = sp + (x2 - x1 + 1)) := Lib.hid (by rw [sizeL_app, hsp]; simp [sizeL])
      rw [hsp] at hsz
      obtain ⟨s1, s2⟩ := hsz
      dsimp only at q0 q1 o1 o2 o3
      have HP := Lib.hid hsp
      have hl9 : l2.length < 9000000 := hlen
      clear p0 p1 hcp
      rw [hsp]
      clear hsp
      go_wp2
      go_quiet (fail)
      rename_i nq
      go_wp2
      go_roundw
      case rel => exact ⟨pre ++ [(x1, x2)], rest, by rw [HS.out], by simp, Lib.hid (by rw [List.append_assoc]; exact hA.out), below_drewN nq hb⟩
      case measure => simp [intOf]; omega
end Go.Proofs.Ytaofhccgdcmojaa
