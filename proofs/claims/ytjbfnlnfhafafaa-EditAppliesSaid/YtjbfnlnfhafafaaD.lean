/- The reference's Apply: it answers as edit.Apply. -/
import Derived.Test.YtjbfnlnfhafafaaC
namespace Go.Proofs.Ytjbfnlnfhafafaa
open Go.RowKit

/-- A text's end. -/
theorem slc1 (s : ByteArray) (a : Nat) (z : Int) (hz : z = a) (h : a ≤ s.size) (w : World) : (Instr.slice 9 (.string s) (some (.int .i64 z)) none none).run Try.prog w = .ok (.string (s.extract a s.size)) w := by
  subst hz
  rw [run_slice_string_from_if w 9 s .i64 a Try.underlying9, if_pos (by omega)]
  rfl
theorem below_drewN {B : Nat} {w W : World} (n : Nat) (h : Below B w W) : Below B w (W.drewN n) := ⟨h.os, h.tape, h.output, h.size, h.block⟩

set_option maxHeartbeats 4000000 in
theorem rApply_any (s : ByteArray) (ao : Option Addr) (L : List Ed) (cap : Nat) (w : World) (hs : s.size ≤ 10000000) (hN : L.length ≤ 1000) (ht : ∀ x ∈ L, x.2.2.size ≤ 10000000) (hE : Eds w w.heap.size ao L) :
    Calls Try.prog 12 #[.string s, .slice ao L.length cap] w fun e w' => e = .returned (.tuple #[.string (applyL s L).1, .int .i64 (applyL s L).2]) ∧ Below w.heap.size w w' := by
  have HT := Lib.hid ht; clear ht
  have HE := Lib.hid hE; clear hE
  go_enter Try.func12, Try.ntmps12
  go_wp2_with fail
  go_loopw [0, 6] (fun v i wr => ∃ (pre rest : List Ed) (cur : ByteArray), i = .int .i64 pre.length ∧ v = .string cur ∧ Hid (pre ++ rest = L) ∧ cur.size ≤ 10000000 ∧ Below w.heap.size w wr ∧ Hid (applyL cur rest = applyL s L)) (fun _ i _ => L.length - (intOf i).toNat)
  case atStart => exact ⟨[], L, s, rfl, rfl, rfl, hs, Below.refl _ w, rfl⟩
  case round =>
    obtain ⟨pre, rest, cur, rfl, rfl, hA, hcs, hb, hQ⟩ := hrel
    rcases rest with _ | ⟨⟨a, d, t⟩, rest⟩
    · have hL := hA.out
      rw [List.append_nil] at hL
      subst hL
      go_wp2
      go_ret2
      exact ⟨by rw [← hQ.out]; rfl, hb⟩
    · have hL := hA.out
      obtain ⟨g, o, rfl, hg, p0, p1, p2⟩ := HE.out _ _ _ hL
      have hlt : pre.length < L.length := by rw [← hL]; simp
      have q0 := (hb.cell (p := ⟨g, o + pre.length * 3, none⟩) hg).trans p0
      have q1 := (hb.cell (p := ⟨g, o + pre.length * 3 + 1, none⟩) hg).trans p1
      have q2 := (hb.cell (p := ⟨g, o + pre.length * 3 + 2, none⟩) hg).trans p2
      have y1 := EdAt.new wr a d t
      have hb1 := hb.alloc hb.size (.cells #[.int .i64 a, .int .i64 d, .string t] 32)
      have hz1 : (wr.alloc (.cells #[.int .i64 a, .int .i64 d, .string t] 32)).heap.size = wr.heap.size + 1 := by simp
      have hzz := hb.size
      clear hL p0 p1 p2
      generalize L.length = N at *
      go_wp2_with fail
      refine (rRight_any cur t a d _ hcs).mono ?_
      rintro e w2 ⟨rfl, b2⟩
      rw [hz1] at b2
      have y2 := y1.below b2 (by omega)
      have hb2 := hb1.trans (b2.mono (by omega))
      clear y1 hb1 b2
      by_cases hr : rightB cur.size a d = true
      · obtain ⟨a, d, rfl, rfl, had⟩ := right_nat hr
        have HR := Lib.hid hr; clear hr
        rw [HR.out]
        have c0 := y2.c0; have c1 := y2.c1; have c2 := y2.c2
        have hse : (cur.extract (a + d) cur.size).size = cur.size - (a + d) := by rw [ByteArray.size_extract]; omega
        have htt : t.size ≤ 10000000 := HT.out (a, d, t) (by rw [← hA.out]; simp)
        have HR2 : Hid (applyL cur ((a, d, t) :: rest) = if 65536 < a + t.size + (cur.size - (a + d)) then (⟨#[]⟩, 4) else applyL (joinT cur a d t) rest) := by
          rw [applyL]; dsimp only; rw [if_pos HR.out]; exact rfl
        have hsl := slc0 cur a (by omega)
        have hsr := slc1 cur (a + d) (a + d) (by omega) had
        have HJ : Hid (cur.extract 0 a ++ t ++ cur.extract (a + d) cur.size = joinT cur a d t) := rfl
        have hez : (cur.extract 0 a).size = a := by rw [ByteArray.size_extract]; omega
        have hjs : (joinT cur a d t).size = a + t.size + (cur.size - (a + d)) := by rw [← HJ.out, ByteArray.size_append, ByteArray.size_append]; omega
        clear y2
        by_cases hlong : 65536 < a + t.size + (cur.size - (a + d))
        · generalize cur.extract (a + d) cur.size = rs at *
          generalize cur.extract 0 a = ls at *
          have hjz : (ls ++ t ++ rs).size = a + t.size + rs.size := by rw [ByteArray.size_append, ByteArray.size_append]; omega
          have g1 : (65536 : Int) < ((ls ++ t ++ rs).size : Int) := by omega
          go_wp2
          go_region
          go_wp2
          go_ret2
          exact ⟨by rw [← hQ.out, HR2.out, if_pos hlong]; rfl, below_drew hb2⟩
        · generalize cur.extract (a + d) cur.size = rs at *
          generalize cur.extract 0 a = ls at *
          have hjz : (ls ++ t ++ rs).size = a + t.size + rs.size := by rw [ByteArray.size_append, ByteArray.size_append]; omega
          have g1 : ¬ (65536 : Int) < ((ls ++ t ++ rs).size : Int) := by omega
          go_wp2
          go_region
          go_wp2
          go_roundw
          case rel =>
            refine ⟨pre ++ [((a : Int), (d : Int), t)], rest, joinT cur a d t, by simp, by rw [HJ.out], Lib.hid (by rw [List.append_assoc]; exact hA.out), by omega, below_drew hb2, ?_⟩
            have h1 := hQ.out
            rw [HR2.out, if_neg hlong] at h1
            exact h1
          case measure => simp [intOf]; omega
      · have HR := Lib.hid (Bool.eq_false_iff.2 hr); clear hr
        rw [HR.out]
        go_wp2
        go_ret2
        exact ⟨by rw [← hQ.out, applyL, if_neg (by rw [HR.out]; decide)]; rfl, hb2⟩
end Go.Proofs.Ytjbfnlnfhafafaa
