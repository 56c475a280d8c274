/- package edit: Apply; the reference's. -/
import Derived.Test.YtjbfnlnfhafafaaB
import Derived.RangeFuncBox
namespace Go.Proofs.Ytjbfnlnfhafafaa
open Go.RowKit

/-- An edit as plain data: offset, bytes deleted, text. -/
abbrev Ed := Int × Int × ByteArray
/-- The slice at ao holds the edits L. -/
def Eds (W : World) (B : Nat) (ao : Option Addr) (L : List Ed) : Prop := ∀ pre x rest, pre ++ x :: rest = L → ∃ g o, ao = some ⟨g, o, none⟩ ∧ g < B ∧
  W.cell? ⟨g, o + pre.length * 3, none⟩ = some (.int .i64 x.1) ∧ W.cell? ⟨g, o + pre.length * 3 + 1, none⟩ = some (.int .i64 x.2.1) ∧ W.cell? ⟨g, o + pre.length * 3 + 2, none⟩ = some (.string x.2.2)

/-- A text with an edit done. -/
def joinT (s : ByteArray) (a d : Nat) (t : ByteArray) : ByteArray := s.extract 0 a ++ t ++ s.extract (a + d) s.size
/-- What Apply answers. -/
def applyL : ByteArray → List Ed → ByteArray × Int
  | s, [] => (s, 0)
  | s, x :: r => if rightB s.size x.1 x.2.1 then (if 65536 < x.1.toNat + x.2.2.size + (s.size - (x.1.toNat + x.2.1.toNat)) then (⟨#[]⟩, 4) else applyL (joinT s x.1.toNat x.2.1.toNat x.2.2) r) else (⟨#[]⟩, 2)

/-- A text's front. -/
theorem slc0 (s : ByteArray) (a : Nat) (h : a ≤ s.size) (w : World) : (Instr.slice 9 (.string s) none (some (.int .i64 (a : Int))) none).run Try.prog w = .ok (.string (s.extract 0 a)) w := by
  rw [run_slice_string_to_if w 9 s .i64 a Try.underlying9, if_pos (by omega)]
  rfl

set_option maxHeartbeats 1000000 in
theorem ApplyFn_any (cur t : ByteArray) (a d b : Nat) (w : World) (hc : w.cell? ⟨b, 0, none⟩ = some (.string cur)) (hb : b < w.heap.size) (h : a + d ≤ cur.size) (hs : cur.size ≤ 10000000) :
    Calls Try.prog 23 #[edV a d t, .pointer (some ⟨b, 0, none⟩)] w fun e w' => e = .returned (.string (cur.extract (a + d) cur.size)) ∧ Below w.heap.size w w' := by
  have y := EdAt.new w a d t
  have y0 := y.c0; have y1 := y.c1; have y2 := y.c2
  have hc' : (w.alloc (.cells #[.int .i64 a, .int .i64 d, .string t] 32)).cell? ⟨b, 0, none⟩ = some (.string cur) := (((Below.refl w.heap.size w).alloc (Nat.le_refl _) _).cell (p := ⟨b, 0, none⟩) hb).trans hc
  clear y hc
  go_enter Try.func23, Try.ntmps23
  go_wp2
  go_ret
  exact ⟨rfl, (Below.refl _ w).alloc (Nat.le_refl _) _⟩

set_option maxHeartbeats 4000000 in
theorem Apply_any (s : ByteArray) (ao : Option Addr) (L : List Ed) (cap : Nat) (w : World) (hs : s.size ≤ 10000000) (hN : L.length ≤ 1000) (ht : ∀ x ∈ L, x.2.2.size ≤ 10000000) (hE : Eds w w.heap.size ao L) :
    Calls Try.prog 11 #[.string s, .slice ao L.length cap] w fun e w' => e = .returned (.tuple #[.string (applyL s L).1, .int .i64 (applyL s L).2]) ∧ Below w.heap.size w w' := by
  have HT := Lib.hid ht; clear ht
  have HE := Lib.hid hE; clear hE
  have x0 := Boxed.new w 9 (.string s)
  go_enter Try.func11, Try.ntmps11
  go_wp2_with fail
  go_loopw [13] (fun i wr => ∃ (pre rest : List Ed) (cur : ByteArray), i = .int .i64 pre.length ∧ Hid (pre ++ rest = L) ∧ cur.size ≤ 10000000 ∧ Boxed wr w.heap.size 9 (.string cur) ∧ Below w.heap.size w wr ∧ Hid (applyL cur rest = applyL s L)) (fun i _ => L.length - (intOf i).toNat)
  case atStart => exact ⟨[], L, s, rfl, rfl, hs, x0, (Below.refl _ w).alloc (Nat.le_refl _) _, rfl⟩
  case round =>
    obtain ⟨pre, rest, cur, rfl, hA, hcs, hx, hb, hQ⟩ := hrel
    rcases rest with _ | ⟨⟨a, d, t⟩, rest⟩
    · have hL := hA.out
      rw [List.append_nil] at hL
      subst hL
      have hx0 := hx.cell
      go_wp2
      go_ret2
      exact ⟨by rw [← hQ.out]; rfl, hb⟩
    · have hL := hA.out
      obtain ⟨g, o, rfl, hg, p0, p1, p2⟩ := HE.out _ _ _ hL
      have hlt : pre.length < L.length := by rw [← hL]; simp
      have q0 := (hb.cell (p := ⟨g, o + pre.length * 3, none⟩) hg).trans p0
      have q1 := (hb.cell (p := ⟨g, o + pre.length * 3 + 1, none⟩) hg).trans p1
      have q2 := (hb.cell (p := ⟨g, o + pre.length * 3 + 2, none⟩) hg).trans p2
      have hx0 := hx.cell
      have hx1 := hx.alloc (.cells #[.int .i64 a, .int .i64 d, .string t] 32)
      have y1 := EdAt.new wr a d t
      have hb1 := hb.alloc hb.size (.cells #[.int .i64 a, .int .i64 d, .string t] 32)
      have hz1 : (wr.alloc (.cells #[.int .i64 a, .int .i64 d, .string t] 32)).heap.size = wr.heap.size + 1 := by simp
      have hlx := hx.lt
      have hc1 := hx1.cell
      clear hL p0 p1 p2
      generalize L.length = N at *
      go_wp2_with fail
      refine (Right_any cur t a d _ hcs).mono ?_
      rintro e w2 ⟨rfl, b2⟩
      rw [hz1] at b2
      have hx2 : Boxed w2 w.heap.size 9 (.string cur) := (b2.block _ (by omega)).trans hx1
      have y2 := y1.below b2 (by omega)
      have hb2 := hb1.trans (b2.mono (by omega))
      clear hx1 y1 hb1 hc1 b2
      by_cases hr : rightB cur.size a d = true
      · obtain ⟨a, d, rfl, rfl, had⟩ := right_nat hr
        have HR := Lib.hid hr; clear hr
        rw [HR.out]
        have c0 := y2.c0; have c1 := y2.c1; have c2 := y2.c2
        have hlt2 := hx2.lt
        have hly := y2.lt
        go_wp2_with fail
        refine (ApplyFn_any cur t a d w.heap.size w2 hx2.cell (by omega) had hcs).mono ?_
        rintro e w3 ⟨rfl, b3⟩
        have hx3 : Boxed w3 w.heap.size 9 (.string cur) := (b3.block _ (by omega)).trans hx2
        have y3 := y2.below b3 (by omega)
        have hb3 := hb2.trans (b3.mono (by omega))
        have hse : (cur.extract (a + d) cur.size).size = cur.size - (a + d) := by rw [ByteArray.size_extract]; omega
        have htt : t.size ≤ 10000000 := HT.out (a, d, t) (by rw [← hA.out]; simp)
        clear c0 c1 c2 hx2 y2 hb2 b3 hlt2 hly hx hb hlx
        have c0 := y3.c0; have c1 := y3.c1; have c2 := y3.c2
        have x3 := hx3.cell; have x4 := hx3.frozen
        have HR2 : Hid (applyL cur ((a, d, t) :: rest) = if 65536 < a + t.size + (cur.size - (a + d)) then (⟨#[]⟩, 4) else applyL (joinT cur a d t) rest) := by
          rw [applyL]; dsimp only; rw [if_pos HR.out]; exact rfl
        have hsl := slc0 cur a (by omega)
        have HJ : Hid (cur.extract 0 a ++ t ++ cur.extract (a + d) cur.size = joinT cur a d t) := rfl
        have hez : (cur.extract 0 a).size = a := by rw [ByteArray.size_extract]; omega
        by_cases hlong : 65536 < a + t.size + (cur.size - (a + d))
        · generalize cur.extract (a + d) cur.size = rs at *
          have g1 : (65536 : Int) < (a : Int) + (t.size : Int) + (rs.size : Int) := by omega
          go_wp2
          go_ret2
          exact ⟨by rw [← hQ.out, HR2.out, if_pos hlong]; rfl, hb3⟩
        · have hjs : (joinT cur a d t).size ≤ 10000000 := by rw [← HJ.out, ByteArray.size_append, ByteArray.size_append]; omega
          generalize cur.extract (a + d) cur.size = rs at *
          generalize cur.extract 0 a = ls at *
          have g1 : ¬ (65536 : Int) < (a : Int) + (t.size : Int) + (rs.size : Int) := by omega
          go_wp2
          go_region
          go_wp2
          go_roundw
          case rel =>
            refine ⟨pre ++ [((a : Int), (d : Int), t)], rest, joinT cur a d t, by simp, Lib.hid (by rw [List.append_assoc]; exact hA.out), hjs, ?_, ?_, ?_⟩
            · rw [HJ.out]; exact hx3.set _
            · exact below_drew (hb3.setCell (p := ⟨w.heap.size, 0, none⟩) (Nat.le_refl _) _)
            · have h1 := hQ.out
              rw [HR2.out, if_neg hlong] at h1
              exact h1
          case measure => simp [intOf]; omega
      · have HR := Lib.hid (Bool.eq_false_iff.2 hr); clear hr
        rw [HR.out]
        go_wp2
        go_ret2
        exact ⟨by rw [← hQ.out, applyL, if_neg (by rw [HR.out]; decide)]; rfl, hb2⟩
end Go.Proofs.Ytjbfnlnfhafafaa
