/- The statements' own ins (edit): the texts of a list of edits. -/
import Derived.Test.YtjbfnlnfhafafaaE
namespace Go.Proofs.Ytjbfnlnfhafafaa
open Go.RowKit

def strCells (L : List Ed) : List Value := L.map fun x => .string x.2.2
theorem infoString : (Try.prog.info? 9).map (fun i => (i.zero, i.size, i.bytes)) = some (some (.string ⟨#[]⟩), 1, 16) := by kernel_rfl
theorem str_row {W : World} {x : ByteArray} : ∀ j u, [Value.string x][j]? = some u → (W.alloc (Obj.cells #[Value.string x] 9)).cell? ((⟨W.heap.size, 0, none⟩ : Addr).add j) = some u := by
  intro j u hj
  have hb := World.alloc_heap_new W (Obj.cells #[Value.string x] 9)
  match j, hj with
  | 0, hj => simp at hj; subst hj; rw [show ((⟨W.heap.size, 0, none⟩ : Addr).add 0) = ⟨W.heap.size, 0, none⟩ by simp [Addr.add], Lib.cell_of_heap hb]; rfl
  | j + 1, hj => simp at hj

set_option maxHeartbeats 4000000 in
theorem ins_any (ao : Option Addr) (L : List Ed) (cap : Nat) (w : World) (hN : L.length ≤ 40) (hE : Eds w w.heap.size ao L) :
    Calls Try.prog 9 #[.slice ao L.length cap] w fun e w' => ∃ v, e = .returned v ∧ w'.ownsRow w.heap.size 9 1 v L.length (strCells L) ∧ Below w.heap.size w w' := by
  obtain ⟨i0, hi, hz0, hz1, hz2⟩ := info_parts infoString
  have HE := Lib.hid hE; clear hE
  go_enter Try.func9, Try.ntmps9
  go_wp2_with fail
  go_loopw [3, 4] (fun v i wr => ∃ (pre rest : List Ed), i = .int .i64 pre.length ∧ Hid (pre ++ rest = L) ∧ wr.ownsRow w.heap.size 9 1 v pre.length (strCells pre) ∧ Below w.heap.size w wr) (fun _ i _ => L.length - (intOf i).toNat)
  case atStart => exact ⟨[], L, rfl, rfl, World.ownsRow_nil _ _ _ _, Below.refl _ _⟩
  case round =>
    obtain ⟨pre, rest, rfl, hA, hown, hb⟩ := hrel
    rcases rest with _ | ⟨x, rest⟩
    · have hL := hA.out
      rw [List.append_nil] at hL
      subst hL
      go_wp2
      go_ret
      exact ⟨_, rfl, hown, hb⟩
    · have hL := hA.out
      obtain ⟨g, o, rfl, hg, _, _, p2⟩ := HE.out _ _ _ hL
      have hlt : pre.length < L.length := by rw [← hL]; simp
      have q2 := (hb.cell (p := ⟨g, o + pre.length * 3 + 2, none⟩) hg).trans p2
      have hsz := hb.size
      clear hL p2
      generalize L.length = N at *
      go_wp2_with (at_builtin; refine wpList_append_own _ rfl _ _ 24 rfl w.heap.size 9 i0 (.string ⟨#[]⟩) 1 16 Try.underlying24 hi hz0 hz1 hz2 rfl (by decide) _ _ _ rfl (hown.alloc _) ⟨wr.heap.size, 0, none⟩ 1 1 [.string x.2.2] rfl rfl ?c1 ?c2 ?c3 ?c4 ?c5 ?_)
      case c1 => exact str_row
      case c2 => intro u hu; simp at hu; subst hu; rfl
      case c3 => unfold maxLen; omega
      case c4 => omega
      case c5 => simp; omega
      intro v' w2 hown' hgrow _
      have hb2 : Below w.heap.size w w2 := (hb.alloc hsz _).grown hgrow (by simp; omega) (fun k hk => (by have := (hown.lt k hk).1; omega))
      rw [show strCells pre ++ [Value.string x.2.2] = strCells (pre ++ [x]) by simp [strCells], show pre.length + 1 = (pre ++ [x]).length by simp] at hown'
      clear hgrow hown hb
      go_wp2
      go_roundw
      case rel => exact ⟨pre ++ [x], rest, by simp, Lib.hid (by rw [List.append_assoc]; exact hA.out), hown', hb2⟩
      case measure => simp [intOf]; omega

/-- The texts of such a list, as few reads them. -/
theorem strs_of_own {w : World} {b B : Nat} {v : Value} {L : List Ed} (h : w.ownsRow b 9 1 v L.length (strCells L)) (hB : w.heap.size ≤ B) : ∃ ao cap, v = .slice ao (L.map fun x => x.2.2).length cap ∧ Strs w B ao (L.map fun x => x.2.2) := by
  obtain ⟨h1, ⟨rfl, h2⟩ | ⟨g, cap, cur, rfl, h3, h4, h5, h6, h7, h8⟩⟩ := h
  · refine ⟨none, 0, by simp [h2], fun pre x rest e => ?_⟩
    have hh := congrArg List.length e
    simp at hh; omega
  · refine ⟨_, cap, by simp, fun pre x rest e => ⟨g, 0, rfl, ?_, ?_⟩⟩
    · have := (Array.getElem?_eq_some_iff.1 h4).1; omega
    · have hlen := congrArg List.length e
      simp only [List.length_append, List.length_cons, List.length_map] at hlen
      have hc : (strCells L)[pre.length]? = some (.string x) := by
        rw [show strCells L = (L.map fun x => x.2.2).map Value.string by simp [strCells], ← e]; simp
      rw [← h8, List.getElem?_take, if_pos (by omega), Array.getElem?_toList] at hc
      rw [Lib.cell_of_heap h4, Nat.zero_add]
      exact hc
end Go.Proofs.Ytjbfnlnfhafafaa
