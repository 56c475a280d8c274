/- text.Quote: every text of at most 300 bytes. -/
import Derived.Test.YtmofnaeiemkbnaaDoorR
import Derived.Test.YtmofnaeiemkbnaaDoorU
namespace Go.Proofs.YtmofnaeiemkbnaaDoor
open Go.RowKit Go.Shelf

/-- What Quote writes between the quotes, from place pos on, by at most so many runes. -/
def quoteFrom (s : ByteArray) : Nat → Nat → List UInt8
  | 0, _ => []
  | f + 1, pos => if h : pos < s.size then (if invB s pos (Utf8.decode s pos).1 then codeB 120 s[pos].toNat else quoteR (Utf8.decode s pos).1) ++ quoteFrom s f (pos + (Utf8.decode s pos).2) else []
def quoteB (s : ByteArray) : List UInt8 := [34] ++ quoteFrom s s.size 0 ++ [34]

theorem quoteFrom_end (s : ByteArray) (f pos : Nat) (h : ¬ pos < s.size) : quoteFrom s f pos = [] := by cases f <;> simp [quoteFrom, h]
theorem codeB_length (c : UInt8) (m : Nat) : (codeB c m).length ≤ 68 := by have := digs_length (b := 16) (n := m); simp [codeB]; omega
theorem quoteR_length (r : Nat) : (quoteR r).length ≤ 68 := by
  have := codeB_length 117 r
  unfold quoteR
  repeat' split
  all_goals first | exact this | simp

set_option maxHeartbeats 4000000 in
set_option maxRecDepth 1000000 in
theorem Quote_any (s : ByteArray) (w : World) (hs : s.size ≤ 300) :
    Calls Tryd.prog 22 #[.string s] w fun e w' => e = .returned (.string ⟨(quoteB s).toArray⟩) ∧ Below w.heap.size w w' := by
  have hI00 := Lib.IsBuilderF.of (Lib.fresh_isBuilder 55 5 w)
  go_enter Tryd.func22, Tryd.ntmps22
  go_wp2_with (go_at_call 32; refine (WriteByte_any w.heap.size w.heap.size [] 34 _ hI00 (by simp) (by simp)).mono ?_)
  rintro e wm ⟨rfl, hIm, bm, km⟩
  have hBm : Below w.heap.size w wm := ((Below.refl _ w).alloc (Nat.le_refl _) _).trans bm
  have hlt : w.heap.size < wm.heap.size := hIm.lt
  clear bm km hI00
  go_wp2
  go_loopw [] (fun wr => ∃ (pos fuel : Nat) (acc : List UInt8), Lib.IsBuilderF 55 5 w.heap.size w.heap.size (Lib.byteCells acc) wr ∧ wr.heap[wm.heap.size]? = some (.stringIter s pos) ∧ Below w.heap.size w wr ∧ Hid (acc ++ quoteFrom s fuel pos = [34] ++ quoteFrom s s.size 0) ∧ s.size ≤ pos + fuel ∧ pos ≤ s.size ∧ acc.length ≤ 1 + 68 * pos) (fun wr => s.size - wr.iterPos wm.heap.size)
  case atStart =>
    refine ⟨0, s.size, [34], Lib.IsBuilderF.alloc (.inr hIm) _, ?_, hBm.alloc hBm.size _, rfl, by omega, by omega, by simp⟩
    exact World.alloc_heap_new _ _
  case round =>
    obtain ⟨pos, fuel, acc, hI, hit, hbw, hacc, hfu, hps, hal⟩ := hrel
    have hsz : wm.heap.size < wr.heap.size := (Array.getElem?_eq_some_iff.1 hit).1
    by_cases hp : pos < s.size
    · have hnx : ∀ ty, (Instr.next (.pointer (some ⟨wm.heap.size, 0, none⟩)) true ty).run Tryd.prog wr = _ := fun ty => Lib.run_next_any_at wr wm.heap.size s pos ty hit hp
      obtain ⟨hw1, hw2, hw3⟩ := decode_facts s pos hp
      have hI2 := hI.iterAt hit (pos + (Utf8.decode s pos).2)
      have hit2 := Lib.iterAt_heap wr wm.heap.size s pos (pos + (Utf8.decode s pos).2) hit
      have hbw2 := Lib.below_iterAt hbw (k := wm.heap.size) (by omega) s (pos + (Utf8.decode s pos).2)
      have hsz2 : w.heap.size ≤ (wr.iterAt wm.heap.size s (pos + (Utf8.decode s pos).2)).heap.size := by rw [Lib.iterAt_size]; omega
      obtain ⟨f, rfl⟩ : ∃ f, fuel = f + 1 := ⟨fuel - 1, by omega⟩
      have hlen : acc.length ≤ 1000000 := by omega
      have hu : IntKind.u64.wrap ((s[pos].toNat : Nat) : Int) = ((s[pos].toNat : Nat) : Int) := IntWalk.u64_in _ (by have := UInt8.toNat_lt s[pos]; omega)
      have hum : s[pos].toNat < 18446744073709551616 := by have := UInt8.toNat_lt s[pos]; omega
      have HUM := Lib.hid hum; clear hum
      by_cases hv : invB s pos (Utf8.decode s pos).1 = true
      · have HV := Lib.hid hv; clear hv
        go_wp2_with (go_at_call 35; refine (isInvalid_any s pos _ _ (by omega)).mono ?_)
        rintro e W1 ⟨rfl, rfl⟩
        rw [HV.out]
        go_wp2_with (go_at_call 36; refine (callsIn_wide.1 (writeCode_in w.heap.size w.heap.size acc 120 s[pos].toNat HUM.out _ hI2 hlen hsz2)).mono ?_)
        rintro e W1 ⟨rfl, h1, b1, k1⟩
        go_wp2
        go_roundw
        case rel =>
          have hc := codeB_length 120 s[pos].toNat
          refine ⟨pos + (Utf8.decode s pos).2, f, _, h1, k1.iter hit2 (by omega), hbw2.trans b1, ?_, by omega, hw2, by simp; omega⟩
          rw [← hacc.out]; simp [quoteFrom, hp, HV.out, Hid]
        case measure =>
          simp only [World.iterPos, k1.iter hit2 (by omega), hit]
          omega
      · have HV := Lib.hid (Bool.eq_false_iff.2 hv); clear hv
        go_wp2_with (go_at_call 35; refine (isInvalid_any s pos _ _ (by omega)).mono ?_)
        rintro e W1 ⟨rfl, rfl⟩
        rw [HV.out]
        go_wp2_with (go_at_call 37; refine (writeRune_any w.heap.size w.heap.size acc _ hw3 _ hI2 hlen hsz2).mono ?_)
        rintro e W1 ⟨rfl, h1, b1, k1⟩
        go_wp2
        go_roundw
        case rel =>
          have hc := quoteR_length (Utf8.decode s pos).1
          refine ⟨pos + (Utf8.decode s pos).2, f, _, h1, k1.iter hit2 (by omega), hbw2.trans b1, ?_, by omega, hw2, by simp; omega⟩
          rw [← hacc.out]; simp [quoteFrom, hp, HV.out, Hid]
        case measure =>
          simp only [World.iterPos, k1.iter hit2 (by omega), hit]
          omega
    · have hnx : ∀ ty, (Instr.next (.pointer (some ⟨wm.heap.size, 0, none⟩)) true ty).run Tryd.prog wr = _ := fun ty => Lib.run_next_end_at wr wm.heap.size s pos ty hit hp
      go_wp2_with (go_at_call 32; refine (WriteByte_any w.heap.size w.heap.size _ 34 _ hI (by rw [Lib.byteCells_length]; omega) (by omega)).mono ?_)
      rintro e W1 ⟨rfl, h1, b1, k1⟩
      have hI3 : Lib.IsBuilderF 55 5 w.heap.size w.heap.size (Lib.byteCells (acc ++ [34])) W1 := by rw [Lib.byteCells_append]; exact .inr h1
      go_wp2_with (go_at_call 34; refine (Tryd.Builder_String_any_k w.heap.size w.heap.size _ _ hI3 (Nat.le_trans (by omega) b1.size)).mono ?_)
      rintro e W2 ⟨rfl, _, b2, _⟩
      go_wp2
      go_ret
      have ha := hacc.out
      rw [quoteFrom_end s fuel pos hp, List.append_nil] at ha
      subst ha
      exact ⟨rfl, (hbw.trans b1).trans b2⟩
end Go.Proofs.YtmofnaeiemkbnaaDoor
