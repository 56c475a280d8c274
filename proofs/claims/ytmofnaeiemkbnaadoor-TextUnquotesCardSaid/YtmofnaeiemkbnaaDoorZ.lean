/- text.Unquote: every text of at most 4000 bytes. Condition: the tables of unicode/utf8 are as laid. -/
import Derived.Test.YtmofnaeiemkbnaaDoorY
namespace Go.Proofs.YtmofnaeiemkbnaaDoor
open Go.RowKit Go.Shelf

theorem wrongZ_ne (s : ByteArray) (k : Nat) : wrongZ s k ≠ 0 := by unfold wrongZ; split <;> (try split) <;> decide
theorem braces_ok {s : ByteArray} {k least most : Nat} (h : (bracesZ s k least most).2.2 = 0) : ∃ a : Nat, (bracesZ s k least most).2.1 = a ∧ 1 ≤ a ∧ a ≤ s.size := by
  revert h
  unfold bracesZ
  repeat' split
  all_goals intro h
  all_goals first | exact absurd h (wrongZ_ne _ _) | exact ⟨_ + 1, (Int.natCast_succ _).symm, by omega, by omega⟩
theorem encode_size (r : Int) : (Utf8.encode r).size ≤ 4 := by
  unfold Utf8.encode
  dsimp only
  generalize (if Utf8.valid r then r.toNat else Utf8.runeError) = c
  by_cases h1 : c < 128
  · rw [if_pos h1]; show (1 : Nat) ≤ 4; omega
  rw [if_neg h1]
  by_cases h2 : c < 2048
  · rw [if_pos h2]; show (2 : Nat) ≤ 4; omega
  rw [if_neg h2]
  by_cases h3 : c < 65536
  · rw [if_pos h3]; show (3 : Nat) ≤ 4; omega
  rw [if_neg h3]
  show (4 : Nat) ≤ 4; omega
theorem then_ok {l : UInt8} {q : Int × Int × Int} (h : (thenZ l q).2.2 = 0) : q.2.2 = 0 ∧ (thenZ l q).2.1 = q.2.1 ∧ (thenZ l q).1.size ≤ 4 := by
  revert h
  unfold thenZ
  split
  · rename_i h0; intro h; exact absurd h h0
  · rename_i h0
    have h1 : q.2.2 = 0 := by simpa using h0
    unfold decodeZ
    split
    · intro _; exact ⟨h1, rfl, by show (1 : Nat) ≤ 4; omega⟩
    · split
      · intro _
        have he := encode_size ((q.1.toNat : Nat) : Int)
        revert he
        generalize Utf8.encode ((q.1.toNat : Nat) : Int) = t
        intro he
        exact ⟨h1, rfl, he⟩
      · intro h; exact absurd h (show ¬ (3 : Int) = 0 by decide)
theorem esc_ok {s : ByteArray} (h : (escZ s).2.2 = 0) : ∃ n : Nat, (escZ s).2.1 = n ∧ 1 ≤ n ∧ n ≤ s.size ∧ (escZ s).1.size ≤ 4 := by
  revert h
  unfold escZ
  split
  · rename_i hz
    have small : ∀ x : UInt8, (⟨#[x]⟩ : ByteArray).size ≤ 4 := fun x => by show (1 : Nat) ≤ 4; omega
    split
    · intro _; exact ⟨2, rfl, by omega, by omega, by rw [ByteArray.size_extract]; omega⟩
    split
    · intro _; exact ⟨2, rfl, by omega, by omega, small _⟩
    split
    · intro _; exact ⟨2, rfl, by omega, by omega, small _⟩
    split
    · intro _; exact ⟨2, rfl, by omega, by omega, small _⟩
    split
    · intro h
      obtain ⟨h1, h2, h3⟩ := then_ok h
      obtain ⟨a, ha, h4, h5⟩ := braces_ok h1
      exact ⟨a, h2.trans ha, h4, h5, h3⟩
    split
    · intro h
      obtain ⟨h1, h2, h3⟩ := then_ok h
      obtain ⟨a, ha, h4, h5⟩ := braces_ok h1
      exact ⟨a, h2.trans ha, h4, h5, h3⟩
    · intro h; exact absurd h (wrongZ_ne _ _)
  · intro h; exact absurd h (show ¬ (13 : Int) = 0 by decide)
theorem decode_w4 (s : ByteArray) (k : Nat) : (Utf8.decode s k).2 ≤ 4 := by
  rw [Lib.decode_N]
  unfold Lib.decodeN
  repeat' split
  all_goals (simp only; omega)
theorem one_ok {s : ByteArray} (h0 : 0 < s.size) (h : (oneZ s).2.2 = 0) : ∃ n : Nat, (oneZ s).2.1 = n ∧ 1 ≤ n ∧ n ≤ s.size ∧ (oneZ s).1.size ≤ 4 := by
  revert h
  unfold oneZ
  rw [dif_pos h0]
  split
  · exact esc_ok
  split
  · intro h; exact absurd h (wrongZ_ne _ _)
  · intro _
    obtain ⟨d1, d2, _⟩ := decode_facts s 0 h0
    have := decode_w4 s 0
    exact ⟨_, rfl, d1, by omega, by rw [ByteArray.size_extract]; omega⟩

/-- What Unquote answers from offset k on, by at most so many pieces. -/
def unqFrom (s : ByteArray) : Nat → Nat → List UInt8 → ByteArray × Int × Int
  | 0, _, _ => (⟨#[]⟩, 0, 0)
  | f + 1, k, acc =>
    if h : k < s.size then
      if s[k] = 34 then (⟨acc.toArray⟩, (k : Int) + 1, 0)
      else if (oneZ (s.extract k s.size)).2.2 ≠ 0 then (⟨#[]⟩, 0, (oneZ (s.extract k s.size)).2.2)
      else unqFrom s f (k + (oneZ (s.extract k s.size)).2.1.toNat) (acc ++ (oneZ (s.extract k s.size)).1.data.toList)
    else (⟨#[]⟩, 0, 13)
def unqZ (s : ByteArray) : ByteArray × Int × Int := if Lib.hasPrefix s.data.toList [34] then unqFrom s (s.size + 1) 1 [] else (⟨#[]⟩, 0, 3)

theorem strCells_eq (s : ByteArray) : Lib.strCells s = Lib.byteCells s.data.toList := rfl

set_option maxHeartbeats 4000000 in
set_option maxRecDepth 100000 in
theorem Unquote_any (s : ByteArray) (w : World) (hs : s.size ≤ 4000) (hT : Lib.Utf8Tabs 0 1 w) :
    Calls Tryd.prog 23 #[.string s] w fun e w' => e = .returned (.tuple #[.string (unqZ s).1, .int .i64 (unqZ s).2.1, .int .i64 (unqZ s).2.2]) ∧ Below w.heap.size w w' := by
  by_cases hp : Lib.hasPrefix s.data.toList [34] = true
  · have hs0 : 1 ≤ s.size := by
      cases hl : s.data.toList with
      | nil => rw [hl] at hp; simp [Lib.hasPrefix] at hp
      | cons a r =>
        have h : s.data.toList.length = r.length + 1 := by rw [hl]; rfl
        rw [Array.length_toList] at h
        show 1 ≤ s.data.size; omega
    have HP := Lib.hid hp; clear hp
    have HT := Lib.hid hT; clear hT
    go_enter Tryd.func23, Tryd.ntmps23
    go_wp2_with fail
    refine (Tryd.strings_HasPrefix _ _ _).mono ?_
    rintro e w1 ⟨rfl, rfl⟩
    rw [show Lib.hasPrefix s.data.toList (#[34] : Array UInt8).toList = true from HP.out]
    go_wp2
    go_loopw [6] (fun a wr => ∃ (k f : Nat) (acc : List UInt8), a = .int .i64 k ∧ 1 ≤ k ∧ k ≤ s.size ∧ s.size + 2 ≤ k + f + 0 ∧ acc.length ≤ 4 * k ∧ Lib.IsBuilderF 55 5 w1.heap.size w1.heap.size (Lib.byteCells acc) wr ∧ Below w1.heap.size w1 wr ∧ Hid (unqFrom s f k acc = unqZ s)) (fun a _ => s.size - (intOf a).toNat)
    case atStart =>
      exact ⟨1, s.size + 1, [], rfl, by omega, hs0, by omega, by simp, Lib.IsBuilderF.of (Lib.fresh_isBuilder 55 5 w1), (Below.refl _ _).alloc (Nat.le_refl _) _, by unfold unqZ; rw [if_pos HP.out]; exact rfl⟩
    case round =>
      obtain ⟨k, f, acc, rfl, hk1, hks, hfu, hal, hI, hB, hU⟩ := hrel
      obtain ⟨f, rfl⟩ : ∃ g, f = g + 1 := ⟨f - 1, by omega⟩
      by_cases hk : k < s.size
      · have g1 : (k : Int) < (s.size : Int) := by omega
        by_cases hq : s[k] = 34
        · have e1 : ((s[k].toNat : Int) != 34) = false := by rw [show (34 : Int) = ((34 : UInt8).toNat : Int) from rfl, byte_bne hk, hq]; rfl
          have e2 : ((k : Int) == (s.size : Int)) = false := by rw [beq_eq_false_iff_ne]; omega
          have HQ := Lib.hid hq; clear hq
          go_wp2_with fail
          refine (Tryd.Builder_String_any_k w1.heap.size w1.heap.size _ _ hI hB.size).mono ?_
          rintro e w2 ⟨rfl, _, b2, _⟩
          go_wp2
          go_ret3
          exact ⟨by rw [← hU.out, unqFrom, dif_pos hk, if_pos HQ.out]; rfl, hB.trans b2⟩
        · have e1 : ((s[k].toNat : Int) != 34) = true := by rw [show (34 : Int) = ((34 : UInt8).toNat : Int) from rfl, byte_bne hk]; simp [hq]
          have HQ := Lib.hid hq; clear hq
          have hse : (s.extract k s.size).size = s.size - k := by rw [ByteArray.size_extract]; omega
          have hT2 := Utf8Tabs_below HT.out hB
          have HT2 := Lib.hid hT2; clear hT2
          have h0 : 0 < (s.extract k s.size).size := by omega
          have h3 : (s.extract k s.size).size ≤ 4000 := by omega
          have HSE := Lib.hid hse; clear hse
          go_wp2_with fail
          refine (unquoteOne_any (s.extract k s.size) _ h0 h3 HT2.out).mono ?_
          rintro e w2 ⟨rfl, b2⟩
          have hs2 : w1.heap.size ≤ wr.heap.size := hB.size
          have hI2 : Lib.IsBuilderF 55 5 w1.heap.size w1.heap.size (Lib.byteCells acc) w2 := builder_below hI b2
          have hB2 := hB.trans (b2.mono hs2)
          by_cases he : (oneZ (s.extract k s.size)).2.2 = 0
          · have eb : ((oneZ (s.extract k s.size)).2.2 != 0) = false := by rw [he]; rfl
            obtain ⟨n, hn, hn1, hn2, hn4⟩ := one_ok h0 he
            have HE := Lib.hid he; clear he
            have HN := Lib.hid hn
            rw [hn]
            clear hn
            have hn2' : n ≤ s.size - k := by rw [HSE.out] at hn2; exact hn2
            have hlen : (Lib.byteCells acc).length + (oneZ (s.extract k s.size)).1.size ≤ 140737488355328 := by rw [Lib.byteCells_length]; omega
            go_wp2_with fail
            refine (WriteString_any w1.heap.size w1.heap.size _ _ _ hI2 hlen hB2.size).mono ?_
            rintro e w3 ⟨rfl, h3, b3, k3⟩
            go_wp2
            go_roundw
            case rel =>
              refine ⟨k + n, f, acc ++ (oneZ (s.extract k s.size)).1.data.toList, by go_num, by omega, by omega, by omega, ?_, ?_, hB2.trans b3, ?_⟩
              · have : (oneZ (s.extract k s.size)).1.data.toList.length = (oneZ (s.extract k s.size)).1.size := Array.length_toList
                rw [List.length_append, this]; omega
              · rw [Lib.byteCells_append]; exact .inr h3
              · rw [← hU.out, unqFrom, dif_pos hk, if_neg HQ.out, if_neg (by rw [HE.out]; simp), HN.out, Int.toNat_natCast]; exact rfl
            case measure => simp [intOf]; omega
          · have eb : ((oneZ (s.extract k s.size)).2.2 != 0) = true := by rw [bne_iff_ne]; exact he
            have HE := Lib.hid he; clear he
            go_wp2
            go_ret3
            exact ⟨by rw [← hU.out, unqFrom, dif_pos hk, if_neg HQ.out, if_pos HE.out]; rfl, hB2⟩
      · have e2 : ((k : Int) == (s.size : Int)) = true := by rw [beq_iff_eq]; omega
        go_wp2
        go_ret3
        exact ⟨by rw [← hU.out, unqFrom, dif_neg hk]; rfl, hB⟩
  · have HP := Lib.hid (Bool.eq_false_iff.2 hp); clear hp hT
    go_enter Tryd.func23, Tryd.ntmps23
    go_wp2_with fail
    refine (Tryd.strings_HasPrefix _ _ _).mono ?_
    rintro e w1 ⟨rfl, rfl⟩
    rw [show Lib.hasPrefix s.data.toList (#[34] : Array UInt8).toList = false from HP.out]
    go_wp2
    go_ret3
    exact ⟨by simp [unqZ, HP.out], Below.refl _ _⟩
end Go.Proofs.YtmofnaeiemkbnaaDoor
