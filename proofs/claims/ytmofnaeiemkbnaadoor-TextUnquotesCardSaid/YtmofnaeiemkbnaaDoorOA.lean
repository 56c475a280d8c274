/- The reference's Show: every int. -/
import Derived.Test.YtmofnaeiemkbnaaDoorW
import Derived.Test.YtmofnaeiemkbnaaDoorO
namespace Go.Proofs.YtmofnaeiemkbnaaDoor
open Go.RowKit

/-- The reference's digits. -/
def rdigs : Nat → Nat → List UInt8 → List UInt8
  | 0, _, s => s
  | f + 1, u, s => if 9 < u then rdigs f (u / 10) (UInt8.ofNat (48 + u % 10) :: s) else UInt8.ofNat (48 + u) :: s
def rshowB (x : Int) : List UInt8 := (if x < 0 then [45] else []) ++ rdigs 64 x.natAbs []

theorem cons_str (x : UInt8) (s : List UInt8) : (⟨#[x]⟩ : ByteArray) ++ ⟨s.toArray⟩ = ⟨(x :: s).toArray⟩ := by
  apply ByteArray.ext; simp [ByteArray.data_append]
theorem nil_str (s : ByteArray) : (⟨#[]⟩ : ByteArray) ++ s = s := by
  apply ByteArray.ext; simp [ByteArray.data_append]
theorem ofNat_add (n : Nat) : (48 : UInt8) + UInt8.ofNat n = UInt8.ofNat (48 + n) := by
  rw [UInt8.ofNat_add]; rfl

set_option maxHeartbeats 2000000 in
theorem rShow_pos (x : Int) (w : World) (h0 : 0 ≤ x) (h1 : x ≤ 9223372036854775807) :
    Calls Tryd.prog 21 #[.int .i64 x] w fun e w' => e = .returned (.string ⟨(rdigs 64 x.toNat []).toArray⟩) ∧ Below w.heap.size w w' := by
  obtain ⟨m, rfl⟩ := Int.eq_ofNat_of_zero_le h0
  have hm : m < 18446744073709551616 := by omega
  have hu : IntKind.u64.wrap (m : Int) = (m : Int) := IntWalk.u64_in _ (by omega)
  have hd : decide ((m : Int) < 0) = false := decide_eq_false (by omega)
  have HM := Lib.hid hm; clear hm h0 h1
  go_enter Tryd.func21, Tryd.ntmps21
  go_wp2
  clear hu hd
  go_loopw [3, 5] (fun u t wr => ∃ (n f : Nat) (s : List UInt8), u = .int .u64 n ∧ t = .string ⟨s.toArray⟩ ∧ Hid (n < 18446744073709551616) ∧ Hid (n < 2 ^ f ∧ rdigs f n s = rdigs 64 m []) ∧ s.length + f = 64 ∧ 1 ≤ f ∧ Below w.heap.size w wr) (fun u _ _ => (intOf u).toNat)
  case atStart => exact ⟨m, 64, [], rfl, rfl, HM, ⟨by have := HM.out; simpa using this, rfl⟩, rfl, by omega, Below.refl _ _⟩
  case round =>
    obtain ⟨n, f, s, rfl, rfl, hn, hf, hl, hf1, hb⟩ := hrel
    have hl2 : ¬ 9223372036854775807 < 1 + s.length := by omega
    obtain ⟨f, rfl⟩ : ∃ g, f = g + 1 := ⟨f - 1, by omega⟩
    by_cases h9 : 9 < n
    · have g1 : (9 : Int) < (n : Int) := by omega
      have hx := conv_byte (wr.alloc (Obj.cells #[Value.int IntKind.u8 (48 + (n : Int) % 10)] 5)) wr.heap.size (48 + (n : Int) % 10) (Boxed.new wr 5 _).cell
      have e : (48 + (n : Int) % 10).toNat = 48 + n % 10 := by omega
      rw [e] at hx
      clear e
      have hw : IntKind.u64.wrap ((n : Int) / 10) = (n : Int) / 10 := IntWalk.u64_in _ (by have := hn.out; omega)
      go_wp2
      rw [ofNat_add, cons_str]
      have hf2 : 1 ≤ f := by
        rcases Nat.eq_zero_or_pos f with h | h
        · subst h; have := hf.out.1; simp at this; omega
        · exact h
      refine ⟨⟨n / 10, f, UInt8.ofNat (48 + n % 10) :: s, by simp, rfl, Lib.hid (by have := hn.out; omega), Lib.hid ⟨?_, ?_⟩, by simp; omega, hf2, hb.alloc hb.size _⟩, ?_⟩
      · have := hf.out.1; rw [Nat.pow_succ] at this; omega
      · rw [← hf.out.2, rdigs, if_pos h9]
      · simp [intOf]; omega
    · have g1 : (n : Int) ≤ 9 := by omega
      have hx := conv_byte (wr.alloc (Obj.cells #[Value.int IntKind.u8 (48 + (n : Int))] 5)) wr.heap.size (48 + (n : Int)) (Boxed.new wr 5 _).cell
      have e : (48 + (n : Int)).toNat = 48 + n := by omega
      rw [e] at hx
      clear e
      go_wp2
      have hp := hb.alloc hb.size (Obj.cells #[Value.int IntKind.u8 (48 + (n : Int))] 5)
      have hr : (⟨#[]⟩ : ByteArray) ++ ⟨#[48 + UInt8.ofNat n]⟩ ++ ⟨s.toArray⟩ = ⟨(rdigs 64 m []).toArray⟩ := by
        rw [ofNat_add, nil_str, cons_str, ← hf.out.2, rdigs, if_neg h9]
      rw [hr]
      exact ⟨rfl, _, results_tmp rfl _ _ _, rfl, hp⟩
set_option maxHeartbeats 2000000 in
theorem rShow_neg (x : Int) (w : World) (h0 : x < 0) (h1 : -9223372036854775808 ≤ x) :
    Calls Tryd.prog 21 #[.int .i64 x] w fun e w' => e = .returned (.string ⟨([45] ++ rdigs 64 x.natAbs []).toArray⟩) ∧ Below w.heap.size w w' := by
  obtain ⟨m, hmx⟩ : ∃ m, m = x.natAbs := ⟨_, rfl⟩
  have hm : m < 18446744073709551616 := by omega
  obtain ⟨y, hy⟩ : ∃ y, y = IntKind.u64.wrap x := ⟨_, rfl⟩
  have hu : IntKind.u64.wrap x = y := hy.symm
  have hn : IntKind.u64.wrap (-y) = (m : Int) := by rw [hy, IntKind.wrap_u64, IntKind.wrap_u64]; omega
  have hd : decide (x < 0) = true := decide_eq_true h0
  rw [← hmx]
  have HM := Lib.hid hm; clear hm h1
  clear hy hmx
  go_enter Tryd.func21, Tryd.ntmps21
  go_wp2
  clear hu hd hn
  go_loopw [3, 5] (fun u t wr => ∃ (n f : Nat) (s : List UInt8), u = .int .u64 n ∧ t = .string ⟨s.toArray⟩ ∧ Hid (n < 18446744073709551616) ∧ Hid (n < 2 ^ f ∧ rdigs f n s = rdigs 64 m []) ∧ s.length + f = 64 ∧ 1 ≤ f ∧ Below w.heap.size w wr) (fun u _ _ => (intOf u).toNat)
  case atStart => exact ⟨m, 64, [], rfl, rfl, HM, ⟨by have := HM.out; simpa using this, rfl⟩, rfl, by omega, Below.refl _ _⟩
  case round =>
    obtain ⟨n, f, s, rfl, rfl, hn, hf, hl, hf1, hb⟩ := hrel
    have hl2 : ¬ 9223372036854775807 < 1 + s.length := by omega
    obtain ⟨f, rfl⟩ : ∃ g, f = g + 1 := ⟨f - 1, by omega⟩
    by_cases h9 : 9 < n
    · have g1 : (9 : Int) < (n : Int) := by omega
      have hx := conv_byte (wr.alloc (Obj.cells #[Value.int IntKind.u8 (48 + (n : Int) % 10)] 5)) wr.heap.size (48 + (n : Int) % 10) (Boxed.new wr 5 _).cell
      have e : (48 + (n : Int) % 10).toNat = 48 + n % 10 := by omega
      rw [e] at hx
      clear e
      have hw : IntKind.u64.wrap ((n : Int) / 10) = (n : Int) / 10 := IntWalk.u64_in _ (by have := hn.out; omega)
      go_wp2
      rw [ofNat_add, cons_str]
      have hf2 : 1 ≤ f := by
        rcases Nat.eq_zero_or_pos f with h | h
        · subst h; have := hf.out.1; simp at this; omega
        · exact h
      refine ⟨⟨n / 10, f, UInt8.ofNat (48 + n % 10) :: s, by simp, rfl, Lib.hid (by have := hn.out; omega), Lib.hid ⟨?_, ?_⟩, by simp; omega, hf2, hb.alloc hb.size _⟩, ?_⟩
      · have := hf.out.1; rw [Nat.pow_succ] at this; omega
      · rw [← hf.out.2, rdigs, if_pos h9]
      · simp [intOf]; omega
    · have g1 : (n : Int) ≤ 9 := by omega
      have hx := conv_byte (wr.alloc (Obj.cells #[Value.int IntKind.u8 (48 + (n : Int))] 5)) wr.heap.size (48 + (n : Int)) (Boxed.new wr 5 _).cell
      have e : (48 + (n : Int)).toNat = 48 + n := by omega
      rw [e] at hx
      clear e
      go_wp2
      have hp := hb.alloc hb.size (Obj.cells #[Value.int IntKind.u8 (48 + (n : Int))] 5)
      have hr : (⟨#[45]⟩ : ByteArray) ++ ⟨#[48 + UInt8.ofNat n]⟩ ++ ⟨s.toArray⟩ = ⟨([45] ++ rdigs 64 m []).toArray⟩ := by
        rw [ofNat_add, ← hf.out.2, rdigs, if_neg h9]; apply ByteArray.ext; simp [ByteArray.data_append]
      rw [hr]
      exact ⟨rfl, _, results_tmp rfl _ _ _, rfl, hp⟩

theorem rShow_any (x : Int) (w : World) (h0 : -9223372036854775808 ≤ x) (h1 : x ≤ 9223372036854775807) :
    Calls Tryd.prog 21 #[.int .i64 x] w fun e w' => e = .returned (.string ⟨(rshowB x).toArray⟩) ∧ Below w.heap.size w w' := by
  by_cases h : x < 0
  · rw [rshowB, if_pos h]
    exact rShow_neg x w h h0
  · rw [rshowB, if_neg h, show x.natAbs = x.toNat by omega]
    exact rShow_pos x w (by omega) h1
end Go.Proofs.YtmofnaeiemkbnaaDoor
