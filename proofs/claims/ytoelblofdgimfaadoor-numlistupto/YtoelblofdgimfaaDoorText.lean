/-
  num.Text and the plain Text of the reference, walked: both return the decimal digits of a number, with a sign ahead of a negative one.
-/
import Derived.Test.YtoelblofdgimfaaDoorLeaf
import Derived.Test.YtoelblofdgimfaaDoorItoa
import Derived.Lib.AppendIntMem
namespace Go.Proofs.YtoelblofdgimfaaDoor
open Go.RowKit

theorem conv_one {P : Program} (src dst e : TypeId) (hs : P.underlying src = some (.slice e)) (he : P.underlying e = some (.int .u8)) (hd : P.underlying dst = some .string) (w : World) (x : Int) (h0 : 0 ≤ x) (h1 : x < 256) :
    (convert src dst (.slice (some ⟨w.heap.size, 0, none⟩) 1 1)).run P (w.alloc (.cells #[.int .u8 x] e)) = .ok (.string ⟨#[UInt8.ofNat x.toNat]⟩) (w.alloc (.cells #[.int .u8 x] e)) := by
  have hx : ((UInt8.ofNat x.toNat).toNat : Int) = x := by simp only [UInt8.toNat_ofNat']; omega
  refine conv_string (P := P) (w.alloc (.cells #[.int .u8 x] e)) src dst e w.heap.size (.slice (some ⟨w.heap.size, 0, none⟩) 1 1) [UInt8.ofNat x.toNat] hs he hd ?_
  refine ⟨rfl, .inr ⟨w.heap.size, 1, _, (0, 0), rfl, Nat.le_refl _, _root_.Go.heap_alloc_new w _, by simp, by simp, by simp [maxLen], rfl, ?_⟩⟩
  simp [Lib.byteCells]
  omega

/-- the last digit of a number -/
def dchar (m : Nat) : UInt8 := UInt8.ofNat (48 + m % 10)

/-- the digits ahead of what is written -/
def pre (m : Nat) : List UInt8 := if m = 0 then [] else Lib.decDigits m

theorem pre_step (m : Nat) (h : 0 < m) : pre m = pre (m / 10) ++ [dchar m] := by
  unfold pre
  rw [if_neg (by omega), Lib.decDigits]
  by_cases h10 : m < 10
  · rw [dif_pos h10, if_pos (by omega)]
    have : m % 10 = m := by omega
    simp [dchar, this]
  · rw [dif_neg h10, if_neg (by omega)]; rfl

theorem dec_pre (m : Nat) : Lib.decDigits m = pre (m / 10) ++ [dchar m] := by
  by_cases h : m = 0
  · subst h; rw [Lib.decDigits]; simp [pre, dchar]
  · have := pre_step m (by omega)
    rw [← this]; simp [pre, h]

theorem dec_len : ∀ (n m : Nat), m < 10 ^ (n + 1) → (Lib.decDigits m).length ≤ n + 1
  | 0, m, h => by rw [Lib.decDigits, dif_pos (by simpa using h)]; simp
  | n + 1, m, h => by
    rw [Lib.decDigits]
    split
    · simp
    · have h2 : m / 10 < 10 ^ (n + 1) := by
        rw [Nat.div_lt_iff_lt_mul (by omega), ← Nat.pow_succ]; exact h
      have := dec_len n (m / 10) h2
      simp; omega

theorem ba_cat (a b : List UInt8) : ((⟨a.toArray⟩ : ByteArray) ++ (⟨b.toArray⟩ : ByteArray)) = ⟨(a ++ b).toArray⟩ := by
  apply ByteArray.ext
  simp

theorem ret_str {a b : List UInt8} (h : a = b) : Ending.returned (.string ⟨a.toArray⟩) = .returned (.string ⟨b.toArray⟩) := by rw [h]

set_option maxHeartbeats 1000000 in
theorem digits_any (m : Nat) (hm : m < 18446744073709551616) (w : World) :
    Calls Tryd.prog 19 #[.int .u64 (m : Int)] w fun e w' => e = .returned (.string ⟨(Lib.decDigits m).toArray⟩) ∧ Below w.heap.size w w' := by
  have hcv : ∀ (u : World) (k : Nat), (convert 44 9 (.slice (some ⟨u.heap.size, 0, none⟩) 1 1)).run Tryd.prog (u.alloc (.cells #[.int .u8 (48 + (k : Int) % 10)] 5)) = .ok (.string ⟨([dchar k] : List UInt8).toArray⟩) (u.alloc (.cells #[.int .u8 (48 + (k : Int) % 10)] 5)) := fun u k => by
    have h := conv_one (P := Tryd.prog) 44 9 5 Tryd.underlying44 Tryd.underlying5 Tryd.underlying9 u (48 + (k : Int) % 10) (by omega) (by omega)
    have e : (48 + (k : Int) % 10).toNat = 48 + k % 10 := by omega
    rw [e] at h
    exact h
  have HM : Hid (Lib.decDigits m = pre (m / 10) ++ [dchar m]) := dec_pre m
  go_enter Tryd.func19, Tryd.ntmps19
  go_wp2
  go_loopw [0, 3] (fun n s wr => ∃ (k : Nat) (acc : List UInt8), k < 18446744073709551616 ∧ n = .int .u64 k ∧ s = .string ⟨acc.toArray⟩ ∧ Below w.heap.size w wr ∧ pre k ++ acc = Lib.decDigits m) (fun n _ _ => (intOf n).toNat)
  case atStart => exact ⟨m / 10, [dchar m], by omega, by go_num, rfl, (Below.refl _ w).alloc (Nat.le_refl _) _, HM.out.symm⟩
  case round =>
    obtain ⟨k, acc, hk, rfl, rfl, hbr, hacc⟩ := hrel
    have HA : Hid (pre k ++ acc = Lib.decDigits m) := hacc
    have hal : acc.length ≤ 20 := by
      have h1 := dec_len 19 m (by omega)
      rw [← hacc, List.length_append] at h1
      omega
    clear hacc
    by_cases h0 : 0 < k
    · have HP : Hid (pre k = pre (k / 10) ++ [dchar k]) := pre_step k h0
      go_wp2
      refine ⟨⟨k / 10, [dchar k] ++ acc, by omega, by go_num, ?_, hbr.alloc hbr.size _, by rw [← HA.out, HP.out]; simp⟩, by simp [intOf]; omega⟩
      exact congrArg Value.string (ba_cat [dchar k] acc)
    · have e : k = 0 := by omega
      subst e
      go_wp2
      go_ret
      exact ⟨ret_str (by have := HA.out; simpa [pre] using this), hbr⟩

theorem wrap_neg (n : Int) (h : n < 0) (h0 : -9223372036854775808 ≤ n) : IntKind.u64.wrap (-IntKind.u64.wrap n) = (n.natAbs : Int) := by
  simp [IntKind.wrap, IntKind.bits, IntKind.signed]
  omega

set_option maxHeartbeats 1000000 in
theorem refText_any (n : Int) (h0 : -9223372036854775808 ≤ n) (h1 : n ≤ 9223372036854775807) (w : World) :
    Calls Tryd.prog 10 #[.int .i64 n] w fun e w' => e = .returned (.string ⟨(Lib.itoa n).toArray⟩) ∧ Below w.heap.size w w' := by
  by_cases hn : n < 0
  · have HI : Hid (Lib.itoa n = [45] ++ Lib.decDigits n.natAbs) := by show Lib.itoa n = _; simp [Lib.itoa, hn]
    have hal : (Lib.decDigits n.natAbs).length ≤ 20 := dec_len 19 n.natAbs (by omega)
    go_enter Tryd.func10, Tryd.ntmps10
    go_wp2_with fail
    rw [wrap_neg n hn h0]
    refine (digits_any n.natAbs (by omega) _).mono ?_
    rintro e w1 ⟨rfl, hb1⟩
    go_wp2
    go_ret
    exact ⟨by rw [HI.out]; exact congrArg (fun s => Ending.returned (Value.string s)) (ba_cat [45] _), hb1⟩
  · obtain ⟨m, rfl⟩ := Int.eq_ofNat_of_zero_le (Int.not_lt.1 hn)
    have HI : Hid (Lib.itoa (m : Int) = Lib.decDigits m) := by show Lib.itoa (m : Int) = _; simp [Lib.itoa]
    go_enter Tryd.func10, Tryd.ntmps10
    go_wp2_with fail
    refine (digits_any m (by omega) _).mono ?_
    rintro e w1 ⟨rfl, hb1⟩
    go_wp2
    go_ret
    exact ⟨by rw [HI.out]; rfl, hb1⟩

theorem below_growN (w : World) (k : Nat) (os : Array Obj) : Below w.heap.size w (Sort.grow (w.drewN k) os) := Lib.below_grow w.heap.size w (Nat.le_refl _) k os

set_option maxHeartbeats 1000000 in
theorem Text_any (n : Int) (h0 : -9223372036854775808 ≤ n) (h1 : n ≤ 9223372036854775807) (w : World) (htab : Lib.TabIs Tryd.prog w "internal/strconv.uint64pow10" .u64 Lib.pow10Tab) :
    Calls Tryd.prog 9 #[.int .i64 n] w fun e w' => e = .returned (.string ⟨(Lib.itoa n).toArray⟩) ∧ Below w.heap.size w w' := by
  have HT : Hid (Lib.TabIs Tryd.prog w "internal/strconv.uint64pow10" .u64 Lib.pow10Tab) := htab
  clear htab
  go_enter Tryd.func9, Tryd.ntmps9
  go_wp2_with fail
  refine (Tryd.strconv_Itoa n h0 h1 _ HT.out).mono ?_
  rintro e w1 ⟨rfl, k, os, rfl⟩
  go_wp2
  go_ret
  exact ⟨rfl, below_growN w k os⟩
end Go.Proofs.YtoelblofdgimfaaDoor
