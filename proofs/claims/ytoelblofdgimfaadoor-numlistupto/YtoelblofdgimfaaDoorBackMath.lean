/-
  Plain facts: what was quoted is read again; what was written as a number is read again.
-/
import Derived.Test.YtoelblofdgimfaaDoorMath
import Derived.Test.YtoelblofdgimfaaDoorPMath
import Derived.Lib.ItoaNum
namespace Go.Proofs.YtoelblofdgimfaaDoor
open Q Pn

theorem ofNat_pair (c : UInt8) : UInt8.ofNat (pairI (hexc (c.toNat / 16)) (hexc (c.toNat % 16))).toNat = c := by
  have hc := c.toNat_lt
  have e : pairI (hexc (c.toNat / 16)) (hexc (c.toNat % 16)) = (c.toNat : Int) := by
    unfold pairI
    rw [digit_hexc _ (by omega), digit_hexc _ (by omega)]
    omega
  rw [e]
  simp

theorem pair_hexc {c : UInt8} (h : plainI c.toNat = false) : pairOk (hexc (c.toNat / 16)) (hexc (c.toNat % 16)) = true := by
  have hc := c.toNat_lt
  have e : pairI (hexc (c.toNat / 16)) (hexc (c.toNat % 16)) = (c.toNat : Int) := by
    unfold pairI
    rw [digit_hexc _ (by omega), digit_hexc _ (by omega)]
    omega
  unfold pairOk
  rw [e, h, digit_hexc _ (by omega), digit_hexc _ (by omega)]
  simp
  omega

/-- what was quoted is read again, whatever is behind it -/
theorem body_back (r : List UInt8) : ∀ l : List UInt8, body (qbody l ++ 34 :: r) = some (l, r)
  | [] => by simp only [qbody, List.flatMap_nil, List.nil_append]; exact body_end r rfl
  | c :: t => by
    have ih := body_back r t
    have e : qbody (c :: t) = q1 c ++ qbody t := by simp [qbody]
    rw [e]
    cases h : plainI c.toNat
    · have e2 : q1 c = [92, hexc (c.toNat / 16), hexc (c.toNat % 16)] := by simp [q1, h]
      rw [e2]
      show body (92 :: hexc (c.toNat / 16) :: hexc (c.toNat % 16) :: (qbody t ++ 34 :: r)) = _
      rw [body_pair _ rfl (pair_hexc h), ih, ofNat_pair]
      rfl
    · have e2 : q1 c = [c] := by simp [q1, h]
      rw [e2]
      show body (c :: (qbody t ++ 34 :: r)) = _
      rw [body_plain _ h, ih]
      rfl

theorem unquote_back (l r : List UInt8) : unquote (quote l ++ r) = some (l, r) := by
  have e : quote l ++ r = 34 :: (qbody l ++ 34 :: r) := by simp [quote]
  rw [e, unquote, if_pos (by decide)]
  exact body_back r l

theorem hexc_plain (k : Nat) (h : k < 16) : 32 ≤ (hexc k).toNat ∧ (hexc k).toNat ≤ 126 := by
  rw [hexc_val k h]; split <;> omega

/-- a quoted text holds printable bytes alone -/
theorem quote_print (l : List UInt8) : ∀ c ∈ quote l, 32 ≤ c.toNat ∧ c.toNat ≤ 126 := by
  intro c hc
  simp only [quote, List.mem_append, List.mem_cons, List.not_mem_nil, or_false] at hc
  rcases hc with (rfl | hc) | rfl
  · decide
  · simp only [qbody, List.mem_flatMap] at hc
    obtain ⟨x, _, hx⟩ := hc
    have hxl := x.toNat_lt
    unfold q1 at hx
    split at hx
    · rename_i hp
      have := plainI_out hp
      simp at hx
      subst hx
      omega
    · simp at hx
      rcases hx with rfl | rfl | rfl
      · decide
      · exact hexc_plain _ (by omega)
      · exact hexc_plain _ (by omega)
  · decide

theorem dec_all (m : Nat) : (Lib.decDigits m).all digB = true := by
  induction m using Nat.strongRecOn with
  | _ m ih =>
    rw [Lib.decDigits]
    split
    · simp [digB]; omega
    · rw [List.all_append, ih (m / 10) (by omega)]
      simp [digB]; omega

theorem dec_ne (m : Nat) : Lib.decDigits m ≠ [] := by
  rw [Lib.decDigits]; split <;> simp

theorem dec_head (m : Nat) (h : 0 < m) : ∃ c t, Lib.decDigits m = c :: t ∧ c.toNat ≠ 48 := by
  induction m using Nat.strongRecOn with
  | _ m ih =>
    rw [Lib.decDigits]
    split
    · refine ⟨_, [], rfl, ?_⟩
      simp; omega
    · obtain ⟨c, t, e, hc⟩ := ih (m / 10) (by omega) (by omega)
      exact ⟨c, t ++ [UInt8.ofNat (48 + m % 10)], by rw [e]; rfl, hc⟩

theorem dec_isNum (m : Nat) : isNum (Lib.decDigits m) = true := by
  by_cases h : m = 0
  · subst h
    rw [Lib.decDigits]; decide
  · obtain ⟨c, t, e, hc⟩ := dec_head m (by omega)
    have ha := dec_all m
    rw [e] at ha ⊢
    rw [isNum, ha]
    simp [hc]

theorem sat_append : ∀ (a b : List UInt8) (n : Int), sat n (a ++ b) = sat (sat n a) b
  | [], _, _ => rfl
  | c :: t, b, n => by rw [List.cons_append, sat, sat_append t b, sat]

theorem dec_sat (m : Nat) : sat 0 (Lib.decDigits m) = min (m : Int) 2147483648 := by
  induction m using Nat.strongRecOn with
  | _ m ih =>
    rw [Lib.decDigits]
    split
    · rename_i h
      have e : ((UInt8.ofNat (48 + m)).toNat : Int) = 48 + m := by simp only [UInt8.toNat_ofNat']; omega
      rw [sat, sat, e]; omega
    · rename_i h
      have e : ((UInt8.ofNat (48 + m % 10)).toNat : Int) = 48 + (m % 10 : Nat) := by simp only [UInt8.toNat_ofNat']; omega
      rw [sat_append, ih (m / 10) (by omega), sat, sat, e]
      omega

theorem itoa_nat (m : Nat) : Lib.itoa (m : Int) = Lib.decDigits m := by simp [Lib.itoa]

theorem parse_itoa_neg {n : Int} (h : n < 0) : parseE (Lib.itoa n) = 3 := by
  have e : isNum (Lib.itoa n) = false := by
    unfold Lib.itoa
    rw [if_pos h]
    simp [isNum, digB]
  exact (parse_no e).2.symm
theorem parse_itoa_ok {n : Int} (h : 0 ≤ n) (h2 : n ≤ 2147483647) : parseV (Lib.itoa n) = n ∧ parseE (Lib.itoa n) = 0 := by
  obtain ⟨m, rfl⟩ := Int.eq_ofNat_of_zero_le h
  rw [itoa_nat]
  have := parse_ok (dec_isNum m) (dec_sat m) (by omega)
  exact ⟨by rw [← this.1]; omega, this.2.symm⟩
theorem parse_itoa_far {n : Int} (h2 : 2147483647 < n) : parseE (Lib.itoa n) = 2 := by
  obtain ⟨m, rfl⟩ := Int.eq_ofNat_of_zero_le (show 0 ≤ n by omega)
  rw [itoa_nat]
  exact (parse_far (dec_isNum m) (by rw [dec_sat]; omega)).2.symm

end Go.Proofs.YtoelblofdgimfaaDoor
