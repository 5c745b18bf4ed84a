/-
  Texts that belong together, joined: EdRChk.
-/
import Derived.Test.YtoacmaloiaeniaaPartA1

/- Which lists of changes are edit scripts: the reference's Check, walked. -/
namespace Go.Proofs.Ytoacmaloiaeniaa
open Go.RowKit

theorem count_any (z : Int) (w : World) : Calls Try.prog 30 #[.int .i64 z] w fun e w' => e = .returned (.bool (nat31 z)) ∧ w' = w := by
  by_cases h0 : 0 ≤ z
  · by_cases h1 : z ≤ 2147483647
    · go_enter Try.func30, Try.ntmps30
      go_wp2
      go_ret
      simp [nat31, h0, h1]
    · go_enter Try.func30, Try.ntmps30
      go_wp2
      go_ret
      simp [nat31, h0, h1]
  · go_enter Try.func30, Try.ntmps30
    go_wp2
    go_ret
    have : ¬ 0 ≤ z := by omega
    simp [nat31, this]


set_option maxRecDepth 10000 in
set_option maxHeartbeats 4000000 in
theorem rCheck_f (l : List Ch) (n m r : Int) (v : Value) (w : World) (hl : HCh w v l) (hlen : l.length ≤ 1099511627776) (hn : n ≤ 9223372036854775807) (hm : m ≤ 9223372036854775807) (hr : Hid (chk l n m = r)) :
    Calls Try.prog 11 #[v, .int .i64 n, .int .i64 m] w fun e w' => e = .returned (.int .i64 r) ∧ Below w.heap.size w w' := by
  obtain ⟨ao, ca, rfl⟩ := Holds.form hl
  by_cases hn0 : n < 0
  · go_enter Try.func11, Try.ntmps11
    go_wp2
    go_ret
    refine ⟨ret_int ?_, Below.refl _ w⟩
    rw [← hr.out, chk_no (fun h => by have := h.1; omega)]
  by_cases hm0 : m < 0
  · go_enter Try.func11, Try.ntmps11
    go_wp2
    go_ret
    refine ⟨ret_int ?_, Below.refl _ w⟩
    rw [← hr.out, chk_no (fun h => by have := h.2.1; omega)]
  go_enter Try.func11, Try.ntmps11
  go_wp2
  go_loopw [7, 8, 9] (fun av bv iv wr => ∃ (k : Nat) (a b : Int), k ≤ l.length ∧ av = .int .i64 a ∧ bv = .int .i64 b ∧ iv = .int .i64 k ∧ 0 ≤ a ∧ a ≤ 4294967294 ∧ 0 ≤ b ∧ b ≤ 4294967294 ∧ Below w.heap.size w wr ∧ Hid (Script l n m ↔ Right (decide (k = 0)) a b n m (l.drop k))) (fun _ _ iv _ => l.length - (intOf iv).toNat)
  case atStart => exact ⟨0, 0, 0, Nat.zero_le _, rfl, rfl, rfl, by omega, by omega, by omega, by omega, Below.refl _ w, (by show _ ↔ _; simp only [Script, List.drop_zero, decide_true]; constructor; exact fun h => h.2.2; exact fun h => ⟨by omega, by omega, h⟩)⟩
  case round =>
    obtain ⟨k, a, b, hk, rfl, rfl, rfl, ha, han, hb, hbm, hB, hR⟩ := hrel
    by_cases hlt : k < l.length
    · obtain ⟨bk, off, rfl, hbk, hc⟩ := HCh.at (HCh.keep hl hB (Nat.le_refl _)) (by omega)
      obtain ⟨c0, c1, c2, c3⟩ := hc k hlt
      have hR' := hR.out
      rw [List.drop_eq_getElem_cons hlt] at hR'
      obtain ⟨c, hcd⟩ : ∃ c, l[k] = c := ⟨_, rfl⟩
      rw [hcd] at hR' c0 c1 c2 c3
      clear hc hcd hR
      have HR : Hid (Script l n m ↔ Right (decide (k = 0)) a b n m (c :: l.drop (k + 1))) := hR'
      clear hR'
      have i1 : 0 ≤ (k : Int) := by omega
      have i2 : (k : Int) < (l.length : Int) := by omega
      obtain ⟨A, AN, B, BN⟩ := c
      dsimp only at c0 c1 c2 c3
      have hsz := hB.size
      have hB2 : Below w.heap.size w (wr.alloc (Obj.cells #[Value.int IntKind.i64 A, Value.int IntKind.i64 AN, Value.int IntKind.i64 B, Value.int IntKind.i64 BN] 51)) := hB.alloc hsz _
      by_cases nA : nat31 A = true
      · by_cases nAN : nat31 AN = true
        · by_cases nB : nat31 B = true
          · by_cases nBN : nat31 BN = true
            · have pA : 0 ≤ A ∧ A ≤ 2147483647 := by simpa [nat31] using nA
              have pAN : 0 ≤ AN ∧ AN ≤ 2147483647 := by simpa [nat31] using nAN
              have pB : 0 ≤ B ∧ B ≤ 2147483647 := by simpa [nat31] using nB
              have pBN : 0 ≤ BN ∧ BN ≤ 2147483647 := by simpa [nat31] using nBN
              obtain ⟨pA0, pA1⟩ := pA
              obtain ⟨pAN0, pAN1⟩ := pAN
              obtain ⟨pB0, pB1⟩ := pB
              obtain ⟨pBN0, pBN1⟩ := pBN
              by_cases h0 : AN + BN = 0
              · go_wp2_with (go_at_call 30; refine (count_any _ _).mono ?_; rintro e w' ⟨rfl, rfl⟩)
                go_ret
                refine ⟨ret_int ?_, hB2⟩
                rw [← hr.out, chk_no]
                exact fun h => by obtain ⟨⟨q1, q2, q3, q4⟩, q5⟩ := HR.out.1 h; rw [numB_iff] at q1; dsimp only at q1; omega
              have HQ : Hid (numB ⟨A, AN, B, BN⟩ = true) := (by show _ = _; rw [numB_iff]; dsimp only; omega)
              by_cases h1 : A - a = B - b
              · by_cases h4 : A < a
                · go_wp2_with (go_at_call 30; refine (count_any _ _).mono ?_; rintro e w' ⟨rfl, rfl⟩)
                  go_ret
                  refine ⟨ret_int ?_, hB2⟩
                  rw [← hr.out, chk_no]
                  exact fun h => by obtain ⟨⟨q1, q2, q3, q4⟩, q5⟩ := HR.out.1 h; dsimp only at q3; omega
                by_cases h6 : 0 < (k : Int)
                · by_cases h5 : A = a
                  · subst h5
                    go_wp2_with (go_at_call 30; refine (count_any _ _).mono ?_; rintro e w' ⟨rfl, rfl⟩)
                    go_ret
                    refine ⟨ret_int ?_, hB2⟩
                    rw [← hr.out, chk_no]
                    exact fun h => by obtain ⟨⟨q1, q2, q3, q4⟩, q5⟩ := HR.out.1 h; rcases q4 with q4 | q4; (have := of_decide_eq_true q4; omega); (dsimp only at q4; omega)
                  · have h5a : a < A := by omega
                    have h5b : decide (A = a) = false := decide_eq_false h5
                    have h5c : (A == a) = false := by simpa using h5
                    go_wp2_with (go_at_call 30; refine (count_any _ _).mono ?_; rintro e w' ⟨rfl, rfl⟩)
                    go_roundw
                    case rel => exact ⟨k + 1, A + AN, B + BN, by omega, by go_num, by go_num, by go_num, by omega, by omega, by omega, by omega, hB2, (by
                      show _ ↔ _
                      refine HR.out.trans ?_
                      have : decide (k + 1 = 0) = false := by simp
                      rw [this]
                      exact ⟨fun h => h.2, fun h => ⟨⟨HQ.out, h1, by dsimp only; omega, .inr (by dsimp only; omega)⟩, h⟩⟩)⟩
                    case measure => simp [intOf]; omega
                · go_wp2_with (go_at_call 30; refine (count_any _ _).mono ?_; rintro e w' ⟨rfl, rfl⟩)
                  go_roundw
                  case rel => exact ⟨k + 1, A + AN, B + BN, by omega, by go_num, by go_num, by go_num, by omega, by omega, by omega, by omega, hB2, (by
                    show _ ↔ _
                    refine HR.out.trans ?_
                    have : decide (k + 1 = 0) = false := by simp
                    rw [this]
                    exact ⟨fun h => h.2, fun h => ⟨⟨HQ.out, h1, by dsimp only; omega, .inl (decide_eq_true (by omega))⟩, h⟩⟩)⟩
                  case measure => simp [intOf]; omega
              · go_wp2_with (go_at_call 30; refine (count_any _ _).mono ?_; rintro e w' ⟨rfl, rfl⟩)
                go_ret
                refine ⟨ret_int ?_, hB2⟩
                rw [← hr.out, chk_no]
                exact fun h => by obtain ⟨⟨q1, q2, q3, q4⟩, q5⟩ := HR.out.1 h; dsimp only at q2; omega
            · rw [Bool.not_eq_true] at nBN
              go_wp2_with (go_at_call 30; refine (count_any _ _).mono ?_; rintro e w' ⟨rfl, rfl⟩)
              go_ret
              refine ⟨ret_int ?_, hB2⟩
              rw [← hr.out, chk_no]
              exact fun h => by obtain ⟨⟨q1, q2, q3, q4⟩, q5⟩ := HR.out.1 h; rw [numB_iff] at q1; dsimp only at q1; simp [nat31] at nBN; omega
          · rw [Bool.not_eq_true] at nB
            go_wp2_with (go_at_call 30; refine (count_any _ _).mono ?_; rintro e w' ⟨rfl, rfl⟩)
            go_ret
            refine ⟨ret_int ?_, hB2⟩
            rw [← hr.out, chk_no]
            exact fun h => by obtain ⟨⟨q1, q2, q3, q4⟩, q5⟩ := HR.out.1 h; rw [numB_iff] at q1; dsimp only at q1; simp [nat31] at nB; omega
        · rw [Bool.not_eq_true] at nAN
          go_wp2_with (go_at_call 30; refine (count_any _ _).mono ?_; rintro e w' ⟨rfl, rfl⟩)
          go_ret
          refine ⟨ret_int ?_, hB2⟩
          rw [← hr.out, chk_no]
          exact fun h => by obtain ⟨⟨q1, q2, q3, q4⟩, q5⟩ := HR.out.1 h; rw [numB_iff] at q1; dsimp only at q1; simp [nat31] at nAN; omega
      · rw [Bool.not_eq_true] at nA
        go_wp2_with (go_at_call 30; refine (count_any _ _).mono ?_; rintro e w' ⟨rfl, rfl⟩)
        go_ret
        refine ⟨ret_int ?_, hB2⟩
        rw [← hr.out, chk_no]
        exact fun h => by obtain ⟨⟨q1, q2, q3, q4⟩, q5⟩ := HR.out.1 h; rw [numB_iff] at q1; dsimp only at q1; simp [nat31] at nA; omega
    · have hE := hR.out
      rw [List.drop_of_length_le (by omega)] at hE
      have HE : Hid (Script l n m ↔ a ≤ n ∧ b ≤ m ∧ n - a = m - b) := hE
      clear hE hR
      by_cases e1 : n < a
      · go_wp2
        go_ret
        refine ⟨ret_int ?_, hB⟩
        rw [← hr.out, chk_no]
        exact fun h => by have := HE.out.1 h; omega
      by_cases e2 : m < b
      · go_wp2
        go_ret
        refine ⟨ret_int ?_, hB⟩
        rw [← hr.out, chk_no]
        exact fun h => by have := HE.out.1 h; omega
      by_cases he : n - a = m - b
      · go_wp2
        go_ret
        refine ⟨ret_int ?_, hB⟩
        rw [← hr.out, chk_ok]
        exact HE.out.2 ⟨by omega, by omega, he⟩
      · go_wp2
        go_ret
        refine ⟨ret_int ?_, hB⟩
        rw [← hr.out, chk_no]
        exact fun h => he (HE.out.1 h).2.2
end Go.Proofs.Ytoacmaloiaeniaa
