/-
  Which lists of changes are edit scripts: the code's Check, walked.
-/
import Derived.Test.YtppdcjjkkckokaaEdMath
namespace Go.Proofs.Ytppdcjjkkckokaa
open Go.RowKit

theorem ret_bool {a b : Bool} (h : a = b) : Ending.returned (.bool a) = .returned (.bool b) := by rw [h]
theorem ret_int {k : IntKind} {a b : Int} (h : a = b) : Ending.returned (.int k a) = .returned (.int k b) := by rw [h]
set_option maxHeartbeats 1000000 in
theorem numbered_any (c : Ch) (w : World) : Calls Try.prog 53 #[chV c] w fun e w' => e = .returned (.bool (numB c)) ∧ Below w.heap.size w w' := by
  obtain ⟨A, AN, B, BN⟩ := c
  unfold chV
  dsimp only
  have hB : Below w.heap.size w (w.alloc (.cells #[.int .i64 A, .int .i64 AN, .int .i64 B, .int .i64 BN] 59)) := (Below.refl _ w).alloc (Nat.le_refl _) _
  obtain ⟨b, hb⟩ : ∃ b, numB ⟨A, AN, B, BN⟩ = b := ⟨_, rfl⟩
  rw [hb]
  have Hb : Hid (numB ⟨A, AN, B, BN⟩ = b) := hb
  clear hb
  have i0 : ∀ w, (Instr.index 100 (.agg #[.int .i64 A, .int .i64 AN, .int .i64 B, .int .i64 BN]) (.int .i64 0)).run Try.prog w = .ok (.int .i64 A) w := fun _ => by kernel_rfl
  have i1 : ∀ w, (Instr.index 100 (.agg #[.int .i64 A, .int .i64 AN, .int .i64 B, .int .i64 BN]) (.int .i64 1)).run Try.prog w = .ok (.int .i64 AN) w := fun _ => by kernel_rfl
  have i2 : ∀ w, (Instr.index 100 (.agg #[.int .i64 A, .int .i64 AN, .int .i64 B, .int .i64 BN]) (.int .i64 2)).run Try.prog w = .ok (.int .i64 B) w := fun _ => by kernel_rfl
  have i3 : ∀ w, (Instr.index 100 (.agg #[.int .i64 A, .int .i64 AN, .int .i64 B, .int .i64 BN]) (.int .i64 3)).run Try.prog w = .ok (.int .i64 BN) w := fun _ => by kernel_rfl
  go_enter Try.func53, Try.ntmps53
  go_wp2
  go_loopw [14] (fun i wr => ∃ k : Nat, k ≤ 4 ∧ i = .int .i64 k ∧ wr = w.alloc (.cells #[.int .i64 A, .int .i64 AN, .int .i64 B, .int .i64 BN] 59) ∧ Hid ((0 < k → (0 ≤ A ∧ A ≤ 2147483647)) ∧ (1 < k → (0 ≤ AN ∧ AN ≤ 2147483647)) ∧ (2 < k → (0 ≤ B ∧ B ≤ 2147483647)) ∧ (3 < k → (0 ≤ BN ∧ BN ≤ 2147483647)))) (fun i _ => 4 - (intOf i).toNat)
  case atStart => exact ⟨0, Nat.zero_le _, rfl, rfl, (⟨fun h => absurd h (by omega), fun h => absurd h (by omega), fun h => absurd h (by omega), fun h => absurd h (by omega)⟩)⟩
  case round =>
    obtain ⟨k, hk, rfl, rfl, hok⟩ := hrel
    rcases (by omega : k = 0 ∨ k = 1 ∨ k = 2 ∨ k = 3 ∨ k = 4) with rfl | rfl | rfl | rfl | rfl
    · by_cases h0 : A < 0
      · go_wp2
        go_ret
        refine ⟨ret_bool ?_, hB⟩
        rw [← Hb.out]
        simp [numB, nat31]
        omega
      · by_cases h1 : 2147483647 < A
        · go_wp2
          go_ret
          refine ⟨ret_bool ?_, hB⟩
          rw [← Hb.out]
          simp [numB, nat31]
          omega
        · go_wp2
          go_roundw
          case rel => exact ⟨1, by omega, by go_num, trivial, (by have := hok.out; show _ ∧ _ ∧ _ ∧ _; refine ⟨?_, ?_, ?_, ?_⟩ <;> intro _ <;> omega)⟩
          case measure => simp [intOf]
    · by_cases h0 : AN < 0
      · go_wp2
        go_ret
        refine ⟨ret_bool ?_, hB⟩
        rw [← Hb.out]
        simp [numB, nat31]
        omega
      · by_cases h1 : 2147483647 < AN
        · go_wp2
          go_ret
          refine ⟨ret_bool ?_, hB⟩
          rw [← Hb.out]
          simp [numB, nat31]
          omega
        · go_wp2
          go_roundw
          case rel => exact ⟨2, by omega, by go_num, trivial, (by have := hok.out; show _ ∧ _ ∧ _ ∧ _; refine ⟨?_, ?_, ?_, ?_⟩ <;> intro _ <;> omega)⟩
          case measure => simp [intOf]
    · by_cases h0 : B < 0
      · go_wp2
        go_ret
        refine ⟨ret_bool ?_, hB⟩
        rw [← Hb.out]
        simp [numB, nat31]
        omega
      · by_cases h1 : 2147483647 < B
        · go_wp2
          go_ret
          refine ⟨ret_bool ?_, hB⟩
          rw [← Hb.out]
          simp [numB, nat31]
          omega
        · go_wp2
          go_roundw
          case rel => exact ⟨3, by omega, by go_num, trivial, (by have := hok.out; show _ ∧ _ ∧ _ ∧ _; refine ⟨?_, ?_, ?_, ?_⟩ <;> intro _ <;> omega)⟩
          case measure => simp [intOf]
    · by_cases h0 : BN < 0
      · go_wp2
        go_ret
        refine ⟨ret_bool ?_, hB⟩
        rw [← Hb.out]
        simp [numB, nat31]
        omega
      · by_cases h1 : 2147483647 < BN
        · go_wp2
          go_ret
          refine ⟨ret_bool ?_, hB⟩
          rw [← Hb.out]
          simp [numB, nat31]
          omega
        · go_wp2
          go_roundw
          case rel => exact ⟨4, by omega, by go_num, trivial, (by have := hok.out; show _ ∧ _ ∧ _ ∧ _; refine ⟨?_, ?_, ?_, ?_⟩ <;> intro _ <;> omega)⟩
          case measure => simp [intOf]
    · have hok' := hok.out
      by_cases h0 : 0 < AN
      · go_wp2
        go_ret
        refine ⟨ret_bool ?_, hB⟩
        rw [← Hb.out]
        simp [numB, nat31]
        omega
      · by_cases h1 : 0 < BN
        · go_wp2
          go_ret
          refine ⟨ret_bool ?_, hB⟩
          rw [← Hb.out]
          simp [numB, nat31]
          omega
        · go_wp2
          go_ret
          refine ⟨ret_bool ?_, hB⟩
          rw [← Hb.out]
          simp [numB, nat31]
          omega

set_option maxRecDepth 10000 in
set_option maxHeartbeats 2000000 in
theorem Check_f (l : List Ch) (n m r : Int) (v : Value) (w : World) (hl : HCh w v l) (hlen : l.length ≤ 1099511627776) (hn : n ≤ 9223372036854775807) (hm : m ≤ 9223372036854775807) (hr : Hid (chk l n m = r)) :
    Calls Try.prog 30 #[v, .int .i64 n, .int .i64 m] w fun e w' => e = .returned (.int .i64 r) ∧ Below w.heap.size w w' := by
  obtain ⟨ao, ca, rfl⟩ := Holds.form hl
  by_cases hn0 : n < 0
  · go_enter Try.func30, Try.ntmps30
    go_wp2
    go_ret
    refine ⟨ret_int ?_, Below.refl _ w⟩
    rw [← hr.out, chk_no (fun h => by have := h.1; omega)]
  by_cases hm0 : m < 0
  · go_enter Try.func30, Try.ntmps30
    go_wp2
    go_ret
    refine ⟨ret_int ?_, Below.refl _ w⟩
    rw [← hr.out, chk_no (fun h => by have := h.2.1; omega)]
  go_enter Try.func30, Try.ntmps30
  go_wp2
  go_loopw [7, 8, 19] (fun av bv iv wr => ∃ (k : Nat) (a b : Int), k ≤ l.length ∧ av = .int .i64 a ∧ bv = .int .i64 b ∧ iv = .int .i64 k ∧ 0 ≤ a ∧ a ≤ n ∧ 0 ≤ b ∧ b ≤ m ∧ Below w.heap.size w wr ∧ Hid (Script l n m ↔ Right (decide (k = 0)) a b n m (l.drop k))) (fun _ _ iv _ => l.length - (intOf iv).toNat)
  case atStart => exact ⟨0, 0, 0, Nat.zero_le _, rfl, rfl, rfl, by omega, by omega, by omega, by omega, Below.refl _ w, (by show _ ↔ _; simp only [Script, List.drop_zero, decide_true]; constructor; exact fun h => h.2.2; exact fun h => ⟨by omega, by omega, h⟩)⟩
  case round =>
    obtain ⟨k, a, b, hk, rfl, rfl, rfl, ha, han, hb, hbm, hB, hR⟩ := hrel
    by_cases hlt : k < l.length
    · obtain ⟨bk, off, rfl, hbk, hc⟩ := HCh.at (HCh.keep hl hB (Nat.le_refl _)) (by omega)
      obtain ⟨c0, c1, c2, c3⟩ := hc k hlt
      have hR' := hR.out
      rw [List.drop_eq_getElem_cons hlt] at hR'
      obtain ⟨c, hcd⟩ : ∃ c, l[k] = c := ⟨_, rfl⟩
      rw [hcd] at hR' c0 c1 c2 c3
      clear hc hcd hR
      have HR : Hid (Script l n m ↔ Right (decide (k = 0)) a b n m (c :: l.drop (k + 1))) := hR'
      clear hR'
      have i1 : 0 ≤ (k : Int) := by omega
      have i2 : (k : Int) < (l.length : Int) := by omega
      obtain ⟨A, AN, B, BN⟩ := c
      dsimp only at c0 c1 c2 c3
      have hsz := hB.size
      go_wp2_with fail
      have hB1 : Below w.heap.size w (wr.alloc (Obj.cells #[Value.int IntKind.i64 A, Value.int IntKind.i64 AN, Value.int IntKind.i64 B, Value.int IntKind.i64 BN] 59)) := hB.alloc hsz _
      refine (numbered_any ⟨A, AN, B, BN⟩ _).mono ?_
      rintro e w1 ⟨rfl, hb1⟩
      have hB2 : Below w.heap.size w w1 := hB1.trans (hb1.mono (by simp; omega))
      have hbox := hb1.block wr.heap.size (by simp)
      rw [_root_.Go.heap_alloc_new] at hbox
      have d0 : w1.cell? ⟨wr.heap.size, 0, none⟩ = some (.int .i64 A) := by rw [Lib.cell_of_heap hbox]; rfl
      have d1 : w1.cell? ⟨wr.heap.size, 1, none⟩ = some (.int .i64 AN) := by rw [Lib.cell_of_heap hbox]; rfl
      have d2 : w1.cell? ⟨wr.heap.size, 2, none⟩ = some (.int .i64 B) := by rw [Lib.cell_of_heap hbox]; rfl
      have d3 : w1.cell? ⟨wr.heap.size, 3, none⟩ = some (.int .i64 BN) := by rw [Lib.cell_of_heap hbox]; rfl
      clear hbox c0 c1 c2 c3 hb1 hB1 hB
      by_cases hq : numB ⟨A, AN, B, BN⟩ = true
      · rw [hq]
        have HQ : Hid (numB ⟨A, AN, B, BN⟩ = true) := hq
        rw [numB_iff] at hq
        dsimp only at hq
        obtain ⟨⟨hA0, hA1⟩, ⟨hAN0, hAN1⟩, ⟨hB0, hB1⟩, ⟨hBN0, hBN1⟩, hpos⟩ := hq
        by_cases h1 : A - a = B - b
        · by_cases h2 : AN > n - A
          · go_wp2_with fail
            go_ret
            refine ⟨ret_int ?_, hB2⟩
            rw [← hr.out, chk_no]
            exact fun h => by have h5 := HR.out.1 h; obtain ⟨⟨q1, q2, q3, q4⟩, q5⟩ := h5; have q6 := q5.le; dsimp only at q6; omega
          by_cases h3 : BN > m - B
          · go_wp2_with fail
            go_ret
            refine ⟨ret_int ?_, hB2⟩
            rw [← hr.out, chk_no]
            exact fun h => by have h5 := HR.out.1 h; obtain ⟨⟨q1, q2, q3, q4⟩, q5⟩ := h5; have q6 := q5.le; dsimp only at q6; omega
          by_cases h4 : A < a
          · go_wp2_with fail
            go_ret
            refine ⟨ret_int ?_, hB2⟩
            rw [← hr.out, chk_no]
            exact fun h => by have h5 := HR.out.1 h; obtain ⟨⟨q1, q2, q3, q4⟩, q5⟩ := h5; have q6 := q5.le; dsimp only at q3; omega
          by_cases h5 : A = a
          · by_cases h6 : 0 < (k : Int)
            · go_wp2_with fail
              go_ret
              refine ⟨ret_int ?_, hB2⟩
              rw [← hr.out, chk_no]
              exact fun h => by
                obtain ⟨⟨q1, q2, q3, q4⟩, q5⟩ := HR.out.1 h
                rcases q4 with q4 | q4
                · have := of_decide_eq_true q4; omega
                · dsimp only at q4; omega
            · go_wp2_with fail
              go_quiet (fail)
              go_wp2
              go_roundw
              case rel => exact ⟨k + 1, A + AN, B + BN, by omega, by go_num, by go_num, by go_num, by omega, by omega, by omega, by omega, Below.dN hB2 _, (by
                show _ ↔ _
                refine HR.out.trans ?_
                have : decide (k + 1 = 0) = false := by simp
                rw [this]
                exact ⟨fun h => h.2, fun h => ⟨⟨HQ.out, h1, by dsimp only; omega, .inl (decide_eq_true (by omega))⟩, h⟩⟩)⟩
              case measure => simp [intOf]; omega
          · go_wp2_with fail
            go_quiet (fail)
            go_wp2
            go_roundw
            case rel => exact ⟨k + 1, A + AN, B + BN, by omega, by go_num, by go_num, by go_num, by omega, by omega, by omega, by omega, Below.dN hB2 _, (by
                show _ ↔ _
                refine HR.out.trans ?_
                have : decide (k + 1 = 0) = false := by simp
                rw [this]
                exact ⟨fun h => h.2, fun h => ⟨⟨HQ.out, h1, by dsimp only; omega, .inr (by dsimp only; omega)⟩, h⟩⟩)⟩
            case measure => simp [intOf]; omega
        · go_wp2_with fail
          go_ret
          refine ⟨ret_int ?_, hB2⟩
          rw [← hr.out, chk_no]
          exact fun h => by have h5 := HR.out.1 h; obtain ⟨⟨q1, q2, q3, q4⟩, q5⟩ := h5; have q6 := q5.le; dsimp only at q2; omega
      · have hq' : numB ⟨A, AN, B, BN⟩ = false := by simpa using hq
        have HQ : Hid (numB ⟨A, AN, B, BN⟩ = false) := hq'
        rw [hq']
        clear hq hq'
        go_wp2_with fail
        go_ret
        refine ⟨ret_int ?_, hB2⟩
        rw [← hr.out, chk_no]
        exact fun h => by
          obtain ⟨⟨q1, q2, q3, q4⟩, q5⟩ := HR.out.1 h
          rw [HQ.out] at q1
          cases q1
    · by_cases he : n - a = m - b
      · go_wp2
        go_ret
        refine ⟨ret_int ?_, hB⟩
        rw [← hr.out, chk_ok]
        have := hR.out
        rw [List.drop_of_length_le (by omega)] at this
        exact this.2 ⟨han, hbm, he⟩
      · go_wp2
        go_ret
        refine ⟨ret_int ?_, hB⟩
        rw [← hr.out, chk_no]
        have := hR.out
        rw [List.drop_of_length_le (by omega)] at this
        exact fun h => he (this.1 h).2.2
end Go.Proofs.Ytppdcjjkkckokaa
