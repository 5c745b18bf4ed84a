/-
  Texts that belong together, joined: EdInv.
-/
import Derived.Test.YtoacmaloiaeniaaPartD1

/- Invert and the law's own helper taken, walked. -/
namespace Go.Proofs.Ytoacmaloiaeniaa
open Go.RowKit

set_option maxHeartbeats 1000000 in
theorem taken_f (K : List Int) (r : Int) (v : Value) (w : World) (hK : HI w v K) (hlen : K.length ≤ 1048576) (hr : Hid (takenL K = r)) :
    Calls Try.prog 28 #[v] w fun e w' => e = .returned (.int .i64 r) ∧ Below w.heap.size w w' := by
  obtain ⟨ao, ca, rfl⟩ := Holds.form hK
  go_enter Try.func28, Try.ntmps28
  go_wp2
  go_loopw [3, 4] (fun sv iv wr => ∃ (k : Nat) (s : Int), k ≤ K.length ∧ sv = .int .i64 s ∧ iv = .int .i64 k ∧ 0 ≤ s ∧ s ≤ k ∧ wr = w ∧ Hid (s + takenL (K.drop k) = r)) (fun _ iv _ => K.length - (intOf iv).toNat)
  case atStart => exact ⟨0, 0, Nat.zero_le _, rfl, rfl, by omega, by omega, rfl, (by show _ = _; rw [← hr.out]; simp)⟩
  case round =>
    obtain ⟨k, s, hk, rfl, rfl, h0, h1, rfl, hR⟩ := hrel
    by_cases hlt : k < K.length
    · obtain ⟨bk, off, rfl, hbk, hc⟩ := HI.at hK (by omega)
      have c0 := hc k hlt
      have hR' := hR.out
      rw [List.drop_eq_getElem_cons hlt, takenL] at hR'
      obtain ⟨z, hzd⟩ : ∃ z, K[k] = z := ⟨_, rfl⟩
      rw [hzd] at hR' c0
      clear hc hzd hR
      have i1 : 0 ≤ (k : Int) := by omega
      have i2 : (k : Int) < (K.length : Int) := by omega
      by_cases hz : z < 0
      · rw [if_pos hz] at hR'
        have HR : Hid (s + 1 + takenL (K.drop (k + 1)) = r) := (by show _ = _; omega)
        clear hR'
        go_wp2
        go_roundw
        case rel => exact ⟨k + 1, s + 1, by omega, by go_num, by go_num, by omega, by omega, trivial, HR⟩
        case measure => simp [intOf]; omega
      · rw [if_neg hz] at hR'
        have HR : Hid (s + takenL (K.drop (k + 1)) = r) := (by show _ = _; omega)
        clear hR'
        go_wp2
        go_roundw
        case rel => exact ⟨k + 1, s, by omega, rfl, by go_num, by omega, by omega, trivial, HR⟩
        case measure => simp [intOf]; omega
    · go_wp2
      go_ret
      refine ⟨ret_int ?_, Below.refl _ _⟩
      have := hR.out
      rw [List.drop_of_length_le (by omega), takenL] at this
      omega

theorem run_makeC (N : Nat) (hN : N ≤ 1099511627776) (W : World) :
    (Instr.makeSlice 22 (.int .i64 (N : Int)) (.int .i64 (N : Int))).run Try.prog W = .ok (.slice (some ⟨W.heap.size, 0, none⟩) N N) (W.alloc (.cells (madeCells #[.int .i64 0, .int .i64 0, .int .i64 0, .int .i64 0] (N * 4)) 51)) := by
  obtain ⟨i0, hi, hz0, hzs, hz2⟩ := info_parts infoCh
  have h1 : i0.bytes * N ≤ 32 * 1099511627776 := by rw [hz2]; exact Nat.mul_le_mul_left _ hN
  have hr := run_make (P := Try.prog) W 22 51 i0 _ Try.underlying22 hi hz0 .i64 .i64 (N : Int) (N : Int) (by omega) (Int.le_refl _) (by
    have : ((i0.bytes * N : Nat) : Int) ≤ 281474976710656 := by omega
    rwa [Int.natCast_mul] at this) (by omega)
  simpa [hzs, Value.cells] using hr

theorem set4 (Y : List Value) (n : Nat) (a b c d : Value) (h : n + 4 ≤ Y.length) : ((((Y.set n a).set (n + 1) b).set (n + 2) c).set (n + 3) d).take (n + 4) = Y.take n ++ [a, b, c, d] := by
  obtain ⟨P, D, rfl, hP⟩ : ∃ P D, Y = P ++ D ∧ P.length = n := ⟨Y.take n, Y.drop n, (List.take_append_drop n Y).symm, by simp; omega⟩
  subst hP
  match D, h with
  | y0 :: y1 :: y2 :: y3 :: R, _ =>
    simp [List.take_append]
    exact List.take_of_length_le (by omega)
  | [], h => simp at h; omega
  | [_], h => simp at h
  | [_, _], h => simp at h
  | [_, _, _], h => simp at h

set_option maxRecDepth 10000 in
set_option maxHeartbeats 1000000 in
theorem Invert_f (l L : List Ch) (v : Value) (w : World) (hl : HCh w v l) (hlen : l.length ≤ 1048576) (hL : Hid (invL l = L)) :
    Calls Try.prog 16 #[v] w fun e w' => ∃ v', e = .returned v' ∧ HCh w' v' L ∧ Below w.heap.size w w' := by
  obtain ⟨ao, ca, rfl⟩ := Holds.form hl
  have hmk := run_makeC l.length (by omega)
  have hrow : (w.alloc (.cells (madeCells #[.int .i64 0, .int .i64 0, .int .i64 0, .int .i64 0] (l.length * 4)) 51)).ownsRow w.heap.size 51 4 (.slice (some ⟨w.heap.size, 0, none⟩) l.length l.length) l.length (madeCells #[.int .i64 0, .int .i64 0, .int .i64 0, .int .i64 0] (l.length * 4)).toList := World.ownsRow_lit w _ l.length (Nat.le_refl _) (by unfold maxLen; omega) (size_madeCells _ _)
  go_enter Try.func16, Try.ntmps16
  go_wp2
  go_loopw [11] (fun iv wr => ∃ (k : Nat) (Y : List Value), k ≤ l.length ∧ iv = .int .i64 k ∧ Below w.heap.size w wr ∧ wr.ownsRow w.heap.size 51 4 (.slice (some ⟨w.heap.size, 0, none⟩) l.length l.length) l.length Y ∧ Hid (Y.take (k * 4) = chcells (invL (l.take k)))) (fun iv _ => l.length - (intOf iv).toNat)
  case atStart => exact ⟨0, _, Nat.zero_le _, rfl, (Below.refl _ w).alloc (Nat.le_refl _) _, hrow, (by show _ = _; simp [invL, chcells])⟩
  case round =>
    obtain ⟨k, Y, hk, rfl, hB, hO, hR⟩ := hrel
    have hsz := hB.size
    by_cases hlt : k < l.length
    · obtain ⟨bk, off, rfl, hbk, hc⟩ := HCh.at (HCh.keep hl hB (Nat.le_refl _)) (by omega)
      obtain ⟨c0, c1, c2, c3⟩ := hc k hlt
      obtain ⟨c, hcd⟩ : ∃ c, l[k] = c := ⟨_, rfl⟩
      rw [hcd] at c0 c1 c2 c3
      have HC : Hid (l[k] = c) := hcd
      clear hc hcd
      obtain ⟨A, AN, B, BN⟩ := c
      dsimp only at c0 c1 c2 c3
      have i1 : 0 ≤ (k : Int) := by omega
      have i2 : (k : Int) < (l.length : Int) := by omega
      have hO2 := hO.alloc (Obj.cells #[Value.int IntKind.i64 A, Value.int IntKind.i64 AN, Value.int IntKind.i64 B, Value.int IntKind.i64 BN] 51)
      have hyl : Y.length = l.length * 4 := hO.1
      have y0 := hO2.cellAt (k * 4) (by omega)
      have y1 := hO2.cellAt (k * 4 + 1) (by omega)
      have y2 := hO2.cellAt (k * 4 + 2) (by omega)
      have y3 := hO2.cellAt (k * 4 + 3) (by omega)
      rw [List.getElem?_eq_getElem (by omega)] at y0 y1 y2 y3
      have f0 := hO2.frozenAt (k * 4)
      have f1 := hO2.frozenAt (k * 4 + 1)
      have f2 := hO2.frozenAt (k * 4 + 2)
      have f3 := hO2.frozenAt (k * 4 + 3)
      obtain ⟨z0, hz0⟩ : ∃ z, Y[k * 4] = z := ⟨_, rfl⟩
      obtain ⟨z1, hz1⟩ : ∃ z, Y[k * 4 + 1] = z := ⟨_, rfl⟩
      obtain ⟨z2, hz2⟩ : ∃ z, Y[k * 4 + 2] = z := ⟨_, rfl⟩
      obtain ⟨z3, hz3⟩ : ∃ z, Y[k * 4 + 3] = z := ⟨_, rfl⟩
      rw [hz0] at y0
      rw [hz1] at y1
      rw [hz2] at y2
      rw [hz3] at y3
      clear hz0 hz1 hz2 hz3
      have HY : Hid (k * 4 + 4 ≤ Y.length) := (by show _ ≤ _; omega)
      clear hyl
      obtain ⟨p1, g1⟩ := hO2.stored (k * 4) (.int .i64 B)
      obtain ⟨p2, g2⟩ := p1.stored (k * 4 + 1) (.int .i64 BN)
      obtain ⟨p3, g3⟩ := p2.stored (k * 4 + 2) (.int .i64 A)
      obtain ⟨p4, g4⟩ := p3.stored (k * 4 + 3) (.int .i64 AN)
      have hB1 := (hB.alloc (by omega) (Obj.cells #[Value.int IntKind.i64 A, Value.int IntKind.i64 AN, Value.int IntKind.i64 B, Value.int IntKind.i64 BN] 51)).grown g1 (by simp; omega) (fun j hj => by cases hj; exact Nat.le_refl _)
      have hB2 := hB1.grown g2 hB1.size (fun j hj => by cases hj; exact Nat.le_refl _)
      have hB3 := hB2.grown g3 hB2.size (fun j hj => by cases hj; exact Nat.le_refl _)
      have hB4 := hB3.grown g4 hB3.size (fun j hj => by cases hj; exact Nat.le_refl _)
      clear g1 g2 g3 g4 p1 p2 p3 hB1 hB2 hB3
      go_wp2
      refine ⟨⟨k + 1, _, by omega, by go_num, hB4, p4, (by
        show _ = _
        rw [show (k + 1) * 4 = k * 4 + 4 by omega, set4 _ _ _ _ _ _ HY.out, hR.out, List.take_succ_eq_append_getElem hlt, HC.out]
        simp [invL, chcells, chC, inv])⟩, by simp [intOf]; omega⟩
    · go_wp2
      go_ret
      refine ⟨_, rfl, ?_, hB⟩
      have h := hR.out
      rw [List.take_of_length_le (by have := hO.1; omega), List.take_of_length_le (by omega), hL.out] at h
      have hLl : L.length = l.length := by rw [← hL.out]; simp [invL]
      have := holds_of hO
      rw [h] at this
      unfold HCh
      rw [hLl]
      exact this
end Go.Proofs.Ytoacmaloiaeniaa
