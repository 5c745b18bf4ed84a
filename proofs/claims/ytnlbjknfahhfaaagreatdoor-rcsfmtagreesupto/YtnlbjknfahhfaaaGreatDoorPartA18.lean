/-
  Texts that belong together, joined: RcCp, NoPs, NpN, RcCf, RcC2, NoRd, NoPk, NoMk, NpE, RcRu, RcSt.
-/
import Derived.Test.YtnlbjknfahhfaaaGreatDoorPartA17
import Derived.Test.YtnlbjknfahhfaaaGreatDoorPartA4
import Derived.Lib.OthersKept
import Derived.Laws.RangeAny
import Derived.Test.YtnlbjknfahhfaaaGreatDoorPartA16
import Derived.Deep.CutBlock
import Derived.Laws.EntriesVeiled
import Derived.BigRegion
import Derived.Deep.DeepCutAuto
import Derived.Test.YtnlbjknfahhfaaaGreatDoorPartA5
import Derived.Deep.RegionHeld3
import Derived.WalkLawsBesides
import Derived.Test.YtnlbjknfahhfaaaGreatDoorPartA6
import Derived.BigQuiet

/- The code's Print of the form of archives, walked. -/
set_option maxRecDepth 20000
namespace Go.Proofs.YtnlbjknfahhfaaaGreatDoor
open Go.RowKit

set_option maxHeartbeats 1000000 in
theorem cmdLine_f (t : UInt8) (p n : Int) (h0 : 0 ≤ p) (h1 : p ≤ 4611686018427387904) (h2 : 0 ≤ n) (h3 : n ≤ 4611686018427387904) (w : World) (HT : Hid (Tab10 w)) (T : List UInt8) (HR : Hid (rcB t p n ++ [10] = T)) :
    Calls Tryz.prog 36 #[.string ⟨#[t]⟩, .int .i64 p, .int .i64 n] w fun e w' => e = .returned (.string ⟨T.toArray⟩) ∧ Below w.heap.size w w' := by
  have s1 := itoa_short p (by omega) (by omega)
  have s2 := itoa_short n (by omega) (by omega)
  obtain ⟨Z2, hHZ2⟩ : ∃ Z, [t] ++ Lib.itoa p = Z := ⟨_, rfl⟩
  have HZ2 : Hid ([t] ++ Lib.itoa p = Z2) := hHZ2
  clear hHZ2
  obtain ⟨Z3, hHZ3⟩ : ∃ Z, Z2 ++ [32] = Z := ⟨_, rfl⟩
  have HZ3 : Hid (Z2 ++ [32] = Z3) := hHZ3
  clear hHZ3
  obtain ⟨Z4, hHZ4⟩ : ∃ Z, Z3 ++ Lib.itoa n = Z := ⟨_, rfl⟩
  have HZ4 : Hid (Z3 ++ Lib.itoa n = Z4) := hHZ4
  clear hHZ4
  have HE : Hid (Z4 ++ [10] = T) := (by
    show _ = _
    rw [← HR.out, ← HZ4.out, ← HZ3.out, ← HZ2.out]
    unfold rcB
    simp)
  have l2 : Z2.length ≤ 22 := (by rw [← HZ2.out]; simp only [List.length_append, List.length_cons, List.length_nil]; omega)
  have l3 : Z3.length ≤ 23 := (by rw [← HZ3.out]; simp only [List.length_append, List.length_cons, List.length_nil]; omega)
  have l4 : Z4.length ≤ 44 := (by rw [← HZ4.out]; simp only [List.length_append]; omega)
  have q2 := add_z HZ2.out (by unfold Fits; simp only [List.length_cons, List.length_nil]; omega) Tryz.prog
  have q3 := add_z HZ3.out (by unfold Fits; simp only [List.length_cons, List.length_nil]; omega) Tryz.prog
  have q4 := add_z HZ4.out (by unfold Fits; omega) Tryz.prog
  have q5 := add_z HE.out (by unfold Fits; simp only [List.length_cons, List.length_nil]; omega) Tryz.prog
  clear HR
  go_enter Tryz.func36, Tryz.ntmps36
  go_wp2_with fail
  refine (nText_f p (by omega) (by omega) _ HT).mono ?_
  rintro e w1 ⟨rfl, hb1⟩
  have HT1 : Hid (Tab10 w1) := HT.out.on hb1
  go_wp2_with fail
  refine (nText_f n (by omega) (by omega) _ HT1).mono ?_
  rintro e w2 ⟨rfl, hb2⟩
  go_wp2
  go_ret
  exact ⟨rfl, hb1.trans (hb2.mono hb1.size)⟩
/-- a boxed change -/
def Cbx (W : World) (k : Nat) (A AN B BN : Int) : Prop := W.heap[k]? = some (.cells #[.int .i64 A, .int .i64 AN, .int .i64 B, .int .i64 BN] 48)
theorem Cbx.cells {W : World} {k : Nat} {A AN B BN : Int} (h : Cbx W k A AN B BN) : W.cell? ⟨k, 0, none⟩ = some (.int .i64 A) ∧ W.cell? ⟨k, 1, none⟩ = some (.int .i64 AN) ∧ W.cell? ⟨k, 2, none⟩ = some (.int .i64 B) ∧ W.cell? ⟨k, 3, none⟩ = some (.int .i64 BN) := by
  unfold Cbx at h
  refine ⟨?_, ?_, ?_, ?_⟩ <;> rw [Lib.cell_of_heap h] <;> rfl
theorem Cbx.low {W u : World} {k : Nat} {A AN B BN : Int} (h : Cbx W k A AN B BN) (hb : Below W.heap.size W u) : Cbx u k A AN B BN := (hb.block k (Array.getElem?_eq_some_iff.1 h).1).trans h
theorem Cbx.others {W u : World} {k b : Nat} {A AN B BN : Int} (h : Cbx W k A AN B BN) (hk : Lib.OthersKept 5 (some b) W u) (hne : k ≠ b) : Cbx u k A AN B BN := hk k _ h (fun e => by injection e with e; omega) (fun c fz e => by cases e)
theorem rc_ws (b : Nat) (acc s Z : List UInt8) (w : World) (hB : Lib.IsBuilderF 62 5 b b (Lib.byteCells acc) w) (hBw : b ≤ w.heap.size) (hl : acc.length + s.length ≤ 140737488355328) (HZ : Hid (acc ++ s = Z)) :
    Calls Tryz.prog 24 #[.pointer (some ⟨b, 0, none⟩), .string ⟨s.toArray⟩] w fun e w' => e = .returned (.tuple #[.int .i64 (s.length : Int), .nilIface]) ∧ Lib.IsBuilderF 62 5 b b (Lib.byteCells Z) w' ∧ Below b w w' ∧ Lib.OthersKept 5 (some b) w w' := by
  have hz := HZ.out
  subst hz
  refine (Tryz.WriteString_h b b _ ⟨s.toArray⟩ w hB (by rw [bcells_len]; exact hl) hBw).mono ?_
  rintro e w' ⟨rfl, h1, h2, h3⟩
  exact ⟨rfl, .inr (by rw [Lib.byteCells_append]; exact h1), h2, h3⟩
theorem rcB_len {t : UInt8} {p n : Int} (h0 : 0 ≤ p) (h1 : p ≤ 4611686018427387904) (h2 : 0 ≤ n) (h3 : n ≤ 4611686018427387904) : (rcB t p n ++ [10]).length ≤ 45 := by
  have s1 := itoa_short p (by omega) (by omega)
  have s2 := itoa_short n (by omega) (by omega)
  unfold rcB
  simp only [List.length_append, List.length_cons, List.length_nil]
  omega
set_option maxRecDepth 10000 in
set_option maxHeartbeats 8000000 in
theorem rcPrint_f (l : List Ch) (vl va vb : Value) (a b : List (List UInt8)) (w : World) (hl : HCh w vl l) (ha : HS w va a) (hb : HS w vb b) (hll : l.length ≤ 1099511627776) (hla : a.length ≤ 1099511627776) (hlb : b.length ≤ 1099511627776) (hfb : b.flatten.length ≤ 1099511627776) (HTb : Hid (Tab10 w))
    (r : Int) (HR : Hid (chk l a.length b.length = r)) (T : List UInt8) (HT : Hid ((if r = 0 then rcT l b else []) = T)) (hT : T.length ≤ 70368744177664) :
    Calls Tryz.prog 17 #[vl, va, vb] w fun e w' => e = .returned (.tuple #[.string ⟨T.toArray⟩, .int .i64 r]) ∧ Below w.heap.size w w' := by
  obtain ⟨lo, lc, rfl⟩ := Holds.form hl
  obtain ⟨ao, ca, rfl⟩ := Holds.form ha
  obtain ⟨bo, cb, rfl⟩ := Holds.form hb
  go_enter Tryz.func17, Tryz.ntmps17
  go_wp2_with fail
  refine (Check_f l a.length b.length r (.slice lo l.length lc) _ hl (by omega) (by omega) (by omega) HR).mono ?_
  rintro e w1 ⟨rfl, hb1⟩
  by_cases hr : r = 0
  · subst hr
    have hTT := HT.out
    rw [if_pos rfl] at hTT
    have hs : Script l a.length b.length := (by
      by_cases h : Script l a.length b.length
      · exact h
      · have := chk_no h
        rw [HR.out] at this
        cases this)
    have HMH : Hid (∀ c ∈ l, numB c = true ∧ c.A + c.AN ≤ (a.length : Int) ∧ c.B + c.BN ≤ (b.length : Int)) := right_mem hs.2.2
    have HI0 : Hid ([] ++ rcT (l.drop 0) b = T) := (by show _ = _; rw [← hTT]; rfl)
    have HT1 : Hid (Tab10 w1) := HTb.out.on hb1
    have hl1 := HCh.keep hl hb1 (Nat.le_refl _)
    have hB1 := HS.keep hb hb1 (Nat.le_refl _)
    clear hs HT hTT HR HTb hl ha hb
    have hF0 := isF_fresh w1
    have hBw : Below w1.heap.size w1 (w1.alloc (.cells #[.pointer none, .slice none 0 0] 62)) := (Below.refl _ w1).alloc (Nat.le_refl _) _
    go_wp2
    go_loopw [23] (fun i wr => ∃ (k : Nat) (acc : List UInt8), k ≤ l.length ∧ i = .int .i64 (k : Int) ∧ Lib.IsBuilderF 62 5 w1.heap.size w1.heap.size (Lib.byteCells acc) wr ∧ Below w1.heap.size w1 wr ∧ Hid (acc ++ rcT (l.drop k) b = T)) (fun i _ => l.length - (intOf i).toNat)
    case atStart => exact ⟨0, [], Nat.zero_le _, by go_num, hF0, hBw, HI0⟩
    case round =>
      clear hF0 hBw HI0
      obtain ⟨k, acc, hk, rfl, hBr, hbr, HI⟩ := hrel
      have hHb : w1.heap.size < wr.heap.size := (by
        rcases hBr with ⟨_, _, h, _⟩ | ⟨_, _, h, _⟩ <;> exact (Array.getElem?_eq_some_iff.1 h).1)
      have hacl : acc.length ≤ 70368744177664 := (by
        have h1 := congrArg List.length HI.out
        simp only [List.length_append] at h1
        omega)
      by_cases hlt : k < l.length
      · obtain ⟨bk, off, rfl, hbk, hc⟩ := HCh.at (HCh.keep hl1 hbr (Nat.le_refl _)) (by omega)
        obtain ⟨c0, c1, c2, c3⟩ := hc k hlt
        have HI2 : Hid (acc ++ ((rcC b l[k]).flatten ++ rcT (l.drop (k + 1)) b) = T) := (by
          show _ = _
          rw [← HI.out, rcT_step hlt])
        obtain ⟨c, hcd⟩ : ∃ c, l[k] = c := ⟨_, rfl⟩
        have hm := HMH.out l[k] (List.getElem_mem hlt)
        rw [hcd] at hm c0 c1 c2 c3 HI2
        clear hcd hc HI
        have hn := (numB_iff c).1 hm.1
        have i1 : 0 ≤ (k : Int) := by omega
        have i2 : (k : Int) < (l.length : Int) := by omega
        obtain ⟨vs, hvs, hsB⟩ := run_cut b bo cb c.B c.BN (by omega) (by omega) (by omega) w1 hB1
        obtain ⟨vo2, vc2, rfl⟩ := Holds.form (hsB w1 hB1)
        have hCl := rc_cutl (b := b) c.B c.BN
        have hlow : Below wr.heap.size wr (wr.alloc (.cells #[.int .i64 c.A, .int .i64 c.AN, .int .i64 c.B, .int .i64 c.BN] 48)) := (Below.refl _ wr).alloc (Nat.le_refl _) _
        have hbx : Cbx (wr.alloc (.cells #[.int .i64 c.A, .int .i64 c.AN, .int .i64 c.B, .int .i64 c.BN] 48)) wr.heap.size c.A c.AN c.B c.BN := heap_alloc_new wr _
        obtain ⟨L, hL⟩ : ∃ L, cut b c.B c.BN = L := ⟨_, rfl⟩
        rw [hL] at hvs hsB hCl
        have hLl : L.length ≤ 1099511627776 := by omega
        obtain ⟨X, HX⟩ : ∃ X, Hid (L.flatten = X) := ⟨_, rfl⟩
        have hXl : X.length ≤ 1099511627776 := by rw [← HX.out]; omega
        clear hCl
        have hwr : IntKind.i64.wrap (c.B + c.BN) = c.B + c.BN := wrap_small _ (by omega) (by omega)
        have hwr1 : IntKind.i64.wrap (c.A + 1) = c.A + 1 := wrap_small _ (by omega) (by omega)
        have hwr2 : IntKind.i64.wrap (c.A + c.AN) = c.A + c.AN := wrap_small _ (by omega) (by omega)
        obtain ⟨D, hHD⟩ : ∃ D, rcB 100 (c.A + 1) c.AN ++ [10] = D := ⟨_, rfl⟩
        have HD : Hid (rcB 100 (c.A + 1) c.AN ++ [10] = D) := hHD
        clear hHD
        obtain ⟨P, hHP⟩ : ∃ P, rcB 97 (c.A + c.AN) c.BN ++ [10] = P := ⟨_, rfl⟩
        have HP : Hid (rcB 97 (c.A + c.AN) c.BN ++ [10] = P) := hHP
        clear hHP
        have hDl : D.length ≤ 45 := by rw [← HD.out]; exact rcB_len (by omega) (by omega) (by omega) (by omega)
        have hPl : P.length ≤ 45 := by rw [← HP.out]; exact rcB_len (by omega) (by omega) (by omega) (by omega)
        obtain ⟨A, AN, B, BN⟩ := c
        dsimp only at c0 c1 c2 c3 hbx hlow hn hm hvs hsB hwr hwr1 hwr2 hL HD HP
        obtain ⟨wb, hwb⟩ : ∃ wb, wr.alloc (.cells #[.int .i64 A, .int .i64 AN, .int .i64 B, .int .i64 BN] 48) = wb := ⟨_, rfl⟩
        rw [hwb] at hbx hlow
        have hBb := isF_low hBr hlow
        have hbb := hbr.trans (hlow.mono hbr.size)
        have hzb : wr.heap.size < wb.heap.size := (Array.getElem?_eq_some_iff.1 hbx).1
        obtain ⟨d0, d1, d2, d3⟩ := hbx.cells
        have HTB : Hid (Tab10 wb) := HT1.out.on hbb
        clear hBr hlow
        by_cases h1 : 0 < AN
        · obtain ⟨Z, hHZ⟩ : ∃ Z, acc ++ D = Z := ⟨_, rfl⟩
          have HZ : Hid (acc ++ D = Z) := hHZ
          clear hHZ
          have hZl : Z.length ≤ 70368744177664 + 45 := by rw [← HZ.out, List.length_append]; omega
          go_wp2_with fail
          refine (cmdLine_f 100 (A + 1) AN (by omega) (by omega) (by omega) (by omega) wb HTB D HD).mono ?_
          rintro e w2 ⟨rfl, hl2⟩
          have hB2 := isF_low hBb hl2
          have hx2 := hbx.low hl2
          have hb2 := hbb.trans (hl2.mono hbb.size)
          clear d0 d1 d2 d3
          go_wp2_with fail
          refine (rc_ws w1.heap.size acc D Z w2 hB2 (by have := hl2.size; omega) (by omega) HZ).mono ?_
          rintro e w3 ⟨rfl, hB3, hl3, ho3⟩
          have hx3 := hx2.others ho3 (by omega)
          have hb3 := hb2.trans hl3
          obtain ⟨d0, d1, d2, d3⟩ := hx3.cells
          clear hB2 hx2 hb2 hl2
          by_cases h2 : 0 < BN
          · obtain ⟨Y, hHY⟩ : ∃ Y, Z ++ P = Y := ⟨_, rfl⟩
            have HY : Hid (Z ++ P = Y) := hHY
            clear hHY
            have hYl : Y.length ≤ 70368744177664 + 90 := by rw [← HY.out, List.length_append]; omega
            obtain ⟨Q, hHQ⟩ : ∃ Q, Y ++ X = Q := ⟨_, rfl⟩
            have HQ : Hid (Y ++ X = Q) := hHQ
            clear hHQ
            have HE : Hid (Q ++ rcT (l.drop (k + 1)) b = T) := (by
              show _ = _
              rw [← HI2.out, ← HQ.out, ← HY.out, ← HP.out, ← HX.out, ← HZ.out, ← HD.out]
              unfold rcC
              dsimp only
              rw [if_pos h1, if_pos h2, hL]
              simp)
            have HTC : Hid (Tab10 w3) := HT1.out.on hb3
            clear HI2
            go_wp2_with fail
            refine (cmdLine_f 97 (A + AN) BN (by omega) (by omega) (by omega) (by omega) w3 HTC P HP).mono ?_
            rintro e w4 ⟨rfl, hl4⟩
            have hB4 := isF_low hB3 hl4
            have hx4 := hx3.low hl4
            have hb4 := hb3.trans (hl4.mono hb3.size)
            clear d0 d1 d2 d3
            go_wp2_with fail
            refine (rc_ws w1.heap.size Z P Y w4 hB4 hb4.size (by omega) HY).mono ?_
            rintro e w5 ⟨rfl, hB5, hl5, ho5⟩
            have hx5 := hx4.others ho5 (by omega)
            have hb5 := hb4.trans hl5
            obtain ⟨d0, d1, d2, d3⟩ := hx5.cells
            have hs5 : HS w5 (.slice vo2 L.length vc2) L := hsB w5 (HS.keep hB1 hb5 (Nat.le_refl _))
            go_wp2_with fail
            refine (lJoin_f _ L w5 hLl (by rw [HX.out]; exact hXl) hs5).mono ?_
            rw [HX.out]
            rintro e w6 ⟨rfl, hl6⟩
            have hB6 := isF_low hB5 hl6
            have hb6 := hb5.trans (hl6.mono hb5.size)
            go_wp2_with fail
            refine (rc_ws w1.heap.size Y X Q w6 hB6 hb6.size (by omega) HQ).mono ?_
            rintro e w7 ⟨rfl, hB7, hl7, ho7⟩
            have hb7 := hb6.trans hl7
            go_wp2
            exact ⟨⟨k + 1, _, by omega, by go_num, hB7, hb7, HE⟩, by simp [intOf]; omega⟩
          · have HE : Hid (Z ++ rcT (l.drop (k + 1)) b = T) := (by
              show _ = _
              rw [← HI2.out, ← HZ.out, ← HD.out]
              unfold rcC
              dsimp only
              rw [if_pos h1, if_neg h2]
              simp)
            clear HI2
            go_wp2
            exact ⟨⟨k + 1, _, by omega, by go_num, hB3, hb3, HE⟩, by simp [intOf]; omega⟩
        · have h2 : 0 < BN := by omega
          obtain ⟨Y, hHY⟩ : ∃ Y, acc ++ P = Y := ⟨_, rfl⟩
          have HY : Hid (acc ++ P = Y) := hHY
          clear hHY
          have hYl : Y.length ≤ 70368744177664 + 90 := by rw [← HY.out, List.length_append]; omega
          obtain ⟨Q, hHQ⟩ : ∃ Q, Y ++ X = Q := ⟨_, rfl⟩
          have HQ : Hid (Y ++ X = Q) := hHQ
          clear hHQ
          have HE : Hid (Q ++ rcT (l.drop (k + 1)) b = T) := (by
            show _ = _
            rw [← HI2.out, ← HQ.out, ← HY.out, ← HP.out, ← HX.out]
            unfold rcC
            dsimp only
            rw [if_neg h1, if_pos h2, hL]
            simp)
          have HTC : Hid (Tab10 wb) := HT1.out.on hbb
          clear HI2
          go_wp2_with fail
          refine (cmdLine_f 97 (A + AN) BN (by omega) (by omega) (by omega) (by omega) wb HTC P HP).mono ?_
          rintro e w4 ⟨rfl, hl4⟩
          have hB4 := isF_low hBb hl4
          have hx4 := hbx.low hl4
          have hb4 := hbb.trans (hl4.mono hbb.size)
          clear d0 d1 d2 d3
          go_wp2_with fail
          refine (rc_ws w1.heap.size acc P Y w4 hB4 hb4.size (by omega) HY).mono ?_
          rintro e w5 ⟨rfl, hB5, hl5, ho5⟩
          have hx5 := hx4.others ho5 (by omega)
          have hb5 := hb4.trans hl5
          obtain ⟨d0, d1, d2, d3⟩ := hx5.cells
          have hs5 : HS w5 (.slice vo2 L.length vc2) L := hsB w5 (HS.keep hB1 hb5 (Nat.le_refl _))
          go_wp2_with fail
          refine (lJoin_f _ L w5 hLl (by rw [HX.out]; exact hXl) hs5).mono ?_
          rw [HX.out]
          rintro e w6 ⟨rfl, hl6⟩
          have hB6 := isF_low hB5 hl6
          have hb6 := hb5.trans (hl6.mono hb5.size)
          go_wp2_with fail
          refine (rc_ws w1.heap.size Y X Q w6 hB6 hb6.size (by omega) HQ).mono ?_
          rintro e w7 ⟨rfl, hB7, hl7, ho7⟩
          have hb7 := hb6.trans hl7
          go_wp2
          exact ⟨⟨k + 1, _, by omega, by go_num, hB7, hb7, HE⟩, by simp [intOf]; omega⟩
      · have HE : Hid (acc = T) := (by
          have h := HI.out
          rw [List.drop_of_length_le (by omega)] at h
          show acc = T
          simpa [rcT, rcL] using h)
        have hend : decide ((k : Int) < (l.length : Int)) = false := decide_eq_false (by omega)
        clear HI
        go_wp2_with fail
        refine (Tryz.Builder_String_any_k w1.heap.size w1.heap.size acc wr hBr (by omega)).mono ?_
        rintro e w3 ⟨rfl, hB3, hb3, ho3⟩
        have hb4 := hb1.trans ((hbr.trans hb3).mono hb1.size)
        go_wp2
        go_ret2
        exact ⟨by rw [← HE.out]; rfl, hb4⟩
  · have hrb : (r != 0) = true := bne_iff_ne.2 hr
    have hTT := HT.out
    rw [if_neg hr] at hTT
    subst hTT
    go_wp2
    go_ret2
    exact ⟨rfl, hb1⟩
end Go.Proofs.YtnlbjknfahhfaaaGreatDoor

/- The plain Parse of the reference, walked anew over the normal form's texts. -/
set_option maxRecDepth 20000
namespace Go.Proofs.YtnlbjknfahhfaaaGreatDoor
open Pn Go.RowKit
attribute [local go_sem] no_at

theorem ret_pair {k k' : IntKind} {a b a' b' : Int} (h : a = a') (h' : b = b') : Ending.returned (.tuple #[.int k a, .int k' b]) = .returned (.tuple #[.int k a', .int k' b']) := by rw [h, h']
end Go.Proofs.YtnlbjknfahhfaaaGreatDoor

/- The code's isNumber and Parse of layer 1, walked anew over the normal form's texts: what they return is what the plain functions isNum, parseV and parseE say. -/
set_option maxRecDepth 20000
namespace Go.Proofs.YtnlbjknfahhfaaaGreatDoor
open Pn Go.RowKit
attribute [local go_sem] no_at

set_option maxHeartbeats 2000000 in
theorem nisNumber_loop (L : List UInt8) (w : World) (hl : L.length ≤ maxLen) (h0 : 0 < L.length) (hz : (((L[0].toNat : Int) == 48) = false) ∨ ((((L[0].toNat : Int) == 48) = true) ∧ (L.length : Int) ≤ 1))
    (HY : Hid ((∀ k (hk : k < L.length), 48 ≤ L[k].toNat ∧ L[k].toNat ≤ 57) → isNum L = true)) :
    Calls Tryz.prog 117 #[.string ⟨L.toArray⟩] w fun e w' => e = .returned (.bool (isNum L)) ∧ Below w.heap.size w w' := by
  unfold maxLen at hl
  have hne : L.isEmpty = false := by cases L; simp at h0; rfl
  have hnil : ¬ L = [] := by intro h; rw [h] at h0; simp at h0
  rcases hz with hz | ⟨hz, hz1⟩
  all_goals
    go_enter Tryz.func117, Tryz.ntmps117
    go_wp2
    go_loopw [] (fun wr => ∃ pos : Nat, pos ≤ L.length ∧ wr.heap[w.heap.size]? = some (.stringIter ⟨L.toArray⟩ pos) ∧ Below w.heap.size w wr ∧ (∀ k (hk : k < L.length), k < pos → 48 ≤ L[k].toNat ∧ L[k].toNat ≤ 57)) (fun wr => L.length - wr.iterPos w.heap.size)
    case atStart =>
      refine ⟨0, Nat.zero_le _, World.iter_heap w _ 0, (Below.refl _ w).alloc (Nat.le_refl _) _, fun k _ h => by omega⟩
    case round =>
      obtain ⟨pos, hp, hit, hbr, hall⟩ := hrel
      have HA : Hid (∀ k (hk : k < L.length), k < pos → 48 ≤ L[k].toNat ∧ L[k].toNat ≤ 57) := hall
      clear hall
      have hss : (⟨L.toArray⟩ : ByteArray).size = L.length := rfl
      by_cases hlt : pos < L.length
      · by_cases ha : L[pos].toNat < 128
        · have hnx : ∀ ty, (Instr.next (.pointer (some ⟨w.heap.size, 0, none⟩)) true ty).run Tryz.prog wr = _ := fun ty => Lib.run_next_ascii_at wr w.heap.size ⟨L.toArray⟩ pos ty hit hlt ha
          have hit2 := Lib.iterAt_heap wr w.heap.size ⟨L.toArray⟩ pos (pos + 1) hit
          have hbr2 := Lib.below_iterAt hbr (k := w.heap.size) (Nat.le_refl _) ⟨L.toArray⟩ (pos + 1)
          by_cases hd : 48 ≤ L[pos].toNat ∧ L[pos].toNat ≤ 57
          · obtain ⟨hd1, hd2⟩ := hd
            go_wp2
            go_roundw
            case rel =>
              refine ⟨pos + 1, by omega, hit2, hbr2, fun k hk h => ?_⟩
              by_cases e : k = pos
              · subst e; exact ⟨hd1, hd2⟩
              · exact HA.out k hk (by omega)
            case measure => simp only [World.iterPos, hit, hit2]; omega
          · have HN : Hid (isNum L = false) := isNum_bad pos hlt hd
            by_cases hd1 : L[pos].toNat < 48
            · clear hd
              go_wp2
              go_ret
              exact ⟨ret_bool HN.out.symm, hbr2⟩
            · have hd2 : 57 < L[pos].toNat := by omega
              clear hd
              go_wp2
              go_ret
              exact ⟨ret_bool HN.out.symm, hbr2⟩
        · have HN : Hid (isNum L = false) := isNum_bad pos hlt (by omega)
          have hdh := (decode_high ⟨L.toArray⟩ pos hlt (by show 128 ≤ L[pos].toNat; omega)).1
          have hnx : ∀ ty, (Instr.next (.pointer (some ⟨w.heap.size, 0, none⟩)) true ty).run Tryz.prog wr = _ := fun ty => Lib.run_next_any_at wr w.heap.size ⟨L.toArray⟩ pos ty hit hlt
          have hbr2 := Lib.below_iterAt hbr (k := w.heap.size) (Nat.le_refl _) ⟨L.toArray⟩ (pos + (Utf8.decode ⟨L.toArray⟩ pos).2)
          have hdl := decode_le ⟨L.toArray⟩ pos
          generalize Utf8.decode ⟨L.toArray⟩ pos = dd at *
          have q1 : ¬ ((dd.1 : Int) < 48) := by omega
          have q2 : 57 < (dd.1 : Int) := by omega
          go_wp2
          go_ret
          exact ⟨ret_bool HN.out.symm, hbr2⟩
      · have hnx : ∀ ty, (Instr.next (.pointer (some ⟨w.heap.size, 0, none⟩)) true ty).run Tryz.prog wr = _ := fun ty => Lib.run_next_end_at wr w.heap.size ⟨L.toArray⟩ pos ty hit hlt
        have HN : Hid (isNum L = true) := HY.out fun k hk => HA.out k hk (by omega)
        go_wp2
        go_ret
        exact ⟨ret_bool HN.out.symm, hbr⟩

set_option maxHeartbeats 1000000 in
theorem nisNumber_any (l : List UInt8) (w : World) (hl : l.length ≤ maxLen) :
    Calls Tryz.prog 117 #[.string ⟨l.toArray⟩] w fun e w' => e = .returned (.bool (isNum l)) ∧ Below w.heap.size w w' := by
  match l, hl with
  | [], _ =>
    go_enter Tryz.func117, Tryz.ntmps117
    go_wp2
    go_ret
    exact ⟨rfl, Below.refl _ _⟩
  | [c], hl =>
    refine nisNumber_loop [c] w hl (by simp) ?_ (isNum_yes (by simp))
    cases h : ((([c] : List UInt8)[0].toNat : Int) == 48)
    · exact .inl rfl
    · exact .inr ⟨rfl, by simp⟩
  | c :: d :: t, hl =>
    by_cases h : c.toNat = 48
    · have hb : ((c.toNat : Int) == 48) = true := by simp; omega
      have HN : Hid (isNum (c :: d :: t) = false) := isNum_zero h
      have hl2 : (1 : Int) < (t.length : Int) + 1 + 1 := by omega
      clear h
      go_enter Tryz.func117, Tryz.ntmps117
      go_wp2
      go_ret
      exact ⟨ret_bool HN.out.symm, Below.refl _ _⟩
    · refine nisNumber_loop (c :: d :: t) w hl (by simp) (.inl ?_) (isNum_yes (by simp [h]))
      simp; omega

set_option maxHeartbeats 2000000 in
theorem nParse_any (l : List UInt8) (w : World) (hl : l.length ≤ maxLen) :
    Calls Tryz.prog 81 #[.string ⟨l.toArray⟩] w fun e w' => e = .returned (.tuple #[.int .i64 (parseV l), .int .i64 (parseE l)]) ∧ Below w.heap.size w w' := by
  go_enter Tryz.func81, Tryz.ntmps81
  go_wp2_with fail
  refine (nisNumber_any l _ hl).mono ?_
  rintro e w1 ⟨rfl, hb1⟩
  unfold maxLen at hl
  cases hn : isNum l
  · have HN : Hid (isNum l = false) := hn
    go_wp2
    go_ret2
    have h := parse_no HN.out
    exact ⟨ret_pair h.1 h.2, hb1⟩
  · have HN : Hid (isNum l = true) := hn
    have hal := isNum_all hn
    have HAL : Hid (l.all digB = true) := hal
    clear hal
    go_wp2
    go_loopw [4] (fun n wr => ∃ (pos : Nat) (v : Int), pos ≤ l.length ∧ n = .int .i64 v ∧ 0 ≤ v ∧ v ≤ 2147483647 ∧ wr.heap[w1.heap.size]? = some (.stringIter ⟨l.toArray⟩ pos) ∧ Below w.heap.size w wr ∧ sat v (l.drop pos) = sat 0 l) (fun _ wr => l.length - wr.iterPos w1.heap.size)
    case atStart =>
      refine ⟨0, 0, Nat.zero_le _, rfl, by omega, by omega, World.iter_heap w1 _ 0, hb1.alloc hb1.size _, rfl⟩
    case round =>
      obtain ⟨pos, v, hp, rfl, hv0, hv1, hit, hbr, hsat⟩ := hrel
      have HS : Hid (sat v (l.drop pos) = sat 0 l) := hsat
      clear hsat
      have hss : (⟨l.toArray⟩ : ByteArray).size = l.length := rfl
      have hz1 := hb1.size
      by_cases hlt : pos < l.length
      · have hd := all_at HAL.out pos hlt
        obtain ⟨hd1, hd2⟩ := hd
        have HS2 : Hid (sat (min (v * 10 + ((l[pos].toNat : Int) - 48)) 2147483648) (l.drop (pos + 1)) = sat 0 l) := by
          show sat _ _ = _
          rw [← sat_step hlt]; exact HS.out
        have hnx : ∀ ty, (Instr.next (.pointer (some ⟨w1.heap.size, 0, none⟩)) true ty).run Tryz.prog wr = _ := fun ty => Lib.run_next_ascii_at wr w1.heap.size ⟨l.toArray⟩ pos ty hit hlt (by show l[pos].toNat < 128; omega)
        have hit2 := Lib.iterAt_heap wr w1.heap.size ⟨l.toArray⟩ pos (pos + 1) hit
        have hbr2 := Lib.below_iterAt hbr (k := w1.heap.size) hb1.size ⟨l.toArray⟩ (pos + 1)
        by_cases hfar : (2147483647 - ((l[pos].toNat : Int) - 48)) / 10 < v
        · have HF : Hid (sat 0 l = 2147483648) := by
            have e : min (v * 10 + ((l[pos].toNat : Int) - 48)) 2147483648 = 2147483648 := by omega
            have h := HS2.out
            rw [e, sat_top _ (all_drop HAL.out _)] at h
            exact h.symm
          go_wp2
          go_ret2
          have h := parse_far HN.out HF.out
          exact ⟨ret_pair h.1 h.2, hbr2⟩
        · go_wp2
          go_roundw
          case rel =>
            refine ⟨pos + 1, v * 10 + ((l[pos].toNat : Int) - 48), by omega, rfl, by omega, by omega, hit2, hbr2, ?_⟩
            have e : min (v * 10 + ((l[pos].toNat : Int) - 48)) 2147483648 = v * 10 + ((l[pos].toNat : Int) - 48) := by omega
            rw [← HS2.out, e]
          case measure => simp only [World.iterPos, hit, hit2]; omega
      · have hnx : ∀ ty, (Instr.next (.pointer (some ⟨w1.heap.size, 0, none⟩)) true ty).run Tryz.prog wr = _ := fun ty => Lib.run_next_end_at wr w1.heap.size ⟨l.toArray⟩ pos ty hit hlt
        have HF : Hid (sat 0 l = v) := by
          have h := HS.out
          rw [List.drop_eq_nil_of_le (by omega)] at h
          exact h.symm
        go_wp2
        go_ret2
        have h := parse_ok HN.out HF.out hv1
        exact ⟨ret_pair h.1 h.2, hbr⟩
end Go.Proofs.YtnlbjknfahhfaaaGreatDoor

/- The code's commandFrom of layer 14, walked: a line that says a command, and the closure that hands over a number. -/
set_option maxRecDepth 20000
namespace Go.Proofs.YtnlbjknfahhfaaaGreatDoor
open Go.RowKit
attribute [local go_sem] ByteArray.extract_mk no_at

/-- what is ahead of the first such byte, and behind it -/
def cQ (x c : UInt8) : Bool := c == x
def cA (x : UInt8) (l : List UInt8) : List UInt8 := match spB (cQ x) l with | none => l | some (a, _, _) => a
def cB (x : UInt8) (l : List UInt8) : List UInt8 := match spB (cQ x) l with | none => [] | some (_, _, b) => b
def cS (x : UInt8) (l : List UInt8) : Bool := match spB (cQ x) l with | none => false | some _ => true
theorem byte_sp (x : UInt8) (l : List UInt8) : (spB (cQ x) l = none ∧ Lib.indexByte l x = -1) ∨ (∃ k : Nat, ∃ h : k < l.length, Lib.indexByte l x = k ∧ spB (cQ x) l = some (l.take k, l[k], l.drop (k + 1))) := by
  induction l with
  | nil => exact .inl ⟨rfl, rfl⟩
  | cons c l ih =>
    unfold Lib.indexByte
    simp only [spB]
    have e : (c == x) = cQ x c := rfl
    rw [e]
    cases hc : cQ x c with
    | true =>
      right
      exact ⟨0, by simp, by simp, by simp⟩
    | false =>
      rw [if_neg (by decide), if_neg (by decide)]
      rcases ih with ⟨h1, h2⟩ | ⟨k, hk, h1, h2⟩
      · left
        rw [h1, h2]
        exact ⟨rfl, rfl⟩
      · right
        refine ⟨k + 1, by simpa using hk, ?_, ?_⟩
        · rw [h1, if_neg (by simp)]
          omega
        · rw [h2]
          rfl
theorem rcut_le (x : UInt8) (l : List UInt8) : (cA x l).length ≤ l.length ∧ (cB x l).length ≤ l.length := by
  unfold cA cB
  rcases byte_sp x l with ⟨h1, _⟩ | ⟨k, hk, _, h2⟩
  · rw [h1]; exact ⟨Nat.le_refl _, Nat.zero_le _⟩
  · rw [h2]; dsimp only; exact ⟨by rw [List.length_take]; omega, by rw [List.length_drop]; omega⟩
theorem rc_wrap {n : Int} (h0 : -9223372036854775808 ≤ n) (h1 : n ≤ 9223372036854775807) : IntKind.i64.wrap n = n := by
  simp [IntKind.wrap, IntKind.bits, IntKind.signed]
  split <;> omega
set_option maxHeartbeats 2000000 in
theorem slCutX_f (x : UInt8) (l : List UInt8) (w : World) (hl : l.length ≤ 1099511627776) :
    Calls Tryz.prog 122 #[.string ⟨l.toArray⟩, .string ⟨#[x]⟩] w fun e w' => e = .returned (.tuple #[.string ⟨(cA x l).toArray⟩, .string ⟨(cB x l).toArray⟩, .bool (cS x l)]) ∧ ∃ n, w' = w.drewN n := by
  rcases byte_sp x l with ⟨h1, h2⟩ | ⟨k, hk, h1, h2⟩
  · have HA : Hid (cA x l = l ∧ cB x l = [] ∧ cS x l = false) := (by unfold cA cB cS; rw [h1]; exact ⟨rfl, rfl, rfl⟩)
    have HI : Hid (Lib.indexByte l x = -1) := h2
    clear h1 h2
    go_enter Tryz.func122, Tryz.ntmps122
    go_wp2_with fail
    refine (Tryz.stringslite_Index_one ⟨l.toArray⟩ x w).mono ?_
    rintro e w1 ⟨rfl, rfl⟩
    have e1 : Lib.indexByte (⟨l.toArray⟩ : ByteArray).data.toList x = -1 := HI.out
    rw [e1]
    clear e1
    go_wp2
    go_ret3
    obtain ⟨a1, a2, a3⟩ := HA.out
    rw [a1, a2, a3]
    exact ⟨rfl, 0, rfl⟩
  · have HA : Hid (cA x l = l.take k ∧ cB x l = l.drop (k + 1) ∧ cS x l = true) := (by unfold cA cB cS; rw [h2]; exact ⟨rfl, rfl, rfl⟩)
    have HI : Hid (Lib.indexByte l x = (k : Int)) := h1
    clear h1 h2
    go_enter Tryz.func122, Tryz.ntmps122
    go_wp2_with fail
    refine (Tryz.stringslite_Index_one ⟨l.toArray⟩ x w).mono ?_
    rintro e w1 ⟨rfl, rfl⟩
    have e1 : Lib.indexByte (⟨l.toArray⟩ : ByteArray).data.toList x = (k : Int) := HI.out
    rw [e1]
    clear e1
    have i1 : (0 : Int) ≤ (k : Int) := by omega
    have i2 : (k : Int) ≤ (l.length : Int) := by omega
    have i3 : (k : Int) + 1 ≤ (l.length : Int) := by omega
    have i4 : (0 : Int) ≤ (k : Int) + 1 := by omega
    have i5 : IntKind.i64.wrap ((k : Int) + 1) = (k : Int) + 1 := rc_wrap (by omega) (by omega)
    have i6 : ((k : Int) + 1).toNat = k + 1 := by omega
    go_wp2_with fail
    go_quiet (fail)
    go_wp2
    go_ret3
    obtain ⟨a1, a2, a3⟩ := HA.out
    rw [a1, a2, a3]
    have k5 : (l.drop (k + 1)).take (l.length - (k + 1)) = l.drop (k + 1) := List.take_of_length_le (by simp)
    exact ⟨by simp [k5], _, rfl⟩
set_option maxHeartbeats 1000000 in
theorem cutX_f (x : UInt8) (l : List UInt8) (w : World) (hl : l.length ≤ 1099511627776) :
    Calls Tryz.prog 92 #[.string ⟨l.toArray⟩, .string ⟨#[x]⟩] w fun e w' => e = .returned (.tuple #[.string ⟨(cA x l).toArray⟩, .string ⟨(cB x l).toArray⟩, .bool (cS x l)]) ∧ ∃ n, w' = w.drewN n := by
  go_enter Tryz.func92, Tryz.ntmps92
  go_wp2_with fail
  refine (slCutX_f x l w hl).mono ?_
  rintro e w1 ⟨rfl, n, rfl⟩
  go_wp2
  go_ret3
  exact ⟨rfl, n, rfl⟩
/-- the two boxes that the closure shares -/
structure Nb (w : World) (g h : Nat) (rest : List UInt8) (rt : Bool) (u : World) : Prop where
  rb : u.heap[g]? = some (.cells #[.string ⟨rest.toArray⟩] 9)
  bb : u.heap[h]? = some (.cells #[.bool rt] 4)
  low : Below w.heap.size w u
  lg : w.heap.size ≤ g
  lh : w.heap.size ≤ h
theorem Nb.keep {w u u' : World} {g h : Nat} {rest : List UInt8} {rt : Bool} (q : Nb w g h rest rt u) (hb : Below u.heap.size u u') : Nb w g h rest rt u' :=
  ⟨(hb.block g (Array.getElem?_eq_some_iff.1 q.rb).1).trans q.rb, (hb.block h (Array.getElem?_eq_some_iff.1 q.bb).1).trans q.bb, q.low.trans (hb.mono q.low.size), q.lg, q.lh⟩
theorem Nb.ne {w u : World} {g h : Nat} {rest : List UInt8} {rt : Bool} (q : Nb w g h rest rt u) : g ≠ h := by
  intro e
  have h1 := q.rb
  rw [e, q.bb] at h1
  simp at h1
theorem Nb.cells {w u : World} {g h : Nat} {rest : List UInt8} {rt : Bool} (q : Nb w g h rest rt u) : u.cell? ⟨g, 0, none⟩ = some (.string ⟨rest.toArray⟩) ∧ u.cell? ⟨h, 0, none⟩ = some (.bool rt) := by
  refine ⟨?_, ?_⟩
  · rw [Lib.cell_of_heap q.rb]; rfl
  · rw [Lib.cell_of_heap q.bb]; rfl
theorem Nb.frozen {w u : World} {g h : Nat} {rest : List UInt8} {rt : Bool} (q : Nb w g h rest rt u) : u.frozen? ⟨g, 0, none⟩ = false ∧ u.frozen? ⟨h, 0, none⟩ = false := ⟨Lib.frozen_of_heap q.rb 0, Lib.frozen_of_heap q.bb 0⟩
theorem Nb.setB {w u : World} {g h : Nat} {rest : List UInt8} {rt : Bool} (q : Nb w g h rest rt u) (z : Bool) : Nb w g h rest z (u.setCell ⟨h, 0, none⟩ (.bool z)) := by
  refine ⟨(heap_setCell_other _ _ _ _ q.ne).trans q.rb, heap_setCell_same u h 0 _ _ _ q.bb, q.low.setCell q.lh _, q.lg, q.lh⟩
theorem Nb.setR {w u : World} {g h : Nat} {rest : List UInt8} {rt : Bool} (q : Nb w g h rest rt u) (z : List UInt8) : Nb w g h z rt (u.setCell ⟨g, 0, none⟩ (.string ⟨z.toArray⟩)) := by
  refine ⟨heap_setCell_same u g 0 _ _ _ q.rb, (heap_setCell_other _ _ _ _ q.ne.symm).trans q.bb, q.low.setCell q.lg _, q.lg, q.lh⟩
set_option maxRecDepth 10000 in
set_option maxHeartbeats 4000000 in
theorem number_f (w : World) (g h : Nat) (rest : List UInt8) (rt : Bool) (x : UInt8) (u : World) (q : Nb w g h rest rt u) (hl : rest.length ≤ 1099511627776) (V E : Int) (HV : Hid (Pn.parseV (cA x rest) = V)) (HE : Hid (Pn.parseE (cA x rest) = E)) (R : Bool) (HR : Hid ((rt && cS x rest && decide (E = 0)) = R)) :
    Calls Tryz.prog 91 #[.string ⟨#[x]⟩, .pointer (some ⟨g, 0, none⟩), .pointer (some ⟨h, 0, none⟩)] u fun e w' => e = .returned (.int .i64 V) ∧ Nb w g h (cB x rest) R w' := by
  have hle := (rcut_le x rest).1
  have hC := cutX_f x rest u hl
  have hP := fun u : World => nParse_any (cA x rest) u (by unfold maxLen; omega)
  rw [HV.out, HE.out] at hP
  obtain ⟨a1, ha1⟩ : ∃ z, cA x rest = z := ⟨_, rfl⟩
  obtain ⟨b1, hb1⟩ : ∃ z, cB x rest = z := ⟨_, rfl⟩
  obtain ⟨s1, hs1⟩ : ∃ z, cS x rest = z := ⟨_, rfl⟩
  rw [ha1] at hC hP
  rw [hb1] at hC ⊢
  rw [hs1] at hC HR
  clear ha1 hb1 hs1 HV HE hle
  obtain ⟨c0, _⟩ := q.cells
  go_enter Tryz.func91, Tryz.ntmps91
  go_wp2_with fail
  refine hC.mono ?_
  rintro e w1 ⟨rfl, n, rfl⟩
  have q1 : Nb w g h rest rt (u.drewN n) := q.keep (Below.dN (Below.refl _ u) n)
  generalize u.drewN n = w1 at q1 ⊢
  clear q c0 hC
  go_wp2_with fail
  refine (hP w1).mono ?_
  rintro e w2 ⟨rfl, hb2⟩
  have q2 := q1.keep hb2
  clear q1 hb2
  obtain ⟨_, c2⟩ := q2.cells
  obtain ⟨_, f2⟩ := q2.frozen
  have q3 := q2.setB R
  obtain ⟨c3, _⟩ := q3.cells
  obtain ⟨f3, _⟩ := q3.frozen
  have q4 := q3.setR b1
  have HQ : Hid (Nb w g h b1 R ((w2.setCell ⟨h, 0, none⟩ (.bool R)).setCell ⟨g, 0, none⟩ (.string ⟨b1.toArray⟩))) := q4
  clear q2 q3 q4
  cases rt with
  | false =>
    have hR : R = false := (by rw [← HR.out]; rfl)
    subst hR
    clear HR
    go_wp2
    go_ret
    exact ⟨rfl, HQ.out⟩
  | true =>
    cases s1 with
    | false =>
      have hR : R = false := (by rw [← HR.out]; rfl)
      subst hR
      clear HR
      go_wp2
      go_ret
      exact ⟨rfl, HQ.out⟩
    | true =>
      by_cases hE : E = 0
      · have hR : R = true := (by rw [← HR.out]; simp [hE])
        have e1 : (E == 0) = true := by rw [hE]; rfl
        subst hR
        clear HR hE
        go_wp2
        go_ret
        exact ⟨rfl, HQ.out⟩
      · have hR : R = false := (by rw [← HR.out]; simp [hE])
        have e1 : (E == 0) = false := beq_eq_false_iff_ne.2 hE
        subst hR
        clear HR hE
        go_wp2
        go_ret
        exact ⟨rfl, HQ.out⟩
end Go.Proofs.YtnlbjknfahhfaaaGreatDoor

/- The code's commandFrom of layer 14, walked: what a line says. -/
set_option maxRecDepth 20000
namespace Go.Proofs.YtnlbjknfahhfaaaGreatDoor
open Go.RowKit
attribute [local go_sem] ByteArray.extract_mk no_at

theorem spB_snoc {q : UInt8 → Bool} {z : UInt8} (hz : q z = false) (s : List UInt8) : spB q (s ++ [z]) = match spB q s with | none => none | some (a, d, b) => some (a, d, b ++ [z]) := by
  induction s with
  | nil => simp [spB, hz]
  | cons c s ih =>
    simp only [List.cons_append, spB]
    cases hc : q c with
    | true => simp
    | false =>
      rw [if_neg (by decide), if_neg (by decide), ih]
      cases spB q s with
      | none => rfl
      | some x => rfl
theorem spB_mem {q : UInt8 → Bool} : ∀ {s a b : List UInt8} {d : UInt8}, spB q s = some (a, d, b) → ∀ e ∈ b, e ∈ s
  | [], a, b, d, h => by cases h
  | c :: s, a, b, d, h => by
    simp only [spB] at h
    split at h
    · cases h
      intro e he
      exact List.mem_cons_of_mem _ he
    · split at h
      · cases h
      · rename_i a' d' b' h'
        cases h
        intro e he
        exact List.mem_cons_of_mem _ (spB_mem h' e he)
/-- the numbers that the code finds, and whether all is right -/
def rk1 (t : List UInt8) : List UInt8 := cA 32 t
def rk2 (t : List UInt8) : List UInt8 := cA 10 (cB 32 t)
def rkR (t : List UInt8) : Bool := (true && cS 32 t && decide (Pn.parseE (rk1 t) = 0)) && cS 10 (cB 32 t) && decide (Pn.parseE (rk2 t) = 0)
def rcmK (c : UInt8) (t : List UInt8) : Option (Bool × Nat × Nat) := if rkR t = true ∧ Pn.parseV (rk2 t) ≠ 0 then if c = 97 then some (true, (Pn.parseV (rk1 t)).toNat, (Pn.parseV (rk2 t)).toNat) else if c = 100 ∧ 0 < Pn.parseV (rk1 t) then some (false, (Pn.parseV (rk1 t) - 1).toNat, (Pn.parseV (rk2 t)).toNat) else none else none
theorem fd_cons {c : UInt8} {t : List UInt8} (h : t ≠ []) : fdB (c :: t) = fdB t := by
  cases t with
  | nil => exact absurd rfl h
  | cons d t => simp [fdB]
theorem rcm_code {c : UInt8} {t : List UInt8} (hl : ∀ d ∈ (c :: t).dropLast, d ≠ 10) : rcmF (c :: t) = rcmK c t := by
  have eW : isW = cQ 32 := rfl
  by_cases h0 : t = []
  · subst h0
    have e : rcmK c [] = none := by
      unfold rcmK
      rw [if_neg (fun q => by have := q.1; simp [rkR, cS, spB] at this)]
    rw [e]
    unfold rcmF
    split <;> rfl
  · rw [List.dropLast_cons_of_ne_nil h0] at hl
    unfold rcmF
    rw [fd_cons h0]
    cases hf : fdB t with
    | true =>
      rw [if_pos rfl, List.dropLast_cons_of_ne_nil h0]
      have ht := fd_form hf
      obtain ⟨s, hs⟩ : ∃ s, t.dropLast = s := ⟨_, rfl⟩
      rw [hs] at ht hl ⊢
      have hs10 : ∀ d ∈ s, d ≠ 10 := fun d hd => hl d (List.mem_cons_of_mem _ hd)
      have hsp : spB (cQ 32) t = match spB (cQ 32) s with | none => none | some (a, d, b) => some (a, d, b ++ [10]) := by
        rw [ht]
        exact spB_snoc (by decide) s
      unfold rcmP
      dsimp only
      rw [eW]
      cases hq : spB (cQ 32) s with
      | none =>
        rw [hq] at hsp
        unfold rcmK
        rw [if_neg (fun q => by have := q.1; simp [rkR, cS, hsp] at this)]
      | some x =>
        obtain ⟨a, d, b⟩ := x
        rw [hq] at hsp
        dsimp only at hsp ⊢
        have hb10 : ∀ e ∈ b, cQ 10 e = false := fun e he => by
          unfold cQ
          rw [beq_eq_false_iff_ne]
          exact hs10 e (spB_mem hq e he)
        have h10 : spB (cQ 10) (b ++ [10]) = some (b, 10, []) := spB_app hb10 (by decide)
        have e1 : rk1 t = a := by unfold rk1 cA; rw [hsp]
        have e2 : cB 32 t = b ++ [10] := by unfold cB; rw [hsp]
        have e3 : rk2 t = b := by unfold rk2 cA; rw [e2, h10]
        have e4 : rkR t = (decide (Pn.parseE a = 0) && decide (Pn.parseE b = 0)) := by
          unfold rkR
          rw [e1, e3, e2]
          unfold cS
          rw [hsp, h10]
          simp
        have b2 := @prs_num b
        unfold rcmK
        rw [e4, e1, e3]
        by_cases hg : Pn.parseE a = 0 ∧ Pn.parseE b = 0 ∧ 0 < Pn.parseV b
        · have hg2 : (decide (Pn.parseE a = 0) && decide (Pn.parseE b = 0)) = true ∧ Pn.parseV b ≠ 0 := ⟨by simp [hg.1, hg.2.1], by omega⟩
          rw [if_pos hg, if_pos hg2]
        · rw [if_neg hg, if_neg (fun q => hg (by
            have q1 := q.1
            simp only [Bool.and_eq_true, decide_eq_true_eq] at q1
            exact ⟨q1.1, q1.2, by omega⟩))]
    | false =>
      rw [if_neg (by decide)]
      have ht10 : ∀ d ∈ t, d ≠ 10 := by
        intro d hd e
        subst e
        rcases List.eq_nil_or_concat t with rfl | ⟨s, y, rfl⟩
        · exact h0 rfl
        · rw [List.concat_eq_append] at hd hf hl
          rw [List.dropLast_concat] at hl
          rcases List.mem_append.1 hd with hd | hd
          · exact hl 10 (List.mem_cons_of_mem _ hd) rfl
          · have : y = 10 := (List.mem_singleton.1 hd).symm
            subst this
            rw [fd_snoc] at hf
            cases hf
      have hb : cS 10 (cB 32 t) = false := by
        have hn : spB (cQ 10) (cB 32 t) = none := spB_none (fun e he => by
          unfold cQ
          rw [beq_eq_false_iff_ne]
          unfold cB at he
          cases hq : spB (cQ 32) t with
          | none => rw [hq] at he; cases he
          | some x =>
            obtain ⟨a, d, b⟩ := x
            rw [hq] at he
            exact ht10 e (spB_mem hq e he))
        unfold cS
        rw [hn]
      unfold rcmK
      rw [if_neg (fun q => by have := q.1; simp [rkR, hb] at this)]
/-- how commandFrom ends -/
def RcmQ (w : World) (r : Option (Bool × Nat × Nat)) (e : Ending) (w' : World) : Prop := Below w.heap.size w w' ∧ match r with
  | none => e = .returned (.tuple #[.agg #[.int .i64 0, .int .i64 0, .int .i64 0], .bool false])
  | some (true, ah, n) => e = .returned (.tuple #[.agg #[.int .i64 (ah : Int), .int .i64 0, .int .i64 (n : Int)], .bool true])
  | some (false, ah, n) => e = .returned (.tuple #[.agg #[.int .i64 (ah : Int), .int .i64 (n : Int), .int .i64 0], .bool true])
theorem rc_tail1 (c : UInt8) (t : List UInt8) (u : World) : (Instr.slice 9 (.string ⟨(c :: t).toArray⟩) (some (.int .i64 1)) none none).run Tryz.prog u = .ok (.string ⟨t.toArray⟩) u := by
  rw [run_slice_string_l (P := Tryz.prog) u 9 ⟨(c :: t).toArray⟩ Tryz.underlying9 .i64 1 (by decide) (by show (1 : Int) ≤ ((t.length + 1 : Nat) : Int); omega)]
  have hs : (⟨(c :: t).toArray⟩ : ByteArray).size = t.length + 1 := rfl
  rw [hs, ByteArray.extract_mk]
  simp
theorem rc_head1 (c : UInt8) (t : List UInt8) (u : World) : (Instr.slice 9 (.string ⟨(c :: t).toArray⟩) none (some (.int .i64 1)) none).run Tryz.prog u = .ok (.string ⟨#[c]⟩) u := by
  rw [run_slice_string_h (P := Tryz.prog) u 9 ⟨(c :: t).toArray⟩ Tryz.underlying9 .i64 1 (by decide) (by show (1 : Int) ≤ ((t.length + 1 : Nat) : Int); omega)]
  rw [ByteArray.extract_mk]
  simp
/-- a command in a box -/
def Rcb (u : World) (B : Nat) (v0 v1 v2 : Value) : Prop := u.heap[B]? = some (.cells #[v0, v1, v2] 128 (0, 0))
section
variable {u u' : World} {B : Nat} {v0 v1 v2 : Value}
theorem Rcb.lt (h : Rcb u B v0 v1 v2) : B < u.heap.size := (Array.getElem?_eq_some_iff.1 h).1
theorem Rcb.low (h : Rcb u B v0 v1 v2) {N : Nat} (hg : Below N u u') (hN : B < N) : Rcb u' B v0 v1 v2 := (hg.block B hN).trans h
theorem Rcb.cells (h : Rcb u B v0 v1 v2) : u.cell? ⟨B, 0, none⟩ = some v0 ∧ u.cell? ⟨B, 1, none⟩ = some v1 ∧ u.cell? ⟨B, 2, none⟩ = some v2 := by
  unfold Rcb at h
  exact ⟨by rw [Lib.cell_of_heap h]; rfl, by rw [Lib.cell_of_heap h]; rfl, by rw [Lib.cell_of_heap h]; rfl⟩
theorem Rcb.frozen (h : Rcb u B v0 v1 v2) (j : Nat) : u.frozen? ⟨B, j, none⟩ = false := by
  unfold Rcb at h
  simp [World.frozen?, h]
theorem Rcb.put (h : Rcb u B v0 v1 v2) (z0 z1 z2 : Value) : Rcb (((u.setCell ⟨B, 0, none⟩ z0).setCell ⟨B, 1, none⟩ z1).setCell ⟨B, 2, none⟩ z2) B z0 z1 z2 := by
  have s1 := heap_setCell_same u B 0 _ _ z0 h
  have s2 := heap_setCell_same _ B 1 _ _ z1 s1
  exact heap_setCell_same _ B 2 _ _ z2 s2
end
theorem rcb_low {w u : World} (h : Below w.heap.size w u) (z0 z1 z2 : Value) : Below w.heap.size w (((u.setCell ⟨w.heap.size, 0, none⟩ z0).setCell ⟨w.heap.size, 1, none⟩ z1).setCell ⟨w.heap.size, 2, none⟩ z2) :=
  ((h.setCell (Nat.le_refl _) _).setCell (Nat.le_refl _) _).setCell (Nat.le_refl _) _
theorem rcr_cell {P : Program} {fn : Func} {p q : Tmp} {ty : TypeId} (h : fn.results = #[.cell p ty, .tmp q]) (tmps : Array Value) (w : World) (g : Nat) (t : TypeId) (cs : Array Value) (fr : Nat × Nat) (d : TypeDesc)
    (hp : tmps.getD p undef = .pointer (some ⟨g, 0, none⟩)) (hg : w.heap[g]? = some (.cells cs t fr))
    (hu : P.underlying ty = some d) (hd : (match d with | .struct _ | .array _ _ => true | _ => false) = true) (hi : (P.info? ty).map (·.size) = some cs.size) :
    (results fn tmps).run P w = .ok (.tuple #[.agg cs, tmps.getD q undef]) w := by
  have hp' : tmps[p]?.getD undef = .pointer (some ⟨g, 0, none⟩) := by simpa using hp
  simp [results, h, hp', asAddr, run_loadVar_row w g t ty cs fr d hg hu hd hi]
theorem nb_new (w : World) (t : List UInt8) : Nb w w.heap.size (w.heap.size + 1) t true ((w.alloc (.cells #[.string ⟨t.toArray⟩] 9)).alloc (.cells #[.bool true] 4)).drew := by
  have b1 : Below w.heap.size w (w.alloc (.cells #[.string ⟨t.toArray⟩] 9)) := (Below.refl _ w).alloc (Nat.le_refl _) _
  have h1 := heap_alloc_new w (.cells #[.string ⟨t.toArray⟩] 9)
  have b2 : Below (w.alloc (.cells #[.string ⟨t.toArray⟩] 9)).heap.size (w.alloc (.cells #[.string ⟨t.toArray⟩] 9)) ((w.alloc (.cells #[.string ⟨t.toArray⟩] 9)).alloc (.cells #[.bool true] 4)) := (Below.refl _ _).alloc (Nat.le_refl _) _
  have h2 := heap_alloc_new (w.alloc (.cells #[.string ⟨t.toArray⟩] 9)) (.cells #[.bool true] 4)
  rw [World.size_alloc] at h2
  exact ⟨(b2.block _ (by rw [World.size_alloc]; omega)).trans h1, h2, (b1.trans (b2.mono b1.size)).drew, Nat.le_refl _, by omega⟩
theorem nb_new2 (w : World) (t : List UInt8) : Nb w (w.heap.size + 1) w.heap.size t true ((w.alloc (.cells #[.bool true] 4)).alloc (.cells #[.string ⟨t.toArray⟩] 9)).drew := by
  have b1 : Below w.heap.size w (w.alloc (.cells #[.bool true] 4)) := (Below.refl _ w).alloc (Nat.le_refl _) _
  have h1 := heap_alloc_new w (.cells #[.bool true] 4)
  have b2 : Below (w.alloc (.cells #[.bool true] 4)).heap.size (w.alloc (.cells #[.bool true] 4)) ((w.alloc (.cells #[.bool true] 4)).alloc (.cells #[.string ⟨t.toArray⟩] 9)) := (Below.refl _ _).alloc (Nat.le_refl _) _
  have h2 := heap_alloc_new (w.alloc (.cells #[.bool true] 4)) (.cells #[.string ⟨t.toArray⟩] 9)
  rw [World.size_alloc] at h2
  exact ⟨h2, (b2.block _ (by rw [World.size_alloc]; omega)).trans h1, (b1.trans (b2.mono b1.size)).drew, by omega, Nat.le_refl _⟩
set_option maxRecDepth 10000 in
set_option maxHeartbeats 8000000 in
theorem rcFrom_f (c : UInt8) (t : List UInt8) (w : World) (hl : t.length ≤ 1099511627776) (r : Option (Bool × Nat × Nat)) (HR : Hid (rcmK c t = r)) :
    Calls Tryz.prog 63 #[.string ⟨(c :: t).toArray⟩] w fun e w' => RcmQ w r e w' := by
  have hs1 := rc_head1 c t
  have hs2 := rc_tail1 c t
  obtain ⟨L, hL⟩ : ∃ L, (c :: t).toArray = L := ⟨_, rfl⟩
  rw [hL] at hs1 hs2 ⊢
  clear hL
  have b1 := @prs_num (rk1 t)
  have b2 := @prs_num (rk2 t)
  obtain ⟨V1, hV1⟩ : ∃ V, Pn.parseV (rk1 t) = V := ⟨_, rfl⟩
  obtain ⟨V2, hV2⟩ : ∃ V, Pn.parseV (rk2 t) = V := ⟨_, rfl⟩
  obtain ⟨E1, hE1⟩ : ∃ V, Pn.parseE (rk1 t) = V := ⟨_, rfl⟩
  obtain ⟨E2, hE2⟩ : ∃ V, Pn.parseE (rk2 t) = V := ⟨_, rfl⟩
  obtain ⟨R1, hR1⟩ : ∃ R, (true && cS 32 t && decide (E1 = 0)) = R := ⟨_, rfl⟩
  obtain ⟨R2, hR2⟩ : ∃ R, (R1 && cS 10 (cB 32 t) && decide (E2 = 0)) = R := ⟨_, rfl⟩
  have HK : Hid ((if R2 = true ∧ V2 ≠ 0 then if c = 97 then some (true, V1.toNat, V2.toNat) else if c = 100 ∧ 0 < V1 then some (false, (V1 - 1).toNat, V2.toNat) else none else none) = r) := (by
    show _ = _
    rw [← HR.out]
    unfold rcmK rkR
    rw [hV1, hV2, hE1, hE2, hR1, hR2])
  have HV1 : Hid (Pn.parseV (cA 32 t) = V1) := hV1
  have HV2 : Hid (Pn.parseV (cA 10 (cB 32 t)) = V2) := hV2
  have HE1 : Hid (Pn.parseE (cA 32 t) = E1) := hE1
  have HE2 : Hid (Pn.parseE (cA 10 (cB 32 t)) = E2) := hE2
  have HR1 : Hid ((true && cS 32 t && decide (E1 = 0)) = R1) := hR1
  have HR2 : Hid ((R1 && cS 10 (cB 32 t) && decide (E2 = 0)) = R2) := hR2
  have hle := (rcut_le 32 t).2
  rw [hV1] at b1
  rw [hV2] at b2
  clear hV1 hV2 hE1 hE2 hR1 hR2 HR
  have hb0 : Below w.heap.size w (w.alloc (.cells #[.int .i64 0, .int .i64 0, .int .i64 0] 128)) := (Below.refl _ w).alloc (Nat.le_refl _) _
  have hc0 : Rcb (w.alloc (.cells #[.int .i64 0, .int .i64 0, .int .i64 0] 128)) w.heap.size (.int .i64 0) (.int .i64 0) (.int .i64 0) := _root_.Go.heap_alloc_new w _
  have hsz : (w.alloc (.cells #[.int .i64 0, .int .i64 0, .int .i64 0] 128)).heap.size = w.heap.size + 1 := World.size_alloc _ _
  go_enter Tryz.func63, Tryz.ntmps63
  go_upto_region 1 with fail
  generalize w.alloc (.cells #[.int .i64 0, .int .i64 0, .int .i64 0] 128) = W at hb0 hc0 hsz ⊢
  go_cut [4, 5, 6] (fun x p q wz => x = .string ⟨#[c]⟩ ∧ ∃ g h, p = .pointer (some ⟨g, 0, none⟩) ∧ q = .pointer (some ⟨h, 0, none⟩) ∧ Nb W g h t true wz)
  case first =>
    go_region
    · go_wp2
      go_meet
      exact ⟨rfl, _, _, rfl, rfl, by rw [← hsz]; exact nb_new W t⟩
    · go_wp2
      go_meet
      exact ⟨rfl, _, _, rfl, rfl, by rw [← hsz]; exact nb_new2 W t⟩
  case rest =>
    obtain ⟨rfl, g, h, rfl, rfl, hq⟩ := hcut
    have hl1 : (cB 32 t).length ≤ 1099511627776 := by omega
    go_wp2_with fail
    refine (number_f W g h t true 32 wc hq hl V1 E1 HV1 HE1 R1 HR1).mono ?_
    rintro e w1 ⟨rfl, hq1⟩
    obtain ⟨t1, ht1⟩ : ∃ z, cB 32 t = z := ⟨_, rfl⟩
    rw [ht1] at hq1 hl1 HV2 HE2 HR2
    clear ht1 hq HV1 HE1 HR1 hle
    go_wp2_with fail
    refine (number_f W g h t1 R1 10 w1 hq1 hl1 V2 E2 HV2 HE2 R2 HR2).mono ?_
    rintro e w2 ⟨rfl, hq2⟩
    have hc2 : Rcb w2 w.heap.size (.int .i64 0) (.int .i64 0) (.int .i64 0) := hc0.low hq2.low (by omega)
    have hlow := hb0.trans (hq2.low.mono hb0.size)
    obtain ⟨_, d⟩ := hq2.cells
    obtain ⟨c0, c1, c2⟩ := hc2.cells
    have f0 := hc2.frozen 0
    have f1 := hc2.frozen 1
    have f2 := hc2.frozen 2
    clear hq1 hq2 HV2 HE2 HR2 hc0 hb0
    have hk := HK.out
    clear HK
    cases R2 with
    | false =>
      rw [if_neg (fun q => by cases q.1)] at hk
      subst hk
      have hP := hc2.put (.int .i64 0) (.int .i64 0) (.int .i64 0)
      go_wp2
      refine bodyPost_ret (rcr_cell rfl _ _ w.heap.size 128 #[(.int .i64 0), (.int .i64 0), (.int .i64 0)] (0, 0) _ rfl hP Tryz.underlying128 rfl (by kernel_rfl)) rfl ?_
      exact ⟨rcb_low hlow _ _ _, rfl⟩
    | true =>
      by_cases h2 : V2 = 0
      · rw [if_neg (fun q => q.2 h2)] at hk
        subst hk
        have e2 : (V2 == 0) = true := by rw [h2]; rfl
        have hP := hc2.put (.int .i64 0) (.int .i64 0) (.int .i64 0)
        go_wp2
        refine bodyPost_ret (rcr_cell rfl _ _ w.heap.size 128 #[(.int .i64 0), (.int .i64 0), (.int .i64 0)] (0, 0) _ rfl hP Tryz.underlying128 rfl (by kernel_rfl)) rfl ?_
        exact ⟨rcb_low hlow _ _ _, rfl⟩
      · rw [if_pos ⟨rfl, h2⟩] at hk
        have e2 : (V2 == 0) = false := beq_eq_false_iff_ne.2 h2
        obtain ⟨m, rfl⟩ := Int.eq_ofNat_of_zero_le (by omega : 0 ≤ V2)
        rw [Int.toNat_natCast] at hk
        by_cases h97 : c = 97
        · rw [if_pos h97] at hk
          obtain ⟨n, rfl⟩ := Int.eq_ofNat_of_zero_le (by omega : 0 ≤ V1)
          rw [Int.toNat_natCast] at hk
          subst hk
          subst h97
          have hP := hc2.put (.int .i64 (n : Int)) (.int .i64 0) (.int .i64 (m : Int))
          go_wp2
          refine bodyPost_ret (rcr_cell rfl _ _ w.heap.size 128 #[(.int .i64 (n : Int)), (.int .i64 0), (.int .i64 (m : Int))] (0, 0) _ rfl hP Tryz.underlying128 rfl (by kernel_rfl)) rfl ?_
          exact ⟨rcb_low hlow _ _ _, rfl⟩
        · rw [if_neg h97] at hk
          have e3 : (c == 97) = false := beq_eq_false_iff_ne.2 h97
          have e4 : ([c] == [97]) = false := beq_eq_false_iff_ne.2 (by simpa using h97)
          by_cases h100 : c = 100
          · subst h100
            by_cases h1 : 0 < V1
            · rw [if_pos ⟨rfl, h1⟩] at hk
              obtain ⟨n, hn⟩ := Int.eq_ofNat_of_zero_le (by omega : 0 ≤ V1 - 1)
              have hw : IntKind.i64.wrap (V1 - 1) = (n : Int) := by rw [← hn]; exact rc_wrap (by omega) (by omega)
              rw [hn, Int.toNat_natCast] at hk
              subst hk
              have hn2 : V1 = (n : Int) + 1 := by omega
              subst hn2
              clear hn
              rw [Int.add_sub_cancel] at hw
              have hP := hc2.put (.int .i64 (n : Int)) (.int .i64 (m : Int)) (.int .i64 0)
              go_wp2
              refine bodyPost_ret (rcr_cell rfl _ _ w.heap.size 128 #[(.int .i64 (n : Int)), (.int .i64 (m : Int)), (.int .i64 0)] (0, 0) _ rfl hP Tryz.underlying128 rfl (by kernel_rfl)) rfl ?_
              exact ⟨rcb_low hlow _ _ _, rfl⟩
            · rw [if_neg (fun q => h1 q.2)] at hk
              subst hk
              have hP := hc2.put (.int .i64 0) (.int .i64 0) (.int .i64 0)
              go_wp2
              refine bodyPost_ret (rcr_cell rfl _ _ w.heap.size 128 #[(.int .i64 0), (.int .i64 0), (.int .i64 0)] (0, 0) _ rfl hP Tryz.underlying128 rfl (by kernel_rfl)) rfl ?_
              exact ⟨rcb_low hlow _ _ _, rfl⟩
          · rw [if_neg (fun q => h100 q.1)] at hk
            subst hk
            have e5 : (c == 100) = false := beq_eq_false_iff_ne.2 h100
            have e6 : ([c] == [100]) = false := beq_eq_false_iff_ne.2 (by simpa using h100)
            have hP := hc2.put (.int .i64 0) (.int .i64 0) (.int .i64 0)
            go_wp2
            refine bodyPost_ret (rcr_cell rfl _ _ w.heap.size 128 #[(.int .i64 0), (.int .i64 0), (.int .i64 0)] (0, 0) _ rfl hP Tryz.underlying128 rfl (by kernel_rfl)) rfl ?_
            exact ⟨rcb_low hlow _ _ _, rfl⟩
end Go.Proofs.YtnlbjknfahhfaaaGreatDoor

/- The reference's reader of lines, walked: its place, its first fault; the next line. -/
set_option maxRecDepth 20000
namespace Go.Proofs.YtnlbjknfahhfaaaGreatDoor
open Go.RowKit

section
variable {u u' : World} {R : Nat} {vL : Value} {p fa fe : Int}
end
theorem grown_two {w u v : World} {r : Option Nat} (h : w.grownBy u r) (h' : u.grownBy v r) : w.grownBy v r :=
  ⟨h'.os.trans h.os, h'.tape.trans h.tape, h'.output.trans h.output, Nat.le_trans h.size h'.size, fun k hk hr => (h'.block k (Nat.lt_of_lt_of_le hk h.size) hr).trans (h.block k hk hr)⟩
theorem nxt_drop {L : List (List UInt8)} {p : Nat} (hp : p < L.length) : nxt p (L.drop p) = if fdB L[p] = true then .ok (L[p].dropLast, L.drop (p + 1)) else .error (p + 1, 3) := by
  rw [List.drop_eq_getElem_cons hp]
  rfl
theorem nxt_end {L : List (List UInt8)} {p : Nat} (hp : L.length ≤ p) : nxt p (L.drop p) = .error (p + 1, 1) := by
  rw [List.drop_eq_nil_of_le hp]
  rfl
end Go.Proofs.YtnlbjknfahhfaaaGreatDoor

/- The reference's reader, walked: does the next line begin with some bytes? -/
set_option maxRecDepth 20000
namespace Go.Proofs.YtnlbjknfahhfaaaGreatDoor
open Go.RowKit
attribute [local go_sem] ByteArray.extract_mk no_at

theorem pre_take (sg l : List UInt8) : sg.isPrefixOf l = (decide (sg.length ≤ l.length) && (l.take sg.length == sg)) := by
  rw [Bool.eq_iff_iff, List.isPrefixOf_iff_prefix, Bool.and_eq_true, decide_eq_true_eq, beq_iff_eq]
  constructor
  · rintro ⟨t, rfl⟩
    simp
  · rintro ⟨_, h⟩
    refine ⟨l.drop sg.length, ?_⟩
    have h2 := List.take_append_drop sg.length l
    rw [h] at h2
    exact h2
end Go.Proofs.YtnlbjknfahhfaaaGreatDoor

/- The reference's reader, walked: a line with a sign, behind which the mark may stand. -/
set_option maxRecDepth 20000
namespace Go.Proofs.YtnlbjknfahhfaaaGreatDoor
open Go.RowKit
attribute [local go_sem] ByteArray.extract_mk no_at

theorem HS.away {w w' : World} {R : Nat} {lo : Option Addr} {lc : Nat} {L : List (List UInt8)} (h : HS w (.slice lo L.length lc) L) (hg : w.grownBy w' (some R)) (hR : ∀ a, lo = some a → a.block ≠ R) : HS w' (.slice lo L.length lc) L := by
  rcases h with h | ⟨ad, c, hv, hnc, hc⟩
  · exact .inl h
  · refine .inr ⟨ad, c, hv, hnc, fun j u hj => ?_⟩
    cases hv
    have h1 := hc j u hj
    have hb : (ad.add j).block = ad.block := by unfold Addr.add; split <;> rfl
    have hlt := World.block_lt_of_cell? w _ h1
    rw [World.cell?_of_block (w := w) (hg.block _ hlt (fun e => hR ad rfl (by rw [← hb]; exact Option.some.inj e)))]
    exact h1
end Go.Proofs.YtnlbjknfahhfaaaGreatDoor

/- The code's reader of lines, walked: what is wrong is thrown; the next line; the line between. -/
set_option maxRecDepth 20000
namespace Go.Proofs.YtnlbjknfahhfaaaGreatDoor
open Go.RowKit
attribute [local go_sem] ByteArray.extract_mk no_at

/-- a fault -/
def fltO (a z : Int) : Obj := .cells #[.int .i64 a, .iface 26 (.int .i64 z)] 74
section
variable {u u' : World} {R : Nat} {vL : Value} {p : Int}
end
/-- what is wrong is thrown -/
def Thr (a z : Int) (x : Ending) (w' : World) : Prop := ∃ g, x = .panicked [{ v := .iface 72 (.pointer (some ⟨g, 0, none⟩)), recovered := false }] ∧ w'.heap[g]? = some (fltO a z)
/-- what a line that is read leaves behind -/
def LnQ (R : Nat) (_vL : Value) (_p : Nat) (X : Except (Nat × Int) (List UInt8 × List (List UInt8))) (w : World) (x : Ending) (w' : World) : Prop :=
  match X with
  | .error (a, e) => Thr (a : Int) e x w' ∧ w.grownBy w' (some R)
  | .ok (s, _) => x = .returned (.string ⟨(s ++ [10]).toArray⟩) ∧ ∃ n, w' = w.drewN n
theorem drop_feed {s : List UInt8} (h : fdB s = true) : s.dropLast ++ [10] = s := (fd_form h).symm
end Go.Proofs.YtnlbjknfahhfaaaGreatDoor

/- The code's runner of layer 14: its box, the rows that it holds; operations of a region, one by one. -/
set_option maxRecDepth 20000
namespace Go.Proofs.YtnlbjknfahhfaaaGreatDoor
open Go.RowKit

theorem rx_app {w w' : World} {T : TypeId} {v vx v' : Value} {op : Oper} (x y : Operand) (ho : op.op = .call { callee := .builtin .append, args := #[x, y], argTypes := #[T, T] }) {ev : Operand → Value} (hx : ev x = v) (hy : ev y = vx) (hr : (Builtin.append_ #[T, T] op.type #[v, vx]).run Tryz.prog w = .ok v' w') :
    (execOp ev op).run Tryz.prog w = .ok (.value v') w' := by
  simp [execOp, ho, resolve, invoke, builtin, hx, hy, hr, Result.andThen]
theorem rx_ld {u : World} {a : Addr} {o : Option Addr} {n c : Nat} (h : u.cell? a = some (.slice o n c)) {op : Oper} (x : Operand) (ho : op.op = .load 23 x) {ev : Operand → Value} (hx : ev x = .pointer (some a)) :
    (execOp ev op).run Tryz.prog u = .ok (.value (.slice o n c)) u := by
  simp only [execOp, ho, hx]
  go_simp
theorem rx_str {u : World} {a : Addr} {s : ByteArray} (h : u.cell? a = some (.string s)) {op : Oper} (x : Operand) (ho : op.op = .load 9 x) {ev : Operand → Value} (hx : ev x = .pointer (some a)) :
    (execOp ev op).run Tryz.prog u = .ok (.value (.string s)) u := by
  simp only [execOp, ho, hx]
  go_simp
theorem rx_ix {u : World} {b off n c i : Nat} (hi : i < n) {op : Oper} (x y : Operand) (ho : op.op = .indexAddr 23 x y) {ev : Operand → Value} (hx : ev x = .slice (some ⟨b, off, none⟩) n c) (hy : ev y = .int .i64 (i : Int)) :
    (execOp ev op).run Tryz.prog u = .ok (.value (.pointer (some ⟨b, off + i, none⟩))) u := by
  have i1 : 0 ≤ (i : Int) := by omega
  have i2 : (i : Int) < (n : Int) := by omega
  simp only [execOp, ho, hx, hy]
  go_simp
theorem rx_store {u : World} {b j : Nat} {v : Value} (hf : u.frozen? ⟨b, j, none⟩ = false) {o n c} (hc : u.cell? ⟨b, j, none⟩ = some (.slice o n c)) {o' n' c'} (hv : v = .slice o' n' c') {op : Oper} (x y : Operand) (ho : op.op = .store 23 x y) {ev : Operand → Value} (hx : ev x = .pointer (some ⟨b, j, none⟩)) (hy : ev y = v) :
    (execOp ev op).run Tryz.prog u = .ok .skip (u.setCell ⟨b, j, none⟩ v) := by
  subst hv
  simp only [execOp, ho, hx, hy]
  go_simp
theorem rx_sl {u : World} {ao ao' : Option Addr} {n cap n' c' : Nat} {p q : Int} (hr : ∀ u : World, (Instr.slice 23 (.slice ao n cap) (some (.int .i64 p)) (some (.int .i64 q)) none).run Tryz.prog u = .ok (.slice ao' n' c') u) {op : Oper} (x y z : Operand) (ho : op.op = .slice 23 x (some y) (some z) none) {ev : Operand → Value} (hx : ev x = .slice ao n cap) (hy : ev y = .int .i64 p) (hz : ev z = .int .i64 q) :
    (execOp ev op).run Tryz.prog u = .ok (.value (.slice ao' n' c')) u := by
  have h2 := run_sliceAt_slice (P := Tryz.prog) (w := u) 23 (.slice ao n cap) (some (.int .i64 p)) (some (.int .i64 q)) none (by kernel_rfl)
  simp only [execOp, ho, hx, hy, hz, Option.map_some, Option.map_none, Sem.run_bind, h2, hr, Result.andThen_ok, Sem.run_pure]
theorem rx_slL {u : World} {ao ao' : Option Addr} {n cap n' c' : Nat} {p : Int} (hr : ∀ u : World, (Instr.slice 23 (.slice ao n cap) (some (.int .i64 p)) none none).run Tryz.prog u = .ok (.slice ao' n' c') u) {op : Oper} (x y : Operand) (ho : op.op = .slice 23 x (some y) none none) {ev : Operand → Value} (hx : ev x = .slice ao n cap) (hy : ev y = .int .i64 p) :
    (execOp ev op).run Tryz.prog u = .ok (.value (.slice ao' n' c')) u := by
  have h2 := run_sliceAt_slice (P := Tryz.prog) (w := u) 23 (.slice ao n cap) (some (.int .i64 p)) none none (by kernel_rfl)
  simp only [execOp, ho, hx, hy, Option.map_some, Option.map_none, Sem.run_bind, h2, hr, Result.andThen_ok, Sem.run_pure]
/-- a call and a block that is made, whichever comes first -/
theorem rc_callVal {P : Program} {S : World → Prop} {md : Region.Mode} {ops : Array Oper} {Q : Exit → Act → World → Prop} {fuel : Nat} {listed : Array Bool} {A : Act} {w : World}
    (i d : Nat) (op : Oper) (j e : Nat) (oq : Oper) (hi : ops[i]? = some op) (hd : op.dst = some d) (hj : ops[j]? = some oq) (he : oq.dst = some e) (hr : Region.ready md ops listed = [i, j]) (hwt : Region.wanted op (yielded ops A.tmps) = true) (hwq : Region.wanted oq (yielded ops A.tmps) = true)
    (F : Nat) (x : Operand) (xs : Array Operand) (ts : Array TypeId) (ho : op.op = .call { callee := .value x, args := xs, argTypes := ts })
    (cap : Array Value) (hxv : A.eval x = .func (.func F) #[] cap) (args : Array Value) (hx : xs.map A.eval = args) (hen : ∀ args w, (callFunc F args).run P w = .ok (.enter F args) w) (R : Value → World → Prop)
    (hc : Calls P F (args ++ cap) w fun e w' => ∃ v, e = .returned v ∧ S w' ∧ R v w')
    (vq : Value) (wq : World) (hq : (execOp A.eval oq).run P w = .ok (.value vq) wq) (hS : S wq)
    (h : ∀ v w', S w' → R v w' → wpAnyH P md ops Q S fuel (listed.setIfInBounds i true) (A.put (some d) v) w')
    (h2 : wpAnyH P md ops Q S fuel (listed.setIfInBounds j true) (A.put (some e) vq) wq) :
    wpAnyH P md ops Q S (fuel + 1) listed A w := by
  refine wpAnyH_ready hr (by simp) (AllReadyH.cons hi (fun K hK => ?_) (AllReadyH.cons hj (fun K hK => ?_) AllReadyH.nil))
  · refine step_want hwt ?_
    unfold Oper.wp
    have e : (execOp A.eval op).run P w = .ok (.enter F (args ++ cap)) w := by
      have h1 := hen (args ++ cap) w
      simp only [execOp, ho, resolve, invoke]
      simp only [hxv, Deferred.ofValue, Sem.run_bind, Sem.run_pure, Result.andThen_ok, hx, Array.empty_append]
      exact h1
    rw [e, Oper.upon_enter]
    refine hc.mono ?_
    rintro e w' ⟨v, rfl, hb, hR⟩
    exact hK.out _ _ hb (fun hu => by rw [hd]; exact h v w' hu hR)
  · refine step_want hwq ?_
    unfold Oper.wp
    rw [hq, Oper.upon_value]
    exact hK.out _ _ hS (fun _ => by rw [he]; exact h2)

/-- append of a row of texts onto a row of one's own -/
theorem rc_append (w : World) (ty : TypeId) (base : Nat) (v : Value) (xs : List (List UInt8)) (hown : w.ownsRow base 9 1 v xs.length (scells xs)) (vx : Value) (ys : List (List UInt8)) (hh : HS w vx ys) (hk : xs.length + ys.length ≤ 4398046511104) (hbase : base ≤ w.heap.size) :
    ∃ v' w', (Builtin.append_ #[23, 23] ty #[v, vx]).run Tryz.prog w = .ok v' w' ∧ w'.ownsRow base 9 1 v' (xs ++ ys).length (scells (xs ++ ys)) ∧ w.grownBy w' v.ownBlock ∧ (v'.ownBlock = v.ownBlock ∨ v'.ownBlock = some w.heap.size) := by
  have hinfo : (Tryz.prog.info? 9).map (fun i => (i.zero, i.size, i.bytes)) = some (some (.string ⟨#[]⟩), 1, 16) := by kernel_rfl
  obtain ⟨i0, hi0, hz0, hzs, hz2⟩ := info_parts hinfo
  have hT : Tryz.prog.underlying 23 = some (.slice 9) := Tryz.underlying23
  rw [List.length_append, scells_append]
  rcases hh with ⟨rfl, h0, h1⟩ | ⟨ad, c, rfl, _, hc⟩
  · have e : ys = [] := List.eq_nil_of_length_eq_zero h0
    subst e
    exact ⟨v, w, run_append_owned_none (P := Tryz.prog) (w := w) base 23 ty 9 i0 1 hT hi0 v xs.length (scells xs) hown, by simpa [scells] using hown, World.grownBy.refl _ _, .inl rfl⟩
  · obtain ⟨v', w', hr, h2, h3, _, h5⟩ := run_append_own_at (P := Tryz.prog) w base 23 ty 9 i0 (.string ⟨#[]⟩) 1 16 hT hi0 hz0 hzs hz2 rfl (by decide) v xs.length (scells xs) hown ad ys.length c (scells ys) (by rw [scells_length, Nat.mul_one]) hc (scells_one ys) (by unfold maxLen; omega) (by omega) hbase
    exact ⟨v', w', hr, h2, h3, h5⟩
theorem rc_form {w : World} {B : Nat} {e : TypeId} {s n : Nat} {v : Value} {xs : List Value} (h : w.ownsRow B e s v n xs) : ∃ ao c, v = .slice ao n c := by
  rcases h.2 with ⟨rfl, rfl⟩ | ⟨g, cap, cur, q1, _⟩
  · exact ⟨_, _, rfl⟩
  · exact ⟨_, _, q1⟩
theorem rc_okept {u u' : World} {e : TypeId} {s B : Nat} {v : Value} {n : Nat} {xs : List Value} (ho : u.ownsRow B e s v n xs) {g : Nat} (hg : u.grownBy u' (some g)) (hB : g < B) : u'.ownsRow B e s v n xs := by
  refine ho.kept hg ?_
  cases hb : v.ownBlock with
  | none => exact .inl rfl
  | some j =>
    have := owns_ge ho hb
    exact .inr (fun q => by cases q; omega)
/-- x[:k] of a slice of texts -/
theorem rc_to (ao : Option Addr) (n cap k : Nat) (hk : k ≤ n) (hn : n ≤ cap) (u : World) : (Instr.slice 23 (.slice ao n cap) none (some (.int .i64 (k : Int))) none).run Tryz.prog u = .ok (.slice ao k cap) u := by
  rw [run_slice_h (P := Tryz.prog) u 23 ao n cap (by kernel_rfl) .i64 k (by omega) (by omega)]
  have : (sizeOf (Tryz.prog.elem 23)).run Tryz.prog u = .ok 1 u := by kernel_rfl
  rw [this]
  have hz : ∀ ad : Addr, ad.add 0 = ad := fun ad => by unfold Addr.add; split <;> simp_all
  cases ao with
  | none => simp [Result.andThen, sliced]
  | some ad => simp [Result.andThen, sliced, hz]
theorem rc_cap {w : World} {ao : Option Addr} {c : Nat} {L : List (List UInt8)} (h : HS w (.slice ao L.length c) L) : L.length ≤ c := by
  rcases h with ⟨h, h0, _⟩ | ⟨ad, c', h, h3, _⟩
  · omega
  · cases h; exact h3
theorem hs_to {w : World} {ao : Option Addr} {c k : Nat} {L : List (List UInt8)} (h : HS w (.slice ao L.length c) L) (hk : k ≤ L.length) : HS w (.slice ao k c) (L.take k) := by
  have hnc := rc_cap h
  have el : (L.take k).length = k := by rw [List.length_take]; omega
  unfold HS
  rw [el]
  rcases h with ⟨h, h0, h4⟩ | ⟨ad, c', h, h3, hc⟩
  · simp only [Value.slice.injEq] at h
    obtain ⟨rfl, _, rfl⟩ := h
    have e : L = [] := List.eq_nil_of_length_eq_zero h0
    subst e
    have : k = 0 := by simpa using hk
    subst this
    exact .inl ⟨rfl, rfl, by simp [scells]⟩
  · cases h
    refine .inr ⟨ad, c, rfl, by omega, fun j v hj => hc j v ?_⟩
    rw [scells, List.map_take] at hj
    rw [scells]
    by_cases hjk : j < k
    · rw [List.getElem?_take_of_lt hjk] at hj
      exact hj
    · rw [List.getElem?_eq_none (by simp; omega)] at hj
      cases hj
/-- the runner's box -/
def Rbx (w : World) (g : Nat) (vs : Value) (p : Nat) (vo : Value) (dn : Nat) (fl : Bool) (vm : Value) : Prop := w.heap[g]? = some (.cells #[vs, .int .i64 (p : Int), vo, .int .i64 (dn : Int), .bool fl, vm] 91 (0, 0))
section
variable {w u : World} {g : Nat} {vs vo vm : Value} {p dn : Nat} {fl : Bool}
theorem Rbx.lt (h : Rbx w g vs p vo dn fl vm) : g < w.heap.size := (Array.getElem?_eq_some_iff.1 h).1
theorem Rbx.cells (h : Rbx w g vs p vo dn fl vm) : w.cell? ⟨g, 0, none⟩ = some vs ∧ w.cell? ⟨g, 1, none⟩ = some (.int .i64 (p : Int)) ∧ w.cell? ⟨g, 2, none⟩ = some vo ∧ w.cell? ⟨g, 3, none⟩ = some (.int .i64 (dn : Int)) ∧ w.cell? ⟨g, 4, none⟩ = some (.bool fl) ∧ w.cell? ⟨g, 5, none⟩ = some vm := by
  unfold Rbx at h
  refine ⟨?_, ?_, ?_, ?_, ?_, ?_⟩ <;> rw [Lib.cell_of_heap h] <;> rfl
theorem Rbx.frozen (h : Rbx w g vs p vo dn fl vm) (j : Nat) : w.frozen? ⟨g, j, none⟩ = false := by
  unfold Rbx at h
  simp [World.frozen?, h]
theorem Rbx.low (h : Rbx w g vs p vo dn fl vm) {N : Nat} (hb : Below N w u) (hN : g < N) : Rbx u g vs p vo dn fl vm := (hb.block g hN).trans h
theorem Rbx.grow (h : Rbx w g vs p vo dn fl vm) {r : Option Nat} (hb : w.grownBy u r) (hr : r ≠ some g) : Rbx u g vs p vo dn fl vm := (hb.block g h.lt (fun e => hr e.symm)).trans h
end
/-- the runner, and all that it holds -/
structure Rrn (W : World) (g : Nat) (vs vo vm : Value) (S a out : List (List UInt8)) (p dn : Nat) (fl : Bool) (w : World) : Prop where
  low : Below W.heap.size W w
  gW : W.heap.size ≤ g
  box : Rbx w g vs p vo dn fl vm
  scr : HS W vs S
  old : HS W vo a
  own : w.ownsRow (g + 1) 9 1 vm out.length (scells out)
  hp : p ≤ S.length
  hd : dn ≤ a.length
  ob : out.length ≤ dn + p
section
variable {W w u : World} {g : Nat} {vs vo vm vm' : Value} {S a out out' : List (List UInt8)} {p dn : Nat} {fl : Bool}
theorem Rrn.keep (h : Rrn W g vs vo vm S a out p dn fl w) (hb : Below w.heap.size w u) : Rrn W g vs vo vm S a out p dn fl u :=
  ⟨h.low.trans (hb.mono h.low.size), h.gW, h.box.low hb h.box.lt, h.scr, h.old, owns_keep h.own hb, h.hp, h.hd, h.ob⟩
theorem Rrn.dN (h : Rrn W g vs vo vm S a out p dn fl w) (n : Nat) : Rrn W g vs vo vm S a out p dn fl (w.drewN n) := h.keep (Below.dN (Below.refl _ w) n)
theorem Rrn.setL (h : Rrn W g vs vo vm S a out p dn fl w) (j : Nat) (v : Value) : Below W.heap.size W (w.setCell ⟨g, j, none⟩ v) ∧ (w.setCell ⟨g, j, none⟩ v).ownsRow (g + 1) 9 1 vm out.length (scells out) :=
  ⟨h.low.setCell h.gW v, rc_okept h.own (grown_set w g j v) (Nat.lt_succ_self _)⟩
theorem Rrn.setP (h : Rrn W g vs vo vm S a out p dn fl w) (p' : Nat) (hp : p' ≤ S.length) (hpp : p ≤ p') (z : Int) (hz : z = (p' : Int)) : Rrn W g vs vo vm S a out p' dn fl (w.setCell ⟨g, 1, none⟩ (.int .i64 z)) := by
  subst hz
  exact ⟨(h.setL 1 _).1, h.gW, heap_setCell_same w g 1 _ _ _ h.box, h.scr, h.old, (h.setL 1 _).2, hp, h.hd, by have := h.ob; omega⟩
theorem Rrn.setD (h : Rrn W g vs vo vm S a out p dn fl w) (d' : Nat) (hd : d' ≤ a.length) (hb : out.length ≤ d' + p) (z : Int) (hz : z = (d' : Int)) : Rrn W g vs vo vm S a out p d' fl (w.setCell ⟨g, 3, none⟩ (.int .i64 z)) := by
  subst hz
  exact ⟨(h.setL 3 _).1, h.gW, heap_setCell_same w g 3 _ _ _ h.box, h.scr, h.old, (h.setL 3 _).2, h.hp, hd, hb⟩
theorem Rrn.setF (h : Rrn W g vs vo vm S a out p dn fl w) (f' : Bool) : Rrn W g vs vo vm S a out p dn f' (w.setCell ⟨g, 4, none⟩ (.bool f')) :=
  ⟨(h.setL 4 _).1, h.gW, heap_setCell_same w g 4 _ _ _ h.box, h.scr, h.old, (h.setL 4 _).2, h.hp, h.hd, h.ob⟩
/-- the row that is made grows; the box says so later -/
theorem Rrn.grow (h : Rrn W g vs vo vm S a out p dn fl w) (hg : w.grownBy u vm.ownBlock) : Rbx u g vs p vo dn fl vm ∧ Below W.heap.size W u := by
  refine ⟨h.box.grow hg (fun e => by have := owns_ge h.own e; omega), ?_⟩
  exact h.low.grown hg h.low.size (fun j hj => by have := owns_ge h.own hj; have := h.gW; omega)
end
/-- that a row was made is told, with how many lines are done -/
theorem rrn_mk {W u : World} {g : Nat} {vs vo vm vm' : Value} {S a out' : List (List UInt8)} {p dn : Nat} {fl : Bool} (hgW : W.heap.size ≤ g) (hb : Rbx u g vs p vo dn fl vm) (hl : Below W.heap.size W u) (hs : HS W vs S) (ho : HS W vo a) (hown : u.ownsRow (g + 1) 9 1 vm' out'.length (scells out')) (d' p' : Nat) (hd : d' ≤ a.length) (hp : p' ≤ S.length) (hob : out'.length ≤ d' + p') (f' : Bool) :
    Rrn W g vs vo vm' S a out' p' d' f' ((((u.setCell ⟨g, 5, none⟩ vm').setCell ⟨g, 1, none⟩ (.int .i64 (p' : Int))).setCell ⟨g, 3, none⟩ (.int .i64 (d' : Int))).setCell ⟨g, 4, none⟩ (.bool f')) := by
  have b1 := heap_setCell_same u g 5 _ _ vm' hb
  have b2 := heap_setCell_same _ g 1 _ _ (.int .i64 (p' : Int)) b1
  have b3 := heap_setCell_same _ g 3 _ _ (.int .i64 (d' : Int)) b2
  have b4 := heap_setCell_same _ g 4 _ _ (.bool f') b3
  have o1 := rc_okept hown (grown_set u g 5 vm') (Nat.lt_succ_self _)
  have o2 := rc_okept o1 (grown_set _ g 1 (.int .i64 (p' : Int))) (Nat.lt_succ_self _)
  have o3 := rc_okept o2 (grown_set _ g 3 (.int .i64 (d' : Int))) (Nat.lt_succ_self _)
  have o4 := rc_okept o3 (grown_set _ g 4 (.bool f')) (Nat.lt_succ_self _)
  exact ⟨(((hl.setCell hgW _).setCell hgW _).setCell hgW _).setCell hgW _, hgW, b4, hs, ho, o4, hp, hd, hob⟩
end Go.Proofs.YtnlbjknfahhfaaaGreatDoor

/- The code's take of layer 14, walked: the lines of the script that stand next. -/
set_option maxRecDepth 20000
namespace Go.Proofs.YtnlbjknfahhfaaaGreatDoor
open Go.RowKit

theorem cut_all (S : List (List UInt8)) (p : Nat) (hp : p ≤ S.length) : cut S (p : Int) ((S.length : Int) - (p : Int)) = S.drop p := by
  unfold cut
  rw [Int.toNat_natCast, List.take_of_length_le (by rw [List.length_drop]; omega)]
set_option maxRecDepth 10000 in
set_option maxHeartbeats 4000000 in
theorem rtake_no (W : World) (g : Nat) (vs vo vm : Value) (S a out : List (List UInt8)) (p dn : Nat) (fl : Bool) (w : World) (hR : Rrn W g vs vo vm S a out p dn fl w) (_hS : S.length ≤ 1099511627776) (k : Nat) (hk : S.length < p + k) :
    Calls Tryz.prog 64 #[.pointer (some ⟨g, 0, none⟩), .int .i64 (k : Int)] w fun e w' => e = .returned (.tuple #[.slice none 0 0, .int .i64 1]) ∧ Rrn W g vs vo vm S a out S.length dn fl w' := by
  obtain ⟨so, sc, rfl⟩ := Holds.form hR.scr
  obtain ⟨v1, c1, hsl, hH⟩ := run_cut_end S so sc (p : Int) (by omega) (by have := hR.hp; omega) W hR.scr
  rw [cut_all S p hR.hp] at hsl hH
  have HD : Hid ((S.drop p).length = S.length - p) := List.length_drop
  obtain ⟨D, hD⟩ : ∃ D, S.drop p = D := ⟨_, rfl⟩
  rw [hD] at hsl hH HD
  clear hD hH
  obtain ⟨e0, e1, _, _, _, _⟩ := hR.box.cells
  have hpl := hR.hp
  have hlt : (D.length : Int) < (k : Int) := (by have := HD.out; omega)
  go_enter Tryz.func64, Tryz.ntmps64
  go_wp2_with fail
  go_quiet (fail)
  have hR1 := hR.dN nq
  generalize w.drewN nq = w1 at hR1 ⊢
  obtain ⟨d0, d1, _, _, _, _⟩ := hR1.box.cells
  have f1 := hR1.box.frozen 1
  have hR2 := hR1.setP S.length (Nat.le_refl _) hR.hp _ rfl
  have HR2 : Hid (Rrn W g (.slice so S.length sc) vo vm S a out S.length dn fl (w1.setCell ⟨g, 1, none⟩ (.int .i64 (S.length : Int)))) := hR2
  clear hR hR1 hR2 e0 e1
  go_wp2
  go_ret2
  exact ⟨rfl, HR2.out⟩
set_option maxRecDepth 10000 in
set_option maxHeartbeats 4000000 in
theorem rtake_ok (W : World) (g : Nat) (vs vo vm : Value) (S a out : List (List UInt8)) (p dn : Nat) (fl : Bool) (w : World) (hR : Rrn W g vs vo vm S a out p dn fl w) (hS : S.length ≤ 1099511627776) (k : Nat) (hk : p + k ≤ S.length) :
    Calls Tryz.prog 64 #[.pointer (some ⟨g, 0, none⟩), .int .i64 (k : Int)] w fun e w' => ∃ vo1 vc1, e = .returned (.tuple #[.slice vo1 k vc1, .int .i64 0]) ∧ HS W (.slice vo1 k vc1) ((S.drop p).take k) ∧ Rrn W g vs vo vm S a out (p + k) dn fl w' ∧ w.grownBy w' (some g) := by
  obtain ⟨so, sc, rfl⟩ := Holds.form hR.scr
  obtain ⟨v1, c1, hsl, hH⟩ := run_cut_end S so sc (p : Int) (by omega) (by have := hR.hp; omega) W hR.scr
  rw [cut_all S p hR.hp] at hsl hH
  have HD : Hid ((S.drop p).length = S.length - p) := List.length_drop
  obtain ⟨D, hD⟩ : ∃ D, S.drop p = D := ⟨_, rfl⟩
  rw [hD] at hsl hH HD ⊢
  clear hD
  have hHD := hH W hR.scr
  clear hH
  have hkD : k ≤ D.length := (by have := HD.out; omega)
  have ht := rc_to v1 D.length c1 k hkD (rc_cap hHD)
  have HT : Hid (HS W (.slice v1 k c1) (D.take k)) := hs_to hHD hkD
  clear hHD
  obtain ⟨e0, e1, _, _, _, _⟩ := hR.box.cells
  have hpl := hR.hp
  have hlt : ¬ (D.length : Int) < (k : Int) := (by omega)
  go_enter Tryz.func64, Tryz.ntmps64
  go_wp2_with fail
  go_quiet (fail)
  have hR1 := hR.dN nq
  have hg1 : w.grownBy (w.drewN nq) (some g) := grown_drewN (World.grownBy.refl w (some g)) nq
  generalize w.drewN nq = w1 at hR1 hg1 ⊢
  have HG2 : Hid (w.grownBy (w1.setCell ⟨g, 1, none⟩ (.int .i64 ((p : Int) + (k : Int)))) (some g)) := grown_two hg1 (grown_set w1 g 1 _)
  obtain ⟨d0, d1, _, _, _, _⟩ := hR1.box.cells
  have f1 := hR1.box.frozen 1
  have hR2 := hR1.setP (p + k) hk (by omega) ((p : Int) + (k : Int)) (by omega)
  have HR2 : Hid (Rrn W g (.slice so S.length sc) vo vm S a out (p + k) dn fl (w1.setCell ⟨g, 1, none⟩ (.int .i64 ((p : Int) + (k : Int))))) := hR2
  have hwr : IntKind.i64.wrap ((p : Int) + (k : Int)) = (p : Int) + (k : Int) := rc_wrap (by omega) (by omega)
  clear hR hR1 hR2 e0 e1
  go_wp2
  go_ret2
  exact ⟨v1, c1, rfl, HT.out, HR2.out, HG2.out⟩
end Go.Proofs.YtnlbjknfahhfaaaGreatDoor
