/-
  What the least edit script keeps: kept, walked (the walk itself).
-/
import Derived.Test.YtppdcjjkkckokaaMiKp
namespace Go.Proofs.Ytppdcjjkkckokaa
open Go.RowKit
attribute [local simp] bx_drew

set_option maxRecDepth 10000 in
set_option maxHeartbeats 4000000 in
theorem kept_f (x y : List Int) (vx vy : Value) (w : World) (hx : HI w vx x) (hy : HI w vy y) (hxl : x.length ≤ 4096) (hyl : y.length ≤ 4096) (K : List Int) (hK : Hid (kp 0 x y = K)) :
    Calls Try.prog 42 #[vx, vy] w fun e w' => ∃ v, e = .returned v ∧ HI w' v K ∧ Below w.heap.size w w' := by
  obtain ⟨xo, xc, rfl⟩ := Holds.form hx
  obtain ⟨yo, yc, rfl⟩ := Holds.form hy
  go_enter Try.func42, Try.ntmps42
  go_wp2_with fail
  have hB0 : Below w.heap.size w (w.alloc (Obj.cells #[Value.int IntKind.i64 (-1)] 3)) := (Below.refl _ w).alloc (Nat.le_refl _) _
  refine (Repeat_f x.length (by omega) _ _ (show HI _ _ [-1] from new_holds w _ _ _ _ (by decide))).mono ?_
  rintro e w1 ⟨g, rfl, hO1, hB1⟩
  have hB01 := hB0.trans (hB1.mono hB0.size)
  have hO1' : w1.ownsRow w.heap.size 3 1 (.slice (some ⟨g, 0, none⟩) x.length x.length) x.length (icells (List.replicate x.length (-1))) := by
    refine ⟨hO1.1, ?_⟩
    rcases hO1.2 with h | ⟨g', cap, cur, q1, q2, q3⟩
    · exact .inl h
    · exact .inr ⟨g', cap, cur, q1, Nat.le_trans (by simp) q2, q3⟩
  clear hB0 hB1 hO1
  have hx1 := HI.keep hx hB01 (Nat.le_refl _)
  have hy1 := HI.keep hy hB01 (Nat.le_refl _)
  go_wp2_with fail
  obtain ⟨f, hf⟩ : ∃ f, fr x y = f := ⟨_, rfl⟩
  have hfl := fr_le x y
  rw [hf] at hfl
  refine (front_f x y f _ _ _ hx1 hy1 (by omega) (by omega) hf).mono ?_
  rintro e w2 ⟨rfl, hB2⟩
  have hB02 := hB01.trans (hB2.mono hB01.size)
  have hO2 := owns_keep hO1' hB2
  have HF : Hid (fr x y = f) := hf
  clear hf hB01 hO1' hB2 hx1 hy1
  obtain ⟨hfx, hfy⟩ := hfl
  go_wp2
  go_loopw [19] (fun iv wr => ∃ (k : Nat) (Z : List Int), k ≤ f ∧ iv = .int .i64 (k : Int) ∧ Below w.heap.size w wr ∧ wr.ownsRow w.heap.size 3 1 (.slice (some ⟨g, 0, none⟩) x.length x.length) x.length (icells Z) ∧ Hid (Pt K Z x.length k k (x.drop k) (y.drop k))) (fun iv _ => f - (intOf iv).toNat)
  case atStart => exact ⟨0, _, Nat.zero_le _, rfl, hB02, hO2, (by rw [← hK.out]; exact Pt.start x y)⟩
  case round =>
    obtain ⟨k, Z, hk, rfl, hB, hO, hP⟩ := hrel
    by_cases hlt : k < f
    · have hkx : k < x.length := by omega
      have f0 := hO.frozenAt k
      have hZl := hP.out.len
      have y0 := hO.cellAt k (by omega)
      rw [List.getElem?_eq_getElem (by rw [icells_length]; omega)] at y0
      obtain ⟨z0, hz0⟩ : ∃ z, (icells Z)[k]'(by rw [icells_length]; omega) = z := ⟨_, rfl⟩
      rw [hz0] at y0
      clear hz0 hZl
      obtain ⟨p1, g1⟩ := hO.stored k (.int .i64 (k : Int))
      rw [show (icells Z).set k (.int .i64 (k : Int)) = icells (Z.set k (k : Int)) by simp [icells, List.map_set]] at p1
      have hB1 := hB.grown g1 hB.size (fun j hj => by have := Option.some.inj hj; have := (own_at hO).1; omega)
      clear g1
      have i1 : 0 ≤ (k : Int) := by omega
      have i2 : (k : Int) < (x.length : Int) := by omega
      have i3 : (k : Int) < (f : Int) := by omega
      have HP2 : Hid (Pt K (Z.set k (k : Int)) x.length (k + 1) ((k + 1 : Nat) : Int) (x.drop (k + 1)) (y.drop (k + 1))) := hP.out.pair hkx (kp_same_front k x y k (by rw [HF.out]; exact hlt))
      go_wp2
      go_roundw
      case rel => exact ⟨k + 1, _, by omega, by go_num, hB1, p1, HP2⟩
      case measure => simp [intOf]; omega
    · obtain rfl : k = f := by omega
      obtain ⟨vox, vcx, hsx, hhx⟩ := run_from x xo xc k w hfx hx
      obtain ⟨voy, vcy, hsy, hhy⟩ := run_from y yo yc k w hfy hy
      have hX := hhx w hx
      have hY := hhy w hy
      have hlx : (x.drop k).length = x.length - k := by simp
      have hly : (y.drop k).length = y.length - k := by simp
      have HP := hP.out
      have i1 : (0 : Int) ≤ (k : Int) := by omega
      have i2 : (k : Int) ≤ (x.length : Int) := by omega
      have i3 : (k : Int) ≤ (y.length : Int) := by omega
      go_wp2_with fail
      go_quiet (fail)
      go_wp2_with fail
      have hwq : Below w.heap.size w (wr.drewN nq) := Below.dN hB nq
      have hoq : (wr.drewN nq).ownsRow w.heap.size 3 1 (.slice (some ⟨g, 0, none⟩) x.length x.length) x.length (icells Z) := hO
      generalize wr.drewN nq = wq at *
      rw [← hlx] at hX ⊢
      rw [← hly] at hY ⊢
      clear hsx hsy hhx hhy hP hO hB hO2 hB02 HF
      generalize x.drop k = X at *
      generalize y.drop k = Y at *
      have HXL : Hid (X.length = x.length - k) := hlx
      have hXb : X.length ≤ 4096 := by omega
      have hYb : Y.length ≤ 4096 := by omega
      have hkX : k + X.length = x.length := by omega
      clear hlx hly
      obtain ⟨M, hM⟩ : ∃ M, M = Y.length + 1 := ⟨_, rfl⟩
      obtain ⟨N, hN⟩ : ∃ N, N = (X.length + 1) * M := ⟨_, rfl⟩
      have HM : Hid (M = Y.length + 1) := hM
      have HN : Hid (N = (X.length + 1) * M) := hN
      clear hM hN
      refine (measure_f X Y _ _ _ (HI.keep hX hwq (Nat.le_refl _)) (HI.keep hY hwq (Nat.le_refl _)) hXb hYb N M HM HN).mono ?_
      rintro e w3 ⟨gt, T, rfl, hT, hD, hB3⟩
      have hB03 := hwq.trans (hB3.mono hwq.size)
      have hO3 := owns_keep hoq hB3
      have hT' : w3.ownsRow w.heap.size 88 1 (.slice (some ⟨gt, 0, none⟩) N N) N T := by
        refine ⟨hT.1, ?_⟩
        rcases hT.2 with h | ⟨g', cap, cur, q1, q2, q3⟩
        · exact .inl h
        · exact .inr ⟨g', cap, cur, q1, Nat.le_trans hwq.size q2, q3⟩
      have hS0 : Kst w g gt w3.heap.size x.length M N Z T (w3.alloc (Obj.cells #[.int .i64 (M : Int), .slice (some ⟨gt, 0, none⟩) N N] 66)) := ⟨hB03.alloc hB03.size _, hO3.alloc _, hT'.alloc _, _root_.Go.heap_alloc_new w3 _⟩
      obtain ⟨bx, hbx⟩ : ∃ bx, bx = w3.heap.size := ⟨_, rfl⟩
      have HD : Hid (Done X Y 0 0 T) := hD
      have HP0 : Hid (Pt K Z x.length k (k : Int) X Y) := HP
      clear hT hB3 hwq hoq hT' hO3 hB03 hD HP
      unfold tabV
      go_wp2
      go_loopw [9, 10] (fun iv jv wi => ∃ (i j : Nat) (Z' : List Int), i ≤ X.length ∧ j ≤ Y.length ∧ iv = .int .i64 (i : Int) ∧ jv = .int .i64 (j : Int) ∧ Kst w g gt w3.heap.size x.length M N Z' T wi ∧ Hid (Pt K Z' x.length (k + i) ((k : Int) + (j : Int)) (X.drop i) (Y.drop j))) (fun iv jv _ => X.length - (intOf iv).toNat + (Y.length - (intOf jv).toNat))
      case atStart => exact ⟨0, 0, Z, Nat.zero_le _, Nat.zero_le _, rfl, rfl, hS0, (by show Pt _ _ _ _ _ _ _; simpa using HP0.out)⟩
      case round =>
        obtain ⟨i, j, Z', hi, hj, rfl, rfl, hS, hP⟩ := hrel
        clear hS0 HP0
        by_cases hix : i < X.length
        · by_cases hjy : j < Y.length
          · obtain ⟨bX, oX, rfl, _, hcx⟩ := HI.at (HI.keep hX hS.low (Nat.le_refl _)) (by omega)
            obtain ⟨bY, oY, rfl, _, hcy⟩ := HI.at (HI.keep hY hS.low (Nat.le_refl _)) (by omega)
            have d1 := hcx i hix
            have d2 := hcy j hjy
            have hkp := kp_step ((k : Int) + (j : Int)) X Y i j hix hjy
            obtain ⟨xi, hxi⟩ : ∃ z, X[i] = z := ⟨_, rfl⟩
            obtain ⟨yj, hyj⟩ : ∃ z, Y[j] = z := ⟨_, rfl⟩
            rw [hxi] at d1 hkp
            rw [hyj] at d2 hkp
            clear hcx hcy hxi hyj
            have i1 : 0 ≤ (i : Int) := by omega
            have i2 : (i : Int) < (X.length : Int) := by omega
            have i3 : 0 ≤ (j : Int) := by omega
            have i4 : (j : Int) < (Y.length : Int) := by omega
            by_cases hxy : xi = yj
            · rw [if_pos hxy] at hkp
              have HKP := hP.out.pair (by omega) hkp
              have HP2 : Hid (Pt K (Z'.set (k + i) ((k : Int) + (j : Int))) x.length (k + (i + 1)) ((k : Int) + ((j + 1 : Nat) : Int)) (X.drop (i + 1)) (Y.drop (j + 1))) := (by
                show Pt _ _ _ _ _ _ _
                rw [show k + (i + 1) = k + i + 1 by omega, show (k : Int) + ((j + 1 : Nat) : Int) = (k : Int) + (j : Int) + 1 by omega]
                exact HKP)
              clear hkp HKP
              have f0 := hS.own.frozenAt (k + i)
              have hZl := hP.out.len
              have y0 := hS.own.cellAt (k + i) (by omega)
              rw [List.getElem?_eq_getElem (by rw [icells_length]; omega)] at y0
              obtain ⟨z0, hz0⟩ : ∃ z, (icells Z')[k + i]'(by rw [icells_length]; omega) = z := ⟨_, rfl⟩
              rw [hz0] at y0
              have i5 : (k : Int) + (i : Int) < (x.length : Int) := by omega
              have i6 : 0 ≤ (k : Int) + (i : Int) := by omega
              have i7 : ((k : Int) + (i : Int)).toNat = k + i := by omega
              have HkX : Hid (k + X.length = x.length) := hkX
              clear hz0 hZl hkX
              go_wp2_with fail
              go_quiet (fail)
              go_wp2
              go_roundw
              case rel => exact ⟨i + 1, j + 1, _, by omega, by omega, by go_num, by go_num, (hS.drewN _).store (k + i) ((k : Int) + (j : Int)), HP2⟩
              case measure => simp [intOf]; omega
            · have hxy' : decide (xi = yj) = false := decide_eq_false hxy
              rw [if_neg hxy] at hkp
              have HkX : Hid (k + X.length = x.length) := hkX
              obtain ⟨a1, ha1⟩ : ∃ a, ln X Y (i + 1) j = a := ⟨_, rfl⟩
              obtain ⟨a2, ha2⟩ : ∃ a, ln X Y i (j + 1) = a := ⟨_, rfl⟩
              obtain ⟨p0, hp0⟩ : ∃ p, p = i * M := ⟨_, rfl⟩
              have hpi : (i : Int) * (M : Int) = (p0 : Int) := by rw [hp0]; simp
              have hpi1 : ((i : Int) + 1) * (M : Int) = ((p0 + M : Nat) : Int) := by rw [Int.add_mul, hpi]; simp
              have t1 := done_cell hS.tab HD.out HM.out HN.out (i + 1) j (p0 + M + j) (by omega) (by omega) (by rw [hp0, Nat.succ_mul])
              have t2 := done_cell hS.tab HD.out HM.out HN.out i (j + 1) (p0 + (j + 1)) (by omega) (by omega) (by rw [hp0])
              have b1 := ln_le X Y (i + 1) j
              have b2 := ln_le X Y i (j + 1)
              rw [ha1] at t1 b1 hkp
              rw [ha2] at t2 b2 hkp
              have hNb : N ≤ 1099511627776 := by
                have h1 := HN.out
                have h2 := HM.out
                rw [h1, h2]
                exact Nat.le_trans (Nat.mul_le_mul (show X.length + 1 ≤ 4097 by omega) (show Y.length + 1 ≤ 4097 by omega)) (by decide)
              have hq1 : p0 + M + j < N := by rw [HN.out, hp0, ← Nat.succ_mul]; exact idx_lt (by have := HM.out; omega) (by omega)
              have hq2 : p0 + (j + 1) < N := by rw [HN.out, hp0]; exact idx_lt (by have := HM.out; omega) (by omega)
              have c1 : ((p0 + M : Nat) : Int) + (j : Int) = ((p0 + M + j : Nat) : Int) := by omega
              have c2 : (p0 : Int) + ((j : Int) + 1) = ((p0 + (j + 1) : Nat) : Int) := by omega
              have n1 : (0 : Int) ≤ (a1 : Int) := by omega
              have n2 : (a1 : Int) ≤ 4096 := by omega
              have n3 : (0 : Int) ≤ (a2 : Int) := by omega
              have n4 : (a2 : Int) ≤ 4096 := by omega
              have e1 : (0 : Int) ≤ (i : Int) + 1 := by omega
              have e2 : (0 : Int) ≤ (j : Int) + 1 := by omega
              have hw1 : IntKind.i64.wrap ((i : Int) + 1) = (i : Int) + 1 := by rw [IntKind.wrap_i64]; omega
              have hw2 : IntKind.i64.wrap ((j : Int) + 1) = (j : Int) + 1 := by rw [IntKind.wrap_i64]; omega
              clear ha1 ha2 hp0 hkX
              go_wp2_with fail
              go_quiet (fail)
              go_wp2_with fail
              have hSq := hS.drewN nq
              have t1q : (wr.drewN nq).cell? ⟨gt, p0 + M + j, none⟩ = some (.int .i16 (a1 : Int)) := t1
              have t2q : (wr.drewN nq).cell? ⟨gt, p0 + (j + 1), none⟩ = some (.int .i16 (a2 : Int)) := t2
              clear t1 t2 d1 d2 hS
              generalize wr.drewN nq = wq at *
              have hbS := hSq.bx'
              obtain ⟨q0, q1⟩ := hbS.cells
              go_region_held3 (fun u => u.cell? ⟨w3.heap.size, 0, none⟩ = some (.int .i64 (M : Int)) ∧ u.cell? ⟨w3.heap.size, 1, none⟩ = some (.slice (some ⟨gt, 0, none⟩) N N) ∧ Bx w3.heap.size M gt N wq u) (go_keep)
                (first | (go_at_call_has 41 (Value.int IntKind.i64 ((i : Int) + 1)); refine (bx_stay (at_f M gt N (p0 + M) (p0 + M + j) ((i : Int) + 1) (j : Int) (a1 : Int) _ e1 i3 hpi1 c1 hNb hq1 (Bx.cell (show Bx w3.heap.size M gt N wq _ from (by first | assumption | (rw [bx_drew]; assumption))) t1q) n1 n2) w3.heap.size M gt N wq (by first | assumption | (rw [bx_drew]; assumption))).mono ?_; rintro e w' ⟨rfl, e0, e1, hbS1⟩) | (go_at_call_has 41 (Value.int IntKind.i64 ((j : Int) + 1)); refine (bx_stay (at_f M gt N p0 (p0 + (j + 1)) (i : Int) ((j : Int) + 1) (a2 : Int) _ i1 e2 hpi c2 hNb hq2 (Bx.cell (show Bx w3.heap.size M gt N wq _ from (by first | assumption | (rw [bx_drew]; assumption))) t2q) n3 n4) w3.heap.size M gt N wq (by first | assumption | (rw [bx_drew]; assumption))).mono ?_; rintro e w' ⟨rfl, e0, e1, hbS2⟩))
              have hSn := hSq.keep hbS2.low
              clear hbS hbS1 hbS2 hSq t1q t2q q0 q1 e0 e1 hpi hpi1 c1 c2 hw1 hw2
              by_cases hle : a2 ≤ a1
              · rw [if_pos hle] at hkp
                have hle' : (a2 : Int) ≤ (a1 : Int) := by omega
                have HP2 : Hid (Pt K Z' x.length (k + (i + 1)) ((k : Int) + (j : Int)) (X.drop (i + 1)) (Y.drop j)) := (by
                  show Pt _ _ _ _ _ _ _
                  rw [show k + (i + 1) = k + i + 1 by omega]
                  exact hP.out.out (by have := HkX.out; omega) hkp)
                clear hkp
                go_wp2
                go_roundw
                case rel => exact ⟨i + 1, j, Z', by omega, by omega, by go_num, rfl, hSn, HP2⟩
                case measure => simp [intOf]; omega
              · rw [if_neg hle] at hkp
                have hle' : ¬ (a2 : Int) ≤ (a1 : Int) := by omega
                have HP2 : Hid (Pt K Z' x.length (k + i) ((k : Int) + ((j + 1 : Nat) : Int)) (X.drop i) (Y.drop (j + 1))) := (by
                  show Pt _ _ _ _ _ _ _
                  rw [show (k : Int) + ((j + 1 : Nat) : Int) = (k : Int) + (j : Int) + 1 by omega]
                  exact hP.out.skip hkp)
                clear hkp
                go_wp2
                go_roundw
                case rel => exact ⟨i, j + 1, Z', by omega, by omega, rfl, by go_num, hSn, HP2⟩
                case measure => simp [intOf]; omega
          · have hZ : Z' = K := hP.out.done (by simp; omega) (.inr (List.drop_of_length_le (by omega)))
            have hj' : ¬ (j : Int) < (Y.length : Int) := by omega
            have hi' : (i : Int) < (X.length : Int) := by omega
            subst hZ
            have hl := hP.out.len
            go_wp2
            go_ret
            refine ⟨_, rfl, ?_, hS.low⟩
            unfold HI
            rw [hl]
            exact holds_of hS.own
        · have hZ : Z' = K := hP.out.done (by simp; omega) (.inl (List.drop_of_length_le (by omega)))
          have hi' : ¬ (i : Int) < (X.length : Int) := by omega
          subst hZ
          have hl := hP.out.len
          go_wp2
          go_ret
          refine ⟨_, rfl, ?_, hS.low⟩
          unfold HI
          rw [hl]
          exact holds_of hS.own
end Go.Proofs.Ytppdcjjkkckokaa
