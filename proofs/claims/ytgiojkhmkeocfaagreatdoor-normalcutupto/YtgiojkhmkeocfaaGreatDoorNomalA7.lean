/-
  Texts that belong together, joined: MiKw, MiDf, MiKm, PcMath, PcSl, PcWk, PcKe, PcKm, PcPz, PcDf, PaRow, PaUq, PaPc, PaPg, PaCp, PaIn, PaRp, PaSr, PaHd, PaWi, PaBk, PaRs, MiWm, EdRMk, MiTb, PaRl, PaRg.
-/
import Derived.Test.YtgiojkhmkeocfaaGreatDoorNomalA6
import Derived.Test.YtgiojkhmkeocfaaGreatDoorNomalA4
import Derived.Deep.CutRange
import Derived.Shelf.RegionOpenPlain
import Derived.Laws.CopyOwn
import Derived.Lib.Overlaps
import Derived.Lib.AppendZerosOnto

/- What the least edit script keeps: kept, walked (the walk itself). -/
set_option maxRecDepth 20000
namespace Go.Proofs.YtgiojkhmkeocfaaGreatDoor
open Go.RowKit
attribute [local simp] bx_drew

set_option maxRecDepth 10000 in
set_option maxHeartbeats 4000000 in
theorem kept_f (x y : List Int) (vx vy : Value) (w : World) (hx : HI w vx x) (hy : HI w vy y) (hxl : x.length ≤ 4096) (hyl : y.length ≤ 4096) (K : List Int) (hK : Hid (kp 0 x y = K)) :
    Calls Tryz.prog 180 #[vx, vy] w fun e w' => ∃ v, e = .returned v ∧ HI w' v K ∧ Below w.heap.size w w' := by
  obtain ⟨xo, xc, rfl⟩ := Holds.form hx
  obtain ⟨yo, yc, rfl⟩ := Holds.form hy
  go_enter Tryz.func180, Tryz.ntmps180
  go_wp2_with fail
  have hB0 : Below w.heap.size w (w.alloc (Obj.cells #[Value.int IntKind.i64 (-1)] 3)) := (Below.refl _ w).alloc (Nat.le_refl _) _
  refine (Repeat_f x.length (by omega) _ _ (show HI _ _ [-1] from new_holds w _ _ _ _ (by decide))).mono ?_
  rintro e w1 ⟨g, rfl, hO1, hB1⟩
  have hB01 := hB0.trans (hB1.mono hB0.size)
  have hO1' : w1.ownsRow w.heap.size 3 1 (.slice (some ⟨g, 0, none⟩) x.length x.length) x.length (icells (List.replicate x.length (-1))) := by
    refine ⟨hO1.1, ?_⟩
    rcases hO1.2 with h | ⟨g', cap, cur, q1, q2, q3⟩
    · exact .inl h
    · exact .inr ⟨g', cap, cur, q1, Nat.le_trans (by simp) q2, q3⟩
  clear hB0 hB1 hO1
  have hx1 := HI.keep hx hB01 (Nat.le_refl _)
  have hy1 := HI.keep hy hB01 (Nat.le_refl _)
  go_wp2_with fail
  obtain ⟨f, hf⟩ : ∃ f, fr x y = f := ⟨_, rfl⟩
  have hfl := fr_le x y
  rw [hf] at hfl
  refine (front_f x y f _ _ _ hx1 hy1 (by omega) (by omega) hf).mono ?_
  rintro e w2 ⟨rfl, hB2⟩
  have hB02 := hB01.trans (hB2.mono hB01.size)
  have hO2 := owns_keep hO1' hB2
  have HF : Hid (fr x y = f) := hf
  clear hf hB01 hO1' hB2 hx1 hy1
  obtain ⟨hfx, hfy⟩ := hfl
  go_wp2
  go_loopw [19] (fun iv wr => ∃ (k : Nat) (Z : List Int), k ≤ f ∧ iv = .int .i64 (k : Int) ∧ Below w.heap.size w wr ∧ wr.ownsRow w.heap.size 3 1 (.slice (some ⟨g, 0, none⟩) x.length x.length) x.length (icells Z) ∧ Hid (Pt K Z x.length k k (x.drop k) (y.drop k))) (fun iv _ => f - (intOf iv).toNat)
  case atStart => exact ⟨0, _, Nat.zero_le _, rfl, hB02, hO2, (by rw [← hK.out]; exact Pt.start x y)⟩
  case round =>
    obtain ⟨k, Z, hk, rfl, hB, hO, hP⟩ := hrel
    by_cases hlt : k < f
    · have hkx : k < x.length := by omega
      have f0 := hO.frozenAt k
      have hZl := hP.out.len
      have y0 := hO.cellAt k (by omega)
      rw [List.getElem?_eq_getElem (by rw [icells_length]; omega)] at y0
      obtain ⟨z0, hz0⟩ : ∃ z, (icells Z)[k]'(by rw [icells_length]; omega) = z := ⟨_, rfl⟩
      rw [hz0] at y0
      clear hz0 hZl
      obtain ⟨p1, g1⟩ := hO.stored k (.int .i64 (k : Int))
      rw [show (icells Z).set k (.int .i64 (k : Int)) = icells (Z.set k (k : Int)) by simp [icells, List.map_set]] at p1
      have hB1 := hB.grown g1 hB.size (fun j hj => by have := Option.some.inj hj; have := (own_at hO).1; omega)
      clear g1
      have i1 : 0 ≤ (k : Int) := by omega
      have i2 : (k : Int) < (x.length : Int) := by omega
      have i3 : (k : Int) < (f : Int) := by omega
      have HP2 : Hid (Pt K (Z.set k (k : Int)) x.length (k + 1) ((k + 1 : Nat) : Int) (x.drop (k + 1)) (y.drop (k + 1))) := hP.out.pair hkx (kp_same_front k x y k (by rw [HF.out]; exact hlt))
      go_wp2
      go_roundw
      case rel => exact ⟨k + 1, _, by omega, by go_num, hB1, p1, HP2⟩
      case measure => simp [intOf]; omega
    · obtain rfl : k = f := by omega
      obtain ⟨vox, vcx, hsx, hhx⟩ := run_from x xo xc k w hfx hx
      obtain ⟨voy, vcy, hsy, hhy⟩ := run_from y yo yc k w hfy hy
      have hX := hhx w hx
      have hY := hhy w hy
      have hlx : (x.drop k).length = x.length - k := by simp
      have hly : (y.drop k).length = y.length - k := by simp
      have HP := hP.out
      have i1 : (0 : Int) ≤ (k : Int) := by omega
      have i2 : (k : Int) ≤ (x.length : Int) := by omega
      have i3 : (k : Int) ≤ (y.length : Int) := by omega
      go_wp2_with fail
      go_quiet (fail)
      go_wp2_with fail
      have hwq : Below w.heap.size w (wr.drewN nq) := Below.dN hB nq
      have hoq : (wr.drewN nq).ownsRow w.heap.size 3 1 (.slice (some ⟨g, 0, none⟩) x.length x.length) x.length (icells Z) := hO
      generalize wr.drewN nq = wq at *
      rw [← hlx] at hX ⊢
      rw [← hly] at hY ⊢
      clear hsx hsy hhx hhy hP hO hB hO2 hB02 HF
      generalize x.drop k = X at *
      generalize y.drop k = Y at *
      have HXL : Hid (X.length = x.length - k) := hlx
      have hXb : X.length ≤ 4096 := by omega
      have hYb : Y.length ≤ 4096 := by omega
      have hkX : k + X.length = x.length := by omega
      clear hlx hly
      obtain ⟨M, hM⟩ : ∃ M, M = Y.length + 1 := ⟨_, rfl⟩
      obtain ⟨N, hN⟩ : ∃ N, N = (X.length + 1) * M := ⟨_, rfl⟩
      have HM : Hid (M = Y.length + 1) := hM
      have HN : Hid (N = (X.length + 1) * M) := hN
      clear hM hN
      refine (measure_f X Y _ _ _ (HI.keep hX hwq (Nat.le_refl _)) (HI.keep hY hwq (Nat.le_refl _)) hXb hYb N M HM HN).mono ?_
      rintro e w3 ⟨gt, T, rfl, hT, hD, hB3⟩
      have hB03 := hwq.trans (hB3.mono hwq.size)
      have hO3 := owns_keep hoq hB3
      have hT' : w3.ownsRow w.heap.size 305 1 (.slice (some ⟨gt, 0, none⟩) N N) N T := by
        refine ⟨hT.1, ?_⟩
        rcases hT.2 with h | ⟨g', cap, cur, q1, q2, q3⟩
        · exact .inl h
        · exact .inr ⟨g', cap, cur, q1, Nat.le_trans hwq.size q2, q3⟩
      have hS0 : Kst w g gt w3.heap.size x.length M N Z T (w3.alloc (Obj.cells #[.int .i64 (M : Int), .slice (some ⟨gt, 0, none⟩) N N] 277)) := ⟨hB03.alloc hB03.size _, hO3.alloc _, hT'.alloc _, _root_.Go.heap_alloc_new w3 _⟩
      obtain ⟨bx, hbx⟩ : ∃ bx, bx = w3.heap.size := ⟨_, rfl⟩
      have HD : Hid (Done X Y 0 0 T) := hD
      have HP0 : Hid (Pt K Z x.length k (k : Int) X Y) := HP
      clear hT hB3 hwq hoq hT' hO3 hB03 hD HP
      unfold tabV
      go_wp2
      go_loopw [9, 10] (fun iv jv wi => ∃ (i j : Nat) (Z' : List Int), i ≤ X.length ∧ j ≤ Y.length ∧ iv = .int .i64 (i : Int) ∧ jv = .int .i64 (j : Int) ∧ Kst w g gt w3.heap.size x.length M N Z' T wi ∧ Hid (Pt K Z' x.length (k + i) ((k : Int) + (j : Int)) (X.drop i) (Y.drop j))) (fun iv jv _ => X.length - (intOf iv).toNat + (Y.length - (intOf jv).toNat))
      case atStart => exact ⟨0, 0, Z, Nat.zero_le _, Nat.zero_le _, rfl, rfl, hS0, (by show Pt _ _ _ _ _ _ _; simpa using HP0.out)⟩
      case round =>
        obtain ⟨i, j, Z', hi, hj, rfl, rfl, hS, hP⟩ := hrel
        clear hS0 HP0
        by_cases hix : i < X.length
        · by_cases hjy : j < Y.length
          · obtain ⟨bX, oX, rfl, _, hcx⟩ := HI.at (HI.keep hX hS.low (Nat.le_refl _)) (by omega)
            obtain ⟨bY, oY, rfl, _, hcy⟩ := HI.at (HI.keep hY hS.low (Nat.le_refl _)) (by omega)
            have d1 := hcx i hix
            have d2 := hcy j hjy
            have hkp := kp_step ((k : Int) + (j : Int)) X Y i j hix hjy
            obtain ⟨xi, hxi⟩ : ∃ z, X[i] = z := ⟨_, rfl⟩
            obtain ⟨yj, hyj⟩ : ∃ z, Y[j] = z := ⟨_, rfl⟩
            rw [hxi] at d1 hkp
            rw [hyj] at d2 hkp
            clear hcx hcy hxi hyj
            have i1 : 0 ≤ (i : Int) := by omega
            have i2 : (i : Int) < (X.length : Int) := by omega
            have i3 : 0 ≤ (j : Int) := by omega
            have i4 : (j : Int) < (Y.length : Int) := by omega
            by_cases hxy : xi = yj
            · rw [if_pos hxy] at hkp
              have HKP := hP.out.pair (by omega) hkp
              have HP2 : Hid (Pt K (Z'.set (k + i) ((k : Int) + (j : Int))) x.length (k + (i + 1)) ((k : Int) + ((j + 1 : Nat) : Int)) (X.drop (i + 1)) (Y.drop (j + 1))) := (by
                show Pt _ _ _ _ _ _ _
                rw [show k + (i + 1) = k + i + 1 by omega, show (k : Int) + ((j + 1 : Nat) : Int) = (k : Int) + (j : Int) + 1 by omega]
                exact HKP)
              clear hkp HKP
              have f0 := hS.own.frozenAt (k + i)
              have hZl := hP.out.len
              have y0 := hS.own.cellAt (k + i) (by omega)
              rw [List.getElem?_eq_getElem (by rw [icells_length]; omega)] at y0
              obtain ⟨z0, hz0⟩ : ∃ z, (icells Z')[k + i]'(by rw [icells_length]; omega) = z := ⟨_, rfl⟩
              rw [hz0] at y0
              have i5 : (k : Int) + (i : Int) < (x.length : Int) := by omega
              have i6 : 0 ≤ (k : Int) + (i : Int) := by omega
              have i7 : ((k : Int) + (i : Int)).toNat = k + i := by omega
              have HkX : Hid (k + X.length = x.length) := hkX
              clear hz0 hZl hkX
              go_wp2_with fail
              go_quiet (fail)
              go_wp2
              go_roundw
              case rel => exact ⟨i + 1, j + 1, _, by omega, by omega, by go_num, by go_num, (hS.drewN _).store (k + i) ((k : Int) + (j : Int)), HP2⟩
              case measure => simp [intOf]; omega
            · have hxy' : decide (xi = yj) = false := decide_eq_false hxy
              rw [if_neg hxy] at hkp
              have HkX : Hid (k + X.length = x.length) := hkX
              obtain ⟨a1, ha1⟩ : ∃ a, ln X Y (i + 1) j = a := ⟨_, rfl⟩
              obtain ⟨a2, ha2⟩ : ∃ a, ln X Y i (j + 1) = a := ⟨_, rfl⟩
              obtain ⟨p0, hp0⟩ : ∃ p, p = i * M := ⟨_, rfl⟩
              have hpi : (i : Int) * (M : Int) = (p0 : Int) := by rw [hp0]; simp
              have hpi1 : ((i : Int) + 1) * (M : Int) = ((p0 + M : Nat) : Int) := by rw [Int.add_mul, hpi]; simp
              have t1 := done_cell hS.tab HD.out HM.out HN.out (i + 1) j (p0 + M + j) (by omega) (by omega) (by rw [hp0, Nat.succ_mul])
              have t2 := done_cell hS.tab HD.out HM.out HN.out i (j + 1) (p0 + (j + 1)) (by omega) (by omega) (by rw [hp0])
              have b1 := ln_le X Y (i + 1) j
              have b2 := ln_le X Y i (j + 1)
              rw [ha1] at t1 b1 hkp
              rw [ha2] at t2 b2 hkp
              have hNb : N ≤ 1099511627776 := by
                have h1 := HN.out
                have h2 := HM.out
                rw [h1, h2]
                exact Nat.le_trans (Nat.mul_le_mul (show X.length + 1 ≤ 4097 by omega) (show Y.length + 1 ≤ 4097 by omega)) (by decide)
              have hq1 : p0 + M + j < N := by rw [HN.out, hp0, ← Nat.succ_mul]; exact idx_lt (by have := HM.out; omega) (by omega)
              have hq2 : p0 + (j + 1) < N := by rw [HN.out, hp0]; exact idx_lt (by have := HM.out; omega) (by omega)
              have c1 : ((p0 + M : Nat) : Int) + (j : Int) = ((p0 + M + j : Nat) : Int) := by omega
              have c2 : (p0 : Int) + ((j : Int) + 1) = ((p0 + (j + 1) : Nat) : Int) := by omega
              have n1 : (0 : Int) ≤ (a1 : Int) := by omega
              have n2 : (a1 : Int) ≤ 4096 := by omega
              have n3 : (0 : Int) ≤ (a2 : Int) := by omega
              have n4 : (a2 : Int) ≤ 4096 := by omega
              have e1 : (0 : Int) ≤ (i : Int) + 1 := by omega
              have e2 : (0 : Int) ≤ (j : Int) + 1 := by omega
              have hw1 : IntKind.i64.wrap ((i : Int) + 1) = (i : Int) + 1 := by rw [IntKind.wrap_i64]; omega
              have hw2 : IntKind.i64.wrap ((j : Int) + 1) = (j : Int) + 1 := by rw [IntKind.wrap_i64]; omega
              clear ha1 ha2 hp0 hkX
              go_wp2_with fail
              go_quiet (fail)
              go_wp2_with fail
              have hSq := hS.drewN nq
              have t1q : (wr.drewN nq).cell? ⟨gt, p0 + M + j, none⟩ = some (.int .i16 (a1 : Int)) := t1
              have t2q : (wr.drewN nq).cell? ⟨gt, p0 + (j + 1), none⟩ = some (.int .i16 (a2 : Int)) := t2
              clear t1 t2 d1 d2 hS
              generalize wr.drewN nq = wq at *
              have hbS := hSq.bx'
              obtain ⟨q0, q1⟩ := hbS.cells
              go_region_held3 (fun u => u.cell? ⟨w3.heap.size, 0, none⟩ = some (.int .i64 (M : Int)) ∧ u.cell? ⟨w3.heap.size, 1, none⟩ = some (.slice (some ⟨gt, 0, none⟩) N N) ∧ Bx w3.heap.size M gt N wq u) (go_keep)
                (first | (go_at_call_has 231 (Value.int IntKind.i64 ((i : Int) + 1)); refine (bx_stay (at_f M gt N (p0 + M) (p0 + M + j) ((i : Int) + 1) (j : Int) (a1 : Int) _ e1 i3 hpi1 c1 hNb hq1 (Bx.cell (show Bx w3.heap.size M gt N wq _ from (by first | assumption | (rw [bx_drew]; assumption))) t1q) n1 n2) w3.heap.size M gt N wq (by first | assumption | (rw [bx_drew]; assumption))).mono ?_; rintro e w' ⟨rfl, e0, e1, hbS1⟩) | (go_at_call_has 231 (Value.int IntKind.i64 ((j : Int) + 1)); refine (bx_stay (at_f M gt N p0 (p0 + (j + 1)) (i : Int) ((j : Int) + 1) (a2 : Int) _ i1 e2 hpi c2 hNb hq2 (Bx.cell (show Bx w3.heap.size M gt N wq _ from (by first | assumption | (rw [bx_drew]; assumption))) t2q) n3 n4) w3.heap.size M gt N wq (by first | assumption | (rw [bx_drew]; assumption))).mono ?_; rintro e w' ⟨rfl, e0, e1, hbS2⟩))
              have hSn := hSq.keep hbS2.low
              clear hbS hbS1 hbS2 hSq t1q t2q q0 q1 e0 e1 hpi hpi1 c1 c2 hw1 hw2
              by_cases hle : a2 ≤ a1
              · rw [if_pos hle] at hkp
                have hle' : (a2 : Int) ≤ (a1 : Int) := by omega
                have HP2 : Hid (Pt K Z' x.length (k + (i + 1)) ((k : Int) + (j : Int)) (X.drop (i + 1)) (Y.drop j)) := (by
                  show Pt _ _ _ _ _ _ _
                  rw [show k + (i + 1) = k + i + 1 by omega]
                  exact hP.out.out (by have := HkX.out; omega) hkp)
                clear hkp
                go_wp2
                go_roundw
                case rel => exact ⟨i + 1, j, Z', by omega, by omega, by go_num, rfl, hSn, HP2⟩
                case measure => simp [intOf]; omega
              · rw [if_neg hle] at hkp
                have hle' : ¬ (a2 : Int) ≤ (a1 : Int) := by omega
                have HP2 : Hid (Pt K Z' x.length (k + i) ((k : Int) + ((j + 1 : Nat) : Int)) (X.drop i) (Y.drop (j + 1))) := (by
                  show Pt _ _ _ _ _ _ _
                  rw [show (k : Int) + ((j + 1 : Nat) : Int) = (k : Int) + (j : Int) + 1 by omega]
                  exact hP.out.skip hkp)
                clear hkp
                go_wp2
                go_roundw
                case rel => exact ⟨i, j + 1, Z', by omega, by omega, rfl, by go_num, hSn, HP2⟩
                case measure => simp [intOf]; omega
          · have hZ : Z' = K := hP.out.done (by simp; omega) (.inr (List.drop_of_length_le (by omega)))
            have hj' : ¬ (j : Int) < (Y.length : Int) := by omega
            have hi' : (i : Int) < (X.length : Int) := by omega
            subst hZ
            have hl := hP.out.len
            go_wp2
            go_ret
            refine ⟨_, rfl, ?_, hS.low⟩
            unfold HI
            rw [hl]
            exact holds_of hS.own
        · have hZ : Z' = K := hP.out.done (by simp; omega) (.inl (List.drop_of_length_le (by omega)))
          have hi' : ¬ (i : Int) < (X.length : Int) := by omega
          subst hZ
          have hl := hP.out.len
          go_wp2
          go_ret
          refine ⟨_, rfl, ?_, hS.low⟩
          unfold HI
          rw [hl]
          exact holds_of hS.own
end Go.Proofs.YtgiojkhmkeocfaaGreatDoor

/- Diff and the law's own test works, walked. -/
set_option maxRecDepth 20000
namespace Go.Proofs.YtgiojkhmkeocfaaGreatDoor
open Go.RowKit

set_option maxRecDepth 10000 in
set_option maxHeartbeats 2000000 in
theorem Diff_f (x y : List Int) (vx vy : Value) (w : World) (hx : HI w vx x) (hy : HI w vy y) (hxl : x.length ≤ 4096) (hyl : y.length ≤ 4096) (L : List Ch) (hL : Hid (mkL (kp 0 x y) y.length = L)) :
    Calls Tryz.prog 127 #[vx, vy] w fun e w' => ∃ v', e = .returned (.tuple #[v', .int .i64 0]) ∧ HCh w' v' L ∧ Below w.heap.size w w' := by
  obtain ⟨xo, xc, rfl⟩ := Holds.form hx
  obtain ⟨yo, yc, rfl⟩ := Holds.form hy
  go_enter Tryz.func127, Tryz.ntmps127
  go_wp2_with fail
  refine (tooLong_any x y _ _ _ hx hy false (by show _ = _; symm; simp; omega)).mono ?_
  rintro e w0 ⟨rfl, rfl⟩
  go_wp2_with fail
  refine (kept_f x y _ _ _ hx hy hxl hyl (kp 0 x y) rfl).mono ?_
  rintro e w1 ⟨v, rfl, hv, hB1⟩
  have hkl := kp_length 0 x y
  have hvk : Hid (Vk 0 (y.length : Int) (kp 0 x y)) := (by
    have := kp_vk 0 x y (Int.le_refl _)
    rw [Int.zero_add] at this
    exact this)
  generalize kp 0 x y = K at *
  obtain ⟨o1, c1, rfl⟩ := Holds.form hv
  have hKl : K.length ≤ 1048576 := by omega
  have HKL : Hid (K.length = x.length) := hkl
  clear hkl
  go_wp2_with fail
  refine (Make_f K y.length L _ _ hv hKl hvk (by omega) (by omega) hL).mono ?_
  rintro e w2 ⟨v2, rfl, hv2, hB2⟩
  go_wp2
  go_ret2
  exact ⟨_, rfl, hv2, hB1.trans (hB2.mono hB1.size)⟩

end Go.Proofs.YtgiojkhmkeocfaaGreatDoor

/- A script that is made of what is kept keeps it: plain. -/
set_option maxRecDepth 20000
namespace Go.Proofs.YtgiojkhmkeocfaaGreatDoor

theorem Right.many {f : Bool} {a b n m : Int} {l : List Ch} (h : Right f a b n m l) : (l.length : Int) ≤ (n - a) + (m - b) := by
  induction l generalizing f a b with
  | nil => have := h.le; simp; omega
  | cons c l ih =>
    obtain ⟨⟨h1, h2, h3, h4⟩, h5⟩ := h
    rw [numB_iff] at h1
    have := ih h5
    simp only [List.length_cons]
    omega
end Go.Proofs.YtgiojkhmkeocfaaGreatDoor

/- Pieces of two rows of classes, and what of them is kept, whatever an engine does with the middle: plain. -/
set_option maxRecDepth 20000
namespace Go.Proofs.YtgiojkhmkeocfaaGreatDoor

/-- x from a up to b -/
def sub (x : List Int) (a b : Nat) : List Int := (x.drop a).take (b - a)
theorem sub_length (x : List Int) (a b : Nat) (hb : b ≤ x.length) : (sub x a b).length = b - a := by
  unfold sub
  rw [List.length_take, List.length_drop]
  omega
/-- how many are the same at the front of two pieces -/
def tfN (x y : List Int) : Nat → Nat → Nat → Nat
  | 0, _, _ => 0
  | n + 1, a, c => if x[a]? = y[c]? then tfN x y n (a + 1) (c + 1) + 1 else 0
def tf (x y : List Int) (a b c d : Nat) : Nat := tfN x y (min (b - a) (d - c)) a c
theorem tf_eq (x y : List Int) (a b c d : Nat) : tf x y a b c d = if a < b ∧ c < d ∧ x[a]? = y[c]? then tf x y (a + 1) b (c + 1) d + 1 else 0 := by
  unfold tf
  by_cases h : a < b ∧ c < d
  · rw [show min (b - a) (d - c) = min (b - (a + 1)) (d - (c + 1)) + 1 by omega, tfN]
    by_cases e : x[a]? = y[c]?
    · rw [if_pos e, if_pos ⟨h.1, h.2, e⟩]
    · rw [if_neg e, if_neg (fun q => e q.2.2)]
  · rw [show min (b - a) (d - c) = 0 by omega, tfN, if_neg (fun q => h ⟨q.1, q.2.1⟩)]
/-- at the end -/
def tb (x y : List Int) (a b c d : Nat) : Nat := if a < b ∧ c < d ∧ x[b - 1]? = y[d - 1]? then tb x y a (b - 1) c (d - 1) + 1 else 0
theorem tf_le (x y : List Int) (a b c d : Nat) : tf x y a b c d ≤ b - a ∧ tf x y a b c d ≤ d - c := by
  induction h : b - a generalizing a c with
  | zero => rw [tf_eq, if_neg (by omega)]; omega
  | succ n ih =>
    rw [tf_eq]
    split
    · have := ih (a + 1) (c + 1) (by omega)
      omega
    · omega
theorem tb_le (x y : List Int) (a b c d : Nat) : tb x y a b c d ≤ b - a ∧ tb x y a b c d ≤ d - c := by
  induction h : b - a generalizing b d with
  | zero => rw [tb, if_neg (by omega)]; omega
  | succ n ih =>
    rw [tb]
    split
    · have := ih (b - 1) (d - 1) (by omega)
      omega
    · omega
/-- the pairs at the front, at the end -/
def fp (a c : Nat) : Nat → List Pr
  | 0 => []
  | k + 1 => ⟨a, c⟩ :: fp (a + 1) (c + 1) k
def bp (b d : Nat) : Nat → List Pr
  | 0 => []
  | k + 1 => ⟨(b - 1 : Nat), (d - 1 : Nat)⟩ :: bp (b - 1) (d - 1) k
/-- within these bounds -/
def Wn (a b c d : Nat) (p : Pr) : Prop := (a : Int) ≤ p.X ∧ p.X < b ∧ (c : Int) ≤ p.Y ∧ p.Y < d
theorem bp_wn (b d k : Nat) (hb : k ≤ b) (hd : k ≤ d) : ∀ p ∈ bp b d k, Wn (b - k) b (d - k) d p := by
  induction k generalizing b d with
  | zero => intro p hp; simp [bp] at hp
  | succ k ih =>
    intro p hp
    rw [bp] at hp
    rcases List.mem_cons.1 hp with rfl | hp
    · unfold Wn
      dsimp only
      omega
    · have := ih (b - 1) (d - 1) (by omega) (by omega) p hp
      unfold Wn at this ⊢
      omega
/-- what the least script keeps, from place a on, c further on -/
def lp (a c : Int) : List Int → List Pr
  | [] => []
  | j :: K => (if j = -1 then [] else [⟨a, c + j⟩]) ++ lp (a + 1) c K
/-- both ends, and the middle by N -/
def ends (x y : List Int) (N : Nat → Nat → Nat → Nat → List Pr) (a b c d : Nat) : List Pr :=
  fp a c (tf x y a b c d) ++ (bp b d (tb x y (a + tf x y a b c d) b (c + tf x y a b c d) d) ++
    (if a + tf x y a b c d < b - tb x y (a + tf x y a b c d) b (c + tf x y a b c d) d ∧ c + tf x y a b c d < d - tb x y (a + tf x y a b c d) b (c + tf x y a b c d) d then
      N (a + tf x y a b c d) (b - tb x y (a + tf x y a b c d) b (c + tf x y a b c d) d) (c + tf x y a b c d) (d - tb x y (a + tf x y a b c d) b (c + tf x y a b c d) d)
    else []))
/-- what is kept of two pieces, by an engine M -/
def pcs (M : (Nat → Nat → Nat → Nat → List Pr) → Nat → Nat → Nat → Nat → List Pr) (x y : List Int) : Nat → Nat → Nat → Nat → Nat → List Pr
  | 0, _, _, _, _ => []
  | f + 1, a, b, c, d => ends x y (M (pcs M x y f)) a b c d
/-- the pairs are written down -/
def wrk (K : List Int) (l : List Pr) : List Int := l.foldl (fun K p => K.set p.X.toNat p.Y) K
theorem wrk_append (K : List Int) (a b : List Pr) : wrk K (a ++ b) = wrk (wrk K a) b := by simp [wrk]
theorem wrk_cons (K : List Int) (p : Pr) (b : List Pr) : wrk K (p :: b) = wrk (K.set p.X.toNat p.Y) b := rfl
theorem wrk_length (K : List Int) (l : List Pr) : (wrk K l).length = K.length := by
  induction l generalizing K with
  | nil => rfl
  | cons p l ih => rw [wrk_cons, ih, List.length_set]
/-- a pair elsewhere may be written first -/
theorem wrk_comm (K : List Int) (l : List Pr) (u : Nat) (v : Int) (h : ∀ p ∈ l, p.X.toNat ≠ u) : wrk (K.set u v) l = (wrk K l).set u v := by
  induction l generalizing K with
  | nil => rfl
  | cons p l ih =>
    rw [wrk_cons, wrk_cons, List.set_comm _ _ (fun e => h p (List.mem_cons_self ..) e.symm), ih _ (fun q hq => h q (List.mem_cons_of_mem _ hq))]

theorem tf_same (x y : List Int) (a b c d : Nat) : ∀ i, i < tf x y a b c d → x[a + i]? = y[c + i]? := by
  induction h : b - a generalizing a c with
  | zero => intro i hi; rw [tf_eq, if_neg (by omega)] at hi; omega
  | succ n ih =>
    intro i hi
    rw [tf_eq] at hi
    split at hi
    · rename_i hh
      cases i with
      | zero => exact hh.2.2
      | succ i =>
        have := ih (a + 1) (c + 1) (by omega) i (by omega)
        rw [show a + (i + 1) = a + 1 + i by omega, show c + (i + 1) = c + 1 + i by omega]
        exact this
    · omega
theorem tb_same (x y : List Int) (a b c d : Nat) : ∀ i, i < tb x y a b c d → x[b - (i + 1)]? = y[d - (i + 1)]? := by
  induction h : b - a generalizing b d with
  | zero => intro i hi; rw [tb, if_neg (by omega)] at hi; omega
  | succ n ih =>
    intro i hi
    rw [tb] at hi
    split at hi
    · rename_i hh
      cases i with
      | zero => exact hh.2.2
      | succ i =>
        have := ih (b - 1) (d - 1) (by omega) i (by omega)
        rw [show b - (i + 1 + 1) = b - 1 - (i + 1) by omega, show d - (i + 1 + 1) = d - 1 - (i + 1) by omega]
        exact this
    · omega
/-- any two are the same, or one is above the other -/
def Ris (l : List Pr) : Prop := ∀ p ∈ l, ∀ q ∈ l, p = q ∨ ab q p ∨ ab p q
/-- within these bounds, rising, and of the same class -/
structure Okp (x y : List Int) (a b c d : Nat) (l : List Pr) : Prop where
  wn : ∀ p ∈ l, Wn a b c d p
  ris : Ris l
  eqs : ∀ p ∈ l, x[p.X.toNat]? = y[p.Y.toNat]?
section
variable {x y : List Int}
theorem Okp.nil (a b c d : Nat) : Okp x y a b c d [] := ⟨fun p hp => by simp at hp, fun p hp => by simp at hp, fun p hp => by simp at hp⟩
theorem Okp.mono {a b c d a' b' c' d' : Nat} {l : List Pr} (h : Okp x y a b c d l) (ha : a' ≤ a) (hb : b ≤ b') (hc : c' ≤ c) (hd : d ≤ d') : Okp x y a' b' c' d' l := ⟨fun p hp => by have := h.wn p hp; unfold Wn at this ⊢; omega, h.ris, h.eqs⟩
theorem Okp.one {a c : Nat} (h : x[a]? = y[c]?) : Okp x y a (a + 1) c (c + 1) [⟨a, c⟩] := ⟨fun p hp => by simp at hp; subst hp; unfold Wn; dsimp only; omega, fun p hp q hq => by simp at hp hq; subst hp; subst hq; exact .inl rfl, fun p hp => by simp at hp; subst hp; simpa using h⟩
theorem Okp.cat {a b c d a' b' c' d' A B C D : Nat} {l l' : List Pr} (h : Okp x y a b c d l) (h' : Okp x y a' b' c' d' l') (hs : (b ≤ a' ∧ d ≤ c') ∨ (b' ≤ a ∧ d' ≤ c)) (h1 : A ≤ a ∧ A ≤ a') (h2 : b ≤ B ∧ b' ≤ B) (h3 : C ≤ c ∧ C ≤ c') (h4 : d ≤ D ∧ d' ≤ D) : Okp x y A B C D (l ++ l') := by
  refine ⟨fun p hp => ?_, fun p hp q hq => ?_, fun p hp => ?_⟩
  · rcases List.mem_append.1 hp with hp | hp
    · exact (h.mono h1.1 h2.1 h3.1 h4.1).wn p hp
    · exact (h'.mono h1.2 h2.2 h3.2 h4.2).wn p hp
  · rcases List.mem_append.1 hp with hp | hp <;> rcases List.mem_append.1 hq with hq | hq
    · exact h.ris p hp q hq
    · have e1 := h.wn p hp
      have e2 := h'.wn q hq
      unfold Wn at e1 e2
      rcases hs with hs | hs
      · exact .inr (.inl ⟨by omega, by omega⟩)
      · exact .inr (.inr ⟨by omega, by omega⟩)
    · have e1 := h'.wn p hp
      have e2 := h.wn q hq
      unfold Wn at e1 e2
      rcases hs with hs | hs
      · exact .inr (.inr ⟨by omega, by omega⟩)
      · exact .inr (.inl ⟨by omega, by omega⟩)
    · exact h'.ris p hp q hq
  · rcases List.mem_append.1 hp with hp | hp
    · exact h.eqs p hp
    · exact h'.eqs p hp
theorem fp_ok (a c k : Nat) (h : ∀ i, i < k → x[a + i]? = y[c + i]?) : Okp x y a (a + k) c (c + k) (fp a c k) := by
  induction k generalizing a c with
  | zero => exact Okp.nil _ _ _ _
  | succ k ih => exact (Okp.one (h 0 (by omega))).cat (ih (a + 1) (c + 1) (fun i hi => by have := h (i + 1) (by omega); rw [show a + 1 + i = a + (i + 1) by omega, show c + 1 + i = c + (i + 1) by omega]; exact this)) (.inl ⟨by omega, by omega⟩) ⟨by omega, by omega⟩ ⟨by omega, by omega⟩ ⟨by omega, by omega⟩ ⟨by omega, by omega⟩
theorem bp_ok (b d k : Nat) (hb : k ≤ b) (hd : k ≤ d) (h : ∀ i, i < k → x[b - (i + 1)]? = y[d - (i + 1)]?) : Okp x y (b - k) b (d - k) d (bp b d k) := by
  induction k generalizing b d with
  | zero => exact Okp.nil _ _ _ _
  | succ k ih =>
    have h0 : Okp x y (b - 1) (b - 1 + 1) (d - 1) (d - 1 + 1) [⟨(b - 1 : Nat), (d - 1 : Nat)⟩] := Okp.one (by simpa using h 0 (by omega))
    exact h0.cat (ih (b - 1) (d - 1) (by omega) (by omega) (fun i hi => by have := h (i + 1) (by omega); rw [show b - 1 - (i + 1) = b - (i + 1 + 1) by omega, show d - 1 - (i + 1) = d - (i + 1 + 1) by omega]; exact this)) (.inr ⟨by omega, by omega⟩) ⟨by omega, by omega⟩ ⟨by omega, by omega⟩ ⟨by omega, by omega⟩ ⟨by omega, by omega⟩
theorem lp_ok (K : List Int) : ∀ (a c nx m : Nat), Vk nx m K → (∀ (i q : Nat), K[i]? = some (q : Int) → x[a + i]? = y[c + q]?) → Okp x y a (a + K.length) (c + nx) (c + m) (lp a c K) := by
  induction K with
  | nil => intro a c nx m _ _; exact Okp.nil _ _ _ _
  | cons z K ih =>
    intro a c nx m h hs
    rw [lp]
    simp only [List.length_cons]
    have hs' : ∀ (i q : Nat), K[i]? = some (q : Int) → x[a + 1 + i]? = y[c + q]? := fun i q hi => by
      have := hs (i + 1) q (by simpa using hi)
      rw [show a + 1 + i = a + (i + 1) by omega]
      exact this
    rcases h with ⟨hz, h⟩ | ⟨hz, h1, h2, h⟩
    · rw [if_pos hz, List.nil_append]
      exact (ih (a + 1) c nx m h hs').mono (by omega) (by omega) (by omega) (by omega)
    · rw [if_neg hz]
      obtain ⟨j, rfl⟩ : ∃ j : Nat, z = j := ⟨z.toNat, by omega⟩
      have e1 : Okp x y a (a + 1) (c + j) (c + j + 1) [⟨(a : Int), (c : Int) + (j : Int)⟩] := by simpa using Okp.one (x := x) (y := y) (a := a) (c := c + j) (by simpa using hs 0 j (by simp))
      exact e1.cat (ih (a + 1) c (j + 1) m (by simpa using h) hs') (.inl ⟨by omega, by omega⟩) ⟨by omega, by omega⟩ ⟨by omega, by omega⟩ ⟨by omega, by omega⟩ ⟨by omega, by omega⟩
end
theorem sub_at (x : List Int) (a b i : Nat) (hi : i < b - a) : (sub x a b)[i]? = x[a + i]? := by
  unfold sub
  rw [List.getElem?_take_of_lt hi, List.getElem?_drop]
theorem sub_some {x : List Int} {a b i : Nat} {z : Int} (h : (sub x a b)[i]? = some z) : i < b - a ∧ x[a + i]? = some z := by
  have h1 := (List.getElem?_eq_some_iff.1 h).1
  unfold sub at h1
  rw [List.length_take] at h1
  exact ⟨by omega, by rw [← sub_at x a b i (by omega)]; exact h⟩
/-- what the least script keeps of a middle -/
theorem least_ok (x y : List Int) (a b c d : Nat) (hab : a ≤ b) (hb : b ≤ x.length) (hcd : c ≤ d) (hd : d ≤ y.length) : Okp x y a b c d (lp a c (kp 0 (sub x a b) (sub y c d))) := by
  have h1 := lp_ok (x := x) (y := y) (kp 0 (sub x a b) (sub y c d)) a c 0 (d - c) (by
    have := kp_vk 0 (sub x a b) (sub y c d) (Int.le_refl _)
    rw [sub_length y _ _ (by omega), Int.zero_add] at this
    exact this) (fun i q hq => by
      obtain ⟨_, z, h1, h2⟩ := kp_same 0 _ _ (Int.le_refl _) i q hq (by omega)
      rw [show ((q : Int) - 0).toNat = q by omega] at h2
      rw [(sub_some h1).2, (sub_some h2).2])
  rw [kp_length, sub_length x _ _ (by omega)] at h1
  exact h1.mono (Nat.le_refl _) (by omega) (by omega) (by omega)
theorem ends_ok (x y : List Int) (N : Nat → Nat → Nat → Nat → List Pr) (a b c d : Nat) (hab : a ≤ b) (_ : b ≤ x.length) (hcd : c ≤ d) (_ : d ≤ y.length) (hN : ∀ a' b' c' d', a ≤ a' → a' < b' → b' ≤ b → c ≤ c' → c' < d' → d' ≤ d → Okp x y a' b' c' d' (N a' b' c' d')) : Okp x y a b c d (ends x y N a b c d) := by
  unfold ends
  have hk := tf_le x y a b c d
  have hks := tf_same x y a b c d
  generalize tf x y a b c d = k at hk hks ⊢
  have hm := tb_le x y (a + k) b (c + k) d
  have hms := tb_same x y (a + k) b (c + k) d
  generalize tb x y (a + k) b (c + k) d = m at hm hms ⊢
  have hmid : Okp x y (a + k) (b - m) (c + k) (d - m) (if a + k < b - m ∧ c + k < d - m then N (a + k) (b - m) (c + k) (d - m) else []) := by
    split
    · rename_i h
      exact hN _ _ _ _ (by omega) h.1 (by omega) (by omega) h.2 (by omega)
    · exact Okp.nil _ _ _ _
  have h1 := fp_ok (x := x) (y := y) a c k hks
  have h2 := bp_ok (x := x) (y := y) b d m (by omega) (by omega) hms
  exact h1.cat (h2.cat hmid (.inr ⟨by omega, by omega⟩) (A := a + k) (B := b) (C := c + k) (D := d) ⟨by omega, by omega⟩ ⟨by omega, by omega⟩ ⟨by omega, by omega⟩ ⟨by omega, by omega⟩) (.inl ⟨by omega, by omega⟩) ⟨by omega, by omega⟩ ⟨by omega, by omega⟩ ⟨by omega, by omega⟩ ⟨by omega, by omega⟩
/-- an engine that goes on with shorter pieces keeps what is right, if they do -/
def MOk (M : (Nat → Nat → Nat → Nat → List Pr) → Nat → Nat → Nat → Nat → List Pr) (x y : List Int) : Prop := ∀ (rec : Nat → Nat → Nat → Nat → List Pr) (a b c d : Nat), a < b → b ≤ x.length → c < d → d ≤ y.length → (∀ a' b' c' d', a' ≤ b' → b' ≤ x.length → c' ≤ d' → d' ≤ y.length → Okp x y a' b' c' d' (rec a' b' c' d')) → Okp x y a b c d (M rec a b c d)
theorem pcs_ok {M : (Nat → Nat → Nat → Nat → List Pr) → Nat → Nat → Nat → Nat → List Pr} {x y : List Int} (hM : MOk M x y) (f : Nat) : ∀ a b c d, a ≤ b → b ≤ x.length → c ≤ d → d ≤ y.length → Okp x y a b c d (pcs M x y f a b c d) := by
  induction f with
  | zero => intro a b c d _ _ _ _; exact Okp.nil _ _ _ _
  | succ f ih =>
    intro a b c d hab hb hcd hd
    rw [pcs]
    exact ends_ok x y _ a b c d hab hb hcd hd (fun a' b' c' d' _ h2 h3 _ h5 h6 => hM _ a' b' c' d' h2 (by omega) h5 (by omega) ih)

/-- what stands at a place behind the writing -/
theorem wrk_get (l : List Pr) : ∀ (K : List Int) (i : Nat) (z : Int), (wrk K l)[i]? = some z → K[i]? = some z ∨ ∃ p ∈ l, p.X.toNat = i ∧ p.Y = z := by
  induction l with
  | nil => intro K i z h; exact .inl h
  | cons p l ih =>
    intro K i z h
    rw [wrk_cons] at h
    rcases ih _ i z h with h | ⟨q, hq, h⟩
    · by_cases e : p.X.toNat = i
      · subst e
        by_cases hl : p.X.toNat < K.length
        · rw [List.getElem?_set_self hl] at h
          cases h
          exact .inr ⟨p, List.mem_cons_self .., rfl, rfl⟩
        · rw [List.getElem?_eq_none (by rw [List.length_set]; omega)] at h
          cases h
      · rw [List.getElem?_set_ne e] at h
        exact .inl h
    · exact .inr ⟨q, List.mem_cons_of_mem _ hq, h⟩
theorem vk_of (K : List Int) : ∀ (nx m : Int), (∀ z ∈ K, z = -1 ∨ (nx ≤ z ∧ z < m)) → K.Pairwise (fun z z' => z = -1 ∨ z' = -1 ∨ z < z') → Vk nx m K := by
  induction K with
  | nil => intro _ _ _ _; trivial
  | cons z K ih =>
    intro nx m h1 h2
    have h2' := List.pairwise_cons.1 h2
    by_cases hz : z = -1
    · exact .inl ⟨hz, ih nx m (fun y hy => h1 y (List.mem_cons_of_mem _ hy)) h2'.2⟩
    · have h3 := (h1 z (List.mem_cons_self ..)).resolve_left hz
      refine .inr ⟨hz, h3.1, h3.2, ih (z + 1) m (fun y hy => ?_) h2'.2⟩
      rcases h1 y (List.mem_cons_of_mem _ hy) with e | e
      · exact .inl e
      · rcases h2'.1 y hy with q | q | q
        · exact absurd q hz
        · exact .inl q
        · exact .inr ⟨by omega, e.2⟩
/-- what is written is a keeping -/
theorem wrk_vk {x y : List Int} (n m : Nat) (l : List Pr) (h : Okp x y 0 n 0 m l) : Vk 0 m (wrk (List.replicate n (-1)) l) := by
  have hget : ∀ (i : Nat) (z : Int), (wrk (List.replicate n (-1)) l)[i]? = some z → z = -1 ∨ ∃ p ∈ l, p.X = i ∧ p.Y = z := fun i z hz => by
    rcases wrk_get l _ i z hz with q | ⟨p, hp, q1, q2⟩
    · left
      rw [List.getElem?_replicate] at q
      split at q
      · cases q; rfl
      · cases q
    · have := h.wn p hp
      unfold Wn at this
      exact .inr ⟨p, hp, by omega, q2⟩
  refine vk_of _ 0 m (fun z hz => ?_) (List.pairwise_iff_getElem.2 fun i j hi hj hij => ?_)
  · obtain ⟨i, hi, e⟩ := List.getElem_of_mem hz
    rcases hget i z (by rw [List.getElem?_eq_getElem hi, e]) with q | ⟨p, hp, _, q2⟩
    · exact .inl q
    · have := h.wn p hp
      unfold Wn at this
      exact .inr ⟨by omega, by omega⟩
  · rcases hget i _ (List.getElem?_eq_getElem hi) with q | ⟨p, hp, p1, p2⟩
    · exact .inl q
    · rcases hget j _ (List.getElem?_eq_getElem hj) with q | ⟨q, hq, q1, q2⟩
      · exact .inr (.inl q)
      · refine .inr (.inr ?_)
        rw [← p2, ← q2]
        rcases h.ris p hp q hq with e | e | e
        · subst e
          omega
        · exact e.2
        · have := e.1
          omega

/-- what is written of pairs is found there -/
theorem wrk_has (l : List Pr) (n : Nat) (hr : Ris l) (hw : ∀ p ∈ l, 0 ≤ p.X ∧ p.X < n) : ∀ K : List Int, K.length = n → ∀ p ∈ l, (wrk K l)[p.X.toNat]? = some p.Y := by
  induction l with
  | nil => intro K _ p hp; simp at hp
  | cons q l ih =>
    intro K hK p hp
    rw [wrk_cons]
    have ih' := ih (fun a ha b hb => hr a (List.mem_cons_of_mem _ ha) b (List.mem_cons_of_mem _ hb)) (fun a ha => hw a (List.mem_cons_of_mem _ ha)) (K.set q.X.toNat q.Y) (by rw [List.length_set]; exact hK)
    by_cases h : p ∈ l
    · exact ih' p h
    · have e : p = q := (List.mem_cons.1 hp).resolve_right h
      subst e
      have hb := hw p (List.mem_cons_self ..)
      by_cases hx : ∃ r ∈ l, r.X.toNat = p.X.toNat
      · obtain ⟨r, h1, h2⟩ := hx
        have hrb := hw r (List.mem_cons_of_mem _ h1)
        rcases hr p (List.mem_cons_self ..) r (List.mem_cons_of_mem _ h1) with e | e | e
        · subst e; exact ih' p h1
        · have := e.1; omega
        · have := e.1; omega
      · rw [wrk_comm K l _ _ (fun r h1 h2 => hx ⟨r, h1, h2⟩), List.getElem?_set_self (by rw [wrk_length]; omega)]
theorem mk_id (n : Nat) : mkL ((List.range n).map fun (j : Nat) => (0 : Int) + (j : Int)) n = [] := by
  unfold mkL
  rw [keptR_run 0 0 (Int.le_refl _)]
  have := betw_un 0 0 n [⟨(n : Int), (n : Int), 0⟩]
  simp at this ⊢
  first | (rw [this]; simp [betw]) | simpa [betw] using this
/-- no changes: the same texts -/
theorem nil_same {K x y : List Int} (hV : Vk 0 y.length K) (hl : K.length = x.length) (hs : ∀ (i q : Nat), K[i]? = some (q : Int) → x[i]? = y[q]?) (hx : x.length ≤ 4096) (hy : y.length ≤ 4096) (h : mkL K y.length = []) : x = y := by
  obtain ⟨⟨_, _, hS⟩, hU⟩ := mk_script hV (by omega) (by omega) (by rw [hl]; omega)
  rw [h] at hS hU
  rw [U_nil] at hU
  have hnm : x.length = y.length := by
    have h1 := hS.2.2
    rw [hl] at h1
    omega
  apply List.ext_getElem? 
  intro i
  by_cases hi : i < x.length
  · have hm : (⟨(i : Int), (i : Int), 1⟩ : Rn) ∈ keptR 0 K := by
      rw [← hU, mem_un]
      rw [hl]
      refine ⟨rfl, ?_, ?_, ?_⟩ <;> dsimp only <;> omega
    rw [mem_keptR] at hm
    obtain ⟨_, _, h3, _⟩ := hm
    dsimp only at h3
    rw [show ((i : Int) - 0).toNat = i by omega] at h3
    exact hs i i h3
  · rw [List.getElem?_eq_none (by omega), List.getElem?_eq_none (by omega)]
/-- all that is written of a right list of pairs -/
structure Kpt (x y K : List Int) : Prop where
  vk : Vk 0 y.length K
  len : K.length = x.length
  eqs : ∀ (i q : Nat), K[i]? = some (q : Int) → x[i]? = y[q]?
theorem Okp.kpt {x y : List Int} {l : List Pr} (h : Okp x y 0 x.length 0 y.length l) : Kpt x y (wrk (List.replicate x.length (-1)) l) := by
  refine ⟨wrk_vk _ _ _ h, by rw [wrk_length]; simp, fun i q hq => ?_⟩
  rcases wrk_get l _ i q hq with e | ⟨p, hp, e1, e2⟩
  · rw [List.getElem?_replicate] at e
    split at e
    · simp at e
    · cases e
  · have h1 := h.eqs p hp
    rw [e1, e2] at h1
    simpa using h1
theorem Okp.at {x y : List Int} {l : List Pr} (h : Okp x y 0 x.length 0 y.length l) {p : Pr} (hp : p ∈ l) : (wrk (List.replicate x.length (-1)) l)[p.X.toNat]? = some p.Y :=
  wrk_has l x.length h.ris (fun q hq => by have := h.wn q hq; unfold Wn at this; omega) _ (by simp) p hp
theorem mem_fp {a c k : Nat} {p : Pr} : p ∈ fp a c k ↔ ∃ i, i < k ∧ p = ⟨(a + i : Nat), (c + i : Nat)⟩ := by
  induction k generalizing a c with
  | zero => simp [fp]
  | succ k ih =>
    rw [fp, List.mem_cons, ih]
    constructor
    · rintro (rfl | ⟨i, hi, rfl⟩)
      · exact ⟨0, by omega, by simp⟩
      · exact ⟨i + 1, by omega, by rw [show a + 1 + i = a + (i + 1) by omega, show c + 1 + i = c + (i + 1) by omega]⟩
    · rintro ⟨i, hi, rfl⟩
      cases i with
      | zero => left; simp
      | succ i => exact .inr ⟨i, by omega, by rw [show a + 1 + i = a + (i + 1) by omega, show c + 1 + i = c + (i + 1) by omega]⟩
theorem tf_all (x : List Int) (a b : Nat) : tf x x a b a b = b - a := by
  induction h : b - a generalizing a with
  | zero => rw [tf_eq, if_neg (by omega)]
  | succ n ih => rw [tf_eq, if_pos ⟨by omega, by omega, rfl⟩, ih (a + 1) (by omega)]
end Go.Proofs.YtgiojkhmkeocfaaGreatDoor

/- Pieces of slices of numbers, as values and as what they hold. -/
set_option maxRecDepth 20000
namespace Go.Proofs.YtgiojkhmkeocfaaGreatDoor
open Go.RowKit

/-- x[k:], x[:k] of a slice of numbers, as values -/
def slF (ao : Option Addr) (cap k : Nat) : Option Addr := if cap = k then ao else ao.map (·.add k)
theorem hold_cap {w : World} {ao : Option Addr} {n c : Nat} {xs : List Value} (h : Holds w (.slice ao n c) n xs) : n ≤ c := by
  rcases h with ⟨h, h0, _⟩ | ⟨ad, c', h, h3, _⟩
  · omega
  · cases h; exact h3
theorem hold_from {w : World} {ao : Option Addr} {n c k : Nat} {L : List Int} (h : Holds w (.slice ao n c) n (icells L)) (hl : L.length = n) (hk : k ≤ n) : Holds w (.slice (slF ao c k) (n - k) (c - k)) (n - k) (icells (L.drop k)) := by
  have hnc := hold_cap h
  rcases h with ⟨h, h0, h4⟩ | ⟨ad, c', h, h3, hc⟩
  · cases h
    have : L = [] := by simpa [icells] using h4
    subst this
    have : k = 0 := by omega
    subst this
    exact .inl ⟨by simp [slF], by simp, by simp [icells]⟩
  · cases h
    refine .inr ⟨if c = k then ad else ad.add k, c - k, by unfold slF; split <;> simp, by omega, fun j v hj => ?_⟩
    have hj' : (icells L)[k + j]? = some v := by
      simp only [icells, List.map_drop, List.getElem?_drop] at hj ⊢
      exact hj
    have hlt := (List.getElem?_eq_some_iff.1 hj').1
    rw [icells_length] at hlt
    rw [if_neg (by omega)]
    have h0 := hc 0 _ (List.getElem?_eq_getElem (by rw [icells_length]; omega))
    obtain ⟨b, off, rfl⟩ := addr_of h0
    have := hc _ _ hj'
    rw [add_none] at this
    rw [add_none, add_none, Nat.add_assoc]
    exact this
theorem hold_to {w : World} {ao : Option Addr} {n c k : Nat} {L : List Int} (h : Holds w (.slice ao n c) n (icells L)) (hl : L.length = n) (hk : k ≤ n) : Holds w (.slice ao k c) k (icells (L.take k)) := by
  have hnc := hold_cap h
  rcases h with ⟨h, h0, h4⟩ | ⟨ad, c', h, h3, hc⟩
  · cases h
    have : L = [] := by simpa [icells] using h4
    subst this
    have : k = 0 := by omega
    subst this
    exact .inl ⟨by simp, by simp, by simp [icells]⟩
  · cases h
    refine .inr ⟨ad, c, rfl, by omega, fun j v hj => hc j v ?_⟩
    rw [icells, List.map_take] at hj
    rw [icells]
    by_cases hjk : j < k
    · rw [List.getElem?_take_of_lt hjk] at hj
      exact hj
    · rw [List.getElem?_eq_none (by simp; omega)] at hj
      cases hj
theorem sub_drop (x : List Int) (a b k : Nat) : (sub x a b).drop k = sub x (a + k) b := by
  unfold sub
  rw [List.drop_take, List.drop_drop]
  congr 1
  omega
theorem sub_take (x : List Int) (a b k : Nat) (hk : a + k ≤ b) : (sub x a b).take k = sub x a (a + k) := by
  unfold sub
  rw [List.take_take]
  congr 1
  omega
theorem Ls.lt {w u : World} {g n : Nat} {Z : List Int} (h : Ls w g n Z u) : w.heap.size ≤ g ∧ g < u.heap.size := by
  rcases h.own.2 with ⟨h1, _⟩ | ⟨g', cap, cur, h1, h2, h3, _⟩
  · cases h1
  · cases h1
    exact ⟨h2, (Array.getElem?_eq_some_iff.1 h3).1⟩
end Go.Proofs.YtgiojkhmkeocfaaGreatDoor

/- The package pieces: a piece as a value; Empty, UpTo, From, Keep, walked. -/
set_option maxRecDepth 20000
namespace Go.Proofs.YtgiojkhmkeocfaaGreatDoor
open Go.RowKit

structure Pz (W0 : World) (g : Nat) (x y : List Int) (a b c d : Nat) (xo : Option Addr) (nx xc : Nat) (yo : Option Addr) (ny yc : Nat) (ko : Option Addr) (kc : Nat) : Prop where
  eb : b = a + nx
  ed : d = c + ny
  bx : b ≤ x.length
  dy : d ≤ y.length
  hx : Holds W0 (.slice xo nx xc) nx (icells (sub x a b))
  hy : Holds W0 (.slice yo ny yc) ny (icells (sub y c d))
  hk : nx ≤ kc
  at' : 0 < nx → ko = some ⟨g, a, none⟩
section
variable {W0 : World} {g : Nat} {x y : List Int} {a b c d : Nat} {xo : Option Addr} {nx xc : Nat} {yo : Option Addr} {ny yc : Nat} {ko : Option Addr} {kc : Nat}
theorem Pz.from (h : Pz W0 g x y a b c d xo nx xc yo ny yc ko kc) {i j : Nat} (hi : i ≤ nx) (hj : j ≤ ny) : Pz W0 g x y (a + i) b (c + j) d (slF xo xc i) (nx - i) (xc - i) (slF yo yc j) (ny - j) (yc - j) (slF ko kc i) (kc - i) := by
  have e1 := h.eb
  have e2 := h.ed
  have e3 := h.hk
  refine ⟨by omega, by omega, h.bx, h.dy, ?_, ?_, by omega, fun h0 => ?_⟩
  · rw [← sub_drop]
    exact hold_from h.hx (by rw [sub_length x a b h.bx]; omega) hi
  · rw [← sub_drop]
    exact hold_from h.hy (by rw [sub_length y c d h.dy]; omega) hj
  · rw [h.at' (by omega), slF, if_neg (by omega), Option.map_some, add_none]
theorem Pz.to (h : Pz W0 g x y a b c d xo nx xc yo ny yc ko kc) {i j : Nat} (hi : i ≤ nx) (hj : j ≤ ny) : Pz W0 g x y a (a + i) c (c + j) xo i xc yo j yc ko kc := by
  have e1 := h.eb
  have e2 := h.ed
  have e3 := h.hk
  have e4 := h.bx
  have e5 := h.dy
  refine ⟨rfl, rfl, by omega, by omega, ?_, ?_, by omega, fun h0 => h.at' (by omega)⟩
  · rw [← sub_take x a b i (by omega)]
    exact hold_to h.hx (by rw [sub_length x a b h.bx]; omega) hi
  · rw [← sub_take y c d j (by omega)]
    exact hold_to h.hy (by rw [sub_length y c d h.dy]; omega) hj
end

/-- a piece in a box -/
def Qbx (u : World) (B : Nat) (v0 v1 v2 v3 : Value) : Prop := u.heap[B]? = some (.cells #[v0, v1, v2, v3] 243 (0, 0))
section
variable {u u' : World} {B : Nat} {v0 v1 v2 v3 : Value}
theorem Qbx.cells (h : Qbx u B v0 v1 v2 v3) : u.cell? ⟨B, 0, none⟩ = some v0 ∧ u.cell? ⟨B, 1, none⟩ = some v1 ∧ u.cell? ⟨B, 2, none⟩ = some v2 ∧ u.cell? ⟨B, 3, none⟩ = some v3 := by
  refine ⟨?_, ?_, ?_, ?_⟩ <;> rw [Lib.cell_of_heap h] <;> rfl
theorem Qbx.frozen (h : Qbx u B v0 v1 v2 v3) (j : Nat) : u.frozen? ⟨B, j, none⟩ = false := by
  unfold World.frozen?
  rw [h]
  rfl
theorem Qbx.lt (h : Qbx u B v0 v1 v2 v3) : B < u.heap.size := (Array.getElem?_eq_some_iff.1 h).1
theorem Qbx.keep (h : Qbx u B v0 v1 v2 v3) {r : Option Nat} (hg : u.grownBy u' r) (hr : some B ≠ r) : Qbx u' B v0 v1 v2 v3 := (hg.block B h.lt hr).trans h
theorem Qbx.low (h : Qbx u B v0 v1 v2 v3) (hg : Below u.heap.size u u') : Qbx u' B v0 v1 v2 v3 := (hg.block B h.lt).trans h
theorem Qbx.drewN (h : Qbx u B v0 v1 v2 v3) (k : Nat) : Qbx (u.drewN k) B v0 v1 v2 v3 := h
theorem Qbx.new (w : World) (v0 v1 v2 v3 : Value) : Qbx (w.alloc (.cells #[v0, v1, v2, v3] 243)) w.heap.size v0 v1 v2 v3 := _root_.Go.heap_alloc_new w _
theorem Qbx.put (h : Qbx u B v0 v1 v2 v3) (z0 z1 z2 z3 : Value) : Qbx ((((u.setCell ⟨B, 0, none⟩ z0).setCell ⟨B, 1, none⟩ z1).setCell ⟨B, 2, none⟩ z2).setCell ⟨B, 3, none⟩ z3) B z0 z1 z2 z3 := by
  have s1 := heap_setCell_same u B 0 _ _ z0 h
  have s2 := heap_setCell_same _ B 1 _ _ z1 s1
  have s3 := heap_setCell_same _ B 2 _ _ z2 s2
  exact heap_setCell_same _ B 3 _ _ z3 s3
end
end Go.Proofs.YtgiojkhmkeocfaaGreatDoor

/- The package pieces: KeepEnds, walked. -/
set_option maxRecDepth 20000
namespace Go.Proofs.YtgiojkhmkeocfaaGreatDoor
open Go.RowKit
attribute [local simp] low_drew

/-- the state of the walk -/
structure Ke (W0 w : World) (g : Nat) (x y K : List Int) (a b c d : Nat) (xo : Option Addr) (nx xc : Nat) (yo : Option Addr) (ny yc : Nat) (ko : Option Addr) (kc : Nat) (u : World) : Prop where
  pz : Pz W0 g x y a b c d xo nx xc yo ny yc ko kc
  ls : Ls W0 g x.length K u
  box : Qbx u w.heap.size (.slice xo nx xc) (.slice yo ny yc) (.int .i64 c) (.slice ko nx kc)
  res : Qbx u (w.heap.size + 1) (.slice none 0 0) (.slice none 0 0) (.int .i64 0) (.slice none 0 0)
  gr : w.grownBy u (some g)
section
variable {W0 w : World} {g : Nat} {x y K : List Int} {a b c d : Nat} {xo : Option Addr} {nx xc : Nat} {yo : Option Addr} {ny yc : Nat} {ko : Option Addr} {kc : Nat} {u u' : World}
theorem Ke.low (h : Ke W0 w g x y K a b c d xo nx xc yo ny yc ko kc u) (hb : Below u.heap.size u u') : Ke W0 w g x y K a b c d xo nx xc yo ny yc ko kc u' :=
  ⟨h.pz, h.ls.keep hb, h.box.low hb, h.res.low hb, h.gr.trans (low_grown hb _)⟩
/-- another row of what is kept -/
theorem Ke.kept (h : Ke W0 w g x y K a b c d xo nx xc yo ny yc ko kc u) (hw : g < w.heap.size) {K' : List Int} (hl : Ls W0 g x.length K' u') (hg : u.grownBy u' (some g)) : Ke W0 w g x y K' a b c d xo nx xc yo ny yc ko kc u' :=
  ⟨h.pz, hl, h.box.keep hg (by simp; omega), h.res.keep hg (by simp; omega), h.gr.trans hg⟩
/-- another piece in the box -/
theorem Ke.put (h : Ke W0 w g x y K a b c d xo nx xc yo ny yc ko kc u) (hw : g < w.heap.size) {a' b' c' d' : Nat} {xo' : Option Addr} {nx' xc' : Nat} {yo' : Option Addr} {ny' yc' : Nat} {ko' : Option Addr} {kc' : Nat} (hp : Pz W0 g x y a' b' c' d' xo' nx' xc' yo' ny' yc' ko' kc') :
    Ke W0 w g x y K a' b' c' d' xo' nx' xc' yo' ny' yc' ko' kc' ((((u.setCell ⟨w.heap.size, 0, none⟩ (.slice xo' nx' xc')).setCell ⟨w.heap.size, 1, none⟩ (.slice yo' ny' yc')).setCell ⟨w.heap.size, 2, none⟩ (.int .i64 (c' : Int))).setCell ⟨w.heap.size, 3, none⟩ (.slice ko' nx' kc')) := by
  have hg := h.ls.lt
  have hW := h.ls.low.size
  have hs := h.gr.size
  refine ⟨hp, ?_, h.box.put _ _ _ _, ?_, ?_⟩
  · exact ls_other (ls_other (ls_other (ls_other h.ls (by omega) (by omega) _ _) (by omega) (by omega) _ _) (by omega) (by omega) _ _) (by omega) (by omega) _ _
  · refine (heap_setCell_other _ _ _ _ (by simp)).trans ((heap_setCell_other _ _ _ _ (by simp)).trans ((heap_setCell_other _ _ _ _ (by simp)).trans ((heap_setCell_other _ _ _ _ (by simp)).trans h.res)))
  · exact grown_new (grown_new (grown_new (grown_new h.gr (Nat.le_refl _) _ _) (Nat.le_refl _) _ _) (Nat.le_refl _) _ _) (Nat.le_refl _) _ _
end

end Go.Proofs.YtgiojkhmkeocfaaGreatDoor

/- The package pieces: KeepAt and KeepMost, walked. -/
set_option maxRecDepth 20000
namespace Go.Proofs.YtgiojkhmkeocfaaGreatDoor
open Go.RowKit

end Go.Proofs.YtgiojkhmkeocfaaGreatDoor

/- The package pieces: the calls as steps that hand a piece on. -/
set_option maxRecDepth 20000
namespace Go.Proofs.YtgiojkhmkeocfaaGreatDoor
open Go.RowKit
section
variable {W0 : World} {g : Nat} {x y : List Int} {a b c d : Nat} {xo : Option Addr} {nx xc : Nat} {yo : Option Addr} {ny yc : Nat} {ko : Option Addr} {kc : Nat}
end
end Go.Proofs.YtgiojkhmkeocfaaGreatDoor

/- The package pieces: Diff with whatever function finds what is kept, walked. -/
set_option maxRecDepth 20000
namespace Go.Proofs.YtgiojkhmkeocfaaGreatDoor
open Go.RowKit

theorem betw_many (a b : Int) (l : List Rn) : (betw a b l).length ≤ l.length := by
  induction l generalizing a b with
  | nil => simp [betw]
  | cons r l ih =>
    rw [betw]
    have := ih (r.a + r.n) (r.b + r.n)
    split <;> simp <;> omega
theorem mk_many (K : List Int) (m : Int) : (mkL K m).length ≤ K.length + 1 := by
  unfold mkL
  have h1 := betw_many 0 0 (keptR 0 K ++ [⟨(K.length : Int), m, 0⟩])
  have h2 := kept_len 0 K
  rw [List.length_append, List.length_singleton] at h1
  omega

end Go.Proofs.YtgiojkhmkeocfaaGreatDoor

/- Rows of pairs in memory: two cells a pair. -/
set_option maxRecDepth 20000
namespace Go.Proofs.YtgiojkhmkeocfaaGreatDoor
open Go.RowKit

def prC (p : Pr) : List Value := [.int .i64 p.X, .int .i64 p.Y]
def prcells (l : List Pr) : List Value := l.flatMap prC
theorem prcells_length (l : List Pr) : (prcells l).length = l.length * 2 := by
  induction l with
  | nil => rfl
  | cons p t ih => simp only [prcells, List.flatMap_cons, List.length_append, List.length_cons, prC, List.length_nil] at ih ⊢; omega
theorem prcells_at (l : List Pr) (k : Nat) (hk : k < l.length) : (prcells l)[2 * k]? = some (.int .i64 l[k].X) ∧ (prcells l)[2 * k + 1]? = some (.int .i64 l[k].Y) := by
  induction l generalizing k with
  | nil => simp at hk
  | cons p t ih =>
    have e : prcells (p :: t) = .int .i64 p.X :: .int .i64 p.Y :: prcells t := rfl
    cases k with
    | zero => rw [e]; exact ⟨rfl, rfl⟩
    | succ k =>
      have := ih k (by simpa using hk)
      rw [e, show 2 * (k + 1) = 2 * k + 1 + 1 by omega]
      simpa using this
def HPr (w : World) (v : Value) (l : List Pr) : Prop := Holds w v l.length (prcells l)
theorem HPr.keep {w w' : World} {v : Value} {l : List Pr} (h : HPr w v l) {N : Nat} (hk : Below N w w') (hN : w.heap.size ≤ N) : HPr w' v l := Holds.keep h fun k hk' => hk.block k (by omega)
theorem HPr.at {w : World} {ao : Option Addr} {n c : Nat} {l : List Pr} (h : HPr w (.slice ao n c) l) (h0 : 0 < l.length) : ∃ b off, ao = some ⟨b, off, none⟩ ∧ b < w.heap.size ∧
    ∀ k (hk : k < l.length), w.cell? ⟨b, off + k * 2, none⟩ = some (.int .i64 l[k].X) ∧ w.cell? ⟨b, off + k * 2 + 1, none⟩ = some (.int .i64 l[k].Y) := by
  obtain ⟨b, off, c', hv, hb, hc⟩ := Holds.at h (by rw [prcells_length]; omega)
  cases hv
  refine ⟨b, off, rfl, hb, fun k hk => ?_⟩
  obtain ⟨h1, h2⟩ := prcells_at l k hk
  obtain ⟨l1, e1⟩ := List.getElem?_eq_some_iff.1 h1
  obtain ⟨l2, e2⟩ := List.getElem?_eq_some_iff.1 h2
  have g1 := hc _ l1
  have g2 := hc _ l2
  rw [e1] at g1
  rw [e2] at g2
  rw [show k * 2 = 2 * k by omega, Nat.add_assoc]
  exact ⟨g1, g2⟩
end Go.Proofs.YtgiojkhmkeocfaaGreatDoor

/- Lines that are there once: plain; the reference's times and Unique, and the law's same, walked. -/
set_option maxRecDepth 20000
namespace Go.Proofs.YtgiojkhmkeocfaaGreatDoor
open Go.RowKit

/-- how often a class stands in a text -/
def tm (c : Int) : List Int → Nat
  | [] => 0
  | a :: x => (if a = c then 1 else 0) + tm c x
/-- the places of a class from place j on, each with i -/
def ps (c i : Int) : Int → List Int → List Pr
  | _, [] => []
  | j, b :: y => (if b = c then [⟨i, j⟩] else []) ++ ps c i (j + 1) y
/-- the pairs of classes that stand once in each, from place i on -/
def uq (x0 y0 : List Int) : Int → List Int → List Pr
  | _, [] => []
  | i, a :: x => (if tm a x0 = 1 ∧ tm a y0 = 1 then ps a i 0 y0 else []) ++ uq x0 y0 (i + 1) x
def unq (x y : List Int) : List Pr := uq x y 0 x
end Go.Proofs.YtgiojkhmkeocfaaGreatDoor

/- What is kept of two pieces, by the layer patience: plain. -/
set_option maxRecDepth 20000
namespace Go.Proofs.YtgiojkhmkeocfaaGreatDoor

theorem pick_mem (left : Nat) (last : Option Pr) (l : List Pr) (ns : List Nat) : ∀ p ∈ pick left last l ns, p ∈ l := by
  induction l generalizing left last ns with
  | nil => intro p hp; simp [pick] at hp
  | cons a l ih =>
    intro p hp
    cases ns with
    | nil => simp [pick] at hp
    | cons n ns =>
      rw [pick] at hp
      split at hp
      · rcases List.mem_cons.1 hp with rfl | hp
        · exact List.mem_cons_self ..
        · exact List.mem_cons_of_mem _ (ih _ _ _ p hp)
      · exact List.mem_cons_of_mem _ (ih _ _ _ p hp)
theorem pick_rise (left : Nat) (last : Option Pr) (l : List Pr) (ns : List Nat) : (pick left last l ns).Pairwise (fun p q => ab q p) ∧ ∀ q, last = some q → ∀ p ∈ pick left last l ns, ab p q := by
  induction l generalizing left last ns with
  | nil => exact ⟨by simp [pick], fun _ _ p hp => by simp [pick] at hp⟩
  | cons a l ih =>
    cases ns with
    | nil => exact ⟨by simp [pick], fun _ _ p hp => by simp [pick] at hp⟩
    | cons n ns =>
      rw [pick]
      split
      · rename_i h
        obtain ⟨h1, h2⟩ := ih (left - 1) (some a) ns
        refine ⟨List.Pairwise.cons (fun q hq => h2 a rfl q hq) h1, fun q hq p hp => ?_⟩
        rcases List.mem_cons.1 hp with rfl | hp
        · exact h.2 q hq
        · exact ab_trans (h2 a rfl p hp) (h.2 q hq)
      · exact ih left last ns
theorem lng_mem (l : List Pr) : ∀ p ∈ lng l, p ∈ l := pick_mem _ _ _ _
theorem lng_rise (l : List Pr) : (lng l).Pairwise (fun p q => ab q p) := (pick_rise _ _ _ _).1
theorem ps_mem {c i : Int} (y : List Int) : ∀ (j : Int) (p : Pr), p ∈ ps c i j y → p.X = i ∧ j ≤ p.Y ∧ p.Y < j + y.length := by
  induction y with
  | nil => intro j p hp; simp [ps] at hp
  | cons b y ih =>
    intro j p hp
    rw [ps, List.mem_append] at hp
    rcases hp with hp | hp
    · split at hp
      · simp at hp
        subst hp
        exact ⟨rfl, Int.le_refl _, by simp; omega⟩
      · simp at hp
    · have := ih (j + 1) p hp
      simp only [List.length_cons]
      omega
theorem uq_mem (x0 y0 : List Int) (x : List Int) : ∀ (i : Int) (p : Pr), p ∈ uq x0 y0 i x → i ≤ p.X ∧ p.X < i + x.length ∧ 0 ≤ p.Y ∧ p.Y < y0.length := by
  induction x with
  | nil => intro i p hp; simp [uq] at hp
  | cons a x ih =>
    intro i p hp
    rw [uq, List.mem_append] at hp
    rcases hp with hp | hp
    · split at hp
      · have := ps_mem y0 0 p hp
        simp only [List.length_cons]
        omega
      · simp at hp
    · have := ih (i + 1) p hp
      simp only [List.length_cons]
      omega
theorem lu_mem (x y : List Int) (p : Pr) (hp : p ∈ lng (unq x y)) : 0 ≤ p.X ∧ p.X < x.length ∧ 0 ≤ p.Y ∧ p.Y < y.length := by
  have := uq_mem x y x 0 p (lng_mem _ p hp)
  omega

/-- what lies between the pairs of a row, and they themselves -/
def gos (rec : Nat → Nat → Nat → Nat → List Pr) (A C b d : Nat) : Nat → Nat → List Pr → List Pr
  | a, c, [] => rec a b c d
  | a, c, p :: L => rec a (A + p.X.toNat) c (C + p.Y.toNat) ++ ⟨(A + p.X.toNat : Nat), (C + p.Y.toNat : Nat)⟩ :: gos rec A C b d (A + p.X.toNat + 1) (C + p.Y.toNat + 1) L
/-- what is kept of a middle -/
def pmid (x y : List Int) (rec : Nat → Nat → Nat → Nat → List Pr) (a b c d : Nat) : List Pr :=
  if lng (unq (sub x a b) (sub y c d)) = [] then lp a c (kp 0 (sub x a b) (sub y c d)) else gos rec a c b d a c (lng (unq (sub x a b) (sub y c d)))
theorem ps_eqs {c i : Int} (y : List Int) : ∀ (j : Nat) (p : Pr), p ∈ ps c i j y → y[p.Y.toNat - j]? = some c := by
  induction y with
  | nil => intro j p hp; simp [ps] at hp
  | cons b y ih =>
    intro j p hp
    rw [ps, List.mem_append] at hp
    rcases hp with hp | hp
    · split at hp
      · rename_i h
        simp at hp
        subst hp
        simp [h]
      · simp at hp
    · have h1 := ih (j + 1) p (by simpa using hp)
      have h2 := ps_mem y (j + 1 : Int) p hp
      rw [show p.Y.toNat - j = (p.Y.toNat - (j + 1)) + 1 by omega]
      simpa using h1
theorem uq_eqs (x0 y0 : List Int) (x : List Int) : ∀ (i : Nat) (p : Pr), p ∈ uq x0 y0 i x → x[p.X.toNat - i]? = y0[p.Y.toNat]? := by
  induction x with
  | nil => intro i p hp; simp [uq] at hp
  | cons a x ih =>
    intro i p hp
    rw [uq, List.mem_append] at hp
    rcases hp with hp | hp
    · split at hp
      · have h1 := ps_eqs y0 0 p (by simpa using hp)
        have h2 := ps_mem y0 0 p hp
        simp at h1
        rw [h1, h2.1]
        simp
      · simp at hp
    · have h1 := ih (i + 1) p (by simpa using hp)
      have h2 := uq_mem x0 y0 x (i + 1 : Int) p hp
      rw [show p.X.toNat - i = (p.X.toNat - (i + 1)) + 1 by omega]
      simpa using h1
/-- the row of a middle lies within it -/
theorem row_in (x y : List Int) (a b c d : Nat) (hb : b ≤ x.length) (hd : d ≤ y.length) (p : Pr) (hp : p ∈ lng (unq (sub x a b) (sub y c d))) : 0 ≤ p.X ∧ 0 ≤ p.Y ∧ a ≤ a + p.X.toNat ∧ a + p.X.toNat < b ∧ c ≤ c + p.Y.toNat ∧ c + p.Y.toNat < d ∧ x[a + p.X.toNat]? = y[c + p.Y.toNat]? := by
  have h := lu_mem _ _ p hp
  have h2 := uq_eqs _ _ _ 0 p (lng_mem _ p hp)
  rw [sub_length x a b hb, sub_length y c d hd] at h
  rw [Nat.sub_zero, sub_at x a b _ (by omega), sub_at y c d _ (by omega)] at h2
  refine ⟨by omega, by omega, by omega, by omega, by omega, by omega, h2⟩
theorem gos_ok (x y : List Int) (rec : Nat → Nat → Nat → Nat → List Pr) (A C b d : Nat) (hrec : ∀ a' b' c' d', a' ≤ b' → b' ≤ b → c' ≤ d' → d' ≤ d → Okp x y a' b' c' d' (rec a' b' c' d')) (L : List Pr) :
    ∀ a c, a ≤ b → c ≤ d → (∀ p ∈ L, 0 ≤ p.X ∧ 0 ≤ p.Y ∧ a ≤ A + p.X.toNat ∧ A + p.X.toNat < b ∧ c ≤ C + p.Y.toNat ∧ C + p.Y.toNat < d ∧ x[A + p.X.toNat]? = y[C + p.Y.toNat]?) → L.Pairwise (fun p q => ab q p) → Okp x y a b c d (gos rec A C b d a c L) := by
  induction L with
  | nil => intro a c ha hc _ _; exact hrec a b c d ha (Nat.le_refl _) hc (Nat.le_refl _)
  | cons p L ih =>
    intro a c ha hc hL hR
    rw [gos]
    have hp := hL p (List.mem_cons_self ..)
    have hR' := List.pairwise_cons.1 hR
    have h1 := hrec a (A + p.X.toNat) c (C + p.Y.toNat) (by omega) (by omega) (by omega) (by omega)
    have h2 := Okp.one hp.2.2.2.2.2.2
    have h3 := ih (A + p.X.toNat + 1) (C + p.Y.toNat + 1) (by omega) (by omega) (fun q hq => by
      have e1 := hL q (List.mem_cons_of_mem _ hq)
      have e2 := hR'.1 q hq
      unfold ab at e2
      refine ⟨by omega, by omega, by omega, by omega, by omega, by omega, e1.2.2.2.2.2.2⟩) hR'.2
    exact h1.cat (h2.cat h3 (.inl ⟨by omega, by omega⟩) (A := A + p.X.toNat) (B := b) (C := C + p.Y.toNat) (D := d) ⟨by omega, by omega⟩ ⟨by omega, by omega⟩ ⟨by omega, by omega⟩ ⟨by omega, by omega⟩) (.inl ⟨by omega, by omega⟩) ⟨by omega, by omega⟩ ⟨by omega, by omega⟩ ⟨by omega, by omega⟩ ⟨by omega, by omega⟩
theorem pmid_ok (x y : List Int) : MOk (pmid x y) x y := by
  intro rec a b c d hab hb hcd hd hrec
  unfold pmid
  split
  · exact least_ok x y a b c d (by omega) hb (by omega) hd
  · exact gos_ok x y rec a c b d (fun a' b' c' d' h1 h2 h3 h4 => hrec a' b' c' d' h1 (by omega) h3 (by omega)) _ a c (by omega) (by omega) (fun p hp => row_in x y a b c d hb hd p hp) (lng_rise _)
end Go.Proofs.YtgiojkhmkeocfaaGreatDoor

/- Going through the pairs of a row, piece by piece: plain. -/
set_option maxRecDepth 20000
namespace Go.Proofs.YtgiojkhmkeocfaaGreatDoor

/-- what is still to be done: the pairs L, from a and c on -/
structure Gs (rec : Nat → Nat → Nat → Nat → List Pr) (A C b d : Nat) (L : List Pr) (a c : Nat) (K KF : List Int) : Prop where
  ab' : a ≤ b
  cd : c ≤ d
  Aa : A ≤ a
  Cc : C ≤ c
  all : ∀ p ∈ L, 0 ≤ p.X ∧ 0 ≤ p.Y ∧ a ≤ A + p.X.toNat ∧ A + p.X.toNat < b ∧ c ≤ C + p.Y.toNat ∧ C + p.Y.toNat < d
  up : L.Pairwise (fun p q => ab q p)
  fin : wrk K (gos rec A C b d a c L) = KF
theorem Gs.start {rec : Nat → Nat → Nat → Nat → List Pr} {x y : List Int} {a b c d : Nat} (hab : a ≤ b) (hb : b ≤ x.length) (hcd : c ≤ d) (hd : d ≤ y.length) {K KF : List Int} (h : wrk K (gos rec a c b d a c (lng (unq (sub x a b) (sub y c d)))) = KF) : Gs rec a c b d (lng (unq (sub x a b) (sub y c d))) a c K KF :=
  ⟨hab, hcd, Nat.le_refl _, Nat.le_refl _, fun p hp => by have := row_in x y a b c d hb hd p hp; omega, lng_rise _, h⟩
section
variable {rec : Nat → Nat → Nat → Nat → List Pr} {A C b d : Nat} {p : Pr} {L : List Pr} {a c : Nat} {K KF : List Int}
theorem Gs.step (h : Gs rec A C b d (p :: L) a c K KF) {u v : Nat} (hu : p.X = u) (hv : p.Y = v) : Gs rec A C b d L (A + u + 1) (C + v + 1) (wrk (wrk K (rec a (A + u) c (C + v))) (fp (A + u) (C + v) 1)) KF := by
  have h0 := h.all p (List.mem_cons_self ..)
  have h1 := List.pairwise_cons.1 h.up
  have e1 : p.X.toNat = u := by omega
  have e2 : p.Y.toNat = v := by omega
  refine ⟨by omega, by omega, by have := h.Aa; omega, by have := h.Cc; omega, fun q hq => ?_, h1.2, ?_⟩
  · have h2 := h.all q (List.mem_cons_of_mem _ hq)
    have h3 := h1.1 q hq
    unfold ab at h3
    omega
  · rw [← h.fin, gos, e1, e2, ← wrk_append, ← wrk_append]
    rfl
end
end Go.Proofs.YtgiojkhmkeocfaaGreatDoor

/- Laws for rows of pairs within their block: copy, clear, append with room, parts of a slice. -/
set_option maxRecDepth 20000
namespace Go.Proofs.YtgiojkhmkeocfaaGreatDoor
open Go.RowKit

/-- a block of pairs -/
def Blk (w : World) (g : Nat) (cur : List Value) : Prop := w.heap[g]? = some (.cells cur.toArray 249 (0, 0))
theorem Blk.cell {w : World} {g : Nat} {cur : List Value} (h : Blk w g cur) (j : Nat) : w.cell? ⟨g, j, none⟩ = cur[j]? := by
  rw [cell_of_row w g j cur.toArray _ (0, 0) h]
  simp
end Go.Proofs.YtgiojkhmkeocfaaGreatDoor

/- slices.Insert of one pair into a row of pairs, walked. -/
set_option maxRecDepth 20000
namespace Go.Proofs.YtgiojkhmkeocfaaGreatDoor
open Go.RowKit

/-- what a row of one's own becomes -/
def Grows (base : Nat) (w : World) (v : Value) (v' : Value) (l : List Pr) (w' : World) : Prop :=
  w'.ownsRow base 249 2 v' l.length (prcells l) ∧ w.grownBy w' v.ownBlock ∧ (v'.ownBlock = v.ownBlock ∨ ∃ g, v'.ownBlock = some g ∧ w.heap.size ≤ g)

end Go.Proofs.YtgiojkhmkeocfaaGreatDoor

/- slices.Replace by one pair in a row of pairs, walked. -/
set_option maxRecDepth 20000
namespace Go.Proofs.YtgiojkhmkeocfaaGreatDoor
open Go.RowKit

end Go.Proofs.YtgiojkhmkeocfaaGreatDoor

/- sort.Search, walked: the function value may lay blocks; what holds of the memory is kept. -/
set_option maxRecDepth 20000
namespace Go.Proofs.YtgiojkhmkeocfaaGreatDoor
open Go.RowKit

end Go.Proofs.YtgiojkhmkeocfaaGreatDoor

/- Heads of rows: upTo, behind, above of the code, walked. -/
set_option maxRecDepth 20000
namespace Go.Proofs.YtgiojkhmkeocfaaGreatDoor
open Go.RowKit
attribute [local simp] low_drew

end Go.Proofs.YtgiojkhmkeocfaaGreatDoor

/- The heads and one more: heads.with, walked. -/
set_option maxRecDepth 20000
namespace Go.Proofs.YtgiojkhmkeocfaaGreatDoor
open Go.RowKit
attribute [local simp] low_drew low_alloc

theorem owns_lt2 {w : World} {base n : Nat} {e : TypeId} {s : Nat} {v : Value} {xs : List Value} (ho : w.ownsRow base e s v n xs) {g : Nat} (hg : v.ownBlock = some g) : g < w.heap.size := by
  rcases ho.2 with ⟨h1, _⟩ | ⟨g', cap, cur, q1, q2, q3, _⟩
  · rw [h1] at hg; cases hg
  · rw [q1] at hg; cases hg; exact (Array.getElem?_eq_some_iff.1 q3).1
end Go.Proofs.YtgiojkhmkeocfaaGreatDoor

/- The iterator slices.Backward over a row of pairs: its contract for every loop body that keeps what it reads. -/
set_option maxRecDepth 20000
namespace Go.Proofs.YtgiojkhmkeocfaaGreatDoor
open Go.RowKit Go.Shelf
attribute [local go_sem] Oper.semAt_some

/-- what a round keeps: all below n₀, and the iterator's box -/
structure Kq (n₀ lo : Nat) (W W' : World) : Prop where
  low : Below n₀ W W'
  box : W'.heap[lo]? = W.heap[lo]?
section
variable {n₀ lo : Nat} {A B C : World}
theorem Kq.refl (W : World) : Kq n₀ lo W W := ⟨Below.refl _ _, rfl⟩
theorem Kq.trans (h : Kq n₀ lo A B) (k : Kq n₀ lo B C) : Kq n₀ lo A C := ⟨h.low.trans k.low, k.box.trans h.box⟩
theorem Kq.alloc {W : World} (hn : n₀ ≤ W.heap.size) (hl : lo < W.heap.size) (o : Obj) : Kq n₀ lo W (W.alloc o) := ⟨(Below.refl _ W).alloc hn o, Below.heap_alloc W o lo hl⟩
theorem Kq.drewN (W : World) (k : Nat) : Kq n₀ lo W (W.drewN k) := ⟨Below.dN (Below.refl _ W) k, rfl⟩
end
/-- the members with their places -/
def en (k : Nat) : List Pr → List (Nat × Pr)
  | [] => []
  | p :: t => (k, p) :: en (k + 1) t
theorem HPr.lt {w : World} {ao : Option Addr} {n c : Nat} {l : List Pr} (h : HPr w (.slice ao n c) l) (a : Addr) (ha : ao = some a) (h0 : 0 < l.length) : a.block < w.heap.size := by
  obtain ⟨b, off, hb, hlt, _⟩ := HPr.at h h0
  rw [ha] at hb
  cases hb
  exact hlt
end Go.Proofs.YtgiojkhmkeocfaaGreatDoor

/- The heads of all lengths in memory; the closure that looks whether one of them may stand behind a pair, walked. -/
set_option maxRecDepth 20000
namespace Go.Proofs.YtgiojkhmkeocfaaGreatDoor
open Go.RowKit
attribute [local simp] low_drew low_alloc

theorem owns_cells {w : World} {base n : Nat} {e : TypeId} {s : Nat} {v : Value} {xs : List Value} (ho : w.ownsRow base e s v n xs) {g : Nat} (hg : v.ownBlock = some g) : ∃ cur, w.heap[g]? = some (.cells cur e (0, 0)) ∧ base ≤ g := by
  rcases ho.2 with ⟨h1, _⟩ | ⟨g', cap, cur, q1, q2, q3, _⟩
  · rw [h1] at hg; cases hg
  · rw [q1] at hg; cases hg; exact ⟨cur, q3, q2⟩
theorem owns_differ {w : World} {base base' n n' : Nat} {e e' : TypeId} {s s' : Nat} {v v' : Value} {xs xs' : List Value} (ho : w.ownsRow base e s v n xs) (ho' : w.ownsRow base' e' s' v' n' xs') (hne : e ≠ e') : v.ownBlock = none ∨ v.ownBlock ≠ v'.ownBlock := by
  cases h : v.ownBlock with
  | none => exact .inl rfl
  | some g =>
    right
    intro e2
    obtain ⟨cur, h1, _⟩ := owns_cells ho h
    obtain ⟨cur', h2, _⟩ := owns_cells ho' e2.symm
    rw [h1] at h2
    cases h2
    exact hne rfl
/-- the heads of all lengths: a row of rows, each with its own block -/
structure Al (W : World) (base : Nat) (va : Value) (vals : List Value) (H : List (List Pr)) : Prop where
  row : W.ownsRow base 311 1 va vals.length vals
  len : vals.length = H.length
  own : ∀ (n : Nat) (v : Value) (h : List Pr), vals[n]? = some v → H[n]? = some h → W.ownsRow base 249 2 v h.length (prcells h)
  apart : ∀ (i j : Nat) (v v' : Value) (g : Nat), i ≠ j → vals[i]? = some v → vals[j]? = some v' → v.ownBlock = some g → v'.ownBlock ≠ some g
theorem Al.keep {W u : World} {base : Nat} {va : Value} {vals : List Value} {H : List (List Pr)} (h : Al W base va vals H) (hb : Low W u) : Al u base va vals H :=
  ⟨owns_keep h.row hb, h.len, fun n v k h1 h2 => owns_keep (h.own n v k h1 h2) hb, h.apart⟩
theorem Al.at {W : World} {base : Nat} {va : Value} {vals : List Value} {H : List (List Pr)} (h : Al W base va vals H) {n : Nat} (hn : n < H.length) : ∃ v, vals[n]? = some v ∧ HPr W v H[n] := by
  have hl := h.len
  exact ⟨vals[n], List.getElem?_eq_getElem (by omega), holds_of (h.own n _ _ (List.getElem?_eq_getElem (by omega)) (List.getElem?_eq_getElem hn))⟩
theorem Al.cell {W : World} {base : Nat} {ao : Option Addr} {k c : Nat} {vals : List Value} {H : List (List Pr)} (h : Al W base (.slice ao k c) vals H) {n : Nat} {v : Value} (hv : vals[n]? = some v) : ∃ g, ao = some ⟨g, 0, none⟩ ∧ g < W.heap.size ∧ W.cell? ⟨g, n, none⟩ = some v ∧ W.frozen? ⟨g, n, none⟩ = false := by
  have hn := (List.getElem?_eq_some_iff.1 hv).1
  rcases h.row.2 with ⟨h1, h2⟩ | ⟨g, cap, cur, q1, q2, q3, q4⟩
  · omega
  · cases q1
    refine ⟨g, rfl, (Array.getElem?_eq_some_iff.1 q3).1, ?_, h.row.frozenAt n⟩
    rw [h.row.cellAt n (by omega), hv]
/-- one list of heads has grown -/
theorem Al.set {W u : World} {base : Nat} {g k c : Nat} {vals : List Value} {H : List (List Pr)} (h : Al W base (.slice (some ⟨g, 0, none⟩) k c) vals H) {n : Nat} {v v' : Value} {h' : List Pr} (hv : vals[n]? = some v) (hG : Grows base W v v' h' u) : Al (u.setCell ⟨g, n, none⟩ v') base (.slice (some ⟨g, 0, none⟩) k c) (vals.set n v') (H.set n h') := by
  have hn := (List.getElem?_eq_some_iff.1 hv).1
  have hl := h.len
  obtain ⟨g1, g2, g3⟩ := hG
  have hnH : n < H.length := by omega
  have hOn := h.own n v H[n] hv (List.getElem?_eq_getElem hnH)
  have hrow : u.ownsRow base 311 1 (.slice (some ⟨g, 0, none⟩) k c) vals.length vals := h.row.kept g2 (owns_differ h.row hOn (by decide))
  have hkk : k = vals.length := by
    rcases h.row.2 with ⟨h1, h2⟩ | ⟨g', cap, cur, q1, _⟩
    · cases h1
    · cases q1; rfl
  subst hkk
  obtain ⟨p1, gs⟩ := hrow.stored n v'
  refine ⟨by rw [List.length_set]; exact p1, by simp [hl], fun m x y hx hy => ?_, fun i j x y b hij hx hy hb => ?_⟩
  · by_cases e : m = n
    · subst e
      rw [List.getElem?_set_self hn] at hx
      rw [List.getElem?_set_self hnH] at hy
      cases hx
      cases hy
      exact g1.kept gs (by simpa [Value.ownBlock] using owns_differ g1 hrow (by decide))
    · rw [List.getElem?_set_ne (fun q => e q.symm)] at hx hy
      have hOm := h.own m x y hx hy
      have hOu : u.ownsRow base 249 2 x y.length (prcells y) := hOm.kept g2 (by
        cases hb : x.ownBlock with
        | none => exact .inl rfl
        | some b => exact .inr (fun q => h.apart m n x v b e hx hv hb q.symm))
      exact hOu.kept gs (by simpa [Value.ownBlock] using owns_differ hOu hrow (by decide))
  · have key : ∀ m y, m ≠ n → vals[m]? = some y → ∀ b, y.ownBlock = some b → v'.ownBlock ≠ some b := fun m y hmn hy b hb q => by
      rcases g3 with g3 | ⟨g', g3, g4⟩
      · exact h.apart m n y v b hmn hy hv hb (g3 ▸ q)
      · rw [g3] at q
        cases q
        have hm := (List.getElem?_eq_some_iff.1 hy).1
        have := owns_lt2 (h.own m y H[m] hy (List.getElem?_eq_getElem (by omega))) hb
        omega
    by_cases ei : i = n
    · subst ei
      rw [List.getElem?_set_self hn] at hx
      cases hx
      rw [List.getElem?_set_ne hij] at hy
      exact fun q => key j y (fun q' => hij q'.symm) hy b q hb
    · rw [List.getElem?_set_ne (fun q => ei q.symm)] at hx
      by_cases ej : j = n
      · subst ej
        rw [List.getElem?_set_self hn] at hy
        cases hy
        exact key i x ei hx b hb
      · rw [List.getElem?_set_ne (fun q => ej q.symm)] at hy
        exact h.apart i j x y b hij hx hy hb
/-- one more, still empty -/
theorem Al.more {W w1 : World} {base : Nat} {va va' : Value} {vals : List Value} {H : List (List Pr)} (h : Al W base va vals H) (hO : w1.ownsRow base 311 1 va' (vals.length + 1) (vals ++ [.slice none 0 0])) (hg : W.grownBy w1 va.ownBlock) : Al w1 base va' (vals ++ [.slice none 0 0]) (H ++ [[]]) := by
  have hl := h.len
  refine ⟨by rw [List.length_append]; exact hO, by simp [hl], fun n v k hv hk => ?_, fun i j x y b hij hx hy hb => ?_⟩
  · by_cases e : n < vals.length
    · rw [List.getElem?_append_left e] at hv
      rw [List.getElem?_append_left (by omega)] at hk
      have := h.own n v k hv hk
      exact this.kept hg (owns_differ this h.row (by decide))
    · have hn : n = vals.length := by
        have := (List.getElem?_eq_some_iff.1 hv).1
        simp at this
        omega
      subst hn
      rw [List.getElem?_append_right (Nat.le_refl _)] at hv
      rw [hl, List.getElem?_append_right (Nat.le_refl _)] at hk
      simp at hv hk
      subst hv hk
      exact World.ownsRow_nil _ _ _ _
  · have key : ∀ (m : Nat) (y : Value), (vals ++ [.slice none 0 0])[m]? = some y → y.ownBlock ≠ none → vals[m]? = some y := fun m y hy hn => by
      by_cases e : m < vals.length
      · rwa [List.getElem?_append_left e] at hy
      · rw [List.getElem?_append_right (by omega)] at hy
        have := (List.getElem?_eq_some_iff.1 hy).1
        simp at this
        have e2 : m - vals.length = 0 := by omega
        rw [e2] at hy
        simp at hy
        subst hy
        exact absurd rfl hn
    intro q
    exact h.apart i j x y b hij (key i x hx (by rw [hb]; simp)) (key j y hy (by rw [q]; simp)) hb q

end Go.Proofs.YtgiojkhmkeocfaaGreatDoor

/- Which rows are the same, told by the script; SameInts of any two rows, walked. -/
set_option maxRecDepth 20000
namespace Go.Proofs.YtgiojkhmkeocfaaGreatDoor
open Go.RowKit

theorem kp_self (b : Int) (x : List Int) : kp b x x = (List.range x.length).map fun (j : Nat) => b + (j : Int) := by
  induction x generalizing b with
  | nil => rw [kp_nil]; rfl
  | cons a x ih =>
    rw [kp_cons, if_pos rfl, ih, List.length_cons, List.range_succ_eq_map, List.map_cons, List.map_map]
    simp
    intro j _
    omega
theorem mk_nil (x y : List Int) (hx : x.length ≤ 4096) (hy : y.length ≤ 4096) : mkL (kp 0 x y) y.length = [] ↔ x = y := by
  constructor
  · intro h
    have hv : Vk 0 (y.length : Int) (kp 0 x y) := by
      have := kp_vk 0 x y (Int.le_refl _)
      rwa [Int.zero_add] at this
    have hl := kp_length 0 x y
    obtain ⟨⟨_, _, hS⟩, hU⟩ := mk_script hv (by omega) (by omega) (by rw [hl]; omega)
    rw [h] at hS hU
    rw [U_nil] at hU
    have hnm : x.length = y.length := by
      have h1 := hS.2.2
      rw [hl] at h1
      omega
    apply List.ext_getElem hnm
    intro i h1 h2
    have hm : (⟨(i : Int), (i : Int), 1⟩ : Rn) ∈ keptR 0 (kp 0 x y) := by
      rw [← hU, mem_un]
      rw [hl]
      refine ⟨rfl, ?_, ?_, ?_⟩ <;> dsimp only <;> omega
    rw [mem_keptR] at hm
    obtain ⟨_, _, h3, _⟩ := hm
    dsimp only at h3
    rw [show ((i : Int) - 0).toNat = i by omega] at h3
    obtain ⟨_, c, h4, h5⟩ := kp_same 0 x y (Int.le_refl _) i i h3 (by omega)
    rw [show ((i : Int) - 0).toNat = i by omega] at h5
    rw [List.getElem?_eq_getElem h1] at h4
    rw [List.getElem?_eq_getElem h2] at h5
    rw [Option.some.inj h4, Option.some.inj h5]
  · rintro rfl
    unfold mkL
    rw [kp_self, keptR_run 0 0 (Int.le_refl _), betw_un]
    simp [betw]
end Go.Proofs.YtgiojkhmkeocfaaGreatDoor

/- The reference's Make, walked. -/
set_option maxRecDepth 20000
namespace Go.Proofs.YtgiojkhmkeocfaaGreatDoor
open Go.RowKit

end Go.Proofs.YtgiojkhmkeocfaaGreatDoor

/- The reference's table of lengths, filled: table, walked. -/
set_option maxRecDepth 20000
namespace Go.Proofs.YtgiojkhmkeocfaaGreatDoor
open Go.RowKit

theorem madeL (z : Value) (N : Nat) : (madeCells #[z] N).toList = List.replicate N z := by
  apply List.ext_getElem
  · simp [madeCells]
  · intro i h1 h2
    simp [madeCells, Nat.mod_one]

/-- where row k lies -/
def rowB (B X k : Nat) : Nat := B + 1 + (X - k)
/-- a row as a value -/
def rowV (B X Y k : Nat) : Value := .slice (some ⟨rowB B X k, 0, none⟩) (Y + 1) (Y + 1)
/-- the state of the walk: rows from i on are made, those behind it are filled, row i from c on -/
structure Tb (w : World) (x y : List Int) (i c : Nat) (TS : List Value) (u : World) : Prop where
  low : Below w.heap.size w u
  size : u.heap.size = w.heap.size + 1 + (x.length + 1 - i)
  top : u.ownsRow w.heap.size 71 1 (.slice (some ⟨w.heap.size, 0, none⟩) (x.length + 1) (x.length + 1)) (x.length + 1) TS
  tops : ∀ k, i ≤ k → k ≤ x.length → TS[k]? = some (rowV w.heap.size x.length y.length k)
  rows : ∀ k, i ≤ k → k ≤ x.length → ∃ R, u.ownsRow w.heap.size 3 1 (rowV w.heap.size x.length y.length k) (y.length + 1) R ∧ ∀ j, j ≤ y.length → (i < k ∨ c ≤ j ∨ j = y.length ∨ k = x.length) → R[j]? = some (.int .i64 ((ln x y k j : Nat) : Int))
section
variable {w u : World} {x y : List Int} {i c : Nat} {TS : List Value}
theorem Tb.drewN (h : Tb w x y i c TS u) (n : Nat) : Tb w x y i c TS (u.drewN n) := ⟨Below.dN h.low n, h.size, h.top, h.tops, h.rows⟩
theorem Tb.top_len (h : Tb w x y i c TS u) : TS.length = x.length + 1 := by rw [h.top.1, Nat.mul_one]
theorem Tb.top_at (h : Tb w x y i c TS u) {k : Nat} (hi : i ≤ k) (hk : k ≤ x.length) : u.cell? ⟨w.heap.size, k, none⟩ = some (rowV w.heap.size x.length y.length k) := by
  rw [h.top.cellAt k (by omega)]
  exact h.tops k hi hk
theorem Tb.at (h : Tb w x y i c TS u) {k j : Nat} (hi : i ≤ k) (hk : k ≤ x.length) (hj : j ≤ y.length) (hc : i < k ∨ c ≤ j ∨ j = y.length ∨ k = x.length) : u.cell? ⟨rowB w.heap.size x.length k, j, none⟩ = some (.int .i64 ((ln x y k j : Nat) : Int)) := by
  obtain ⟨R, hR, hv⟩ := h.rows k hi hk
  unfold rowV at hR
  rw [hR.cellAt j (by omega)]
  exact hv j hj hc
theorem size_set (W : World) (b o : Nat) (v : Value) : (W.setCell ⟨b, o, none⟩ v).heap.size = W.heap.size := by
  show (W.heap.modify b _).size = _
  simp
theorem Tb.skip (h : Tb w x y i (c + 1) TS u) (hc : c = y.length ∨ i = x.length) : Tb w x y i c TS u := by
  refine ⟨h.low, h.size, h.top, h.tops, fun k h1 h2 => ?_⟩
  obtain ⟨R, hR, hv⟩ := h.rows k h1 h2
  exact ⟨R, hR, fun j hj hq => hv j hj (by omega)⟩
theorem Tb.next (h : Tb w x y (i + 1) 0 TS u) (hi : i ≤ x.length) (hY : y.length ≤ 1048576) : Tb w x y i (y.length + 1) (TS.set i (rowV w.heap.size x.length y.length i)) ((u.alloc (.cells (madeCells #[.int .i64 0] (y.length + 1)) 3)).setCell ⟨w.heap.size, i, none⟩ (rowV w.heap.size x.length y.length i)) := by
  have hsz : u.heap.size = rowB w.heap.size x.length i := by rw [h.size]; unfold rowB; omega
  obtain ⟨p1, g1⟩ := (h.top.alloc (.cells (madeCells #[.int .i64 0] (y.length + 1)) 3)).stored i (rowV w.heap.size x.length y.length i)
  refine ⟨?_, ?_, p1, fun k h1 h2 => ?_, fun k h1 h2 => ?_⟩
  · exact (h.low.alloc h.low.size _).grown g1 (by rw [World.size_alloc]; have := h.low.size; omega) (fun j hj => by cases hj; exact Nat.le_refl _)
  · rw [size_set, World.size_alloc, h.size]
    omega
  · by_cases e : k = i
    · subst e
      rw [List.getElem?_set_self (by rw [h.top_len]; omega)]
    · rw [List.getElem?_set_ne (fun q => e q.symm)]
      exact h.tops k (by omega) h2
  · by_cases e : k = i
    · subst e
      have hn := World.ownsRow_lit (base := w.heap.size) (e := 3) (size := 1) u (madeCells #[.int .i64 0] (y.length + 1)) (y.length + 1) h.low.size (by unfold maxLen; omega) (by rw [size_madeCells]; simp)
      rw [madeL, hsz] at hn
      refine ⟨_, hn.kept g1 (.inr (by simp [Value.ownBlock, rowB]; omega)), fun j hj hq => ?_⟩
      rw [List.getElem?_replicate, if_pos (by omega), ln_end x y k j (by omega)]
      rfl
    · obtain ⟨R, hR, hv⟩ := h.rows k (by omega) h2
      exact ⟨R, (hR.alloc _).kept g1 (.inr (by unfold rowV rowB; simp [Value.ownBlock]; omega)), fun j hj hq => hv j hj (by omega)⟩
theorem Tb.set (h : Tb w x y i (c + 1) TS u) (hi : i ≤ x.length) (hc : c ≤ y.length) (v : Int) (hv : v = ((ln x y i c : Nat) : Int)) : Tb w x y i c TS (u.setCell ⟨rowB w.heap.size x.length i, c, none⟩ (.int .i64 v)) := by
  subst hv
  obtain ⟨R, hR, hr⟩ := h.rows i (Nat.le_refl _) hi
  have hR' := hR
  unfold rowV at hR'
  obtain ⟨p1, g1⟩ := hR'.stored c (.int .i64 ((ln x y i c : Nat) : Int))
  have hl : R.length = y.length + 1 := by rw [hR.1, Nat.mul_one]
  refine ⟨?_, ?_, ?_, h.tops, fun k h1 h2 => ?_⟩
  · exact h.low.grown g1 h.low.size (fun j hj => by cases hj; unfold rowB; omega)
  · rw [size_set, h.size]
  · exact h.top.kept g1 (.inr (by simp [Value.ownBlock, rowB]; omega))
  · by_cases e : k = i
    · subst e
      refine ⟨_, p1, fun j hj hq => ?_⟩
      by_cases q : j = c
      · subst q
        rw [List.getElem?_set_self (by omega)]
      · rw [List.getElem?_set_ne (fun q' => q q'.symm)]
        exact hr j hj (by omega)
    · obtain ⟨R2, hR2, hv2⟩ := h.rows k h1 h2
      exact ⟨R2, hR2.kept g1 (.inr (by unfold rowV rowB; simp [Value.ownBlock]; omega)), fun j hj hq => hv2 j hj (by omega)⟩
end
theorem Tb.start (w : World) (x y : List Int) (hX : x.length ≤ 1048576) : Tb w x y (x.length + 1) 0 (List.replicate (x.length + 1) (.slice none 0 0)) (w.alloc (.cells (madeCells #[.slice none 0 0] (x.length + 1)) 71)) := by
  have hn := World.ownsRow_lit (base := w.heap.size) (e := 71) (size := 1) w (madeCells #[.slice none 0 0] (x.length + 1)) (x.length + 1) (Nat.le_refl _) (by unfold maxLen; omega) (by rw [size_madeCells]; simp)
  rw [madeL] at hn
  exact ⟨(Below.refl _ w).alloc (Nat.le_refl _) _, by simp, hn, fun k h1 h2 => by omega, fun k h1 h2 => by omega⟩
/-- what the table tells -/
structure Rd (B : Nat) (x y : List Int) (u : World) : Prop where
  lt : B + 1 + x.length < u.heap.size
  top : ∀ k, k ≤ x.length → u.cell? ⟨B, k, none⟩ = some (rowV B x.length y.length k)
  at' : ∀ k j, k ≤ x.length → j ≤ y.length → u.cell? ⟨rowB B x.length k, j, none⟩ = some (.int .i64 ((ln x y k j : Nat) : Int))
theorem cell_keep {u u' : World} (h : Below u.heap.size u u') {b o : Nat} {v : Value} (hb : b < u.heap.size) (hc : u.cell? ⟨b, o, none⟩ = some v) : u'.cell? ⟨b, o, none⟩ = some v := by
  rw [← hc]
  unfold World.cell?
  rw [h.block b hb]
theorem Rd.keep {B : Nat} {x y : List Int} {u u' : World} (h : Rd B x y u) (hb : Below u.heap.size u u') : Rd B x y u' := by
  have := h.lt
  refine ⟨Nat.lt_of_lt_of_le h.lt hb.size, fun k hk => cell_keep hb (by omega) (h.top k hk), fun k j hk hj => cell_keep hb ?_ (h.at' k j hk hj)⟩
  unfold rowB
  omega
theorem Tb.rd {w u : World} {x y : List Int} {TS : List Value} (h : Tb w x y 0 0 TS u) : Rd w.heap.size x y u :=
  ⟨by rw [h.size]; omega, fun _ hk => h.top_at (Nat.zero_le _) hk, fun _ _ hk hj => h.at (Nat.zero_le _) hk hj (.inr (.inl (Nat.zero_le _)))⟩

end Go.Proofs.YtgiojkhmkeocfaaGreatDoor

/- The longest rising row, by the reference: rises, Longest, walked. -/
set_option maxRecDepth 20000
namespace Go.Proofs.YtgiojkhmkeocfaaGreatDoor
open Go.RowKit

/-- the lengths from k on stand there -/
def Dn (R : List Nat) (k : Nat) (Z : List Int) : Prop := Z.length = R.length ∧ ∀ j (hj : j < R.length), k ≤ j → Z[j]? = some ((R[j] : Nat) : Int)
theorem Dn.set {R : List Nat} {k : Nat} {Z : List Int} (h : Dn R (k + 1) Z) (hk : k < R.length) {m : Int} (hm : m = ((R[k] : Nat) : Int)) : Dn R k (Z.set k m) := by
  refine ⟨by rw [List.length_set]; exact h.1, fun j hj hkj => ?_⟩
  by_cases e : j = k
  · subst e
    rw [List.getElem?_set_self (by rw [h.1]; exact hj), hm]
  · rw [List.getElem?_set_ne (fun q => e q.symm)]
    exact h.2 j hj (by omega)
attribute [local simp] low_drew

end Go.Proofs.YtgiojkhmkeocfaaGreatDoor

/- A region that draws its order, in a round: seven operations that read and a call, in whatever order, then the rest as the text has it. -/
set_option maxRecDepth 20000
namespace Go.Proofs.YtgiojkhmkeocfaaGreatDoor
namespace R8
open Go.RowKit Go.Shelf

abbrev B8 := Fin 8 → Bool
def one (c : Bool) : Nat := if c then 1 else 0
def cnt (b : B8) : Nat := one (b 0) + one (b 1) + one (b 2) + one (b 3) + one (b 4) + one (b 5) + one (b 6) + one (b 7)
end R8
end Go.Proofs.YtgiojkhmkeocfaaGreatDoor
