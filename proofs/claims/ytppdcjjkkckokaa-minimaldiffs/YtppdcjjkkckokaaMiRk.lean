/-
  What the least edit script keeps, by the reference: Keeps, Length and Diff, walked.
-/
import Derived.Test.YtppdcjjkkckokaaMiTb
namespace Go.Proofs.Ytppdcjjkkckokaa
open Go.RowKit

set_option maxRecDepth 10000 in
set_option maxHeartbeats 4000000 in
theorem Keeps_f (x y : List Int) (vx vy : Value) (w : World) (hx : HI w vx x) (hy : HI w vy y) (hxl : x.length ≤ 4096) (hyl : y.length ≤ 4096) (K : List Int) (hK : Hid (kp 0 x y = K)) :
    Calls Try.prog 43 #[vx, vy] w fun e w' => ∃ v', e = .returned v' ∧ HI w' v' K ∧ Below w.heap.size w w' := by
  obtain ⟨xo, xc, rfl⟩ := Holds.form hx
  obtain ⟨yo, yc, rfl⟩ := Holds.form hy
  have HKl : Hid (K.length = x.length) := (by show _ = _; rw [← hK.out, kp_length])
  go_enter Try.func43, Try.ntmps43
  go_wp2_with fail
  refine (table_f x y _ _ w hx hy hxl hyl).mono ?_
  rintro e w1 ⟨rfl, hR, hB1⟩
  go_wp2
  go_loopw [6, 7, 8] (fun kv jv iv wr => ∃ (i j : Nat) (Z : List Int) (zo : Option Addr) (zc : Nat), i ≤ x.length ∧ j ≤ y.length ∧ iv = .int .i64 i ∧ jv = .int .i64 j ∧ kv = .slice zo i zc ∧ Z.length = i ∧ wr.ownsRow w1.heap.size 3 1 (.slice zo i zc) i (icells Z) ∧ Below w1.heap.size w1 wr ∧ Hid (Z ++ kp j (x.drop i) (y.drop j) = K)) (fun _ jv iv _ => (x.length - (intOf iv).toNat) + (y.length - (intOf jv).toNat))
  case atStart => exact ⟨0, 0, [], none, 0, Nat.zero_le _, Nat.zero_le _, rfl, rfl, rfl, rfl, World.ownsRow_nil _ _ _ _, Below.refl _ _, hK⟩
  case round =>
    obtain ⟨i, j, Z, zo, zc, hi, hj, rfl, rfl, rfl, hZl, hO, hB, HZ⟩ := hrel
    have hs := hB.size
    have hB0 : Below w.heap.size w wr := hB1.trans (hB.mono hB1.size)
    by_cases hil : i < x.length
    · obtain ⟨bx, ox, rfl, _, hcx⟩ := HI.at (HI.keep hx hB0 (Nat.le_refl _)) (by omega)
      have d1 := hcx i hil
      obtain ⟨xi, hxi⟩ : ∃ z, x[i] = z := ⟨_, rfl⟩
      rw [hxi] at d1
      clear hcx
      have i1 : 0 ≤ (i : Int) := by omega
      have i2 : (i : Int) < (x.length : Int) := by omega
      by_cases hjl : j < y.length
      · obtain ⟨by', oy, rfl, _, hcy⟩ := HI.at (HI.keep hy hB0 (Nat.le_refl _)) (by omega)
        have d2 := hcy j hjl
        obtain ⟨yj, hyj⟩ : ∃ z, y[j] = z := ⟨_, rfl⟩
        rw [hyj] at d2
        clear hcy
        have hRr := hR.keep hB
        have hkp := kp_step j x y i j hil hjl
        rw [hxi, hyj] at hkp
        have t1 := hRr.top i hi
        have t2 := hRr.top (i + 1) (by omega)
        have r1 := hRr.at' (i + 1) j (by omega) (by omega)
        have r2 := hRr.at' i (j + 1) (by omega) (by omega)
        unfold rowV at t1 t2
        have b1 := ln_le x y (i + 1) j
        have b2 := ln_le x y i (j + 1)
        have HKP : Hid (kp j (x.drop i) (y.drop j) = if xi = yj then (j : Int) :: kp ((j : Int) + 1) (x.drop (i + 1)) (y.drop (j + 1)) else if ln x y i (j + 1) ≤ ln x y (i + 1) j then -1 :: kp j (x.drop (i + 1)) (y.drop j) else kp ((j : Int) + 1) (x.drop i) (y.drop (j + 1))) := hkp
        clear hkp hxi hyj hRr
        have i3 : (i : Int) + 1 < (x.length : Int) + 1 := by omega
        have i4 : (i : Int) < (x.length : Int) + 1 := by omega
        have j1 : 0 ≤ (j : Int) := by omega
        have j2 : (j : Int) < (y.length : Int) := by omega
        have j3 : (j : Int) + 1 < (y.length : Int) + 1 := by omega
        have j4 : (j : Int) < (y.length : Int) + 1 := by omega
        have hje : ((j : Int) == (y.length : Int)) = false := by simp; omega
        generalize rowB w.heap.size x.length i = gi at *
        generalize rowB w.heap.size x.length (i + 1) = gj at *
        generalize ln x y (i + 1) j = a1 at *
        generalize ln x y i (j + 1) = a2 at *
        by_cases hxy : xi = yj
        · have HK2 : Hid ((Z ++ [(j : Int)]) ++ kp ((j + 1 : Nat) : Int) (x.drop (i + 1)) (y.drop (j + 1)) = K) := (by
            show _ = _
            rw [← HZ.out, HKP.out, if_pos hxy]
            simp)
          clear HKP
          subst hxy
          have e1 : (xi == xi) = true := by simp
          have e2 : (xi != xi) = false := by simp
          go_wp2_with fail
          go_big_quiet (fail)
          revert nq
          intro n1
          go_wp2_with fail
          go_quiet (fail)
          have hOd : ((wr.drewN n1).drewN nq).ownsRow w1.heap.size 3 1 (.slice zo i zc) i (icells Z) := hO
          have hBd : Below w1.heap.size w1 ((wr.drewN n1).drewN nq) := Below.dN (Below.dN hB n1) nq
          generalize (wr.drewN n1).drewN nq = wd at hOd hBd ⊢
          have hsd := hBd.size
          go_wp2_with (at_builtin; refine wpList_append_h _ (by kernel_rfl) (.tmp 68) (.tmp 70) 29 3 (.int .i64 0) 1 8 rfl Try.underlying29 infoInt rfl (by decide) (by decide) w1.heap.size (.slice zo i zc) i (icells Z) (by kernel_rfl) (hOd.alloc _) (.slice (some ⟨wd.heap.size, 0, none⟩) 1 1) 1 (icells [(j : Int)]) (by kernel_rfl) (new_holds wd _ _ 1 1 (by decide)) rfl (icells_one _) (by omega) (by simp; omega) ?_)
          intro v3 w3 hown3 hgrow3
          have hB3 : Below w1.heap.size w1 w3 := (hBd.alloc (by omega) _).grown hgrow3 (by simp; omega) (fun _ hj => owns_ge hO hj)
          rw [← icells_append] at hown3
          obtain ⟨zo3, zc3, rfl⟩ := (holds_of hown3).form
          clear hgrow3
          go_wp2
          go_roundw
          case rel => exact ⟨i + 1, j + 1, Z ++ [(j : Int)], zo3, zc3, by omega, by omega, by go_num, by go_num, rfl, by simp [hZl], hown3, hB3, HK2⟩
          case measure => simp [intOf]; omega
        · have e1 : (xi == yj) = false := by simp [hxy]
          have e2 : (xi != yj) = true := by simp [hxy]
          by_cases hle : a2 ≤ a1
          · have HK2 : Hid ((Z ++ [-1]) ++ kp (j : Int) (x.drop (i + 1)) (y.drop j) = K) := (by
              show _ = _
              rw [← HZ.out, HKP.out, if_neg hxy, if_pos hle]
              simp)
            clear HKP
            go_wp2_with fail
            go_big_quiet (fail)
            have hOd : (wr.drewN nq).ownsRow w1.heap.size 3 1 (.slice zo i zc) i (icells Z) := hO
            have hBd : Below w1.heap.size w1 (wr.drewN nq) := Below.dN hB nq
            generalize wr.drewN nq = wd at hOd hBd ⊢
            have hsd := hBd.size
            go_wp2_with (at_builtin; refine wpList_append_h _ (by kernel_rfl) (.tmp 53) (.tmp 54) 29 3 (.int .i64 0) 1 8 rfl Try.underlying29 infoInt rfl (by decide) (by decide) w1.heap.size (.slice zo i zc) i (icells Z) (by kernel_rfl) (hOd.alloc _) (.slice (some ⟨wd.heap.size, 0, none⟩) 1 1) 1 (icells [-1]) (by kernel_rfl) (new_holds wd _ _ 1 1 (by decide)) rfl (icells_one _) (by omega) (by simp; omega) ?_)
            intro v3 w3 hown3 hgrow3
            have hB3 : Below w1.heap.size w1 w3 := (hBd.alloc (by omega) _).grown hgrow3 (by simp; omega) (fun _ hj => owns_ge hO hj)
            rw [← icells_append] at hown3
            obtain ⟨zo3, zc3, rfl⟩ := (holds_of hown3).form
            clear hgrow3
            go_wp2
            go_roundw
            case rel => exact ⟨i + 1, j, Z ++ [-1], zo3, zc3, by omega, by omega, by go_num, rfl, rfl, by simp [hZl], hown3, hB3, HK2⟩
            case measure => simp [intOf]; omega
          · have HK2 : Hid (Z ++ kp ((j + 1 : Nat) : Int) (x.drop i) (y.drop (j + 1)) = K) := (by
              show _ = _
              rw [← HZ.out, HKP.out, if_neg hxy, if_neg hle]
              simp)
            clear HKP
            have e3 : decide ((a2 : Int) ≤ (a1 : Int)) = false := decide_eq_false (by omega)
            have e4 : decide (a2 ≤ a1) = false := decide_eq_false hle
            go_wp2_with fail
            go_big_quiet (fail)
            go_wp2_with fail
            go_quiet (fail)
            go_wp2
            exact ⟨⟨i, j + 1, Z, zo, zc, hi, by omega, rfl, by go_num, rfl, hZl, hO, Below.dN hB _, HK2⟩, by simp [intOf]; omega⟩
      · have HK2 : Hid ((Z ++ [-1]) ++ kp (j : Int) (x.drop (i + 1)) (y.drop j) = K) := (by
          show _ = _
          rw [← HZ.out, show y.drop j = [] by rw [List.drop_eq_nil_iff]; omega, List.drop_eq_getElem_cons hil, kp]
          simp)
        have hje : ((j : Int) == (y.length : Int)) = true := by simp; omega
        go_wp2_with fail
        go_big_quiet (fail)
        have hOd : (wr.drewN nq).ownsRow w1.heap.size 3 1 (.slice zo i zc) i (icells Z) := hO
        have hBd : Below w1.heap.size w1 (wr.drewN nq) := Below.dN hB nq
        generalize wr.drewN nq = wd at hOd hBd ⊢
        have hsd := hBd.size
        go_wp2_with (at_builtin; refine wpList_append_h _ (by kernel_rfl) (.tmp 53) (.tmp 54) 29 3 (.int .i64 0) 1 8 rfl Try.underlying29 infoInt rfl (by decide) (by decide) w1.heap.size (.slice zo i zc) i (icells Z) (by kernel_rfl) (hOd.alloc _) (.slice (some ⟨wd.heap.size, 0, none⟩) 1 1) 1 (icells [-1]) (by kernel_rfl) (new_holds wd _ _ 1 1 (by decide)) rfl (icells_one _) (by omega) (by simp; omega) ?_)
        intro v3 w3 hown3 hgrow3
        have hB3 : Below w1.heap.size w1 w3 := (hBd.alloc (by omega) _).grown hgrow3 (by simp; omega) (fun _ hj => owns_ge hO hj)
        rw [← icells_append] at hown3
        obtain ⟨zo3, zc3, rfl⟩ := (holds_of hown3).form
        clear hgrow3
        go_wp2
        go_roundw
        case rel => exact ⟨i + 1, j, Z ++ [-1], zo3, zc3, by omega, by omega, by go_num, rfl, rfl, by simp [hZl], hown3, hB3, HK2⟩
        case measure => simp [intOf]; omega
    · obtain rfl : i = x.length := by omega
      have hZK : Z = K := by rw [← HZ.out, show x.drop x.length = [] by simp, kp_nil, List.append_nil]
      subst hZK
      go_wp2
      go_ret
      refine ⟨_, rfl, ?_, hB0⟩
      have := holds_of hO
      unfold HI
      rw [hZl]
      exact this
end Go.Proofs.Ytppdcjjkkckokaa
