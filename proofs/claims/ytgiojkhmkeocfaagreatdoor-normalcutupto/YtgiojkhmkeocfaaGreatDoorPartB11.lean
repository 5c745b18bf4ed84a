/-
  Texts that belong together, joined: HiFd, HiRt, HiRr, HiRb, HiPi, HiDf, SpCd, SpFd, SpGr, SpRg, SpDf.
-/
import Derived.Test.YtgiojkhmkeocfaaGreatDoorPartB10
import Derived.Test.YtgiojkhmkeocfaaGreatDoorPartB9
import Derived.Test.YtgiojkhmkeocfaaGreatDoorPartB6
import Derived.Deep.CutRange
import Derived.Test.YtgiojkhmkeocfaaGreatDoorPartB7
import Derived.Test.YtgiojkhmkeocfaaGreatDoorPartA4
import Derived.Laws.EntriesVeiled
import Derived.Test.YtgiojkhmkeocfaaGreatDoorPartB5
import Derived.Test.YtgiojkhmkeocfaaGreatDoorPartA5

/- histogram.find and histogram.Diff, walked. -/
set_option maxRecDepth 20000
namespace Go.Proofs.YtgiojkhmkeocfaaGreatDoor
open Go.RowKit

theorem Best_f (x y : List Int) (vx vy : Value) (w : World) (hx : HI w vx x) (hy : HI w vy y) (hxl : x.length ≤ 1048576) (hyl : y.length ≤ 1048576) (hwx : ∀ c ∈ x, w64 c) (hwy : ∀ c ∈ y, w64 c) (o : Option Hr) (ho : Hid (best x y = o)) :
    Calls Tryz.prog 236 #[vx, vy] w fun e w' => e = .returned (.tuple #[hrV (o.getD ⟨0, 0, 0, 0⟩), .bool o.isSome]) ∧ Below w.heap.size w w' := by
  rcases Nat.eq_zero_or_pos (rs x 0 y) with h | h
  · have e : o = none := by
      rw [← ho.out]
      cases hb : best x y with
      | none => rfl
      | some r => exact absurd (best_some hb).1 (rs_zero h r)
    subst e
    exact Best_none x y vx vy w hx hy hxl hyl hwx hwy h
  · have e : o = some (pickL btC ⟨0, 0, 0, 0⟩ (cands x y (rs x 0 y))) := by rw [← ho.out]; exact best_of (code_best (rs_rst rfl h))
    subst e
    exact Best_some x y vx vy w hx hy hxl hyl hwx hwy _ rfl h _ rfl

set_option maxRecDepth 10000 in
set_option maxHeartbeats 8000000 in
theorem hfind_f (x y : List Int) (W0 : World) (g : Nat) (hxl : x.length ≤ 4096) (hyl : y.length ≤ 4096) (hwx : ∀ c ∈ x, w64 c) (hwy : ∀ c ∈ y, w64 c) (f : Nat) : ∀ (w : World) (K : List Int) (_ : Ls W0 g x.length K w) (a b c d : Nat) (xo : Option Addr) (nx xc : Nat) (yo : Option Addr) (ny yc : Nat) (ko : Option Addr) (kc : Nat) (_ : Pz W0 g x y a b c d xo nx xc yo ny yc ko kc) (_ : b - a < f) (KF : List Int) (_ : Hid (wrk K (pcs (hmid x y) x y f a b c d) = KF)),
    Calls Tryz.prog 191 #[.agg #[.slice xo nx xc, .slice yo ny yc, .int .i64 (c : Int), .slice ko nx kc]] w fun e w' => e = .returned (.tuple #[]) ∧ Ls W0 g x.length KF w' ∧ w.grownBy w' (some g) := by
  induction f with
  | zero => intro w K hS a b c d xo nx xc yo ny yc ko kc hp hf; omega
  | succ f ih =>
    intro w K hS a b c d xo nx xc yo ny yc ko kc hp hf KF hKF
    have hg := hS.lt
    have HKF : Hid (∀ k m, k = tf x y a b c d → m = tb x y (a + k) b (c + k) d → wrk (wrk K (fp a c k ++ bp b d m)) (if a + k < b - m ∧ c + k < d - m then hmid x y (pcs (hmid x y) x y f) (a + k) (b - m) (c + k) (d - m) else []) = KF) := (by
      intro k m hk hm
      rw [← hKF.out, pcs, ends, ← hk, ← hm, wrk_append, wrk_append, wrk_append])
    have hQ0 := Qbx.new w (.slice xo nx xc) (.slice yo ny yc) (.int .i64 c) (.slice ko nx kc)
    have hB0 := (Below.refl w.heap.size w).alloc (Nat.le_refl _) (.cells #[.slice xo nx xc, .slice yo ny yc, .int .i64 c, .slice ko nx kc] 243)
    clear hKF
    go_enter Tryz.func191, Tryz.ntmps191
    go_wp2_with fail
    refine (KeepEnds_f x y W0 _ g K a b c d xo nx xc yo ny yc ko kc hp hxl hyl (hS.keep hB0)).mono ?_
    rintro e w1 ⟨k, m, xo1, nx1, xc1, yo1, ny1, yc1, ko1, kc1, hk, hm, rfl, hp1, hS1, hG1⟩
    have HK2 := HKF.out k m hk hm
    have hkl := tf_le x y a b c d
    have hml := tb_le x y (a + k) b (c + k) d
    rw [← hk] at hkl
    rw [← hm] at hml
    have hQ1 := hQ0.keep hG1 (by simp; omega)
    have hG1' : w.grownBy w1 (some g) := (low_grown hB0 _).trans hG1
    have hb0 := hp.eb
    have hf' := hp.bx
    clear hk hm HKF hS hB0 hQ0 hG1 hp
    obtain ⟨A, hA⟩ : ∃ A, a + k = A := ⟨_, rfl⟩
    obtain ⟨C, hC⟩ : ∃ C, c + k = C := ⟨_, rfl⟩
    obtain ⟨b1, hb1⟩ : ∃ B, b - m = B := ⟨_, rfl⟩
    obtain ⟨d1, hd1⟩ : ∃ D, d - m = D := ⟨_, rfl⟩
    obtain ⟨K1, hK1⟩ : ∃ K1, wrk K (fp a c k ++ bp b d m) = K1 := ⟨_, rfl⟩
    rw [hK1] at hS1 HK2
    rw [hA, hC, hb1, hd1] at HK2 hp1
    rw [hC]
    have HK3 : Hid (wrk K1 (if A < b1 ∧ C < d1 then hmid x y (pcs (hmid x y) x y f) A b1 C d1 else []) = KF) := HK2
    have hf1 : b1 - A ≤ f := by omega
    clear hA hC hb1 hd1 hK1 hkl hml hf HK2 hb0 hf'
    obtain ⟨c0, c1, c2, c3⟩ := hQ1.cells
    have f0 := hQ1.frozen
    have hQ2 := hQ1.put (.slice xo1 nx1 xc1) (.slice yo1 ny1 yc1) (.int .i64 (C : Int)) (.slice ko1 nx1 kc1)
    have hgw := hS1.low.size
    have hS2 := ls_other (ls_other (ls_other (ls_other hS1 (g := w.heap.size) (by omega) (by omega) 0 (.slice xo1 nx1 xc1)) (g := w.heap.size) (by omega) (by omega) 1 (.slice yo1 ny1 yc1)) (g := w.heap.size) (by omega) (by omega) 2 (.int .i64 (C : Int))) (g := w.heap.size) (by omega) (by omega) 3 (.slice ko1 nx1 kc1)
    have hG2 := grown_new (grown_new (grown_new (grown_new hG1' (B := w.heap.size) (by omega) 0 (.slice xo1 nx1 xc1)) (B := w.heap.size) (by omega) 1 (.slice yo1 ny1 yc1)) (B := w.heap.size) (by omega) 2 (.int .i64 (C : Int))) (B := w.heap.size) (by omega) 3 (.slice ko1 nx1 kc1)
    obtain ⟨W2, hW2⟩ : ∃ W2, (((w1.setCell ⟨w.heap.size, 0, none⟩ (.slice xo1 nx1 xc1)).setCell ⟨w.heap.size, 1, none⟩ (.slice yo1 ny1 yc1)).setCell ⟨w.heap.size, 2, none⟩ (.int .i64 (C : Int))).setCell ⟨w.heap.size, 3, none⟩ (.slice ko1 nx1 kc1) = W2 := ⟨_, rfl⟩
    rw [hW2] at hQ2 hS2 hG2
    unfold pzV
    have hAb := hp1.eb
    have hCd := hp1.ed
    obtain ⟨r, hr⟩ : ∃ r, r = decide (nx1 = 0 ∨ ny1 = 0) := ⟨_, rfl⟩
    have HR : Hid (r = decide (nx1 = 0 ∨ ny1 = 0)) := hr
    obtain ⟨q0, q1, q2, q3⟩ := hQ2.cells
    clear hr
    go_wp2_with fail
    refine (Empty_f xo1 nx1 xc1 yo1 ny1 yc1 C ko1 kc1 W2 r HR).mono ?_
    rintro e w3 ⟨rfl, hB3⟩
    clear q0 q1 q2 q3 c0 c1 c2 c3 f0 hW2 hQ1 hS1 hG1'
    have hQ3 := hQ2.low hB3
    have hS3 := hS2.keep hB3
    have hG3 := hG2.trans (low_grown hB3 (some g))
    clear hQ2 hS2 hG2 hB3
    cases r with
    | true =>
      have e : K1 = KF := by
        have h1 := of_decide_eq_true HR.out.symm
        have := HK3.out
        rw [if_neg (by omega)] at this
        exact this
      subst e
      go_wp2
      (try simp only [Exit.inBlock, Exit.then])
      refine bodyPost_ret (results_none rfl _ _ _) rfl ?_
      exact ⟨rfl, hS3, hG3⟩
    | false =>
      have h1 := of_decide_eq_false HR.out.symm
      have hm0 : A < b1 ∧ C < d1 := by omega
      have HK2 : Hid (wrk K1 (hmid x y (pcs (hmid x y) x y f) A b1 C d1) = KF) := (by
        show _ = _
        have := HK3.out
        rw [if_pos hm0] at this
        exact this)
      clear HK3 HR
      have hbx := hp1.bx
      have hdy := hp1.dy
      obtain ⟨X, hX⟩ : ∃ X, sub x A b1 = X := ⟨_, rfl⟩
      obtain ⟨Y, hY⟩ : ∃ Y, sub y C d1 = Y := ⟨_, rfl⟩
      have hXl : X.length = nx1 := by rw [← hX, sub_length x A b1 hbx]; omega
      have hYl : Y.length = ny1 := by rw [← hY, sub_length y C d1 hdy]; omega
      have hx3 : HI w3 (.slice xo1 nx1 xc1) X := by
        unfold HI
        rw [hXl, ← hX]
        exact Holds.keep hp1.hx (fun q hq => hS3.low.block q hq)
      have hy3 : HI w3 (.slice yo1 ny1 yc1) Y := by
        unfold HI
        rw [hYl, ← hY]
        exact Holds.keep hp1.hy (fun q hq => hS3.low.block q hq)
      have HW : Hid ((∀ c ∈ X, w64 c) ∧ (∀ c ∈ Y, w64 c)) := (by
        refine ⟨fun c hc => hwx c ?_, fun c hc => hwy c ?_⟩
        · rw [← hX] at hc
          exact List.mem_of_mem_drop (List.mem_of_mem_take hc)
        · rw [← hY] at hc
          exact List.mem_of_mem_drop (List.mem_of_mem_take hc))
      have HX : Hid (X.length ≤ 1048576 ∧ Y.length ≤ 1048576) := (by refine ⟨?_, ?_⟩ <;> omega)
      obtain ⟨o, ho⟩ : ∃ o, best X Y = o := ⟨_, rfl⟩
      have HO : Hid (best X Y = o) := ho
      have HK4 : Hid (wrk K1 (hsel x y (pcs (hmid x y) x y f) A b1 C d1 o) = KF) := (by
        show _ = _
        have := HK2.out
        rw [hmid, hX, hY, ho] at this
        exact this)
      have HIn : Hid (∀ r, o = some r → 0 < r.N ∧ A + r.X + r.N ≤ b1 ∧ C + r.Y + r.N ≤ d1 ∧ r.R ≤ 4096) := (by
        intro r hr
        have hrun := (best_some (ho.trans hr)).1
        have h2 := run_in (x := x) (y := y) (a := A) (b := b1) (c := C) (d := d1) hbx hdy (by rw [hX, hY]; exact hrun)
        have h3 : r.R ≤ X.length := by
          rw [hrun.r]
          have : ∀ n, rar X r.X n ≤ X.length := by
            intro n
            induction n with
            | zero => exact Nat.le_refl _
            | succ n ih => rw [rar]; omega
          exact this _
        exact ⟨h2.1, h2.2.1, h2.2.2.1, by omega⟩)
      clear hX hY hXl hYl HK2 ho
      obtain ⟨q0, q1, q2, q3⟩ := hQ3.cells
      go_wp2_with fail
      refine (Best_f X Y _ _ w3 hx3 hy3 HX.out.1 HX.out.2 HW.out.1 HW.out.2 o HO).mono ?_
      rintro e w4 ⟨rfl, hB4⟩
      have hQ4 := hQ3.low hB4
      have hS4 := hS3.keep hB4
      have hG4 := hG3.trans (low_grown hB4 (some g))
      clear q0 q1 q2 q3 hx3 hy3 HW HX HO hQ3 hS3 hG3 hB4
      have hs4 := hS4.low.size
      have hl4 := hS4.lt
      have hg4 := hG4.size
      have hq4 := hQ4.lt
      cases o with
      | none =>
        have e : K1 = KF := HK4.out
        subst e
        have hLn : Below w4.heap.size w4 (w4.alloc (.cells #[.int .i64 ((0 : Nat) : Int), .int .i64 ((0 : Nat) : Int), .int .i64 ((0 : Nat) : Int), .int .i64 ((0 : Nat) : Int)] 286)) := (Below.refl _ w4).alloc (Nat.le_refl _) _
        have hS5 := hS4.keep hLn
        have hG5 := hG4.trans (low_grown hLn (some g))
        simp only [Option.getD_none, Option.isSome_none, hrV]
        go_wp2
        (try simp only [Exit.inBlock, Exit.then])
        refine bodyPost_ret (results_none rfl _ _ _) rfl ?_
        exact ⟨rfl, hS5, hG5⟩
      | some r =>
        obtain ⟨hr1, hr2, hr3, hr4⟩ := HIn.out r rfl
        obtain ⟨rX, rY, rN, rR⟩ := r
        simp only at hr1 hr2 hr3 hr4
        have HK4 : Hid (wrk K1 (if 64 < rR then lp A C (kp 0 (sub x A b1) (sub y C d1)) else fp (A + rX) (C + rY) rN ++ (pcs (hmid x y) x y f A (A + rX) C (C + rY) ++ pcs (hmid x y) x y f (A + rX + rN) b1 (C + rY + rN) d1)) = KF) := HK4
        simp only [Option.getD_some, Option.isSome_some, hrV]
        have hHb := Hbx.new w4 ⟨rX, rY, rN, rR⟩
        have hLn : Below w4.heap.size w4 (w4.alloc (.cells #[.int .i64 (rX : Int), .int .i64 (rY : Int), .int .i64 (rN : Int), .int .i64 (rR : Int)] 286)) := (Below.refl _ w4).alloc (Nat.le_refl _) _
        have hQ5 := hQ4.low hLn
        have hS5 := hS4.keep hLn
        have hG5 := hG4.trans (low_grown hLn (some g))
        obtain ⟨W5, hW5⟩ : ∃ W5, w4.alloc (.cells #[.int .i64 (rX : Int), .int .i64 (rY : Int), .int .i64 (rN : Int), .int .i64 (rR : Int)] 286) = W5 := ⟨_, rfl⟩
        have hgB : g ≠ w4.heap.size := by omega
        obtain ⟨B5, hB5⟩ : ∃ B, w4.heap.size = B := ⟨_, rfl⟩
        rw [hW5] at hHb hQ5 hS5 hG5
        rw [hB5] at hHb hgB
        clear hQ4 hS4 hG4 hLn HIn
        obtain ⟨q0, q1, q2, q3⟩ := hQ5.cells
        obtain ⟨t0, t1, t2, t3⟩ := hHb.cells
        by_cases h64 : 64 < rR
        · have e64 : decide ((64 : Int) < (rR : Int)) = true := decide_eq_true (by omega)
          have HK5 : Hid (wrk K1 (lp A C (kp 0 (sub x A b1) (sub y C d1))) = KF) := (by
            show _ = _
            have := HK4.out
            rw [if_pos h64] at this
            exact this)
          clear HK4
          go_wp2_with fail
          clear hW5 hB5
          refine (KeepMost_f x y W0 W5 g K1 A b1 C d1 xo1 nx1 xc1 yo1 ny1 yc1 ko1 kc1 hp1 hxl hyl hS5 KF HK5).mono ?_
          rintro e w6 ⟨rfl, hS6, hG6⟩
          have hG7 := hG5.trans hG6
          go_wp2
          (try simp only [Exit.inBlock, Exit.then])
          refine bodyPost_ret (results_none rfl _ _ _) rfl ?_
          exact ⟨rfl, hS6, hG7⟩
        · have e64 : decide ((64 : Int) < (rR : Int)) = false := decide_eq_false (by omega)
          have e64' : decide (64 < rR) = false := decide_eq_false h64
          obtain ⟨K6, hK6⟩ : ∃ K6, wrk K1 (fp (A + rX) (C + rY) rN) = K6 := ⟨_, rfl⟩
          obtain ⟨u2, hu⟩ : ∃ u, A + rX = u := ⟨_, rfl⟩
          obtain ⟨v2, hv⟩ : ∃ v, C + rY = v := ⟨_, rfl⟩
          obtain ⟨K7, hK7⟩ : ∃ K7, wrk K6 (pcs (hmid x y) x y f A u2 C v2) = K7 := ⟨_, rfl⟩
          have HK7 : Hid (wrk K6 (pcs (hmid x y) x y f A u2 C v2) = K7) := hK7
          obtain ⟨p2, hp2⟩ : ∃ p, rX + rN = p := ⟨_, rfl⟩
          obtain ⟨p3, hp3⟩ : ∃ p, rY + rN = p := ⟨_, rfl⟩
          obtain ⟨u3, hu3⟩ : ∃ u, A + p2 = u := ⟨_, rfl⟩
          obtain ⟨v3, hv3⟩ : ∃ v, C + p3 = v := ⟨_, rfl⟩
          have HK8 : Hid (wrk K7 (pcs (hmid x y) x y f u3 b1 v3 d1) = KF) := (by
            show _ = _
            have := HK4.out
            rw [if_neg h64, wrk_append, wrk_append, hK6, hu, hv, hK7, show u2 + rN = u3 by omega, show v2 + rN = v3 by omega] at this
            exact this)
          clear HK4 hK7
          go_wp2_with fail
          clear hW5 hB5
          refine (Keep_f K1 xo1 nx1 xc1 yo1 ny1 yc1 A C ko1 kc1 W5 rX rY rN hS5 hp1.at' (by omega) (by omega) (by omega) (by omega)).mono ?_
          rintro e w6 ⟨rfl, hS6, hG6⟩
          rw [hK6] at hS6
          have hQ6 := hQ5.keep hG6 (by simp; omega)
          have hH6 := hHb.keep hG6 (by simp; omega)
          have hG6' := hG5.trans hG6
          clear hK6 hQ5 hHb hS5 hG5 hG6 q0 q1 q2 q3 t0 t1 t2 t3
          obtain ⟨q0, q1, q2, q3⟩ := hQ6.cells
          obtain ⟨t0, t1, t2, t3⟩ := hH6.cells
          go_wp2_with fail
          refine (UpTo_p hp1 rX rY u2 v2 (by omega) (by omega) hu hv w6 w6 (Below.refl _ _)).mono ?_
          rintro e w7 ⟨xo2, nx2, xc2, yo2, ny2, yc2, ko2, kc2, rfl, hpa, hL7⟩
          have hS7 := hS6.keep hL7
          have hQ7 := hQ6.low hL7
          have hH7 := hH6.low hL7
          have hG7 := hG6'.trans (low_grown hL7 (some g))
          clear hQ6 hH6 hS6 hG6' hL7 q0 q1 q2 q3 t0 t1 t2 t3
          go_wp2_with fail
          refine (ih w7 K6 hS7 A u2 C v2 xo2 nx2 xc2 yo2 ny2 yc2 ko2 kc2 hpa (by omega) K7 HK7).mono ?_
          rintro e w8 ⟨rfl, hS8, hG8⟩
          have hQ8 := hQ7.keep hG8 (by simp; omega)
          have hH8 := hH7.keep hG8 (by simp; omega)
          have hG8' := hG7.trans hG8
          clear hQ7 hH7 hS7 hG7 hG8 hpa
          obtain ⟨q0, q1, q2, q3⟩ := hQ8.cells
          obtain ⟨t0, t1, t2, t3⟩ := hH8.cells
          have n1 : (rX : Int) + (rN : Int) = (p2 : Int) := by omega
          have n2 : (rY : Int) + (rN : Int) = (p3 : Int) := by omega
          go_wp2_with fail
          refine (From_p hp1 hyl p2 p3 u3 v3 (by omega) (by omega) hu3 hv3 w8 w8 (Below.refl _ _)).mono ?_
          rintro e w9 ⟨xo3, nx3, xc3, yo3, ny3, yc3, ko3, kc3, rfl, hpb, hL9⟩
          have hS9 := hS8.keep hL9
          have hG9 := hG8'.trans (low_grown hL9 (some g))
          clear hQ8 hH8 hS8 hG8' hL9 q0 q1 q2 q3 t0 t1 t2 t3
          go_wp2_with fail
          refine (ih w9 K7 hS9 u3 b1 v3 d1 xo3 nx3 xc3 yo3 ny3 yc3 ko3 kc3 hpb (by omega) KF HK8).mono ?_
          rintro e w10 ⟨rfl, hS10, hG10⟩
          have hG11 := hG9.trans hG10
          go_wp2
          go_end0
          exact ⟨rfl, hS10, hG11⟩

set_option maxRecDepth 10000 in
set_option maxHeartbeats 2000000 in
theorem hiDiff_f (x y : List Int) (vx vy : Value) (w : World) (hx : HI w vx x) (hy : HI w vy y) (hxl : x.length ≤ 4096) (hyl : y.length ≤ 4096) (hwx : ∀ c ∈ x, w64 c) (hwy : ∀ c ∈ y, w64 c) (L : List Ch) (hL : Hid (mkL (hKeep x y) y.length = L)) :
    Calls Tryz.prog 129 #[vx, vy] w fun e w' => ∃ v', e = .returned (.tuple #[v', .int .i64 0]) ∧ HCh w' v' L ∧ Below w.heap.size w w' := by
  obtain ⟨xo, xc, rfl⟩ := Holds.form hx
  obtain ⟨yo, yc, rfl⟩ := Holds.form hy
  obtain ⟨KF, hKF⟩ : ∃ KF, hKeep x y = KF := ⟨_, rfl⟩
  have HK : Hid (Kpt x y KF) := (by rw [← hKF]; exact hKeep_kpt x y)
  have HF : Hid (wrk (List.replicate x.length (-1)) (pcs (hmid x y) x y (x.length + 1) 0 x.length 0 y.length) = KF) := hKF
  rw [hKF] at hL
  have HWX : Hid (∀ c ∈ x, w64 c) := hwx
  have HWY : Hid (∀ c ∈ y, w64 c) := hwy
  clear hKF hwx hwy
  go_enter Tryz.func129, Tryz.ntmps129
  go_wp2_with fail
  refine (pDiff_f x y _ _ w hx hy hxl hyl 191 #[] (enters_of Tryz.func191 (by kernel_rfl) rfl) KF HK (fun u g xo xc yo yc hS hp => hfind_f x y _ g hxl hyl HWX.out HWY.out (x.length + 1) u _ hS 0 x.length 0 y.length _ _ _ _ _ _ _ _ hp (by omega) KF HF) L hL).mono ?_
  rintro e w2 ⟨v2, rfl, hv2, hB2⟩
  go_wp2
  go_ret2
  exact ⟨_, rfl, hv2, hB2⟩
set_option maxHeartbeats 2000000 in
theorem hiDiff_long (x y : List Int) (vx vy : Value) (w : World) (hx : HI w vx x) (hy : HI w vy y) (hl : 4096 < x.length ∨ 4096 < y.length) :
    Calls Tryz.prog 129 #[vx, vy] w fun e w' => e = .returned (.tuple #[.slice none 0 0, .int .i64 9]) ∧ Below w.heap.size w w' := by
  obtain ⟨xo, xc, rfl⟩ := Holds.form hx
  obtain ⟨yo, yc, rfl⟩ := Holds.form hy
  have HL : Hid (4096 < x.length ∨ 4096 < y.length) := hl
  clear hl
  go_enter Tryz.func129, Tryz.ntmps129
  go_wp2_with fail
  refine (pDiff_long x y _ _ _ w hx hy HL.out).mono ?_
  rintro e w2 ⟨rfl, rfl⟩
  go_wp2
  go_ret2
  exact ⟨rfl, Below.refl _ _⟩
end Go.Proofs.YtgiojkhmkeocfaaGreatDoor

/- Rows of runs as cells; the reference's times and Runs, walked. -/
set_option maxRecDepth 20000
namespace Go.Proofs.YtgiojkhmkeocfaaGreatDoor
open Go.RowKit

/-- a run as cells -/
def hrC (r : Hr) : List Value := [.int .i64 (r.X : Int), .int .i64 (r.Y : Int), .int .i64 (r.N : Int), .int .i64 (r.R : Int)]
def hrcells (l : List Hr) : List Value := l.flatMap hrC
theorem hrcells_length (l : List Hr) : (hrcells l).length = l.length * 4 := by
  induction l with
  | nil => rfl
  | cons c l ih => simp only [hrcells, List.flatMap_cons, List.length_append, List.length_cons] at ih ⊢; rw [ih]; simp [hrC]; omega
theorem hrcells_append (a b : List Hr) : hrcells (a ++ b) = hrcells a ++ hrcells b := by simp [hrcells]
theorem hrcells_one (l : List Hr) : ∀ u ∈ hrcells l, u.oneCell' = true := by
  intro u hu
  simp only [hrcells, List.mem_flatMap, hrC] at hu
  obtain ⟨c, _, h⟩ := hu
  simp only [List.mem_cons, List.not_mem_nil, or_false] at h
  rcases h with rfl | rfl | rfl | rfl <;> rfl
theorem hrcells_at (l : List Hr) (k : Nat) (hk : k < l.length) : (hrcells l)[4 * k]? = some (.int .i64 (l[k].X : Int)) ∧ (hrcells l)[4 * k + 1]? = some (.int .i64 (l[k].Y : Int)) ∧ (hrcells l)[4 * k + 2]? = some (.int .i64 (l[k].N : Int)) ∧ (hrcells l)[4 * k + 3]? = some (.int .i64 (l[k].R : Int)) := by
  induction l generalizing k with
  | nil => simp at hk
  | cons c l ih =>
    cases k with
    | zero => simp [hrcells, hrC]
    | succ k =>
      have h := ih k (by simpa using hk)
      have e : ∀ i, (hrcells (c :: l))[4 * (k + 1) + i]? = (hrcells l)[4 * k + i]? := by
        intro i
        have : hrcells (c :: l) = hrC c ++ hrcells l := rfl
        rw [this, List.getElem?_append_right (by simp [hrC]; omega)]
        congr 1
        simp [hrC]; omega
      simp only [List.getElem_cons_succ]
      refine ⟨by rw [← (h).1]; exact e 0, by rw [← h.2.1]; exact e 1, by rw [← h.2.2.1]; exact e 2, by rw [← h.2.2.2]; exact e 3⟩
/-- what a slice of runs holds -/
def HHr (w : World) (v : Value) (l : List Hr) : Prop := Holds w v l.length (hrcells l)
theorem HHr.keep {w w' : World} {v : Value} {l : List Hr} (h : HHr w v l) {N : Nat} (hk : Below N w w') (hN : w.heap.size ≤ N) : HHr w' v l := Holds.keep h fun k hk' => hk.block k (by omega)
theorem HHr.at {w : World} {ao : Option Addr} {n c : Nat} {l : List Hr} (h : HHr w (.slice ao n c) l) (h0 : 0 < l.length) : ∃ b off, ao = some ⟨b, off, none⟩ ∧ b < w.heap.size ∧
    ∀ k (hk : k < l.length), w.cell? ⟨b, off + k * 4, none⟩ = some (.int .i64 (l[k].X : Int)) ∧ w.cell? ⟨b, off + k * 4 + 1, none⟩ = some (.int .i64 (l[k].Y : Int)) ∧ w.cell? ⟨b, off + k * 4 + 2, none⟩ = some (.int .i64 (l[k].N : Int)) ∧ w.cell? ⟨b, off + k * 4 + 3, none⟩ = some (.int .i64 (l[k].R : Int)) := by
  obtain ⟨b, off, c', hv, hb, hc⟩ := Holds.at h (by rw [hrcells_length]; omega)
  cases hv
  refine ⟨b, off, rfl, hb, fun k hk => ?_⟩
  obtain ⟨h0, h1, h2, h3⟩ := hrcells_at l k hk
  have hlen := hrcells_length l
  have e : k * 4 = 4 * k := by omega
  rw [e]
  refine ⟨?_, ?_, ?_, ?_⟩
  · have := hc (4 * k) (by omega)
    rw [← h0, this, List.getElem?_eq_getElem]
  · have := hc (4 * k + 1) (by omega)
    rw [← h1, Nat.add_assoc, this, List.getElem?_eq_getElem]
  · have := hc (4 * k + 2) (by omega)
    rw [← h2, Nat.add_assoc, this, List.getElem?_eq_getElem]
  · have := hc (4 * k + 3) (by omega)
    rw [← h3, Nat.add_assoc, this, List.getElem?_eq_getElem]
section
variable {u u' : World} {B : Nat} {r : Hr}
end

/-- what is left of the runs -/
def restR (x y : List Int) (i j : Nat) : List Hr := (List.range' j (y.length - j)).flatMap (rj x y i) ++ (List.range' (i + 1) (x.length - (i + 1))).flatMap (rowR x y)
def restRI (x y : List Int) (i : Nat) : List Hr := (List.range' i (x.length - i)).flatMap (rowR x y)
theorem restRI_zero (x y : List Int) : restRI x y 0 = runs x y := by simp [restRI, runs]
theorem restRI_step (x y : List Int) (i : Nat) (hi : i < x.length) : restRI x y i = restR x y i 0 := by
  unfold restRI restR
  rw [show x.length - i = (x.length - (i + 1)) + 1 by omega, List.range'_succ, List.flatMap_cons]
  rfl
theorem restRI_end (x y : List Int) (i : Nat) (hi : x.length ≤ i) : restRI x y i = [] := by
  unfold restRI
  rw [show x.length - i = 0 by omega]
  rfl
theorem restR_step (x y : List Int) (i j : Nat) (hj : j < y.length) : restR x y i j = rj x y i j ++ restR x y i (j + 1) := by
  unfold restR
  rw [show y.length - j = (y.length - (j + 1)) + 1 by omega, List.range'_succ, List.flatMap_cons, List.append_assoc]
theorem restR_end (x y : List Int) (i j : Nat) (hj : y.length ≤ j) : restR x y i j = restRI x y (i + 1) := by
  unfold restR restRI
  rw [show y.length - j = 0 by omega]
  rfl
theorem runs_length (x y : List Int) : (runs x y).length ≤ x.length * y.length := by
  unfold runs
  have h1 : ∀ i, (rowR x y i).length ≤ y.length := by
    intro i
    unfold rowR
    have : ∀ n s, ((List.range' s n).flatMap (rj x y i)).length ≤ n := by
      intro n
      induction n with
      | zero => intro s; simp
      | succ n ih =>
        intro s
        rw [List.range'_succ, List.flatMap_cons, List.length_append]
        have h2 := ih (s + 1)
        have h3 : (rj x y i s).length ≤ 1 := by unfold rj; split <;> simp
        omega
    exact this _ _
  have : ∀ n s, ((List.range' s n).flatMap (rowR x y)).length ≤ n * y.length := by
    intro n
    induction n with
    | zero => intro s; simp
    | succ n ih =>
      intro s
      rw [List.range'_succ, List.flatMap_cons, List.length_append, Nat.succ_mul]
      have h2 := ih (s + 1)
      have h3 := h1 s
      omega
  exact this _ _
end Go.Proofs.YtgiojkhmkeocfaaGreatDoor

/- The reference's Runs, walked. -/
set_option maxRecDepth 20000
namespace Go.Proofs.YtgiojkhmkeocfaaGreatDoor
open Go.RowKit
attribute [local simp] low_drew

end Go.Proofs.YtgiojkhmkeocfaaGreatDoor

/- The reference's Best, walked. -/
set_option maxRecDepth 20000
namespace Go.Proofs.YtgiojkhmkeocfaaGreatDoor
open Go.RowKit

/-- the run to hold on to, out of all -/
def pickO : List Hr → Option Hr
  | [] => none
  | b :: l => some (pickL btR b l)
theorem best_pickO (x y : List Int) : best x y = pickO (runs x y) := by
  unfold best
  cases runs x y <;> rfl
/-- what Best answers, as a value -/
def bestV (o : Option Hr) : Value := .tuple #[.agg #[.int .i64 ((o.getD ⟨0, 0, 0, 0⟩).X : Int), .int .i64 ((o.getD ⟨0, 0, 0, 0⟩).Y : Int), .int .i64 ((o.getD ⟨0, 0, 0, 0⟩).N : Int), .int .i64 ((o.getD ⟨0, 0, 0, 0⟩).R : Int)], .bool o.isSome]

end Go.Proofs.YtgiojkhmkeocfaaGreatDoor

/- The reference's piece and Diff of the layer histogram, walked. -/
set_option maxRecDepth 20000
namespace Go.Proofs.YtgiojkhmkeocfaaGreatDoor
open Go.RowKit
attribute [local simp] low_drew

theorem exec_slB {u : World} {ao ao' : Option Addr} {n cap l h n' c' : Nat} (hr : ∀ u : World, (Instr.slice 71 (.slice ao n cap) (some (.int .i64 (l : Int))) (some (.int .i64 (h : Int))) none).run Tryz.prog u = .ok (.slice ao' n' c') u) {op : Oper} (x y z : Operand) (ho : op.op = .slice 71 x (some y) (some z) none) {ev : Operand → Value} (hx : ev x = .slice ao n cap) (hy : ev y = .int .i64 (l : Int)) (hz : ev z = .int .i64 (h : Int)) :
    (execOp ev op).run Tryz.prog u = .ok (.value (.slice ao' n' c')) u := by
  have h2 := run_sliceAt_slice (P := Tryz.prog) (w := u) 71 (.slice ao n cap) (some (.int .i64 (l : Int))) (some (.int .i64 (h : Int))) none (by kernel_rfl)
  simp only [execOp, ho, hx, hy, hz, Option.map_some, Option.map_none, Sem.run_bind, h2, hr u, Result.andThen_ok, Sem.run_pure]
theorem fp_snoc2 (a c k : Nat) : fp a c (k + 1) = fp a c k ++ [⟨(a + k : Nat), (c + k : Nat)⟩] := by
  induction k generalizing a c with
  | zero => rfl
  | succ k ih =>
    rw [fp, ih (a + 1) (c + 1), fp, List.cons_append, show a + 1 + k = a + (k + 1) by omega, show c + 1 + k = c + (k + 1) by omega]
/-- a call and something made: either may come first -/
theorem go_callVal {P : Program} {S : World → Prop} {md : Region.Mode} {ops : Array Oper} {Q : Exit → Act → World → Prop} {fuel : Nat} {listed : Array Bool} {A : Act} {w : World}
    (i d : Nat) (op : Oper) (j e : Nat) (oq : Oper) (hi : ops[i]? = some op) (hd : op.dst = some d) (hj : ops[j]? = some oq) (he : oq.dst = some e) (hr : Region.ready md ops listed = [i, j]) (hwt : Region.wanted op (yielded ops A.tmps) = true) (hwq : Region.wanted oq (yielded ops A.tmps) = true)
    (F : Nat) (x : Operand) (xs : Array Operand) (ts : Array TypeId) (ho : op.op = .call { callee := .value x, args := xs, argTypes := ts })
    (cap : Array Value) (hxv : A.eval x = .func (.func F) #[] cap) (args : Array Value) (hx : xs.map A.eval = args) (hen : ∀ args w, (callFunc F args).run P w = .ok (.enter F args) w) (R : Value → World → Prop)
    (hc : Calls P F (args ++ cap) w fun e w' => ∃ v, e = .returned v ∧ S w' ∧ R v w')
    (vq : Value) (wq : World) (hq : (execOp A.eval oq).run P w = .ok (.value vq) wq) (hS : S wq)
    (h : ∀ v w', S w' → R v w' → wpAnyH P md ops Q S fuel (listed.setIfInBounds i true) (A.put (some d) v) w')
    (h2 : wpAnyH P md ops Q S fuel (listed.setIfInBounds j true) (A.put (some e) vq) wq) :
    wpAnyH P md ops Q S (fuel + 1) listed A w := by
  refine wpAnyH_ready hr (by simp) (AllReadyH.cons hi (fun K hK => ?_) (AllReadyH.cons hj (fun K hK => ?_) AllReadyH.nil))
  · refine step_want hwt ?_
    unfold Oper.wp
    have e : (execOp A.eval op).run P w = .ok (.enter F (args ++ cap)) w := by
      have h1 := hen (args ++ cap) w
      simp only [execOp, ho, resolve, invoke]
      simp only [hxv, Deferred.ofValue, Sem.run_bind, Sem.run_pure, Result.andThen_ok, hx, Array.empty_append]
      exact h1
    rw [e, Oper.upon_enter]
    refine hc.mono ?_
    rintro e w' ⟨v, rfl, hb, hR⟩
    exact hK.out _ _ hb (fun hu => by rw [hd]; exact h v w' hu hR)
  · refine step_want hwq ?_
    unfold Oper.wp
    rw [hq, Oper.upon_value]
    exact hK.out _ _ hS (fun _ => by rw [he]; exact h2)

end Go.Proofs.YtgiojkhmkeocfaaGreatDoor

/- The reference's Diff of the layer histogram, walked. -/
set_option maxRecDepth 20000
namespace Go.Proofs.YtgiojkhmkeocfaaGreatDoor
open Go.RowKit

end Go.Proofs.YtgiojkhmkeocfaaGreatDoor

/- speedy.Greedy, walked. -/
set_option maxRecDepth 20000
namespace Go.Proofs.YtgiojkhmkeocfaaGreatDoor
open Go.RowKit

theorem gdn_found {c : Int} {y : List Int} {nx k : Nat} {far : Int} (h1 : nx ≤ k) (h2 : (k : Int) - (nx : Int) < far) (h3 : y[k]? = some c) (h4 : ∀ j, nx ≤ j → j < k → y[j]? ≠ some c) : gdn c y nx far = some k := by
  cases h : gdn c y nx far with
  | none => exact absurd h3 (gdn_none h k h1 (by omega))
  | some j =>
    obtain ⟨q1, q2, q3, q4, q5⟩ := gdn_some h
    rcases Nat.lt_trichotomy j k with e | e | e
    · exact absurd q4 (h4 j q1 e)
    · rw [e]
    · exact absurd h3 (q5 k h1 e)
theorem gdn_lost {c : Int} {y : List Int} {nx k : Nat} {far : Int} (h2 : y.length ≤ k ∨ far ≤ (k : Int) - (nx : Int)) (h4 : ∀ j, nx ≤ j → j < k → y[j]? ≠ some c) : gdn c y nx far = none := by
  cases h : gdn c y nx far with
  | none => rfl
  | some j =>
    obtain ⟨q1, q2, q3, q4, q5⟩ := gdn_some h
    exact absurd q4 (h4 j q1 (by omega))
/-- what is written down of what Greedy keeps -/
def Gw (y : List Int) (far : Int) (G : List Int) (n : Nat) (x : List Int) (i nx : Nat) (Z : List Int) : Prop := Z.length = n ∧ Z.take i ++ gdy y far nx x = G
theorem Gw.hit {y : List Int} {far : Int} {G : List Int} {n i nx j : Nat} {c : Int} {x Z : List Int} (h : Gw y far G n (c :: x) i nx Z) (hi : i < n) (hj : gdn c y nx far = some j) : Gw y far G n x (i + 1) (j + 1) (Z.set i (j : Int)) := by
  refine ⟨by rw [List.length_set]; exact h.1, ?_⟩
  rw [← h.2, gdy, hj, List.take_add_one, List.getElem?_set_self (by rw [h.1]; exact hi)]
  rw [List.take_set_of_le (Nat.le_refl _)]
  simp
theorem Gw.miss {y : List Int} {far : Int} {G : List Int} {n i nx : Nat} {c : Int} {x Z : List Int} (h : Gw y far G n (c :: x) i nx Z) (hi : i < n) (hj : gdn c y nx far = none) : Gw y far G n x (i + 1) nx (Z.set i (-1)) := by
  refine ⟨by rw [List.length_set]; exact h.1, ?_⟩
  rw [← h.2, gdy, hj, List.take_add_one, List.getElem?_set_self (by rw [h.1]; exact hi)]
  rw [List.take_set_of_le (Nat.le_refl _)]
  simp

set_option maxRecDepth 10000 in
set_option maxHeartbeats 4000000 in
theorem Greedy_f (x y : List Int) (far : Int) (vx vy : Value) (w : World) (hx : HI w vx x) (hy : HI w vy y) (hxl : x.length ≤ 1048576) (hyl : y.length ≤ 1048576) (G : List Int) (hG : Hid (gdy y far 0 x = G)) :
    Calls Tryz.prog 194 #[vx, vy, .int .i64 far] w fun e w' => ∃ zo zc, e = .returned (.slice zo x.length zc) ∧ w'.ownsRow w.heap.size 3 1 (.slice zo x.length zc) x.length (icells G) ∧ Below w.heap.size w w' := by
  obtain ⟨xo, xc, rfl⟩ := Holds.form hx
  obtain ⟨yo, yc, rfl⟩ := Holds.form hy
  have hmk := run_makeI x.length (by omega)
  have hrow := World.ownsRow_lit (base := w.heap.size) (e := 3) (size := 1) w (madeCells #[Value.int IntKind.i64 0] x.length) x.length (Nat.le_refl _) (by unfold maxLen; omega) (by rw [size_madeCells]; omega)
  have hB0 : Below w.heap.size w (w.alloc (Obj.cells (madeCells #[Value.int IntKind.i64 0] x.length) 3)) := (Below.refl _ w).alloc (Nat.le_refl _) _
  rw [madeI] at hmk hrow hB0
  have hrow' : (w.alloc (Obj.cells (List.replicate x.length (Value.int .i64 0)).toArray 3)).ownsRow w.heap.size 3 1 (.slice (some ⟨w.heap.size, 0, none⟩) x.length x.length) x.length (icells (List.replicate x.length 0)) := by
    simpa [icells] using hrow
  have HW0 : Hid (Gw y far G x.length (x.drop 0) 0 0 (List.replicate x.length 0)) := (by
    refine ⟨by simp, ?_⟩
    rw [List.take_zero, List.drop_zero, List.nil_append]
    exact hG.out)
  clear hrow hG
  go_enter Tryz.func194, Tryz.ntmps194
  go_wp2
  go_step3
  go_wp2
  go_step3
  go_wp2
  go_loopw [8, 17] (fun fv iv wr => ∃ (i nx : Nat) (Z : List Int), i ≤ x.length ∧ nx ≤ y.length ∧ fv = .int .i64 nx ∧ iv = .int .i64 i ∧ Below w.heap.size w wr ∧ wr.ownsRow w.heap.size 3 1 (.slice (some ⟨w.heap.size, 0, none⟩) x.length x.length) x.length (icells Z) ∧ Hid (Gw y far G x.length (x.drop i) i nx Z)) (fun _ iv _ => x.length - (intOf iv).toNat)
  case atStart => exact ⟨0, 0, _, Nat.zero_le _, Nat.zero_le _, rfl, rfl, hB0, hrow', HW0⟩
  case round =>
    clear hB0 hrow' HW0 hmk
    obtain ⟨i, nx, Z, hi, hnx, rfl, rfl, hB, hO, HW⟩ := hrel
    by_cases hlt : i < x.length
    · obtain ⟨xb, xf, rfl, _, hqx⟩ := HI.at (HI.keep hx hB (Nat.le_refl _)) (by omega)
      have x0 := hqx i hlt
      obtain ⟨c, hc⟩ : ∃ c, x[i] = c := ⟨_, rfl⟩
      rw [hc] at x0
      have HW1 : Hid (Gw y far G x.length (c :: x.drop (i + 1)) i nx Z) := (by
        have := HW.out
        rw [List.drop_eq_getElem_cons hlt, hc] at this
        exact this)
      clear hqx hc HW
      have i1 : 0 ≤ (i : Int) := by omega
      have i2 : (i : Int) < (x.length : Int) := by omega
      go_wp2
      go_loopw [8, 11] (fun fv av wi => ∃ (k : Nat), nx ≤ k ∧ k ≤ y.length ∧ fv = .int .i64 nx ∧ av = .int .i64 k ∧ wi = wr ∧ Hid (∀ j, nx ≤ j → j < k → y[j]? ≠ some c)) (fun _ av _ => y.length - (intOf av).toNat)
      case atStart => exact ⟨nx, Nat.le_refl _, hnx, rfl, rfl, rfl, fun j h1 h2 => by omega⟩
      case round =>
        clear x0
        obtain ⟨k, hk1, hk2, rfl, rfl, rfl, HF⟩ := hrel
        have y1 := hO.frozenAt i
        have hZl := HW1.out.1
        have z0 := hO.cellAt i (by omega)
        rw [List.getElem?_eq_getElem (by rw [icells_length]; omega)] at z0
        obtain ⟨z1, hz1⟩ : ∃ z, (icells Z)[i]'(by rw [icells_length]; omega) = z := ⟨_, rfl⟩
        rw [hz1] at z0
        clear hz1 hZl
        by_cases hky : k < y.length
        · by_cases hkf : (k : Int) - (nx : Int) < far
          · obtain ⟨yb, yf, rfl, _, hqy⟩ := HI.at (HI.keep hy hB (Nat.le_refl _)) (by omega)
            have y0 := hqy k hky
            obtain ⟨d, hd⟩ : ∃ d, y[k] = d := ⟨_, rfl⟩
            rw [hd] at y0
            have HD : Hid (y[k]? = some d) := (by show _ = _; rw [List.getElem?_eq_getElem hky, hd])
            have k1 : (k : Int) < (y.length : Int) := by omega
            have k2 : 0 ≤ (k : Int) := by omega
            have n1 : IntKind.i64.wrap ((k : Int) - (nx : Int)) = (k : Int) - (nx : Int) := by rw [IntKind.wrap_i64]; omega
            clear hqy hd
            by_cases hcd : d = c
            · subst hcd
              obtain ⟨p1, g1⟩ := hO.stored i (.int .i64 (k : Int))
              rw [show (icells Z).set i (.int .i64 (k : Int)) = icells (Z.set i (k : Int)) by simp [icells, List.map_set]] at p1
              have hB1 := hB.grown g1 hB.size (fun j hj => by have := Option.some.inj hj; omega)
              have HW2 : Hid (Gw y far G x.length (x.drop (i + 1)) (i + 1) (k + 1) (Z.set i (k : Int))) := HW1.out.hit hlt (gdn_found hk1 hkf HD.out HF.out)
              clear g1
              go_wp2
              go_roundw
              case rel => exact ⟨i + 1, k + 1, _, by omega, by omega, by go_num, by go_num, hB1, p1, HW2⟩
              case measure => simp [intOf]; omega
            · have e1 : (d == c) = false := by simpa using hcd
              have HF2 : Hid (∀ j, nx ≤ j → j < k + 1 → y[j]? ≠ some c) := (by
                intro j h1 h2 h3
                by_cases e : j = k
                · subst e
                  rw [HD.out] at h3
                  exact hcd (Option.some.inj h3)
                · exact HF.out j h1 (by omega) h3)
              go_wp2
              go_roundw
              case rel => exact ⟨k + 1, by omega, by omega, rfl, by go_num, trivial, HF2⟩
              case measure => simp [intOf]; omega
          · have k1 : (k : Int) < (y.length : Int) := by omega
            have n1 : IntKind.i64.wrap ((k : Int) - (nx : Int)) = (k : Int) - (nx : Int) := by rw [IntKind.wrap_i64]; omega
            have hkf' : far ≤ (k : Int) - (nx : Int) := by omega
            obtain ⟨p1, g1⟩ := hO.stored i (.int .i64 (-1))
            rw [show (icells Z).set i (.int .i64 (-1)) = icells (Z.set i (-1)) by simp [icells, List.map_set]] at p1
            have hB1 := hB.grown g1 hB.size (fun j hj => by have := Option.some.inj hj; omega)
            have HW2 : Hid (Gw y far G x.length (x.drop (i + 1)) (i + 1) nx (Z.set i (-1))) := HW1.out.miss hlt (gdn_lost (.inr hkf') HF.out)
            clear g1
            go_wp2
            go_roundw
            case rel => exact ⟨i + 1, nx, _, by omega, hnx, by go_num, by go_num, hB1, p1, HW2⟩
            case measure => simp [intOf]; omega
        · obtain rfl : k = y.length := by omega
          obtain ⟨p1, g1⟩ := hO.stored i (.int .i64 (-1))
          rw [show (icells Z).set i (.int .i64 (-1)) = icells (Z.set i (-1)) by simp [icells, List.map_set]] at p1
          have hB1 := hB.grown g1 hB.size (fun j hj => by have := Option.some.inj hj; omega)
          have HW2 : Hid (Gw y far G x.length (x.drop (i + 1)) (i + 1) nx (Z.set i (-1))) := HW1.out.miss hlt (gdn_lost (.inl (Nat.le_refl _)) HF.out)
          clear g1
          go_wp2
          go_roundw
          case rel => exact ⟨i + 1, nx, _, by omega, hnx, by go_num, by go_num, hB1, p1, HW2⟩
          case measure => simp [intOf]; omega
    · obtain rfl : i = x.length := by omega
      have e : Z = G := by
        have := HW.out
        rw [← this.2, List.drop_of_length_le (Nat.le_refl _), gdy, List.append_nil, List.take_of_length_le (by rw [this.1]; exact Nat.le_refl _)]
      subst e
      clear HW
      go_wp2
      (try rw [Exit.noGoto_ret])
      go_ret
      exact ⟨_, _, rfl, hO, hB⟩
end Go.Proofs.YtgiojkhmkeocfaaGreatDoor

/- speedy.Diff's closure, and Diff, walked. -/
set_option maxRecDepth 20000
namespace Go.Proofs.YtgiojkhmkeocfaaGreatDoor
open Go.RowKit

theorem lp_none (Z : List Int) : ∀ (a c : Int), (∀ z ∈ Z, z = -1) → lp a c Z = [] := by
  induction Z with
  | nil => intro a c _; rfl
  | cons z Z ih =>
    intro a c h
    rw [lp, if_pos (h z List.mem_cons_self), ih (a + 1) c (fun q hq => h q (List.mem_cons_of_mem _ hq))]
    rfl
/-- where a piece is empty nothing is kept -/
theorem lp_empty (a c : Int) (X Y : List Int) (h : X.length = 0 ∨ Y.length = 0) : lp a c (kp 0 X Y) = [] := by
  refine lp_none _ a c fun z hz => ?_
  have hV := kp_vk 0 X Y (Int.le_refl _)
  rw [Int.zero_add] at hV
  rcases h with h | h
  · rw [List.eq_nil_of_length_eq_zero h] at hz
    have := kp_length 0 [] Y
    rw [List.eq_nil_of_length_eq_zero this] at hz
    cases hz
  · have h1 := hV.each (Int.le_refl _) z hz
    have h2 := hV.lt z hz
    omega
theorem smid_cut (B : Int) (x y : List Int) (rec : Nat → Nat → Nat → Nat → List Pr) (A b C d : Nat) (hA : A ≤ b) (hC : C ≤ d) (hb : b ≤ x.length) (hd : d ≤ y.length) : (if A < b ∧ C < d then smid B x y rec A b C d else []) = if ((b - A : Nat) : Int) * ((d - C : Nat) : Int) ≤ max 0 B then lp A C (kp 0 (sub x A b) (sub y C d)) else lp A C (gdy (sub y C d) 64 0 (sub x A b)) := by
  by_cases h : A < b ∧ C < d
  · rw [if_pos h]
    rfl
  · have h0 : ((b - A : Nat) : Int) * ((d - C : Nat) : Int) = 0 := by
      rcases Nat.lt_or_ge A b with h1 | h1
      · rw [show d - C = 0 by omega]
        simp
      · rw [show b - A = 0 by omega]
        simp
    rw [if_neg h, if_pos (by rw [h0]; omega), lp_empty]
    rw [sub_length x A b hb, sub_length y C d hd]
    omega
theorem load_row {u : World} {a : Addr} {ao : Option Addr} {n c : Nat} (h : u.cell? a = some (.slice ao n c)) {op : Oper} (x : Operand) (ho : op.op = .load 71 x) {ev : Operand → Value} (hx : ev x = .pointer (some a)) :
    (execOp ev op).run Tryz.prog u = .ok (.value (.slice ao n c)) u := by
  simp only [execOp, ho, hx]
  go_simp
theorem greedy_held {X Y : List Int} {xo : Option Addr} {nx xc : Nat} {yo : Option Addr} {ny yc : Nat} {u : World} {G : List Int} {B : Nat} {v0 v1 v2 v3 : Value} (hl : X.length ≤ 1048576 ∧ Y.length ≤ 1048576) (hX : X.length = nx) (hx : HI u (.slice xo nx xc) X) (hy : HI u (.slice yo ny yc) Y) (hG : Hid (gdy Y 64 0 X = G)) (hQ : Qbx u B v0 v1 v2 v3) :
    Calls Tryz.prog 194 (#[.slice xo nx xc, .slice yo ny yc, .int .i64 64] ++ #[]) u fun e w' => ∃ v, e = .returned v ∧ Qbx w' B v0 v1 v2 v3 ∧ ∃ zo zc, v = .slice zo nx zc ∧ w'.ownsRow u.heap.size 3 1 (.slice zo nx zc) nx (icells G) ∧ Below u.heap.size u w' := by
  subst hX
  refine (Greedy_f X Y 64 _ _ u hx hy hl.1 hl.2 G hG).mono ?_
  rintro e w' ⟨zo, zc, rfl, h1, h2⟩
  exact ⟨_, rfl, hQ.low h2, zo, zc, rfl, h1, h2⟩
theorem keepAt_held {x : List Int} {W0 u : World} {g B : Nat} {K Z : List Int} {a c : Nat} {xo : Option Addr} {nx xc : Nat} {yo : Option Addr} {ny yc : Nat} {ko : Option Addr} {kc : Nat} (hat : 0 < nx → ko = some ⟨g, a, none⟩) (hnx : a + nx ≤ x.length) (hny : c + ny ≤ 4096) (hxl : x.length ≤ 4096) {zo : Option Addr} {zc : Nat} (hZl : Z.length = nx) (hO : u.ownsRow B 3 1 (.slice zo nx zc) nx (icells Z)) (hgB : g < B) (hV : Vk 0 ny Z) (hS : Ls W0 g x.length K u) {KF : List Int} (hKF : Hid (wrk K (lp a c Z) = KF)) {Q : Nat} {v0 v1 v2 v3 : Value} (hQ : Qbx u Q v0 v1 v2 v3) (hg : g ≠ Q) :
    Calls Tryz.prog 193 (#[.agg #[.slice xo nx xc, .slice yo ny yc, .int .i64 (c : Int), .slice ko nx kc], .slice zo nx zc] ++ #[]) u fun e w' => ∃ v, e = .returned v ∧ Qbx w' Q v0 v1 v2 v3 ∧ v = .tuple #[] ∧ Ls W0 g x.length KF w' ∧ u.grownBy w' (some g) := by
  refine (KeepAt_f x W0 u g B K Z a c xo nx xc yo ny yc ko kc hat hnx hny hxl zo zc hZl hO hgB hV hS KF hKF).mono ?_
  rintro e w' ⟨rfl, h1, h2⟩
  exact ⟨_, rfl, hQ.keep h2 (fun q => hg (Option.some.inj q).symm), rfl, h1, h2⟩

set_option maxRecDepth 10000 in
set_option maxHeartbeats 8000000 in
theorem sfind_f (x y : List Int) (W0 : World) (g Bf : Nat) (bound : Int) (hf0 : W0.cell? ⟨Bf, 0, none⟩ = some (.int .i64 bound)) (hxl : x.length ≤ 4096) (hyl : y.length ≤ 4096) (f : Nat) (w : World) (K : List Int) (hS : Ls W0 g x.length K w) (a b c d : Nat) (xo : Option Addr) (nx xc : Nat) (yo : Option Addr) (ny yc : Nat) (ko : Option Addr) (kc : Nat) (hp : Pz W0 g x y a b c d xo nx xc yo ny yc ko kc) (KF : List Int) (hKF : Hid (wrk K (pcs (smid bound x y) x y (f + 1) a b c d) = KF)) :
    Calls Tryz.prog 192 #[.agg #[.slice xo nx xc, .slice yo ny yc, .int .i64 (c : Int), .slice ko nx kc], .pointer (some ⟨Bf, 0, none⟩)] w fun e w' => e = .returned (.tuple #[]) ∧ Ls W0 g x.length KF w' ∧ w.grownBy w' (some g) := by
  have hg := hS.lt
  have HKF : Hid (∀ k m, k = tf x y a b c d → m = tb x y (a + k) b (c + k) d → wrk (wrk K (fp a c k ++ bp b d m)) (if a + k < b - m ∧ c + k < d - m then smid bound x y (pcs (smid bound x y) x y f) (a + k) (b - m) (c + k) (d - m) else []) = KF) := (by
    intro k m hk hm
    rw [← hKF.out, pcs, ends, ← hk, ← hm, wrk_append, wrk_append, wrk_append])
  have hQ0 := Qbx.new w (.slice xo nx xc) (.slice yo ny yc) (.int .i64 c) (.slice ko nx kc)
  have hB0 := (Below.refl w.heap.size w).alloc (Nat.le_refl _) (.cells #[.slice xo nx xc, .slice yo ny yc, .int .i64 c, .slice ko nx kc] 243)
  clear hKF
  go_enter Tryz.func192, Tryz.ntmps192
  go_wp2_with fail
  refine (KeepEnds_f x y W0 _ g K a b c d xo nx xc yo ny yc ko kc hp hxl hyl (hS.keep hB0)).mono ?_
  rintro e w1 ⟨k, m, xo1, nx1, xc1, yo1, ny1, yc1, ko1, kc1, hk, hm, rfl, hp1, hS1, hG1⟩
  have HK2 := HKF.out k m hk hm
  have hkl := tf_le x y a b c d
  have hml := tb_le x y (a + k) b (c + k) d
  rw [← hk] at hkl
  rw [← hm] at hml
  have hQ1 := hQ0.keep hG1 (by simp; omega)
  have hG1' : w.grownBy w1 (some g) := (low_grown hB0 _).trans hG1
  clear hk hm HKF hS hB0 hQ0 hG1
  obtain ⟨A, hA⟩ : ∃ A, a + k = A := ⟨_, rfl⟩
  obtain ⟨C, hC⟩ : ∃ C, c + k = C := ⟨_, rfl⟩
  obtain ⟨b1, hb1⟩ : ∃ B, b - m = B := ⟨_, rfl⟩
  obtain ⟨d1, hd1⟩ : ∃ D, d - m = D := ⟨_, rfl⟩
  obtain ⟨K1, hK1⟩ : ∃ K1, wrk K (fp a c k ++ bp b d m) = K1 := ⟨_, rfl⟩
  rw [hK1] at hS1 HK2
  rw [hA, hC, hb1, hd1] at HK2 hp1
  rw [hC]
  clear hA hC hb1 hd1 hK1 hkl hml hp
  have hAb := hp1.eb
  have hCd := hp1.ed
  have hbx := hp1.bx
  have hdy := hp1.dy
  rw [smid_cut bound x y _ A b1 C d1 (by omega) (by omega) hbx hdy] at HK2
  obtain ⟨P, hP⟩ : ∃ P, nx1 * ny1 = P := ⟨_, rfl⟩
  obtain ⟨M, hM⟩ : ∃ M, max 0 bound = M := ⟨_, rfl⟩
  have hPi : (nx1 : Int) * (ny1 : Int) = (P : Int) := by rw [← hP]; simp
  have hPb : P ≤ 4096 * 4096 := by rw [← hP]; exact Nat.mul_le_mul (by omega) (by omega)
  have HK3 : Hid (wrk K1 (if (P : Int) ≤ M then lp A C (kp 0 (sub x A b1) (sub y C d1)) else lp A C (gdy (sub y C d1) 64 0 (sub x A b1))) = KF) := (by
    show _ = _
    rw [show b1 - A = nx1 by omega, show d1 - C = ny1 by omega, hPi, hM] at HK2
    exact HK2)
  have hmax : ∀ w : World, (Builtin.max_ #[3, 3] 3 #[.int .i64 bound, .int .i64 0]).run Tryz.prog w = .ok (.int .i64 M) w := by
    intro w
    rw [run_max_int2, ← hM]
    congr 2
    split <;> omega
  clear HK2 hP
  obtain ⟨c0, c1, c2, c3⟩ := hQ1.cells
  have f0 := hQ1.frozen
  have hQ2 := hQ1.put (.slice xo1 nx1 xc1) (.slice yo1 ny1 yc1) (.int .i64 (C : Int)) (.slice ko1 nx1 kc1)
  have hgw := hS1.low.size
  have hgl := hS1.lt
  have hS2 := ls_other (ls_other (ls_other (ls_other hS1 (g := w.heap.size) (by omega) (by omega) 0 (.slice xo1 nx1 xc1)) (g := w.heap.size) (by omega) (by omega) 1 (.slice yo1 ny1 yc1)) (g := w.heap.size) (by omega) (by omega) 2 (.int .i64 (C : Int))) (g := w.heap.size) (by omega) (by omega) 3 (.slice ko1 nx1 kc1)
  have hG2 := grown_new (grown_new (grown_new (grown_new hG1' (B := w.heap.size) (by omega) 0 (.slice xo1 nx1 xc1)) (B := w.heap.size) (by omega) 1 (.slice yo1 ny1 yc1)) (B := w.heap.size) (by omega) 2 (.int .i64 (C : Int))) (B := w.heap.size) (by omega) 3 (.slice ko1 nx1 kc1)
  obtain ⟨W2, hW2⟩ : ∃ W2, (((w1.setCell ⟨w.heap.size, 0, none⟩ (.slice xo1 nx1 xc1)).setCell ⟨w.heap.size, 1, none⟩ (.slice yo1 ny1 yc1)).setCell ⟨w.heap.size, 2, none⟩ (.int .i64 (C : Int))).setCell ⟨w.heap.size, 3, none⟩ (.slice ko1 nx1 kc1) = W2 := ⟨_, rfl⟩
  rw [hW2] at hQ2 hS2 hG2
  have hbd : W2.cell? ⟨Bf, 0, none⟩ = some (.int .i64 bound) := by
    have : Bf < W0.heap.size := by
      rcases Nat.lt_or_ge Bf W0.heap.size with h | h
      · exact h
      · unfold World.cell? at hf0
        rw [Array.getElem?_eq_none h] at hf0
        cases hf0
    rw [World.cell?_of_block (w := W0) (hS2.low.block Bf this)]
    exact hf0
  unfold pzV
  obtain ⟨q0, q1, q2, q3⟩ := hQ2.cells
  by_cases hle : (P : Int) ≤ M
  · have HK4 : Hid (wrk K1 (lp A C (kp 0 (sub x A b1) (sub y C d1))) = KF) := (by
      show _ = _
      have := HK3.out
      rw [if_pos hle] at this
      exact this)
    clear HK3
    go_wp2_with fail
    clear hW2
    refine (KeepMost_f x y W0 W2 g K1 A b1 C d1 xo1 nx1 xc1 yo1 ny1 yc1 ko1 kc1 hp1 hxl hyl hS2 KF HK4).mono ?_
    rintro e w6 ⟨rfl, hS6, hG6⟩
    have hG7 := hG2.trans hG6
    go_wp2
    go_end0
    exact ⟨rfl, hS6, hG7⟩
  · obtain ⟨X, hX⟩ : ∃ X, sub x A b1 = X := ⟨_, rfl⟩
    obtain ⟨Y, hY⟩ : ∃ Y, sub y C d1 = Y := ⟨_, rfl⟩
    obtain ⟨G, hG⟩ : ∃ G, gdy Y 64 0 X = G := ⟨_, rfl⟩
    have hXl : X.length = nx1 := by rw [← hX, sub_length x A b1 hbx]; omega
    have hYl : Y.length = ny1 := by rw [← hY, sub_length y C d1 hdy]; omega
    have hx3 : HI W2.drew (.slice xo1 nx1 xc1) X := by
      unfold HI
      rw [hXl, ← hX]
      exact Holds.keep hp1.hx (fun q hq => hS2.low.block q hq)
    have hy3 : HI W2.drew (.slice yo1 ny1 yc1) Y := by
      unfold HI
      rw [hYl, ← hY]
      exact Holds.keep hp1.hy (fun q hq => hS2.low.block q hq)
    have HG : Hid (gdy Y 64 0 X = G) := hG
    have HGl : Hid (G.length = nx1) := (by show _ = _; rw [← hG, gdy_length, hXl])
    have HGv : Hid (Vk 0 ny1 G) := (by
      have := gdy_vk Y 64 X 0
      rw [hG, hYl] at this
      exact this)
    have HX : Hid (X.length ≤ 1048576 ∧ Y.length ≤ 1048576) := (by refine ⟨?_, ?_⟩ <;> omega)
    have HK4 : Hid (wrk K1 (lp A C G) = KF) := (by
      show _ = _
      have := HK3.out
      rw [if_neg hle, hX, hY, hG] at this
      exact this)
    have hnx1 : A + nx1 ≤ x.length := by omega
    have hny1 : C + ny1 ≤ 4096 := by omega
    have hgW : g < W2.drew.heap.size := hS2.lt.2
    have hgw2 : g ≠ w.heap.size := by omega
    have hle' : M < (P : Int) := by omega
    have hle2 : decide ((P : Int) ≤ M) = false := decide_eq_false hle
    clear HK3 hG hX hY
    go_wp2_with fail
    clear hW2 q0 q1 q2 q3 c0 c1 c2 c3
    refine wp_region_noPanic ?_
    refine wp_region_held_drew (S := fun u => Qbx u w.heap.size (.slice xo1 nx1 xc1) (.slice yo1 ny1 yc1) (.int .i64 (C : Int)) (.slice ko1 nx1 kc1)) (by kernel_rfl) (hQ2.drewN 1) (fun hHeld => ?_)
    refine go_take 0 17 _ (.agg #[.slice xo1 nx1 xc1, .slice yo1 ny1 yc1, .int .i64 (C : Int), .slice ko1 nx1 kc1]) rfl (by kernel_rfl) (by kernel_rfl) (by kernel_rfl) (by kernel_rfl) (fun _ _ _ h => h) (Or.inl ⟨by kernel_rfl, fun u hu => load_pz hu (.tmp 2) (by kernel_rfl) (by kernel_rfl)⟩) hHeld ?_
    simp only [Act.put, List.setIfInBounds_toArray, List.set_cons_zero, List.set_cons_succ]
    refine go_take 1 18 _ (.pointer (some ⟨w.heap.size, 0, none⟩)) rfl (by kernel_rfl) (by kernel_rfl) (by kernel_rfl) (by kernel_rfl) (fun _ _ _ h => h) (Or.inl ⟨by kernel_rfl, fun u hu => by kernel_rfl⟩) hHeld ?_
    simp only [Act.put, List.setIfInBounds_toArray, List.set_cons_zero, List.set_cons_succ]
    refine go_take 2 19 _ (.slice xo1 nx1 xc1) rfl (by kernel_rfl) (by kernel_rfl) (by kernel_rfl) (by kernel_rfl) (fun _ _ _ h => h) (Or.inl ⟨by kernel_rfl, fun u hu => load_row hu.cells.1 (.tmp 18) (by kernel_rfl) (by kernel_rfl)⟩) hHeld ?_
    simp only [Act.put, List.setIfInBounds_toArray, List.set_cons_zero, List.set_cons_succ]
    refine go_take 3 20 _ (.pointer (some ⟨w.heap.size, 1, none⟩)) rfl (by kernel_rfl) (by kernel_rfl) (by kernel_rfl) (by kernel_rfl) (fun _ _ _ h => h) (Or.inl ⟨by kernel_rfl, fun u hu => by kernel_rfl⟩) hHeld ?_
    simp only [Act.put, List.setIfInBounds_toArray, List.set_cons_zero, List.set_cons_succ]
    refine go_take 4 21 _ (.slice yo1 ny1 yc1) rfl (by kernel_rfl) (by kernel_rfl) (by kernel_rfl) (by kernel_rfl) (fun _ _ _ h => h) (Or.inl ⟨by kernel_rfl, fun u hu => load_row hu.cells.2.1 (.tmp 20) (by kernel_rfl) (by kernel_rfl)⟩) hHeld ?_
    simp only [Act.put, List.setIfInBounds_toArray, List.set_cons_zero, List.set_cons_succ]
    refine go_callE 5 22 _ rfl (by kernel_rfl) (by kernel_rfl) (by kernel_rfl) 194 (.func 194) #[.tmp 19, .tmp 21, .const (.int .i64 64)] #[71, 71, 3] (by kernel_rfl) #[] (by kernel_rfl) #[.slice xo1 nx1 xc1, .slice yo1 ny1 yc1, .int .i64 64] (by kernel_rfl) (enters_of Tryz.func194 (by kernel_rfl) rfl) _ (greedy_held HX.out hXl hx3 hy3 HG hHeld) ?_
    rintro _ u5 hHeld ⟨zo, zc, rfl, hO5, hL5⟩
    simp only [Act.put, List.setIfInBounds_toArray, List.set_cons_zero, List.set_cons_succ]
    have hgB : g < W2.drew.heap.size := hgW
    have hS5 := (hS2.keep (Below.dN (Below.refl _ W2) 1)).keep hL5
    have hG5 := hG2.trans (low_grown ((Below.dN (Below.refl W2.heap.size W2) 1).trans hL5) (some g))
    refine go_callE 6 23 _ rfl (by kernel_rfl) (by kernel_rfl) (by kernel_rfl) 193 (.func 193) #[.tmp 17, .tmp 22] #[243, 71] (by kernel_rfl) #[] (by kernel_rfl) #[.agg #[.slice xo1 nx1 xc1, .slice yo1 ny1 yc1, .int .i64 (C : Int), .slice ko1 nx1 kc1], .slice zo nx1 zc] (by kernel_rfl) (enters_of Tryz.func193 (by kernel_rfl) rfl) _ (keepAt_held (by have := hp1.at'; exact this) hnx1 hny1 hxl HGl.out hO5 hgB HGv.out hS5 HK4 hHeld hgw2) ?_
    rintro _ u6 hHeld ⟨rfl, hS6, hG6⟩
    simp only [Act.put, List.setIfInBounds_toArray, List.set_cons_zero, List.set_cons_succ]
    refine wpAnyH_done (by kernel_rfl) ?_ _
    refine NoPanic.normal ?_
    have hG7 := hG5.trans hG6
    go_wp2
    go_end0
    exact ⟨rfl, hS6, hG7⟩
set_option maxRecDepth 10000 in
set_option maxHeartbeats 2000000 in
theorem spDiff_f (x y : List Int) (bound : Int) (vx vy : Value) (w : World) (hx : HI w vx x) (hy : HI w vy y) (hxl : x.length ≤ 4096) (hyl : y.length ≤ 4096) (L : List Ch) (hL : Hid (mkL (sKeep bound x y) y.length = L)) :
    Calls Tryz.prog 131 #[vx, vy, .int .i64 bound] w fun e w' => ∃ v', e = .returned (.tuple #[v', .int .i64 0]) ∧ HCh w' v' L ∧ Below w.heap.size w w' := by
  obtain ⟨xo, xc, rfl⟩ := Holds.form hx
  obtain ⟨yo, yc, rfl⟩ := Holds.form hy
  obtain ⟨KF, hKF⟩ : ∃ KF, sKeep bound x y = KF := ⟨_, rfl⟩
  have HK : Hid (Kpt x y KF) := (by rw [← hKF]; exact sKeep_kpt bound x y)
  have HF : Hid (wrk (List.replicate x.length (-1)) (pcs (smid bound x y) x y (x.length + 1) 0 x.length 0 y.length) = KF) := hKF
  rw [hKF] at hL
  clear hKF
  have hW1 : Below w.heap.size w (w.alloc (.cells #[.int .i64 bound] 3)) := (Below.refl _ w).alloc (Nat.le_refl _) _
  have hf0 : (w.alloc (.cells #[.int .i64 bound] 3)).cell? ⟨w.heap.size, 0, none⟩ = some (.int .i64 bound) := by
    rw [Lib.cell_of_heap (_root_.Go.heap_alloc_new w _)]
    rfl
  go_enter Tryz.func131, Tryz.ntmps131
  go_wp2_with fail
  refine (pDiff_f x y _ _ _ (HI.keep hx hW1 (Nat.le_refl _)) (HI.keep hy hW1 (Nat.le_refl _)) hxl hyl 192 #[.pointer (some ⟨w.heap.size, 0, none⟩)] (enters_of Tryz.func192 (by kernel_rfl) rfl) KF HK (fun u g xo xc yo yc hS hp => sfind_f x y _ g w.heap.size bound hf0 hxl hyl x.length u _ hS 0 x.length 0 y.length _ _ _ _ _ _ _ _ hp KF HF) L hL).mono ?_
  rintro e w2 ⟨v2, rfl, hv2, hB2⟩
  have hB := hW1.trans (hB2.mono (by simp))
  clear hf0
  go_wp2
  go_ret2
  exact ⟨_, rfl, hv2, hB⟩
set_option maxHeartbeats 2000000 in
theorem spDiff_long (x y : List Int) (bound : Int) (vx vy : Value) (w : World) (hx : HI w vx x) (hy : HI w vy y) (hl : 4096 < x.length ∨ 4096 < y.length) :
    Calls Tryz.prog 131 #[vx, vy, .int .i64 bound] w fun e w' => e = .returned (.tuple #[.slice none 0 0, .int .i64 9]) ∧ Below w.heap.size w w' := by
  obtain ⟨xo, xc, rfl⟩ := Holds.form hx
  obtain ⟨yo, yc, rfl⟩ := Holds.form hy
  have HL : Hid (4096 < x.length ∨ 4096 < y.length) := hl
  clear hl
  have hW1 : Below w.heap.size w (w.alloc (.cells #[.int .i64 bound] 3)) := (Below.refl _ w).alloc (Nat.le_refl _) _
  go_enter Tryz.func131, Tryz.ntmps131
  go_wp2_with fail
  refine (pDiff_long x y _ _ _ _ (HI.keep hx hW1 (Nat.le_refl _)) (HI.keep hy hW1 (Nat.le_refl _)) HL.out).mono ?_
  rintro e w2 ⟨rfl, rfl⟩
  go_wp2
  go_ret2
  exact ⟨rfl, hW1⟩
end Go.Proofs.YtgiojkhmkeocfaaGreatDoor

/- Greedy from the last place down, as the reference goes: plain. -/
set_option maxRecDepth 20000
namespace Go.Proofs.YtgiojkhmkeocfaaGreatDoor

/-- the least place from j on that will do, or -1 -/
def atF (c : Int) (y : List Int) (nx : Nat) (far : Int) (j : Nat) : Int := match (y.drop j).findIdx? (fun z => z == c) with
  | some k => if ((j + k : Nat) : Int) - (nx : Int) < far then ((j + k : Nat) : Int) else -1
  | none => -1
theorem atF_end (c : Int) (y : List Int) (nx : Nat) (far : Int) : atF c y nx far y.length = -1 := by
  unfold atF
  rw [List.drop_of_length_le (Nat.le_refl _)]
  rfl
theorem atF_step (c : Int) (y : List Int) (nx : Nat) (far : Int) (j : Nat) (hj : j < y.length) : atF c y nx far j = if y[j] = c ∧ (j : Int) - (nx : Int) < far then (j : Int) else atF c y nx far (j + 1) := by
  unfold atF
  rw [List.drop_eq_getElem_cons hj, List.findIdx?_cons]
  by_cases e : y[j] = c
  · rw [if_pos (by simp [e])]
    by_cases f : (j : Int) - (nx : Int) < far
    · rw [if_pos ⟨e, f⟩]
      simp only [Nat.add_zero]
      rw [if_pos f]
    · rw [if_neg (fun h => f h.2)]
      simp only [Nat.add_zero]
      rw [if_neg f]
      split
      · rw [if_neg (by omega)]
      · rfl
  · rw [if_neg (by simp [e]), if_neg (fun h => e h.1)]
    cases h : (y.drop (j + 1)).findIdx? (fun z => z == c) with
    | none => rfl
    | some k =>
      simp only [Option.map_some]
      rw [show j + (k + 1) = j + 1 + k by omega]
theorem atF_gdn (c : Int) (y : List Int) (nx : Nat) (far : Int) : atF c y nx far nx = match gdn c y nx far with
    | some j => (j : Int)
    | none => -1 := by
  unfold atF gdn
  cases h : (y.drop nx).findIdx? (fun z => z == c) with
  | none => rfl
  | some k =>
    simp only
    by_cases f : (k : Int) < far
    · rw [if_pos (by omega), if_pos f]
    · rw [if_neg (by omega), if_neg f]
theorem atF_range (c : Int) (y : List Int) (nx : Nat) (far : Int) (j : Nat) : atF c y nx far j = -1 ∨ ∃ k : Nat, atF c y nx far j = (k : Int) ∧ k < y.length := by
  unfold atF
  split
  · rename_i k hk
    split
    · obtain ⟨h1, _⟩ := List.findIdx?_eq_some_iff_getElem.1 hk
      rw [List.length_drop] at h1
      exact .inr ⟨j + k, rfl, by omega⟩
    · exact .inl rfl
  · exact .inl rfl
/-- one member more -/
theorem gdy_atF (y : List Int) (far : Int) (nx : Nat) (c : Int) (x : List Int) {z : Int} (h : atF c y nx far nx = z) : gdy y far nx (c :: x) = z :: gdy y far (if 0 ≤ z then z.toNat + 1 else nx) x := by
  rw [gdy]
  rw [atF_gdn] at h
  split at h
  · rename_i j hj
    rw [hj]
    subst h
    rw [if_pos (Int.natCast_nonneg j)]
    rfl
  · rename_i hj
    rw [hj]
    subst h
    rw [if_neg (by omega)]
end Go.Proofs.YtgiojkhmkeocfaaGreatDoor

/- The reference's Greedy, walked. -/
set_option maxRecDepth 20000
namespace Go.Proofs.YtgiojkhmkeocfaaGreatDoor
open Go.RowKit

theorem gdy_hit {y : List Int} {far : Int} {nx k : Nat} {c : Int} {x X G : List Int} (h : X ++ gdy y far nx (c :: x) = G) (hz : atF c y nx far nx = (k : Int)) : X ++ [(k : Int)] ++ gdy y far (k + 1) x = G := by
  rw [← h, gdy_atF y far nx c x hz, if_pos (by omega), List.append_assoc]
  rfl
theorem gdy_miss {y : List Int} {far : Int} {nx : Nat} {c : Int} {x X G : List Int} (h : X ++ gdy y far nx (c :: x) = G) (hz : atF c y nx far nx = -1) : X ++ [-1] ++ gdy y far nx x = G := by
  rw [← h, gdy_atF y far nx c x hz, if_neg (by omega), List.append_assoc]
  rfl

end Go.Proofs.YtgiojkhmkeocfaaGreatDoor

/- The reference's Diff of layer 9, walked. -/
set_option maxRecDepth 20000
namespace Go.Proofs.YtgiojkhmkeocfaaGreatDoor
open Go.RowKit
attribute [local simp] low_drew

theorem exec_slG {u : World} {ao ao' : Option Addr} {n cap l h n' c' : Nat} (hr : ∀ u : World, (Instr.slice 71 (.slice ao n cap) (some (.int .i64 (l : Int))) (some (.int .i64 (h : Int))) none).run Tryz.prog u = .ok (.slice ao' n' c') u) {op : Oper} (x y z : Operand) (ho : op.op = .slice 71 x (some y) (some z) none) {ev : Operand → Value} (hx : ev x = .slice ao n cap) (hy : ev y = .int .i64 (l : Int)) (hz : ev z = .int .i64 (h : Int)) :
    (execOp ev op).run Tryz.prog u = .ok (.value (.slice ao' n' c')) u := by
  have h2 := run_sliceAt_slice (P := Tryz.prog) (w := u) 71 (.slice ao n cap) (some (.int .i64 (l : Int))) (some (.int .i64 (h : Int))) none (by kernel_rfl)
  simp only [execOp, ho, hx, hy, hz, Option.map_some, Option.map_none, Sem.run_bind, h2, hr u, Result.andThen_ok, Sem.run_pure]
end Go.Proofs.YtgiojkhmkeocfaaGreatDoor
