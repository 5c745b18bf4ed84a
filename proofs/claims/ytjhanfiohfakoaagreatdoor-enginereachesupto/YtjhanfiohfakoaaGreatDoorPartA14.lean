/-
  Texts that belong together, joined: HiFd, HiRt, HiRr, HiRb.
-/
import Derived.Test.YtjhanfiohfakoaaGreatDoorPartA13
import Derived.Test.YtjhanfiohfakoaaGreatDoorPartA12
import Derived.Test.YtjhanfiohfakoaaGreatDoorPartA7
import Derived.Deep.CutRange

/- histogram.find and histogram.Diff, walked. -/
set_option maxRecDepth 20000
namespace Go.Proofs.YtjhanfiohfakoaaGreatDoor
open Go.RowKit

theorem Best_f (x y : List Int) (vx vy : Value) (w : World) (hx : HI w vx x) (hy : HI w vy y) (hxl : x.length ≤ 1048576) (hyl : y.length ≤ 1048576) (hwx : ∀ c ∈ x, w64 c) (hwy : ∀ c ∈ y, w64 c) (o : Option Hr) (ho : Hid (best x y = o)) :
    Calls Tryz.prog 100 #[vx, vy] w fun e w' => e = .returned (.tuple #[hrV (o.getD ⟨0, 0, 0, 0⟩), .bool o.isSome]) ∧ Below w.heap.size w w' := by
  rcases Nat.eq_zero_or_pos (rs x 0 y) with h | h
  · have e : o = none := by
      rw [← ho.out]
      cases hb : best x y with
      | none => rfl
      | some r => exact absurd (best_some hb).1 (rs_zero h r)
    subst e
    exact Best_none x y vx vy w hx hy hxl hyl hwx hwy h
  · have e : o = some (pickL btC ⟨0, 0, 0, 0⟩ (cands x y (rs x 0 y))) := by rw [← ho.out]; exact best_of (code_best (rs_rst rfl h))
    subst e
    exact Best_some x y vx vy w hx hy hxl hyl hwx hwy _ rfl h _ rfl

set_option maxRecDepth 10000 in
set_option maxHeartbeats 8000000 in
theorem hfind_f (x y : List Int) (W0 : World) (g : Nat) (hxl : x.length ≤ 4096) (hyl : y.length ≤ 4096) (hwx : ∀ c ∈ x, w64 c) (hwy : ∀ c ∈ y, w64 c) (f : Nat) : ∀ (w : World) (K : List Int) (_ : Ls W0 g x.length K w) (a b c d : Nat) (xo : Option Addr) (nx xc : Nat) (yo : Option Addr) (ny yc : Nat) (ko : Option Addr) (kc : Nat) (_ : Pz W0 g x y a b c d xo nx xc yo ny yc ko kc) (_ : b - a < f) (KF : List Int) (_ : Hid (wrk K (pcs (hmid x y) x y f a b c d) = KF)),
    Calls Tryz.prog 76 #[.agg #[.slice xo nx xc, .slice yo ny yc, .int .i64 (c : Int), .slice ko nx kc]] w fun e w' => e = .returned (.tuple #[]) ∧ Ls W0 g x.length KF w' ∧ w.grownBy w' (some g) := by
  induction f with
  | zero => intro w K hS a b c d xo nx xc yo ny yc ko kc hp hf; omega
  | succ f ih =>
    intro w K hS a b c d xo nx xc yo ny yc ko kc hp hf KF hKF
    have hg := hS.lt
    have HKF : Hid (∀ k m, k = tf x y a b c d → m = tb x y (a + k) b (c + k) d → wrk (wrk K (fp a c k ++ bp b d m)) (if a + k < b - m ∧ c + k < d - m then hmid x y (pcs (hmid x y) x y f) (a + k) (b - m) (c + k) (d - m) else []) = KF) := (by
      intro k m hk hm
      rw [← hKF.out, pcs, ends, ← hk, ← hm, wrk_append, wrk_append, wrk_append])
    have hQ0 := Qbx.new w (.slice xo nx xc) (.slice yo ny yc) (.int .i64 c) (.slice ko nx kc)
    have hB0 := (Below.refl w.heap.size w).alloc (Nat.le_refl _) (.cells #[.slice xo nx xc, .slice yo ny yc, .int .i64 c, .slice ko nx kc] 110)
    clear hKF
    go_enter Tryz.func76, Tryz.ntmps76
    go_wp2_with fail
    refine (KeepEnds_f x y W0 _ g K a b c d xo nx xc yo ny yc ko kc hp hxl hyl (hS.keep hB0)).mono ?_
    rintro e w1 ⟨k, m, xo1, nx1, xc1, yo1, ny1, yc1, ko1, kc1, hk, hm, rfl, hp1, hS1, hG1⟩
    have HK2 := HKF.out k m hk hm
    have hkl := tf_le x y a b c d
    have hml := tb_le x y (a + k) b (c + k) d
    rw [← hk] at hkl
    rw [← hm] at hml
    have hQ1 := hQ0.keep hG1 (by simp; omega)
    have hG1' : w.grownBy w1 (some g) := (low_grown hB0 _).trans hG1
    have hb0 := hp.eb
    have hf' := hp.bx
    clear hk hm HKF hS hB0 hQ0 hG1 hp
    obtain ⟨A, hA⟩ : ∃ A, a + k = A := ⟨_, rfl⟩
    obtain ⟨C, hC⟩ : ∃ C, c + k = C := ⟨_, rfl⟩
    obtain ⟨b1, hb1⟩ : ∃ B, b - m = B := ⟨_, rfl⟩
    obtain ⟨d1, hd1⟩ : ∃ D, d - m = D := ⟨_, rfl⟩
    obtain ⟨K1, hK1⟩ : ∃ K1, wrk K (fp a c k ++ bp b d m) = K1 := ⟨_, rfl⟩
    rw [hK1] at hS1 HK2
    rw [hA, hC, hb1, hd1] at HK2 hp1
    rw [hC]
    have HK3 : Hid (wrk K1 (if A < b1 ∧ C < d1 then hmid x y (pcs (hmid x y) x y f) A b1 C d1 else []) = KF) := HK2
    have hf1 : b1 - A ≤ f := by omega
    clear hA hC hb1 hd1 hK1 hkl hml hf HK2 hb0 hf'
    obtain ⟨c0, c1, c2, c3⟩ := hQ1.cells
    have f0 := hQ1.frozen
    have hQ2 := hQ1.put (.slice xo1 nx1 xc1) (.slice yo1 ny1 yc1) (.int .i64 (C : Int)) (.slice ko1 nx1 kc1)
    have hgw := hS1.low.size
    have hS2 := ls_other (ls_other (ls_other (ls_other hS1 (g := w.heap.size) (by omega) (by omega) 0 (.slice xo1 nx1 xc1)) (g := w.heap.size) (by omega) (by omega) 1 (.slice yo1 ny1 yc1)) (g := w.heap.size) (by omega) (by omega) 2 (.int .i64 (C : Int))) (g := w.heap.size) (by omega) (by omega) 3 (.slice ko1 nx1 kc1)
    have hG2 := grown_new (grown_new (grown_new (grown_new hG1' (B := w.heap.size) (by omega) 0 (.slice xo1 nx1 xc1)) (B := w.heap.size) (by omega) 1 (.slice yo1 ny1 yc1)) (B := w.heap.size) (by omega) 2 (.int .i64 (C : Int))) (B := w.heap.size) (by omega) 3 (.slice ko1 nx1 kc1)
    obtain ⟨W2, hW2⟩ : ∃ W2, (((w1.setCell ⟨w.heap.size, 0, none⟩ (.slice xo1 nx1 xc1)).setCell ⟨w.heap.size, 1, none⟩ (.slice yo1 ny1 yc1)).setCell ⟨w.heap.size, 2, none⟩ (.int .i64 (C : Int))).setCell ⟨w.heap.size, 3, none⟩ (.slice ko1 nx1 kc1) = W2 := ⟨_, rfl⟩
    rw [hW2] at hQ2 hS2 hG2
    unfold pzV
    have hAb := hp1.eb
    have hCd := hp1.ed
    obtain ⟨r, hr⟩ : ∃ r, r = decide (nx1 = 0 ∨ ny1 = 0) := ⟨_, rfl⟩
    have HR : Hid (r = decide (nx1 = 0 ∨ ny1 = 0)) := hr
    obtain ⟨q0, q1, q2, q3⟩ := hQ2.cells
    clear hr
    go_wp2_with fail
    refine (Empty_f xo1 nx1 xc1 yo1 ny1 yc1 C ko1 kc1 W2 r HR).mono ?_
    rintro e w3 ⟨rfl, hB3⟩
    clear q0 q1 q2 q3 c0 c1 c2 c3 f0 hW2 hQ1 hS1 hG1'
    have hQ3 := hQ2.low hB3
    have hS3 := hS2.keep hB3
    have hG3 := hG2.trans (low_grown hB3 (some g))
    clear hQ2 hS2 hG2 hB3
    cases r with
    | true =>
      have e : K1 = KF := by
        have h1 := of_decide_eq_true HR.out.symm
        have := HK3.out
        rw [if_neg (by omega)] at this
        exact this
      subst e
      go_wp2
      (try simp only [Exit.inBlock, Exit.then])
      refine bodyPost_ret (results_none rfl _ _ _) rfl ?_
      exact ⟨rfl, hS3, hG3⟩
    | false =>
      have h1 := of_decide_eq_false HR.out.symm
      have hm0 : A < b1 ∧ C < d1 := by omega
      have HK2 : Hid (wrk K1 (hmid x y (pcs (hmid x y) x y f) A b1 C d1) = KF) := (by
        show _ = _
        have := HK3.out
        rw [if_pos hm0] at this
        exact this)
      clear HK3 HR
      have hbx := hp1.bx
      have hdy := hp1.dy
      obtain ⟨X, hX⟩ : ∃ X, sub x A b1 = X := ⟨_, rfl⟩
      obtain ⟨Y, hY⟩ : ∃ Y, sub y C d1 = Y := ⟨_, rfl⟩
      have hXl : X.length = nx1 := by rw [← hX, sub_length x A b1 hbx]; omega
      have hYl : Y.length = ny1 := by rw [← hY, sub_length y C d1 hdy]; omega
      have hx3 : HI w3 (.slice xo1 nx1 xc1) X := by
        unfold HI
        rw [hXl, ← hX]
        exact Holds.keep hp1.hx (fun q hq => hS3.low.block q hq)
      have hy3 : HI w3 (.slice yo1 ny1 yc1) Y := by
        unfold HI
        rw [hYl, ← hY]
        exact Holds.keep hp1.hy (fun q hq => hS3.low.block q hq)
      have HW : Hid ((∀ c ∈ X, w64 c) ∧ (∀ c ∈ Y, w64 c)) := (by
        refine ⟨fun c hc => hwx c ?_, fun c hc => hwy c ?_⟩
        · rw [← hX] at hc
          exact List.mem_of_mem_drop (List.mem_of_mem_take hc)
        · rw [← hY] at hc
          exact List.mem_of_mem_drop (List.mem_of_mem_take hc))
      have HX : Hid (X.length ≤ 1048576 ∧ Y.length ≤ 1048576) := (by refine ⟨?_, ?_⟩ <;> omega)
      obtain ⟨o, ho⟩ : ∃ o, best X Y = o := ⟨_, rfl⟩
      have HO : Hid (best X Y = o) := ho
      have HK4 : Hid (wrk K1 (hsel x y (pcs (hmid x y) x y f) A b1 C d1 o) = KF) := (by
        show _ = _
        have := HK2.out
        rw [hmid, hX, hY, ho] at this
        exact this)
      have HIn : Hid (∀ r, o = some r → 0 < r.N ∧ A + r.X + r.N ≤ b1 ∧ C + r.Y + r.N ≤ d1 ∧ r.R ≤ 4096) := (by
        intro r hr
        have hrun := (best_some (ho.trans hr)).1
        have h2 := run_in (x := x) (y := y) (a := A) (b := b1) (c := C) (d := d1) hbx hdy (by rw [hX, hY]; exact hrun)
        have h3 : r.R ≤ X.length := by
          rw [hrun.r]
          have : ∀ n, rar X r.X n ≤ X.length := by
            intro n
            induction n with
            | zero => exact Nat.le_refl _
            | succ n ih => rw [rar]; omega
          exact this _
        exact ⟨h2.1, h2.2.1, h2.2.2.1, by omega⟩)
      clear hX hY hXl hYl HK2 ho
      obtain ⟨q0, q1, q2, q3⟩ := hQ3.cells
      go_wp2_with fail
      refine (Best_f X Y _ _ w3 hx3 hy3 HX.out.1 HX.out.2 HW.out.1 HW.out.2 o HO).mono ?_
      rintro e w4 ⟨rfl, hB4⟩
      have hQ4 := hQ3.low hB4
      have hS4 := hS3.keep hB4
      have hG4 := hG3.trans (low_grown hB4 (some g))
      clear q0 q1 q2 q3 hx3 hy3 HW HX HO hQ3 hS3 hG3 hB4
      have hs4 := hS4.low.size
      have hl4 := hS4.lt
      have hg4 := hG4.size
      have hq4 := hQ4.lt
      cases o with
      | none =>
        have e : K1 = KF := HK4.out
        subst e
        have hLn : Below w4.heap.size w4 (w4.alloc (.cells #[.int .i64 ((0 : Nat) : Int), .int .i64 ((0 : Nat) : Int), .int .i64 ((0 : Nat) : Int), .int .i64 ((0 : Nat) : Int)] 149)) := (Below.refl _ w4).alloc (Nat.le_refl _) _
        have hS5 := hS4.keep hLn
        have hG5 := hG4.trans (low_grown hLn (some g))
        simp only [Option.getD_none, Option.isSome_none, hrV]
        go_wp2
        (try simp only [Exit.inBlock, Exit.then])
        refine bodyPost_ret (results_none rfl _ _ _) rfl ?_
        exact ⟨rfl, hS5, hG5⟩
      | some r =>
        obtain ⟨hr1, hr2, hr3, hr4⟩ := HIn.out r rfl
        obtain ⟨rX, rY, rN, rR⟩ := r
        simp only at hr1 hr2 hr3 hr4
        have HK4 : Hid (wrk K1 (if 64 < rR then lp A C (kp 0 (sub x A b1) (sub y C d1)) else fp (A + rX) (C + rY) rN ++ (pcs (hmid x y) x y f A (A + rX) C (C + rY) ++ pcs (hmid x y) x y f (A + rX + rN) b1 (C + rY + rN) d1)) = KF) := HK4
        simp only [Option.getD_some, Option.isSome_some, hrV]
        have hHb := Hbx.new w4 ⟨rX, rY, rN, rR⟩
        have hLn : Below w4.heap.size w4 (w4.alloc (.cells #[.int .i64 (rX : Int), .int .i64 (rY : Int), .int .i64 (rN : Int), .int .i64 (rR : Int)] 149)) := (Below.refl _ w4).alloc (Nat.le_refl _) _
        have hQ5 := hQ4.low hLn
        have hS5 := hS4.keep hLn
        have hG5 := hG4.trans (low_grown hLn (some g))
        obtain ⟨W5, hW5⟩ : ∃ W5, w4.alloc (.cells #[.int .i64 (rX : Int), .int .i64 (rY : Int), .int .i64 (rN : Int), .int .i64 (rR : Int)] 149) = W5 := ⟨_, rfl⟩
        have hgB : g ≠ w4.heap.size := by omega
        obtain ⟨B5, hB5⟩ : ∃ B, w4.heap.size = B := ⟨_, rfl⟩
        rw [hW5] at hHb hQ5 hS5 hG5
        rw [hB5] at hHb hgB
        clear hQ4 hS4 hG4 hLn HIn
        obtain ⟨q0, q1, q2, q3⟩ := hQ5.cells
        obtain ⟨t0, t1, t2, t3⟩ := hHb.cells
        by_cases h64 : 64 < rR
        · have e64 : decide ((64 : Int) < (rR : Int)) = true := decide_eq_true (by omega)
          have HK5 : Hid (wrk K1 (lp A C (kp 0 (sub x A b1) (sub y C d1))) = KF) := (by
            show _ = _
            have := HK4.out
            rw [if_pos h64] at this
            exact this)
          clear HK4
          go_wp2_with fail
          clear hW5 hB5
          refine (KeepMost_f x y W0 W5 g K1 A b1 C d1 xo1 nx1 xc1 yo1 ny1 yc1 ko1 kc1 hp1 hxl hyl hS5 KF HK5).mono ?_
          rintro e w6 ⟨rfl, hS6, hG6⟩
          have hG7 := hG5.trans hG6
          go_wp2
          (try simp only [Exit.inBlock, Exit.then])
          refine bodyPost_ret (results_none rfl _ _ _) rfl ?_
          exact ⟨rfl, hS6, hG7⟩
        · have e64 : decide ((64 : Int) < (rR : Int)) = false := decide_eq_false (by omega)
          have e64' : decide (64 < rR) = false := decide_eq_false h64
          obtain ⟨K6, hK6⟩ : ∃ K6, wrk K1 (fp (A + rX) (C + rY) rN) = K6 := ⟨_, rfl⟩
          obtain ⟨u2, hu⟩ : ∃ u, A + rX = u := ⟨_, rfl⟩
          obtain ⟨v2, hv⟩ : ∃ v, C + rY = v := ⟨_, rfl⟩
          obtain ⟨K7, hK7⟩ : ∃ K7, wrk K6 (pcs (hmid x y) x y f A u2 C v2) = K7 := ⟨_, rfl⟩
          have HK7 : Hid (wrk K6 (pcs (hmid x y) x y f A u2 C v2) = K7) := hK7
          obtain ⟨p2, hp2⟩ : ∃ p, rX + rN = p := ⟨_, rfl⟩
          obtain ⟨p3, hp3⟩ : ∃ p, rY + rN = p := ⟨_, rfl⟩
          obtain ⟨u3, hu3⟩ : ∃ u, A + p2 = u := ⟨_, rfl⟩
          obtain ⟨v3, hv3⟩ : ∃ v, C + p3 = v := ⟨_, rfl⟩
          have HK8 : Hid (wrk K7 (pcs (hmid x y) x y f u3 b1 v3 d1) = KF) := (by
            show _ = _
            have := HK4.out
            rw [if_neg h64, wrk_append, wrk_append, hK6, hu, hv, hK7, show u2 + rN = u3 by omega, show v2 + rN = v3 by omega] at this
            exact this)
          clear HK4 hK7
          go_wp2_with fail
          clear hW5 hB5
          refine (Keep_f K1 xo1 nx1 xc1 yo1 ny1 yc1 A C ko1 kc1 W5 rX rY rN hS5 hp1.at' (by omega) (by omega) (by omega) (by omega)).mono ?_
          rintro e w6 ⟨rfl, hS6, hG6⟩
          rw [hK6] at hS6
          have hQ6 := hQ5.keep hG6 (by simp; omega)
          have hH6 := hHb.keep hG6 (by simp; omega)
          have hG6' := hG5.trans hG6
          clear hK6 hQ5 hHb hS5 hG5 hG6 q0 q1 q2 q3 t0 t1 t2 t3
          obtain ⟨q0, q1, q2, q3⟩ := hQ6.cells
          obtain ⟨t0, t1, t2, t3⟩ := hH6.cells
          go_wp2_with fail
          refine (UpTo_p hp1 rX rY u2 v2 (by omega) (by omega) hu hv w6 w6 (Below.refl _ _)).mono ?_
          rintro e w7 ⟨xo2, nx2, xc2, yo2, ny2, yc2, ko2, kc2, rfl, hpa, hL7⟩
          have hS7 := hS6.keep hL7
          have hQ7 := hQ6.low hL7
          have hH7 := hH6.low hL7
          have hG7 := hG6'.trans (low_grown hL7 (some g))
          clear hQ6 hH6 hS6 hG6' hL7 q0 q1 q2 q3 t0 t1 t2 t3
          go_wp2_with fail
          refine (ih w7 K6 hS7 A u2 C v2 xo2 nx2 xc2 yo2 ny2 yc2 ko2 kc2 hpa (by omega) K7 HK7).mono ?_
          rintro e w8 ⟨rfl, hS8, hG8⟩
          have hQ8 := hQ7.keep hG8 (by simp; omega)
          have hH8 := hH7.keep hG8 (by simp; omega)
          have hG8' := hG7.trans hG8
          clear hQ7 hH7 hS7 hG7 hG8 hpa
          obtain ⟨q0, q1, q2, q3⟩ := hQ8.cells
          obtain ⟨t0, t1, t2, t3⟩ := hH8.cells
          have n1 : (rX : Int) + (rN : Int) = (p2 : Int) := by omega
          have n2 : (rY : Int) + (rN : Int) = (p3 : Int) := by omega
          go_wp2_with fail
          refine (From_p hp1 hyl p2 p3 u3 v3 (by omega) (by omega) hu3 hv3 w8 w8 (Below.refl _ _)).mono ?_
          rintro e w9 ⟨xo3, nx3, xc3, yo3, ny3, yc3, ko3, kc3, rfl, hpb, hL9⟩
          have hS9 := hS8.keep hL9
          have hG9 := hG8'.trans (low_grown hL9 (some g))
          clear hQ8 hH8 hS8 hG8' hL9 q0 q1 q2 q3 t0 t1 t2 t3
          go_wp2_with fail
          refine (ih w9 K7 hS9 u3 b1 v3 d1 xo3 nx3 xc3 yo3 ny3 yc3 ko3 kc3 hpb (by omega) KF HK8).mono ?_
          rintro e w10 ⟨rfl, hS10, hG10⟩
          have hG11 := hG9.trans hG10
          go_wp2
          go_end0
          exact ⟨rfl, hS10, hG11⟩

set_option maxRecDepth 10000 in
set_option maxHeartbeats 2000000 in
theorem hiDiff_f (x y : List Int) (vx vy : Value) (w : World) (hx : HI w vx x) (hy : HI w vy y) (hxl : x.length ≤ 4096) (hyl : y.length ≤ 4096) (hwx : ∀ c ∈ x, w64 c) (hwy : ∀ c ∈ y, w64 c) (L : List Ch) (hL : Hid (mkL (hKeep x y) y.length = L)) :
    Calls Tryz.prog 48 #[vx, vy] w fun e w' => ∃ v', e = .returned (.tuple #[v', .int .i64 0]) ∧ HCh w' v' L ∧ Below w.heap.size w w' := by
  obtain ⟨xo, xc, rfl⟩ := Holds.form hx
  obtain ⟨yo, yc, rfl⟩ := Holds.form hy
  obtain ⟨KF, hKF⟩ : ∃ KF, hKeep x y = KF := ⟨_, rfl⟩
  have HK : Hid (Kpt x y KF) := (by rw [← hKF]; exact hKeep_kpt x y)
  have HF : Hid (wrk (List.replicate x.length (-1)) (pcs (hmid x y) x y (x.length + 1) 0 x.length 0 y.length) = KF) := hKF
  rw [hKF] at hL
  have HWX : Hid (∀ c ∈ x, w64 c) := hwx
  have HWY : Hid (∀ c ∈ y, w64 c) := hwy
  clear hKF hwx hwy
  go_enter Tryz.func48, Tryz.ntmps48
  go_wp2_with fail
  refine (pDiff_f x y _ _ w hx hy hxl hyl 76 #[] (enters_of Tryz.func76 (by kernel_rfl) rfl) KF HK (fun u g xo xc yo yc hS hp => hfind_f x y _ g hxl hyl HWX.out HWY.out (x.length + 1) u _ hS 0 x.length 0 y.length _ _ _ _ _ _ _ _ hp (by omega) KF HF) L hL).mono ?_
  rintro e w2 ⟨v2, rfl, hv2, hB2⟩
  go_wp2
  go_ret2
  exact ⟨_, rfl, hv2, hB2⟩
set_option maxHeartbeats 2000000 in
theorem hiDiff_long (x y : List Int) (vx vy : Value) (w : World) (hx : HI w vx x) (hy : HI w vy y) (hl : 4096 < x.length ∨ 4096 < y.length) :
    Calls Tryz.prog 48 #[vx, vy] w fun e w' => e = .returned (.tuple #[.slice none 0 0, .int .i64 9]) ∧ Below w.heap.size w w' := by
  obtain ⟨xo, xc, rfl⟩ := Holds.form hx
  obtain ⟨yo, yc, rfl⟩ := Holds.form hy
  have HL : Hid (4096 < x.length ∨ 4096 < y.length) := hl
  clear hl
  go_enter Tryz.func48, Tryz.ntmps48
  go_wp2_with fail
  refine (pDiff_long x y _ _ _ w hx hy HL.out).mono ?_
  rintro e w2 ⟨rfl, rfl⟩
  go_wp2
  go_ret2
  exact ⟨rfl, Below.refl _ _⟩
end Go.Proofs.YtjhanfiohfakoaaGreatDoor

/- Rows of runs as cells; the reference's times and Runs, walked. -/
set_option maxRecDepth 20000
namespace Go.Proofs.YtjhanfiohfakoaaGreatDoor
open Go.RowKit

/-- a run as cells -/
def hrC (r : Hr) : List Value := [.int .i64 (r.X : Int), .int .i64 (r.Y : Int), .int .i64 (r.N : Int), .int .i64 (r.R : Int)]
def hrcells (l : List Hr) : List Value := l.flatMap hrC
theorem infoHr : (Tryz.prog.info? 100).map (fun i => (i.zero, i.size, i.bytes)) = some (some (.agg #[.int .i64 0, .int .i64 0, .int .i64 0, .int .i64 0]), 4, 32) := by kernel_rfl
theorem hrcells_length (l : List Hr) : (hrcells l).length = l.length * 4 := by
  induction l with
  | nil => rfl
  | cons c l ih => simp only [hrcells, List.flatMap_cons, List.length_append, List.length_cons] at ih ⊢; rw [ih]; simp [hrC]; omega
theorem hrcells_append (a b : List Hr) : hrcells (a ++ b) = hrcells a ++ hrcells b := by simp [hrcells]
theorem hrcells_one (l : List Hr) : ∀ u ∈ hrcells l, u.oneCell' = true := by
  intro u hu
  simp only [hrcells, List.mem_flatMap, hrC] at hu
  obtain ⟨c, _, h⟩ := hu
  simp only [List.mem_cons, List.not_mem_nil, or_false] at h
  rcases h with rfl | rfl | rfl | rfl <;> rfl
theorem hrcells_at (l : List Hr) (k : Nat) (hk : k < l.length) : (hrcells l)[4 * k]? = some (.int .i64 (l[k].X : Int)) ∧ (hrcells l)[4 * k + 1]? = some (.int .i64 (l[k].Y : Int)) ∧ (hrcells l)[4 * k + 2]? = some (.int .i64 (l[k].N : Int)) ∧ (hrcells l)[4 * k + 3]? = some (.int .i64 (l[k].R : Int)) := by
  induction l generalizing k with
  | nil => simp at hk
  | cons c l ih =>
    cases k with
    | zero => simp [hrcells, hrC]
    | succ k =>
      have h := ih k (by simpa using hk)
      have e : ∀ i, (hrcells (c :: l))[4 * (k + 1) + i]? = (hrcells l)[4 * k + i]? := by
        intro i
        have : hrcells (c :: l) = hrC c ++ hrcells l := rfl
        rw [this, List.getElem?_append_right (by simp [hrC]; omega)]
        congr 1
        simp [hrC]; omega
      simp only [List.getElem_cons_succ]
      refine ⟨by rw [← (h).1]; exact e 0, by rw [← h.2.1]; exact e 1, by rw [← h.2.2.1]; exact e 2, by rw [← h.2.2.2]; exact e 3⟩
/-- what a slice of runs holds -/
def HHr (w : World) (v : Value) (l : List Hr) : Prop := Holds w v l.length (hrcells l)
theorem HHr.keep {w w' : World} {v : Value} {l : List Hr} (h : HHr w v l) {N : Nat} (hk : Below N w w') (hN : w.heap.size ≤ N) : HHr w' v l := Holds.keep h fun k hk' => hk.block k (by omega)
theorem HHr.at {w : World} {ao : Option Addr} {n c : Nat} {l : List Hr} (h : HHr w (.slice ao n c) l) (h0 : 0 < l.length) : ∃ b off, ao = some ⟨b, off, none⟩ ∧ b < w.heap.size ∧
    ∀ k (hk : k < l.length), w.cell? ⟨b, off + k * 4, none⟩ = some (.int .i64 (l[k].X : Int)) ∧ w.cell? ⟨b, off + k * 4 + 1, none⟩ = some (.int .i64 (l[k].Y : Int)) ∧ w.cell? ⟨b, off + k * 4 + 2, none⟩ = some (.int .i64 (l[k].N : Int)) ∧ w.cell? ⟨b, off + k * 4 + 3, none⟩ = some (.int .i64 (l[k].R : Int)) := by
  obtain ⟨b, off, c', hv, hb, hc⟩ := Holds.at h (by rw [hrcells_length]; omega)
  cases hv
  refine ⟨b, off, rfl, hb, fun k hk => ?_⟩
  obtain ⟨h0, h1, h2, h3⟩ := hrcells_at l k hk
  have hlen := hrcells_length l
  have e : k * 4 = 4 * k := by omega
  rw [e]
  refine ⟨?_, ?_, ?_, ?_⟩
  · have := hc (4 * k) (by omega)
    rw [← h0, this, List.getElem?_eq_getElem]
  · have := hc (4 * k + 1) (by omega)
    rw [← h1, Nat.add_assoc, this, List.getElem?_eq_getElem]
  · have := hc (4 * k + 2) (by omega)
    rw [← h2, Nat.add_assoc, this, List.getElem?_eq_getElem]
  · have := hc (4 * k + 3) (by omega)
    rw [← h3, Nat.add_assoc, this, List.getElem?_eq_getElem]
/-- a run in a box of the reference's -/
def Gbx (u : World) (B : Nat) (r : Hr) : Prop := u.heap[B]? = some (.cells #[.int .i64 (r.X : Int), .int .i64 (r.Y : Int), .int .i64 (r.N : Int), .int .i64 (r.R : Int)] 100 (0, 0))
section
variable {u u' : World} {B : Nat} {r : Hr}
theorem Gbx.cells (h : Gbx u B r) : u.cell? ⟨B, 0, none⟩ = some (.int .i64 (r.X : Int)) ∧ u.cell? ⟨B, 1, none⟩ = some (.int .i64 (r.Y : Int)) ∧ u.cell? ⟨B, 2, none⟩ = some (.int .i64 (r.N : Int)) ∧ u.cell? ⟨B, 3, none⟩ = some (.int .i64 (r.R : Int)) := by
  refine ⟨?_, ?_, ?_, ?_⟩ <;> rw [Lib.cell_of_heap h] <;> rfl
theorem Gbx.frozen (h : Gbx u B r) (j : Nat) : u.frozen? ⟨B, j, none⟩ = false := by
  unfold World.frozen?
  rw [h]
  rfl
theorem Gbx.lt (h : Gbx u B r) : B < u.heap.size := (Array.getElem?_eq_some_iff.1 h).1
theorem Gbx.keep (h : Gbx u B r) {g : Option Nat} (hg : u.grownBy u' g) (hr : some B ≠ g) : Gbx u' B r := (hg.block B h.lt hr).trans h
theorem Gbx.low (h : Gbx u B r) (hg : Below u.heap.size u u') : Gbx u' B r := (hg.block B h.lt).trans h
theorem Gbx.new (w : World) (r : Hr) : Gbx (w.alloc (.cells #[.int .i64 (r.X : Int), .int .i64 (r.Y : Int), .int .i64 (r.N : Int), .int .i64 (r.R : Int)] 100)) w.heap.size r := _root_.Go.heap_alloc_new w _
end

set_option maxRecDepth 10000 in
theorem times8_f (x : List Int) (c : Int) (r : Nat) (v : Value) (w : World) (hx : HI w v x) (hxl : x.length ≤ 1048576) (hr : Hid (x.count c = r)) :
    Calls Tryz.prog 102 #[v, .int .i64 c] w fun e w' => e = .returned (.int .i64 (r : Int)) ∧ w = w' := by
  obtain ⟨xo, xc, rfl⟩ := Holds.form hx
  go_enter Tryz.func102, Tryz.ntmps102
  go_wp2
  go_loopw [5, 6] (fun nv iv wr => ∃ (i n : Nat), i ≤ x.length ∧ n ≤ i ∧ nv = .int .i64 n ∧ iv = .int .i64 i ∧ wr = w ∧ Hid (n + (x.drop i).count c = r)) (fun _ iv _ => x.length - (intOf iv).toNat)
  case atStart => exact ⟨0, 0, Nat.zero_le _, Nat.le_refl _, rfl, rfl, rfl, (by show _ = _; rw [← hr.out]; simp)⟩
  case round =>
    obtain ⟨i, n, hi, hni, rfl, rfl, rfl, hN⟩ := hrel
    by_cases hil : i < x.length
    · obtain ⟨b, off, rfl, _, hc⟩ := HI.at hx (by omega)
      have c0 := hc i hil
      obtain ⟨z, hz⟩ : ∃ z, x[i] = z := ⟨_, rfl⟩
      rw [hz] at c0
      have HN : Hid (n + ((x.drop (i + 1)).count c + if z == c then 1 else 0) = r) := (by
        show _ = _
        have := hN.out
        rw [List.drop_eq_getElem_cons hil, List.count_cons, hz] at this
        exact this)
      clear hc hz hN
      have i1 : 0 ≤ (i : Int) := by omega
      have i2 : (i : Int) < (x.length : Int) := by omega
      by_cases hzc : z = c
      · have HN3 : Hid (n + 1 + (x.drop (i + 1)).count c = r) := (by
          show _ = _
          have := HN.out
          rw [if_pos (by simpa using hzc)] at this
          omega)
        clear HN
        subst hzc
        go_wp2
        go_roundw
        case rel => exact ⟨i + 1, n + 1, by omega, by omega, by go_num, by go_num, trivial, HN3⟩
        case measure => simp [intOf]; omega
      · have e1 : (z == c) = false := by simpa using hzc
        have e2 : decide (z = c) = false := decide_eq_false hzc
        have HN3 : Hid (n + (x.drop (i + 1)).count c = r) := (by
          show _ = _
          have := HN.out
          rw [e1] at this
          simpa using this)
        clear HN hzc
        go_wp2
        go_roundw
        case rel => exact ⟨i + 1, n, by omega, by omega, rfl, by go_num, trivial, HN3⟩
        case measure => simp [intOf]; omega
    · obtain rfl : i = x.length := by omega
      have e : n = r := by
        have := hN.out
        rw [List.drop_of_length_le (Nat.le_refl _)] at this
        simpa using this
      subst e
      go_wp2
      go_ret
      exact ⟨rfl, rfl⟩
/-- what is left of the runs -/
def restR (x y : List Int) (i j : Nat) : List Hr := (List.range' j (y.length - j)).flatMap (rj x y i) ++ (List.range' (i + 1) (x.length - (i + 1))).flatMap (rowR x y)
def restRI (x y : List Int) (i : Nat) : List Hr := (List.range' i (x.length - i)).flatMap (rowR x y)
theorem restRI_zero (x y : List Int) : restRI x y 0 = runs x y := by simp [restRI, runs]
theorem restRI_step (x y : List Int) (i : Nat) (hi : i < x.length) : restRI x y i = restR x y i 0 := by
  unfold restRI restR
  rw [show x.length - i = (x.length - (i + 1)) + 1 by omega, List.range'_succ, List.flatMap_cons]
  rfl
theorem restRI_end (x y : List Int) (i : Nat) (hi : x.length ≤ i) : restRI x y i = [] := by
  unfold restRI
  rw [show x.length - i = 0 by omega]
  rfl
theorem restR_step (x y : List Int) (i j : Nat) (hj : j < y.length) : restR x y i j = rj x y i j ++ restR x y i (j + 1) := by
  unfold restR
  rw [show y.length - j = (y.length - (j + 1)) + 1 by omega, List.range'_succ, List.flatMap_cons, List.append_assoc]
theorem restR_end (x y : List Int) (i j : Nat) (hj : y.length ≤ j) : restR x y i j = restRI x y (i + 1) := by
  unfold restR restRI
  rw [show y.length - j = 0 by omega]
  rfl
theorem runs_length (x y : List Int) : (runs x y).length ≤ x.length * y.length := by
  unfold runs
  have h1 : ∀ i, (rowR x y i).length ≤ y.length := by
    intro i
    unfold rowR
    have : ∀ n s, ((List.range' s n).flatMap (rj x y i)).length ≤ n := by
      intro n
      induction n with
      | zero => intro s; simp
      | succ n ih =>
        intro s
        rw [List.range'_succ, List.flatMap_cons, List.length_append]
        have h2 := ih (s + 1)
        have h3 : (rj x y i s).length ≤ 1 := by unfold rj; split <;> simp
        omega
    exact this _ _
  have : ∀ n s, ((List.range' s n).flatMap (rowR x y)).length ≤ n * y.length := by
    intro n
    induction n with
    | zero => intro s; simp
    | succ n ih =>
      intro s
      rw [List.range'_succ, List.flatMap_cons, List.length_append, Nat.succ_mul]
      have h2 := ih (s + 1)
      have h3 := h1 s
      omega
  exact this _ _
end Go.Proofs.YtjhanfiohfakoaaGreatDoor

/- The reference's Runs, walked. -/
set_option maxRecDepth 20000
namespace Go.Proofs.YtjhanfiohfakoaaGreatDoor
open Go.RowKit
attribute [local simp] low_drew

set_option maxRecDepth 10000 in
set_option maxHeartbeats 8000000 in
theorem Runs_f (x y : List Int) (vx vy : Value) (w : World) (hx : HI w vx x) (hy : HI w vy y) (hxl : x.length ≤ 4096) (hyl : y.length ≤ 4096) (L : List Hr) (hL : Hid (runs x y = L)) :
    Calls Tryz.prog 83 #[vx, vy] w fun e w' => ∃ v', e = .returned v' ∧ HHr w' v' L ∧ Below w.heap.size w w' := by
  obtain ⟨xo, xc, rfl⟩ := Holds.form hx
  obtain ⟨yo, yc, rfl⟩ := Holds.form hy
  have hLl : L.length ≤ 16777216 := by
    rw [← hL.out]
    have h1 := runs_length x y
    have h2 : x.length * y.length ≤ 4096 * 4096 := Nat.mul_le_mul hxl hyl
    omega
  have HL0 : Hid ([] ++ restRI x y 0 = L) := (by rw [restRI_zero]; exact hL)
  clear hL
  go_enter Tryz.func83, Tryz.ntmps83
  go_wp2
  go_loopw [5, 6] (fun lv iv wr => ∃ (i : Nat) (Z : List Hr) (zo : Option Addr) (zc : Nat), i ≤ x.length ∧ lv = .slice zo Z.length zc ∧ iv = .int .i64 i ∧ wr.ownsRow w.heap.size 100 4 (.slice zo Z.length zc) Z.length (hrcells Z) ∧ Below w.heap.size w wr ∧ Hid (Z ++ restRI x y i = L)) (fun _ iv _ => x.length - (intOf iv).toNat)
  case atStart => exact ⟨0, [], none, 0, Nat.zero_le _, rfl, rfl, World.ownsRow_nil _ _ _ _, Below.refl _ _, HL0⟩
  case round =>
    clear HL0
    obtain ⟨i, Z, zo, zc, hi, rfl, rfl, hO, hB, HZ⟩ := hrel
    by_cases hil : i < x.length
    · have HZ2 : Hid (Z ++ restR x y i 0 = L) := (by rw [← restRI_step x y i hil]; exact HZ)
      have hi1 : (i : Int) < (x.length : Int) := by omega
      clear HZ
      go_wp2
      go_loopw [5, 7] (fun lv jv wr => ∃ (j : Nat) (Z : List Hr) (zo : Option Addr) (zc : Nat), j ≤ y.length ∧ lv = .slice zo Z.length zc ∧ jv = .int .i64 j ∧ wr.ownsRow w.heap.size 100 4 (.slice zo Z.length zc) Z.length (hrcells Z) ∧ Below w.heap.size w wr ∧ Hid (Z ++ restR x y i j = L)) (fun _ jv _ => y.length - (intOf jv).toNat)
      case atStart => exact ⟨0, Z, zo, zc, Nat.zero_le _, rfl, rfl, hO, hB, HZ2⟩
      case round =>
        clear HZ2 hO hB
        obtain ⟨j, Z, zo, zc, hj, rfl, rfl, hO, hB, HZ⟩ := hrel
        by_cases hjl : j < y.length
        · have HZ2 : Hid (Z ++ (rj x y i j ++ restR x y i (j + 1)) = L) := (by rw [← restR_step x y i j hjl]; exact HZ)
          clear HZ
          obtain ⟨q, hq⟩ : ∃ q, decide (¬ (x[i]? = y[j]? ∧ ¬ (0 < i ∧ 0 < j ∧ x[i - 1]? = y[j - 1]?))) = q := ⟨_, rfl⟩
          have HQ : Hid (decide (¬ (x[i]? = y[j]? ∧ ¬ (0 < i ∧ 0 < j ∧ x[i - 1]? = y[j - 1]?))) = q) := hq
          clear hq
          have i1 : 0 ≤ (i : Int) := by omega
          have j1 : 0 ≤ (j : Int) := by omega
          have j2 : (j : Int) < (y.length : Int) := by omega
          go_wp2_with fail
          go_cut [50] from 15 to 109 (fun z wz => z = .bool q ∧ ∃ m, wz = wr.drewN m)
          case first =>
            obtain ⟨xb, xf, rfl, _, hcx⟩ := HI.at (HI.keep hx hB (Nat.le_refl _)) (by omega)
            obtain ⟨yb, yf, rfl, _, hcy⟩ := HI.at (HI.keep hy hB (Nat.le_refl _)) (by omega)
            have x0 := hcx i (by omega)
            have y0 := hcy j (by omega)
            obtain ⟨zx, hzx⟩ : ∃ z, x[i] = z := ⟨_, rfl⟩
            obtain ⟨zy, hzy⟩ : ∃ z, y[j] = z := ⟨_, rfl⟩
            rw [hzx] at x0
            rw [hzy] at y0
            rw [List.getElem?_eq_getElem hil, List.getElem?_eq_getElem hjl, hzx, hzy] at HQ
            by_cases hz : zx = zy
            · have e1 : (zx != zy) = false := by simp [hz]
              by_cases hi0 : 0 < i
              · have e2 : decide ((0 : Int) < (i : Int)) = true := decide_eq_true (by omega)
                by_cases hj0 : 0 < j
                · have e3 : decide ((0 : Int) < (j : Int)) = true := decide_eq_true (by omega)
                  obtain ⟨px, rfl⟩ : ∃ p, i = p + 1 := ⟨i - 1, by omega⟩
                  obtain ⟨py, rfl⟩ : ∃ p, j = p + 1 := ⟨j - 1, by omega⟩
                  have x1 := hcx px (by omega)
                  have y1 := hcy py (by omega)
                  obtain ⟨tx, htx⟩ : ∃ z, x[px] = z := ⟨_, rfl⟩
                  obtain ⟨ty, hty⟩ : ∃ z, y[py] = z := ⟨_, rfl⟩
                  rw [htx] at x1
                  rw [hty] at y1
                  have e4 : (tx == ty) = q := by
                    rw [← HQ.out, Nat.add_sub_cancel, Nat.add_sub_cancel, List.getElem?_eq_getElem (by omega), List.getElem?_eq_getElem (by omega), htx, hty]
                    by_cases ht : tx = ty <;> simp [hz, ht]
                  have n1 : IntKind.i64.wrap ((px : Int) + 1 - 1) = (px : Int) := by rw [IntKind.wrap_i64]; omega
                  have n2 : IntKind.i64.wrap ((py : Int) + 1 - 1) = (py : Int) := by rw [IntKind.wrap_i64]; omega
                  have n3 : IntKind.i64.wrap (px : Int) = (px : Int) := by rw [IntKind.wrap_i64]; omega
                  have n4 : IntKind.i64.wrap (py : Int) = (py : Int) := by rw [IntKind.wrap_i64]; omega
                  have n5 : (px : Int) + 1 - 1 = (px : Int) := by omega
                  have n6 : (py : Int) + 1 - 1 = (py : Int) := by omega
                  have g1 : (0 : Int) < (px : Int) + 1 := by omega
                  have g2 : (0 : Int) < (py : Int) + 1 := by omega
                  have g3 : 0 ≤ (px : Int) := by omega
                  have g4 : (px : Int) < (x.length : Int) := by omega
                  have g5 : 0 ≤ (py : Int) := by omega
                  have g6 : (py : Int) < (y.length : Int) := by omega
                  have g7 : 0 ≤ (px : Int) + 1 := by omega
                  have g8 : (px : Int) + 1 < (x.length : Int) := by omega
                  have g9 : 0 ≤ (py : Int) + 1 := by omega
                  have g10 : (py : Int) + 1 < (y.length : Int) := by omega
                  clear hcx hcy hzx hzy htx hty HQ HZ2 hz
                  go_big_quiet (fail)
                  go_wp2
                  go_meet
                  case rel => exact ⟨rfl, _, rfl⟩
                · have e3 : decide ((0 : Int) < (j : Int)) = false := decide_eq_false (by omega)
                  have e3' : decide (0 < j) = false := decide_eq_false hj0
                  obtain rfl : q = false := by rw [← HQ.out]; simp [hz, hj0]
                  clear hcx hcy hzx hzy HQ HZ2 hz
                  go_big_quiet (fail)
                  go_wp2
                  go_meet
                  case rel => exact ⟨rfl, _, rfl⟩
              · have e2 : decide ((0 : Int) < (i : Int)) = false := decide_eq_false (by omega)
                have e2' : decide (0 < i) = false := decide_eq_false hi0
                obtain rfl : q = false := by rw [← HQ.out]; simp [hz, hi0]
                clear hcx hcy hzx hzy HQ HZ2 hz
                go_big_quiet (fail)
                go_wp2
                go_meet
                case rel => exact ⟨rfl, _, rfl⟩
            · have e1 : (zx != zy) = true := by simp [hz]
              obtain rfl : q = true := by rw [← HQ.out]; simp [hz]
              clear hcx hcy hzx hzy HQ HZ2 hz
              go_big_quiet (fail)
              go_wp2
              go_meet
              case rel => exact ⟨rfl, _, rfl⟩
          case rest =>
            obtain ⟨rfl, mq, rfl⟩ := hcut
            have hBq := Below.dN hB mq
            have hOq : (wr.drewN mq).ownsRow w.heap.size 100 4 (.slice zo Z.length zc) Z.length (hrcells Z) := owns_keep hO (Below.dN (Below.refl _ wr) mq)
            clear hB hO
            generalize wr.drewN mq = Wq at hBq hOq ⊢
            cases q with
            | true =>
              have hnr := of_decide_eq_true HQ.out
              have HZ3 : Hid (Z ++ restR x y i (j + 1) = L) := (by
                show _ = _
                rw [← HZ2.out, rj, if_neg hnr, List.nil_append])
              clear HZ2 HQ hnr
              go_wp2
              go_roundw
              case rel => exact ⟨j + 1, Z, zo, zc, by omega, rfl, by go_num, hOq, hBq, HZ3⟩
              case measure => simp [intOf]; omega
            | false =>
              have hnr := of_decide_eq_false HQ.out
              obtain ⟨T, hT⟩ : ∃ T, tl x y i j = T := ⟨_, rfl⟩
              have HZ3 : Hid (Z ++ (⟨i, j, T, rar x i T⟩ :: restR x y i (j + 1)) = L) := (by
                show _ = _
                have := HZ2.out
                rw [rj, if_pos (Decidable.not_not.1 hnr), hT] at this
                exact this)
              have HT : Hid (0 + tl x y (i + 0) (j + 0) = T) := (by show _ = _; simpa using hT)
              have hTl := tl_le x y i j
              rw [hT] at hTl
              clear HZ2 HQ hnr hT
              have hG0 := Gbx.new Wq ⟨i, j, 0, x.length⟩
              have hs0 := hBq.size
              have hBa : Below w.heap.size w (Wq.alloc (.cells #[.int .i64 (i : Int), .int .i64 (j : Int), .int .i64 ((0 : Nat) : Int), .int .i64 (x.length : Int)] 100)) := hBq.alloc hs0 _
              have hOa := hOq.alloc (.cells #[.int .i64 (i : Int), .int .i64 (j : Int), .int .i64 ((0 : Nat) : Int), .int .i64 (x.length : Int)] 100)
              obtain ⟨Br, hBr⟩ : ∃ Br, Wq.heap.size = Br := ⟨_, rfl⟩
              have hob : Hid (∀ ad : Addr, zo = some ad → ad.block < Br) := (by
                intro ad e
                rcases hOq.2 with ⟨h, _⟩ | ⟨g', cap', cur, h, _, hcur, _⟩
                · injection h with h1
                  rw [h1] at e
                  cases e
                · injection h with h1
                  rw [h1] at e
                  cases e
                  rw [← hBr]
                  exact (Array.getElem?_eq_some_iff.1 hcur).1)
              rw [hBr] at hG0
              have hwB : w.heap.size ≤ Br := by omega
              clear hOq hBq
              go_wp2
              clear hBr hs0
              go_loopw [] (fun wz => ∃ n : Nat, n ≤ T ∧ wz.ownsRow w.heap.size 100 4 (.slice zo Z.length zc) Z.length (hrcells Z) ∧ Below w.heap.size w wz ∧ Gbx wz Br ⟨i, j, n, rar x i n⟩ ∧ Hid (n + tl x y (i + n) (j + n) = T)) (fun wz => T - (intOf ((wz.cell? ⟨Br, 2, none⟩).getD undef)).toNat)
              case atStart => exact ⟨0, Nat.zero_le _, hOa, hBa, hG0, HT⟩
              case round =>
                clear hOa hBa hG0 HT
                obtain ⟨n, hn, hO, hB, hG, HT⟩ := hrel
                obtain ⟨c0, c1, c2, c3⟩ := hG.cells
                obtain ⟨q, hq⟩ : ∃ q, decide (i + n < x.length ∧ j + n < y.length ∧ x[i + n]? = y[j + n]?) = q := ⟨_, rfl⟩
                have HQ : Hid (decide (i + n < x.length ∧ j + n < y.length ∧ x[i + n]? = y[j + n]?) = q) := hq
                clear hq
                obtain ⟨ii, hii⟩ : ∃ ii, i + n = ii := ⟨_, rfl⟩
                obtain ⟨jj, hjj⟩ : ∃ jj, j + n = jj := ⟨_, rfl⟩
                rw [hii, hjj] at HQ HT
                have n1 : (i : Int) + (n : Int) = (ii : Int) := by omega
                have n2 : (j : Int) + (n : Int) = (jj : Int) := by omega
                have n3 : IntKind.i64.wrap (ii : Int) = (ii : Int) := by rw [IntKind.wrap_i64]; omega
                have n4 : IntKind.i64.wrap (jj : Int) = (jj : Int) := by rw [IntKind.wrap_i64]; omega
                have m1 : 0 ≤ (ii : Int) := by omega
                have m2 : 0 ≤ (jj : Int) := by omega
                go_wp2_with fail
                go_cut [88] from 56 to 105 (fun z wz => z = .bool q ∧ ∃ m, wz = wr.drewN m)
                case first =>
                  by_cases h3 : ii < x.length
                  · have e7 : decide ((ii : Int) < (x.length : Int)) = true := decide_eq_true (by omega)
                    by_cases h4 : jj < y.length
                    · have e8 : decide ((jj : Int) < (y.length : Int)) = true := decide_eq_true (by omega)
                      obtain ⟨xb, xf, rfl, _, hcx⟩ := HI.at (HI.keep hx hB (Nat.le_refl _)) (by omega)
                      obtain ⟨yb, yf, rfl, _, hcy⟩ := HI.at (HI.keep hy hB (Nat.le_refl _)) (by omega)
                      have x0 := hcx ii (by omega)
                      have y0 := hcy jj (by omega)
                      obtain ⟨zx, hzx⟩ : ∃ z, x[ii] = z := ⟨_, rfl⟩
                      obtain ⟨zy, hzy⟩ : ∃ z, y[jj] = z := ⟨_, rfl⟩
                      rw [hzx] at x0
                      rw [hzy] at y0
                      have i2 : (ii : Int) < (x.length : Int) := by omega
                      have i3 : (jj : Int) < (y.length : Int) := by omega
                      have e9 : (zx == zy) = q := by
                        rw [← HQ.out, List.getElem?_eq_getElem h3, List.getElem?_eq_getElem h4, hzx, hzy]
                        by_cases q : zx = zy <;> simp [h3, h4, q]
                      clear hcx hcy hzx hzy HQ HZ3 HT
                      go_big_quiet (fail)
                      go_wp2
                      go_meet
                      case rel => exact ⟨rfl, _, rfl⟩
                    · have e8 : decide ((jj : Int) < (y.length : Int)) = false := decide_eq_false (by omega)
                      obtain rfl : q = false := by rw [← HQ.out]; simp [h4]
                      clear HQ HZ3 HT
                      go_big_quiet (fail)
                      go_wp2
                      go_meet
                      case rel => exact ⟨rfl, _, rfl⟩
                  · have e7 : decide ((ii : Int) < (x.length : Int)) = false := decide_eq_false (by omega)
                    obtain rfl : q = false := by rw [← HQ.out]; simp [h3]
                    clear HQ HZ3 HT
                    go_big_quiet (fail)
                    go_wp2
                    go_meet
                    case rel => exact ⟨rfl, _, rfl⟩
                case rest =>
                  obtain ⟨rfl, mq, rfl⟩ := hcut
                  have hBq := Below.dN hB mq
                  have hOq : (wr.drewN mq).ownsRow w.heap.size 100 4 (.slice zo Z.length zc) Z.length (hrcells Z) := owns_keep hO (Below.dN (Below.refl _ wr) mq)
                  have hGq : Gbx (wr.drewN mq) Br ⟨i, j, n, rar x i n⟩ := hG
                  have cw := c2
                  clear hB hO hG c0 c1 c2 c3
                  generalize wr.drewN mq = Wq at hBq hOq hGq ⊢
                  obtain ⟨c0, c1, c2, c3⟩ := hGq.cells
                  have fz := hGq.frozen
                  cases q with
                  | true =>
                    obtain ⟨h3, h4, h5⟩ := of_decide_eq_true HQ.out
                    obtain ⟨xb, xf, rfl, _, hcx⟩ := HI.at (HI.keep hx hBq (Nat.le_refl _)) (by omega)
                    have x0 := hcx ii (by omega)
                    obtain ⟨zx, hzx⟩ : ∃ z, x[ii] = z := ⟨_, rfl⟩
                    rw [hzx] at x0
                    obtain ⟨ct, hct⟩ : ∃ ct, x.count zx = ct := ⟨_, rfl⟩
                    have HCT : Hid (x.count zx = ct) := hct
                    have hcc : cnt x ii = ct := by rw [cnt_at (List.getElem?_eq_getElem h3), hzx, hct]
                    have hctl : ct ≤ x.length := by rw [← hct]; exact List.count_le_length
                    obtain ⟨ra, hra⟩ : ∃ ra, rar x i n = ra := ⟨_, rfl⟩
                    have hrn : rar x i (n + 1) = min ra ct := by rw [rar, hra, hii, hcc]
                    have hral : ra ≤ x.length := by
                      rw [← hra]
                      have : ∀ n, rar x i n ≤ x.length := by
                        intro n
                        induction n with
                        | zero => exact Nat.le_refl _
                        | succ n ih => rw [rar]; omega
                      exact this n
                    rw [hra] at c3 hGq
                    obtain ⟨mi, hmi⟩ : ∃ mi, min ra ct = mi := ⟨_, rfl⟩
                    have hmin : (if ct < ra then (ct : Int) else (ra : Int)) = (mi : Int) := by rw [← hmi]; split <;> omega
                    have HT2 : Hid (n + 1 + tl x y (i + (n + 1)) (j + (n + 1)) = T) := (by
                      show _ = _
                      have := HT.out
                      rw [tl_step x y ii jj, if_pos ⟨h3, h4, h5⟩] at this
                      rw [show i + (n + 1) = ii + 1 by omega, show j + (n + 1) = jj + 1 by omega]
                      omega)
                    have i2 : (ii : Int) < (x.length : Int) := by omega
                    have hx2 := HI.keep hx hBq (Nat.le_refl _)
                    clear hcx hzx hct hcc HQ HT hra
                    have hn1 : n + 1 ≤ T := by have := HT2.out; omega
                    have hb1 : Gbx (Wq.setCell ⟨Br, 3, none⟩ (.int .i64 (mi : Int))) Br ⟨i, j, n, mi⟩ := heap_setCell_same Wq Br 3 _ _ (.int .i64 (mi : Int)) hGq
                    have hb2 : Gbx ((Wq.setCell ⟨Br, 3, none⟩ (.int .i64 (mi : Int))).drew.setCell ⟨Br, 2, none⟩ (.int .i64 ((n + 1 : Nat) : Int))) Br ⟨i, j, n + 1, mi⟩ := heap_setCell_same _ Br 2 _ _ (.int .i64 ((n + 1 : Nat) : Int)) (show (Wq.setCell ⟨Br, 3, none⟩ (.int .i64 (mi : Int))).drew.heap[Br]? = _ from hb1)
                    have d2 : (Wq.setCell ⟨Br, 3, none⟩ (.int .i64 (mi : Int))).drew.cell? ⟨Br, 2, none⟩ = some (.int .i64 (n : Int)) := hb1.cells.2.2.1
                    have f2 : (Wq.setCell ⟨Br, 3, none⟩ (.int .i64 (mi : Int))).drew.frozen? ⟨Br, 2, none⟩ = false := hb1.frozen 2
                    have f3 := fz 3
                    have hgr : Wq.grownBy ((Wq.setCell ⟨Br, 3, none⟩ (.int .i64 (mi : Int))).drew.setCell ⟨Br, 2, none⟩ (.int .i64 ((n + 1 : Nat) : Int))) (some Br) := (grown_drewN (grown_set Wq Br 3 _) 1).trans (grown_set _ Br 2 _)
                    have hB2 := hBq.grown hgr hBq.size (fun k hk => by cases hk; exact hwB)
                    have hO2 : ((Wq.setCell ⟨Br, 3, none⟩ (.int .i64 (mi : Int))).drew.setCell ⟨Br, 2, none⟩ (.int .i64 ((n + 1 : Nat) : Int))).ownsRow w.heap.size 100 4 (.slice zo Z.length zc) Z.length (hrcells Z) := hOq.kept hgr (by
                      cases hzo : zo with
                      | none => exact .inl rfl
                      | some ad =>
                        have h9 := hob.out ad hzo
                        obtain ⟨ab1, ao1, as1⟩ := ad
                        right
                        intro e
                        simp only [Value.ownBlock] at e
                        injection e with e
                        simp only at h9
                        omega)
                    have hG2 : Gbx ((Wq.setCell ⟨Br, 3, none⟩ (.int .i64 (mi : Int))).drew.setCell ⟨Br, 2, none⟩ (.int .i64 ((n + 1 : Nat) : Int))) Br ⟨i, j, n + 1, rar x i (n + 1)⟩ := by rw [hrn, hmi]; exact hb2
                    have cm := hb2.cells.2.2.1
                    clear hb1 hb2 hgr hrn hmi hGq hOq fz
                    go_wp2_with fail
                    go_region_with (go_at_call 102; refine (times8_f x zx ct _ _ (by exact HI.keep hx2 (Below.dN (Below.refl _ Wq) 1) (Nat.le_refl _)) (by omega) HCT).mono ?_; rintro e wt ⟨rfl, rfl⟩)
                    all_goals clear c0 c1 c2 c3 x0 hx2 hmin
                    all_goals go_wp2
                    all_goals go_roundw
                    all_goals first | exact ⟨n + 1, hn1, hO2, hB2, hG2, HT2⟩ | (refine Nat.lt_of_le_of_lt (Nat.le_of_eq (congrArg (fun o => T - (intOf (Option.getD o undef)).toNat) cm)) ?_; rw [cw]; simp [intOf]; omega)
                  | false =>
                    have h3 := of_decide_eq_false HQ.out
                    obtain rfl : n = T := by
                      have := HT.out
                      rw [tl_step x y ii jj, if_neg h3] at this
                      omega
                    obtain ⟨ra, hra⟩ : ∃ ra, rar x i n = ra := ⟨_, rfl⟩
                    rw [hra] at c3 hGq HZ3
                    have hZl : Z.length < L.length := by rw [← HZ3.out]; simp
                    have hs9 := hBq.size
                    clear HQ HT h3 hGq fz hra cw n1 n2 n3 n4 m1 m2
                    go_wp2_with (at_builtin; refine wpList_append_h _ (by kernel_rfl) (.tmp 106) (.tmp 108) 122 100 (.agg #[.int .i64 0, .int .i64 0, .int .i64 0, .int .i64 0]) 4 32 rfl Tryz.underlying122 infoHr rfl (by decide) (by decide) w.heap.size (.slice zo Z.length zc) Z.length (hrcells Z) (by kernel_rfl) (hOq.alloc _) (.slice (some ⟨Wq.heap.size, 0, none⟩) 1 1) 1 (hrcells [⟨i, j, n, ra⟩]) (by kernel_rfl) (new_holds Wq _ _ 1 1 (by decide)) rfl (hrcells_one _) (by omega) (by simp; omega) ?_)
                    intro v3 w3 hown3 hgrow3
                    have hB3 : Below w.heap.size w w3 := (Below.alloc hBq hs9 _).grown hgrow3 (by simp; omega) (fun _ hj => owns_ge hOq hj)
                    rw [← hrcells_append] at hown3
                    obtain ⟨oo3, oc3, rfl⟩ := (holds_of hown3).form
                    have HZ4 : Hid ((Z ++ [⟨i, j, n, ra⟩]) ++ restR x y i (j + 1) = L) := (by show _ = _; rw [← HZ3.out]; simp)
                    clear hgrow3 HZ3 c0 c1 c2 c3 hOq hBq
                    go_wp2
                    go_roundw
                    case rel => exact ⟨j + 1, Z ++ [⟨i, j, n, ra⟩], oo3, oc3, by omega, by simp, by go_num, by simpa using hown3, hB3, HZ4⟩
                    case measure => simp [intOf]; omega
        · have HZ2 : Hid (Z ++ restRI x y (i + 1) = L) := (by rw [← restR_end x y i j (by omega)]; exact HZ)
          have hj' : ¬ (j : Int) < (y.length : Int) := by omega
          clear HZ
          go_wp2
          go_roundw
          case rel => exact ⟨i + 1, Z, zo, zc, by omega, rfl, by go_num, hO, hB, HZ2⟩
          case measure => simp [intOf]; omega
    · have e : Z = L := by
        rw [← HZ.out, restRI_end x y i (by omega), List.append_nil]
      subst e
      have hi' : ¬ (i : Int) < (x.length : Int) := by omega
      go_wp2
      go_ret
      exact ⟨_, rfl, holds_of hO, hB⟩
end Go.Proofs.YtjhanfiohfakoaaGreatDoor

/- The reference's Best, walked. -/
set_option maxRecDepth 20000
namespace Go.Proofs.YtjhanfiohfakoaaGreatDoor
open Go.RowKit

/-- the run to hold on to, out of all -/
def pickO : List Hr → Option Hr
  | [] => none
  | b :: l => some (pickL btR b l)
theorem best_pickO (x y : List Int) : best x y = pickO (runs x y) := by
  unfold best
  cases runs x y <;> rfl
/-- what Best answers, as a value -/
def bestV (o : Option Hr) : Value := .tuple #[.agg #[.int .i64 ((o.getD ⟨0, 0, 0, 0⟩).X : Int), .int .i64 ((o.getD ⟨0, 0, 0, 0⟩).Y : Int), .int .i64 ((o.getD ⟨0, 0, 0, 0⟩).N : Int), .int .i64 ((o.getD ⟨0, 0, 0, 0⟩).R : Int)], .bool o.isSome]

set_option maxRecDepth 10000 in
set_option maxHeartbeats 4000000 in
theorem rBest_f (x y : List Int) (vx vy : Value) (w : World) (hx : HI w vx x) (hy : HI w vy y) (hxl : x.length ≤ 4096) (hyl : y.length ≤ 4096) (o : Option Hr) (ho : Hid (best x y = o)) :
    Calls Tryz.prog 55 #[vx, vy] w fun e w' => e = .returned (bestV o) ∧ Below w.heap.size w w' := by
  obtain ⟨xo, xc, rfl⟩ := Holds.form hx
  obtain ⟨yo, yc, rfl⟩ := Holds.form hy
  obtain ⟨L, hL⟩ : ∃ L, runs x y = L := ⟨_, rfl⟩
  have HL : Hid (runs x y = L) := hL
  have hLl : L.length ≤ 16777216 := by
    rw [← hL]
    have h1 := runs_length x y
    have h2 : x.length * y.length ≤ 4096 * 4096 := Nat.mul_le_mul hxl hyl
    omega
  have HO : Hid (pickO L = o) := (by
    show _ = _
    rw [← ho.out, best_pickO, hL])
  have hB0 : Below w.heap.size w (w.alloc (.cells #[.int .i64 0, .int .i64 0, .int .i64 0, .int .i64 0] 100)) := (Below.refl _ w).alloc (Nat.le_refl _) _
  have hR0 : Gbx (w.alloc (.cells #[.int .i64 0, .int .i64 0, .int .i64 0, .int .i64 0] 100)) w.heap.size ⟨0, 0, 0, 0⟩ := Gbx.new w ⟨0, 0, 0, 0⟩
  clear hL ho
  go_enter Tryz.func55, Tryz.ntmps55
  go_wp2_with fail
  refine (Runs_f x y _ _ _ (HI.keep hx hB0 (Nat.le_refl _)) (HI.keep hy hB0 (Nat.le_refl _)) hxl hyl L HL).mono ?_
  rintro e w1 ⟨v1, rfl, hv1, hB1⟩
  obtain ⟨lo, lc, rfl⟩ := Holds.form hv1
  have hB01 := hB0.trans (hB1.mono (by simp))
  have hR1 := hR0.low hB1
  clear hB1 hB0 hR0 HL
  obtain ⟨n, hn⟩ : ∃ n, L.length = n := ⟨_, rfl⟩
  have HN : Hid (L.length = n) := hn
  rw [hn] at hLl ⊢
  have hv2 : HHr w1 (.slice lo n lc) L := by rw [hn] at hv1; exact hv1
  clear hv1 hn
  obtain ⟨c0, c1, c2, c3⟩ := hR1.cells
  have f0 := hR1.frozen
  have hr1 := hR1.lt
  cases hLL : L with
  | nil =>
    obtain rfl : n = 0 := by rw [← HN.out, hLL]; rfl
    obtain rfl : o = none := by rw [← HO.out, hLL]; rfl
    have s1 := heap_setCell_same w1 w.heap.size 0 _ _ (.int .i64 0) hR1
    have s2 := heap_setCell_same _ w.heap.size 1 _ _ (.int .i64 0) s1
    have s3 := heap_setCell_same _ w.heap.size 2 _ _ (.int .i64 0) s2
    have s4 := heap_setCell_same _ w.heap.size 3 _ _ (.int .i64 0) s3
    have hBf : Below w.heap.size w ((((w1.setCell ⟨w.heap.size, 0, none⟩ (.int .i64 0)).setCell ⟨w.heap.size, 1, none⟩ (.int .i64 0)).setCell ⟨w.heap.size, 2, none⟩ (.int .i64 0)).setCell ⟨w.heap.size, 3, none⟩ (.int .i64 0)) := (((hB01.setCell (p := ⟨w.heap.size, 0, none⟩) (Nat.le_refl _) _).setCell (p := ⟨w.heap.size, 1, none⟩) (Nat.le_refl _) _).setCell (p := ⟨w.heap.size, 2, none⟩) (Nat.le_refl _) _).setCell (p := ⟨w.heap.size, 3, none⟩) (Nat.le_refl _) _
    clear hv2 HN HO
    go_wp2
    exact bodyPost_ret (results_cell_tmp rfl _ _ w.heap.size 100 #[.int .i64 0, .int .i64 0, .int .i64 0, .int .i64 0] (0, 0) _ rfl s4 Tryz.underlying100 rfl (by kernel_rfl)) rfl ⟨rfl, hBf⟩
  | cons b0 l0 =>
    have hn0 : 0 < n := by rw [← HN.out, hLL]; simp
    have e0 : ((n : Int) == 0) = false := beq_eq_false_iff_ne.2 (by omega)
    obtain ⟨b, hb⟩ : ∃ b, pickL btR b0 l0 = b := ⟨_, rfl⟩
    obtain rfl : o = some b := by rw [← HO.out, hLL, ← hb]; rfl
    have HP : Hid (pickL btR b0 (L.drop 1) = b) := (by rw [hLL]; exact hb)
    obtain ⟨lb, lf, rfl, _, hcl⟩ := HHr.at hv2 (by rw [hLL]; simp)
    obtain ⟨a0, a1, a2, a3⟩ := hcl 0 (by rw [hLL]; simp)
    have e00 : L[0]'(by rw [hLL]; simp) = b0 := by simp [hLL]
    rw [e00] at a0 a1 a2 a3
    rw [Nat.zero_mul, Nat.add_zero] at a0 a1 a2 a3
    have i0 : (0 : Int) < (n : Int) := by omega
    have hGb := Gbx.new w1 b0
    have hLa : Below w1.heap.size w1 (w1.alloc (.cells #[.int .i64 (b0.X : Int), .int .i64 (b0.Y : Int), .int .i64 (b0.N : Int), .int .i64 (b0.R : Int)] 100)) := (Below.refl _ w1).alloc (Nat.le_refl _) _
    clear hcl HO hb hLL e00 c0 c1 c2 c3 f0
    go_wp2
    clear a0 a1 a2 a3
    go_loopw [8] (fun iv wr => ∃ (k : Nat) (c : Hr), 1 ≤ k ∧ k ≤ n ∧ iv = .int .i64 k ∧ Low w1 wr ∧ Gbx wr w1.heap.size c ∧ Hid (pickL btR c (L.drop k) = b)) (fun iv _ => n - (intOf iv).toNat)
    case atStart => exact ⟨1, b0, Nat.le_refl _, hn0, rfl, hLa, hGb, HP⟩
    case round =>
      clear hGb hLa HP
      obtain ⟨k, c, hk1, hk, rfl, hL, hC, HP⟩ := hrel
      have hsr := Below.size hL
      by_cases hkl : k < n
      · have hkL : k < L.length := by rw [HN.out]; exact hkl
        obtain ⟨_, _, hle, _, hcl⟩ := HHr.at (HHr.keep hv2 hL (Nat.le_refl _)) (by omega)
        cases hle
        obtain ⟨a0, a1, a2, a3⟩ := hcl k hkL
        obtain ⟨r, hr⟩ : ∃ r, L[k] = r := ⟨_, rfl⟩
        rw [hr] at a0 a1 a2 a3
        obtain ⟨q, hq⟩ : ∃ q, btR r c = q := ⟨_, rfl⟩
        have HP2 : Hid (pickL btR (if q then r else c) (L.drop (k + 1)) = b) := (by
          show _ = _
          have := HP.out
          rw [List.drop_eq_getElem_cons hkL, hr] at this
          rw [← this, ← hq]
          rfl)
        have hqd : (decide (r.R < c.R) || (decide (r.R = c.R) && decide (c.N < r.N))) = q := hq
        clear HP hcl hr hq
        obtain ⟨d0, d1, d2, d3⟩ := hC.cells
        have fz := hC.frozen
        have k0 : 0 ≤ (k : Int) := by omega
        have k2 : (k : Int) < (n : Int) := by omega
        go_wp2_with fail
        go_cut [52] from 19 to 56 (fun z wz => z = .bool q ∧ ∃ m, wz = wr.drewN m)
        case first =>
          by_cases h1 : r.R < c.R
          · have e1 : decide ((r.R : Int) < (c.R : Int)) = true := decide_eq_true (by omega)
            have e1' : (r.R : Int) < (c.R : Int) := by omega
            obtain rfl : q = true := by rw [← hqd]; simp [h1]
            clear hqd HP2
            go_big_quiet (fail)
            go_wp2
            go_meet
            case rel => exact ⟨rfl, _, rfl⟩
          · have e1 : decide ((r.R : Int) < (c.R : Int)) = false := decide_eq_false (by omega)
            have e1' : decide (r.R < c.R) = false := decide_eq_false h1
            by_cases h2 : r.R = c.R
            · have e2 : ((r.R : Int) == (c.R : Int)) = true := beq_iff_eq.2 (by omega)
              have e3 : decide ((c.N : Int) < (r.N : Int)) = q := by rw [← hqd]; by_cases h3 : c.N < r.N <;> simp [h2, h3]
              have e3' : decide (c.N < r.N) = q := by rw [← hqd]; by_cases h3 : c.N < r.N <;> simp [h2, h3]
              clear hqd HP2 h1
              rw [h2] at a3 e1 e1' e2
              clear h2
              go_big_quiet (fail)
              go_wp2
              go_meet
              case rel => exact ⟨rfl, _, rfl⟩
            · have e2 : ((r.R : Int) == (c.R : Int)) = false := beq_eq_false_iff_ne.2 (by omega)
              obtain rfl : q = false := by rw [← hqd]; simp [h1, h2]
              clear hqd HP2 h2 h1
              go_big_quiet (fail)
              go_wp2
              go_meet
              case rel => exact ⟨rfl, _, rfl⟩
        case rest =>
          obtain ⟨rfl, mq, rfl⟩ := hcut
          have hLq : Low w1 (wr.drewN mq) := Below.dN hL mq
          have hCq : Gbx (wr.drewN mq) w1.heap.size c := hC
          have b0 : (wr.drewN mq).cell? ⟨lb, lf + k * 4, none⟩ = some (.int .i64 (r.X : Int)) := a0
          have b1 : (wr.drewN mq).cell? ⟨lb, lf + k * 4 + 1, none⟩ = some (.int .i64 (r.Y : Int)) := a1
          have b2 : (wr.drewN mq).cell? ⟨lb, lf + k * 4 + 2, none⟩ = some (.int .i64 (r.N : Int)) := a2
          have b3 : (wr.drewN mq).cell? ⟨lb, lf + k * 4 + 3, none⟩ = some (.int .i64 (r.R : Int)) := a3
          clear hL hC a0 a1 a2 a3 d0 d1 d2 d3 fz hsr
          generalize wr.drewN mq = Wq at hLq hCq b0 b1 b2 b3 ⊢
          obtain ⟨d0, d1, d2, d3⟩ := hCq.cells
          have fz := hCq.frozen
          cases q with
          | true =>
            have s1 := heap_setCell_same Wq w1.heap.size 0 _ _ (.int .i64 (r.X : Int)) hCq
            have s2 := heap_setCell_same _ w1.heap.size 1 _ _ (.int .i64 (r.Y : Int)) s1
            have s3 := heap_setCell_same _ w1.heap.size 2 _ _ (.int .i64 (r.N : Int)) s2
            have s4 : Gbx ((((Wq.setCell ⟨w1.heap.size, 0, none⟩ (.int .i64 (r.X : Int))).setCell ⟨w1.heap.size, 1, none⟩ (.int .i64 (r.Y : Int))).setCell ⟨w1.heap.size, 2, none⟩ (.int .i64 (r.N : Int))).setCell ⟨w1.heap.size, 3, none⟩ (.int .i64 (r.R : Int))) w1.heap.size r := heap_setCell_same _ w1.heap.size 3 _ _ (.int .i64 (r.R : Int)) s3
            have hL5 : Low w1 ((((Wq.setCell ⟨w1.heap.size, 0, none⟩ (.int .i64 (r.X : Int))).setCell ⟨w1.heap.size, 1, none⟩ (.int .i64 (r.Y : Int))).setCell ⟨w1.heap.size, 2, none⟩ (.int .i64 (r.N : Int))).setCell ⟨w1.heap.size, 3, none⟩ (.int .i64 (r.R : Int))) := (((Below.setCell (p := ⟨w1.heap.size, 0, none⟩) hLq (Nat.le_refl _) _).setCell (p := ⟨w1.heap.size, 1, none⟩) (Nat.le_refl _) _).setCell (p := ⟨w1.heap.size, 2, none⟩) (Nat.le_refl _) _).setCell (p := ⟨w1.heap.size, 3, none⟩) (Nat.le_refl _) _
            clear hqd
            go_wp2
            go_roundw
            case rel => exact ⟨k + 1, r, by omega, by omega, by go_num, hL5, s4, HP2⟩
            case measure => simp [intOf]; omega
          | false =>
            clear hqd
            go_wp2
            go_roundw
            case rel => exact ⟨k + 1, c, by omega, by omega, by go_num, hLq, hCq, HP2⟩
            case measure => simp [intOf]; omega
      · have e : c = b := by
          have := HP.out
          rw [List.drop_of_length_le (by rw [HN.out]; omega)] at this
          exact this
        subst e
        have hk' : ¬ (k : Int) < (n : Int) := by omega
        have hR5 := hR1.low hL
        obtain ⟨c0, c1, c2, c3⟩ := hC.cells
        obtain ⟨d0, d1, d2, d3⟩ := hR5.cells
        have f0 := hR5.frozen
        have s1 := heap_setCell_same wr w.heap.size 0 _ _ (.int .i64 (c.X : Int)) hR5
        have s2 := heap_setCell_same _ w.heap.size 1 _ _ (.int .i64 (c.Y : Int)) s1
        have s3 := heap_setCell_same _ w.heap.size 2 _ _ (.int .i64 (c.N : Int)) s2
        have s4 := heap_setCell_same _ w.heap.size 3 _ _ (.int .i64 (c.R : Int)) s3
        have hBr := hB01.trans (Below.mono hL hB01.size)
        have hBf : Below w.heap.size w ((((wr.setCell ⟨w.heap.size, 0, none⟩ (.int .i64 (c.X : Int))).setCell ⟨w.heap.size, 1, none⟩ (.int .i64 (c.Y : Int))).setCell ⟨w.heap.size, 2, none⟩ (.int .i64 (c.N : Int))).setCell ⟨w.heap.size, 3, none⟩ (.int .i64 (c.R : Int))) := (((hBr.setCell (p := ⟨w.heap.size, 0, none⟩) (Nat.le_refl _) _).setCell (p := ⟨w.heap.size, 1, none⟩) (Nat.le_refl _) _).setCell (p := ⟨w.heap.size, 2, none⟩) (Nat.le_refl _) _).setCell (p := ⟨w.heap.size, 3, none⟩) (Nat.le_refl _) _
        go_wp2
        exact bodyPost_ret (results_cell_tmp rfl _ _ w.heap.size 100 #[.int .i64 (c.X : Int), .int .i64 (c.Y : Int), .int .i64 (c.N : Int), .int .i64 (c.R : Int)] (0, 0) _ rfl s4 Tryz.underlying100 rfl (by kernel_rfl)) rfl ⟨rfl, hBf⟩
end Go.Proofs.YtjhanfiohfakoaaGreatDoor
