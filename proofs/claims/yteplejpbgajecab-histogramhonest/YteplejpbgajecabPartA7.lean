/-
  Texts that belong together, joined: HiFd, MiWm.
-/
import Derived.Test.YteplejpbgajecabPartA5
import Derived.Test.YteplejpbgajecabPartA6
import Derived.Test.YteplejpbgajecabPartA3

/- histogram.find and histogram.Diff, walked. -/
namespace Go.Proofs.Yteplejpbgajecab
open Go.RowKit

theorem Best_f (x y : List Int) (vx vy : Value) (w : World) (hx : HI w vx x) (hy : HI w vy y) (hxl : x.length ≤ 1048576) (hyl : y.length ≤ 1048576) (hwx : ∀ c ∈ x, w64 c) (hwy : ∀ c ∈ y, w64 c) (o : Option Hr) (ho : Hid (best x y = o)) :
    Calls Try.prog 33 #[vx, vy] w fun e w' => e = .returned (.tuple #[hrV (o.getD ⟨0, 0, 0, 0⟩), .bool o.isSome]) ∧ Below w.heap.size w w' := by
  rcases Nat.eq_zero_or_pos (rs x 0 y) with h | h
  · have e : o = none := by
      rw [← ho.out]
      cases hb : best x y with
      | none => rfl
      | some r => exact absurd (best_some hb).1 (rs_zero h r)
    subst e
    exact Best_none x y vx vy w hx hy hxl hyl hwx hwy h
  · have e : o = some (pickL btC ⟨0, 0, 0, 0⟩ (cands x y (rs x 0 y))) := by rw [← ho.out]; exact best_of (code_best (rs_rst rfl h))
    subst e
    exact Best_some x y vx vy w hx hy hxl hyl hwx hwy _ rfl h _ rfl

set_option maxRecDepth 10000 in
set_option maxHeartbeats 8000000 in
theorem hfind_f (x y : List Int) (W0 : World) (g : Nat) (hxl : x.length ≤ 4096) (hyl : y.length ≤ 4096) (hwx : ∀ c ∈ x, w64 c) (hwy : ∀ c ∈ y, w64 c) (f : Nat) : ∀ (w : World) (K : List Int) (_ : Ls W0 g x.length K w) (a b c d : Nat) (xo : Option Addr) (nx xc : Nat) (yo : Option Addr) (ny yc : Nat) (ko : Option Addr) (kc : Nat) (_ : Pz W0 g x y a b c d xo nx xc yo ny yc ko kc) (_ : b - a < f) (KF : List Int) (_ : Hid (wrk K (pcs (hmid x y) x y f a b c d) = KF)),
    Calls Try.prog 29 #[.agg #[.slice xo nx xc, .slice yo ny yc, .int .i64 (c : Int), .slice ko nx kc]] w fun e w' => e = .returned (.tuple #[]) ∧ Ls W0 g x.length KF w' ∧ w.grownBy w' (some g) := by
  induction f with
  | zero => intro w K hS a b c d xo nx xc yo ny yc ko kc hp hf; omega
  | succ f ih =>
    intro w K hS a b c d xo nx xc yo ny yc ko kc hp hf KF hKF
    have hg := hS.lt
    have HKF : Hid (∀ k m, k = tf x y a b c d → m = tb x y (a + k) b (c + k) d → wrk (wrk K (fp a c k ++ bp b d m)) (if a + k < b - m ∧ c + k < d - m then hmid x y (pcs (hmid x y) x y f) (a + k) (b - m) (c + k) (d - m) else []) = KF) := (by
      intro k m hk hm
      rw [← hKF.out, pcs, ends, ← hk, ← hm, wrk_append, wrk_append, wrk_append])
    have hQ0 := Qbx.new w (.slice xo nx xc) (.slice yo ny yc) (.int .i64 c) (.slice ko nx kc)
    have hB0 := (Below.refl w.heap.size w).alloc (Nat.le_refl _) (.cells #[.slice xo nx xc, .slice yo ny yc, .int .i64 c, .slice ko nx kc] 47)
    clear hKF
    go_enter Try.func29, Try.ntmps29
    go_wp2_with fail
    refine (KeepEnds_f x y W0 _ g K a b c d xo nx xc yo ny yc ko kc hp hxl hyl (hS.keep hB0)).mono ?_
    rintro e w1 ⟨k, m, xo1, nx1, xc1, yo1, ny1, yc1, ko1, kc1, hk, hm, rfl, hp1, hS1, hG1⟩
    have HK2 := HKF.out k m hk hm
    have hkl := tf_le x y a b c d
    have hml := tb_le x y (a + k) b (c + k) d
    rw [← hk] at hkl
    rw [← hm] at hml
    have hQ1 := hQ0.keep hG1 (by simp; omega)
    have hG1' : w.grownBy w1 (some g) := (low_grown hB0 _).trans hG1
    have hb0 := hp.eb
    have hf' := hp.bx
    clear hk hm HKF hS hB0 hQ0 hG1 hp
    obtain ⟨A, hA⟩ : ∃ A, a + k = A := ⟨_, rfl⟩
    obtain ⟨C, hC⟩ : ∃ C, c + k = C := ⟨_, rfl⟩
    obtain ⟨b1, hb1⟩ : ∃ B, b - m = B := ⟨_, rfl⟩
    obtain ⟨d1, hd1⟩ : ∃ D, d - m = D := ⟨_, rfl⟩
    obtain ⟨K1, hK1⟩ : ∃ K1, wrk K (fp a c k ++ bp b d m) = K1 := ⟨_, rfl⟩
    rw [hK1] at hS1 HK2
    rw [hA, hC, hb1, hd1] at HK2 hp1
    rw [hC]
    have HK3 : Hid (wrk K1 (if A < b1 ∧ C < d1 then hmid x y (pcs (hmid x y) x y f) A b1 C d1 else []) = KF) := HK2
    have hf1 : b1 - A ≤ f := by omega
    clear hA hC hb1 hd1 hK1 hkl hml hf HK2 hb0 hf'
    obtain ⟨c0, c1, c2, c3⟩ := hQ1.cells
    have f0 := hQ1.frozen
    have hQ2 := hQ1.put (.slice xo1 nx1 xc1) (.slice yo1 ny1 yc1) (.int .i64 (C : Int)) (.slice ko1 nx1 kc1)
    have hgw := hS1.low.size
    have hS2 := ls_other (ls_other (ls_other (ls_other hS1 (g := w.heap.size) (by omega) (by omega) 0 (.slice xo1 nx1 xc1)) (g := w.heap.size) (by omega) (by omega) 1 (.slice yo1 ny1 yc1)) (g := w.heap.size) (by omega) (by omega) 2 (.int .i64 (C : Int))) (g := w.heap.size) (by omega) (by omega) 3 (.slice ko1 nx1 kc1)
    have hG2 := grown_new (grown_new (grown_new (grown_new hG1' (B := w.heap.size) (by omega) 0 (.slice xo1 nx1 xc1)) (B := w.heap.size) (by omega) 1 (.slice yo1 ny1 yc1)) (B := w.heap.size) (by omega) 2 (.int .i64 (C : Int))) (B := w.heap.size) (by omega) 3 (.slice ko1 nx1 kc1)
    obtain ⟨W2, hW2⟩ : ∃ W2, (((w1.setCell ⟨w.heap.size, 0, none⟩ (.slice xo1 nx1 xc1)).setCell ⟨w.heap.size, 1, none⟩ (.slice yo1 ny1 yc1)).setCell ⟨w.heap.size, 2, none⟩ (.int .i64 (C : Int))).setCell ⟨w.heap.size, 3, none⟩ (.slice ko1 nx1 kc1) = W2 := ⟨_, rfl⟩
    rw [hW2] at hQ2 hS2 hG2
    unfold pzV
    have hAb := hp1.eb
    have hCd := hp1.ed
    obtain ⟨r, hr⟩ : ∃ r, r = decide (nx1 = 0 ∨ ny1 = 0) := ⟨_, rfl⟩
    have HR : Hid (r = decide (nx1 = 0 ∨ ny1 = 0)) := hr
    obtain ⟨q0, q1, q2, q3⟩ := hQ2.cells
    clear hr
    go_wp2_with fail
    refine (Empty_f xo1 nx1 xc1 yo1 ny1 yc1 C ko1 kc1 W2 r HR).mono ?_
    rintro e w3 ⟨rfl, hB3⟩
    clear q0 q1 q2 q3 c0 c1 c2 c3 f0 hW2 hQ1 hS1 hG1'
    have hQ3 := hQ2.low hB3
    have hS3 := hS2.keep hB3
    have hG3 := hG2.trans (low_grown hB3 (some g))
    clear hQ2 hS2 hG2 hB3
    cases r with
    | true =>
      have e : K1 = KF := by
        have h1 := of_decide_eq_true HR.out.symm
        have := HK3.out
        rw [if_neg (by omega)] at this
        exact this
      subst e
      go_wp2
      (try simp only [Exit.inBlock, Exit.then])
      refine bodyPost_ret (results_none rfl _ _ _) rfl ?_
      exact ⟨rfl, hS3, hG3⟩
    | false =>
      have h1 := of_decide_eq_false HR.out.symm
      have hm0 : A < b1 ∧ C < d1 := by omega
      have HK2 : Hid (wrk K1 (hmid x y (pcs (hmid x y) x y f) A b1 C d1) = KF) := (by
        show _ = _
        have := HK3.out
        rw [if_pos hm0] at this
        exact this)
      clear HK3 HR
      have hbx := hp1.bx
      have hdy := hp1.dy
      obtain ⟨X, hX⟩ : ∃ X, sub x A b1 = X := ⟨_, rfl⟩
      obtain ⟨Y, hY⟩ : ∃ Y, sub y C d1 = Y := ⟨_, rfl⟩
      have hXl : X.length = nx1 := by rw [← hX, sub_length x A b1 hbx]; omega
      have hYl : Y.length = ny1 := by rw [← hY, sub_length y C d1 hdy]; omega
      have hx3 : HI w3 (.slice xo1 nx1 xc1) X := by
        unfold HI
        rw [hXl, ← hX]
        exact Holds.keep hp1.hx (fun q hq => hS3.low.block q hq)
      have hy3 : HI w3 (.slice yo1 ny1 yc1) Y := by
        unfold HI
        rw [hYl, ← hY]
        exact Holds.keep hp1.hy (fun q hq => hS3.low.block q hq)
      have HW : Hid ((∀ c ∈ X, w64 c) ∧ (∀ c ∈ Y, w64 c)) := (by
        refine ⟨fun c hc => hwx c ?_, fun c hc => hwy c ?_⟩
        · rw [← hX] at hc
          exact List.mem_of_mem_drop (List.mem_of_mem_take hc)
        · rw [← hY] at hc
          exact List.mem_of_mem_drop (List.mem_of_mem_take hc))
      have HX : Hid (X.length ≤ 1048576 ∧ Y.length ≤ 1048576) := (by refine ⟨?_, ?_⟩ <;> omega)
      obtain ⟨o, ho⟩ : ∃ o, best X Y = o := ⟨_, rfl⟩
      have HO : Hid (best X Y = o) := ho
      have HK4 : Hid (wrk K1 (hsel x y (pcs (hmid x y) x y f) A b1 C d1 o) = KF) := (by
        show _ = _
        have := HK2.out
        rw [hmid, hX, hY, ho] at this
        exact this)
      have HIn : Hid (∀ r, o = some r → 0 < r.N ∧ A + r.X + r.N ≤ b1 ∧ C + r.Y + r.N ≤ d1 ∧ r.R ≤ 4096) := (by
        intro r hr
        have hrun := (best_some (ho.trans hr)).1
        have h2 := run_in (x := x) (y := y) (a := A) (b := b1) (c := C) (d := d1) hbx hdy (by rw [hX, hY]; exact hrun)
        have h3 : r.R ≤ X.length := by
          rw [hrun.r]
          have : ∀ n, rar X r.X n ≤ X.length := by
            intro n
            induction n with
            | zero => exact Nat.le_refl _
            | succ n ih => rw [rar]; omega
          exact this _
        exact ⟨h2.1, h2.2.1, h2.2.2.1, by omega⟩)
      clear hX hY hXl hYl HK2 ho
      obtain ⟨q0, q1, q2, q3⟩ := hQ3.cells
      go_wp2_with fail
      refine (Best_f X Y _ _ w3 hx3 hy3 HX.out.1 HX.out.2 HW.out.1 HW.out.2 o HO).mono ?_
      rintro e w4 ⟨rfl, hB4⟩
      have hQ4 := hQ3.low hB4
      have hS4 := hS3.keep hB4
      have hG4 := hG3.trans (low_grown hB4 (some g))
      clear q0 q1 q2 q3 hx3 hy3 HW HX HO hQ3 hS3 hG3 hB4
      have hs4 := hS4.low.size
      have hl4 := hS4.lt
      have hg4 := hG4.size
      have hq4 := hQ4.lt
      cases o with
      | none =>
        have e : K1 = KF := HK4.out
        subst e
        have hLn : Below w4.heap.size w4 (w4.alloc (.cells #[.int .i64 ((0 : Nat) : Int), .int .i64 ((0 : Nat) : Int), .int .i64 ((0 : Nat) : Int), .int .i64 ((0 : Nat) : Int)] 61)) := (Below.refl _ w4).alloc (Nat.le_refl _) _
        have hS5 := hS4.keep hLn
        have hG5 := hG4.trans (low_grown hLn (some g))
        simp only [Option.getD_none, Option.isSome_none, hrV]
        go_wp2
        (try simp only [Exit.inBlock, Exit.then])
        refine bodyPost_ret (results_none rfl _ _ _) rfl ?_
        exact ⟨rfl, hS5, hG5⟩
      | some r =>
        obtain ⟨hr1, hr2, hr3, hr4⟩ := HIn.out r rfl
        obtain ⟨rX, rY, rN, rR⟩ := r
        simp only at hr1 hr2 hr3 hr4
        have HK4 : Hid (wrk K1 (if 64 < rR then lp A C (kp 0 (sub x A b1) (sub y C d1)) else fp (A + rX) (C + rY) rN ++ (pcs (hmid x y) x y f A (A + rX) C (C + rY) ++ pcs (hmid x y) x y f (A + rX + rN) b1 (C + rY + rN) d1)) = KF) := HK4
        simp only [Option.getD_some, Option.isSome_some, hrV]
        have hHb := Hbx.new w4 ⟨rX, rY, rN, rR⟩
        have hLn : Below w4.heap.size w4 (w4.alloc (.cells #[.int .i64 (rX : Int), .int .i64 (rY : Int), .int .i64 (rN : Int), .int .i64 (rR : Int)] 61)) := (Below.refl _ w4).alloc (Nat.le_refl _) _
        have hQ5 := hQ4.low hLn
        have hS5 := hS4.keep hLn
        have hG5 := hG4.trans (low_grown hLn (some g))
        obtain ⟨W5, hW5⟩ : ∃ W5, w4.alloc (.cells #[.int .i64 (rX : Int), .int .i64 (rY : Int), .int .i64 (rN : Int), .int .i64 (rR : Int)] 61) = W5 := ⟨_, rfl⟩
        have hgB : g ≠ w4.heap.size := by omega
        obtain ⟨B5, hB5⟩ : ∃ B, w4.heap.size = B := ⟨_, rfl⟩
        rw [hW5] at hHb hQ5 hS5 hG5
        rw [hB5] at hHb hgB
        clear hQ4 hS4 hG4 hLn HIn
        obtain ⟨q0, q1, q2, q3⟩ := hQ5.cells
        obtain ⟨t0, t1, t2, t3⟩ := hHb.cells
        by_cases h64 : 64 < rR
        · have e64 : decide ((64 : Int) < (rR : Int)) = true := decide_eq_true (by omega)
          have HK5 : Hid (wrk K1 (lp A C (kp 0 (sub x A b1) (sub y C d1))) = KF) := (by
            show _ = _
            have := HK4.out
            rw [if_pos h64] at this
            exact this)
          clear HK4
          go_wp2_with fail
          clear hW5 hB5
          refine (KeepMost_f x y W0 W5 g K1 A b1 C d1 xo1 nx1 xc1 yo1 ny1 yc1 ko1 kc1 hp1 hxl hyl hS5 KF HK5).mono ?_
          rintro e w6 ⟨rfl, hS6, hG6⟩
          have hG7 := hG5.trans hG6
          go_wp2
          (try simp only [Exit.inBlock, Exit.then])
          refine bodyPost_ret (results_none rfl _ _ _) rfl ?_
          exact ⟨rfl, hS6, hG7⟩
        · have e64 : decide ((64 : Int) < (rR : Int)) = false := decide_eq_false (by omega)
          have e64' : decide (64 < rR) = false := decide_eq_false h64
          obtain ⟨K6, hK6⟩ : ∃ K6, wrk K1 (fp (A + rX) (C + rY) rN) = K6 := ⟨_, rfl⟩
          obtain ⟨u2, hu⟩ : ∃ u, A + rX = u := ⟨_, rfl⟩
          obtain ⟨v2, hv⟩ : ∃ v, C + rY = v := ⟨_, rfl⟩
          obtain ⟨K7, hK7⟩ : ∃ K7, wrk K6 (pcs (hmid x y) x y f A u2 C v2) = K7 := ⟨_, rfl⟩
          have HK7 : Hid (wrk K6 (pcs (hmid x y) x y f A u2 C v2) = K7) := hK7
          obtain ⟨p2, hp2⟩ : ∃ p, rX + rN = p := ⟨_, rfl⟩
          obtain ⟨p3, hp3⟩ : ∃ p, rY + rN = p := ⟨_, rfl⟩
          obtain ⟨u3, hu3⟩ : ∃ u, A + p2 = u := ⟨_, rfl⟩
          obtain ⟨v3, hv3⟩ : ∃ v, C + p3 = v := ⟨_, rfl⟩
          have HK8 : Hid (wrk K7 (pcs (hmid x y) x y f u3 b1 v3 d1) = KF) := (by
            show _ = _
            have := HK4.out
            rw [if_neg h64, wrk_append, wrk_append, hK6, hu, hv, hK7, show u2 + rN = u3 by omega, show v2 + rN = v3 by omega] at this
            exact this)
          clear HK4 hK7
          go_wp2_with fail
          clear hW5 hB5
          refine (Keep_f K1 xo1 nx1 xc1 yo1 ny1 yc1 A C ko1 kc1 W5 rX rY rN hS5 hp1.at' (by omega) (by omega) (by omega) (by omega)).mono ?_
          rintro e w6 ⟨rfl, hS6, hG6⟩
          rw [hK6] at hS6
          have hQ6 := hQ5.keep hG6 (by simp; omega)
          have hH6 := hHb.keep hG6 (by simp; omega)
          have hG6' := hG5.trans hG6
          clear hK6 hQ5 hHb hS5 hG5 hG6 q0 q1 q2 q3 t0 t1 t2 t3
          obtain ⟨q0, q1, q2, q3⟩ := hQ6.cells
          obtain ⟨t0, t1, t2, t3⟩ := hH6.cells
          go_wp2_with fail
          refine (UpTo_p hp1 rX rY u2 v2 (by omega) (by omega) hu hv w6 w6 (Below.refl _ _)).mono ?_
          rintro e w7 ⟨xo2, nx2, xc2, yo2, ny2, yc2, ko2, kc2, rfl, hpa, hL7⟩
          have hS7 := hS6.keep hL7
          have hQ7 := hQ6.low hL7
          have hH7 := hH6.low hL7
          have hG7 := hG6'.trans (low_grown hL7 (some g))
          clear hQ6 hH6 hS6 hG6' hL7 q0 q1 q2 q3 t0 t1 t2 t3
          go_wp2_with fail
          refine (ih w7 K6 hS7 A u2 C v2 xo2 nx2 xc2 yo2 ny2 yc2 ko2 kc2 hpa (by omega) K7 HK7).mono ?_
          rintro e w8 ⟨rfl, hS8, hG8⟩
          have hQ8 := hQ7.keep hG8 (by simp; omega)
          have hH8 := hH7.keep hG8 (by simp; omega)
          have hG8' := hG7.trans hG8
          clear hQ7 hH7 hS7 hG7 hG8 hpa
          obtain ⟨q0, q1, q2, q3⟩ := hQ8.cells
          obtain ⟨t0, t1, t2, t3⟩ := hH8.cells
          have n1 : (rX : Int) + (rN : Int) = (p2 : Int) := by omega
          have n2 : (rY : Int) + (rN : Int) = (p3 : Int) := by omega
          go_wp2_with fail
          refine (From_p hp1 hyl p2 p3 u3 v3 (by omega) (by omega) hu3 hv3 w8 w8 (Below.refl _ _)).mono ?_
          rintro e w9 ⟨xo3, nx3, xc3, yo3, ny3, yc3, ko3, kc3, rfl, hpb, hL9⟩
          have hS9 := hS8.keep hL9
          have hG9 := hG8'.trans (low_grown hL9 (some g))
          clear hQ8 hH8 hS8 hG8' hL9 q0 q1 q2 q3 t0 t1 t2 t3
          go_wp2_with fail
          refine (ih w9 K7 hS9 u3 b1 v3 d1 xo3 nx3 xc3 yo3 ny3 yc3 ko3 kc3 hpb (by omega) KF HK8).mono ?_
          rintro e w10 ⟨rfl, hS10, hG10⟩
          have hG11 := hG9.trans hG10
          go_wp2
          go_end0
          exact ⟨rfl, hS10, hG11⟩

set_option maxRecDepth 10000 in
set_option maxHeartbeats 2000000 in
theorem hiDiff_f (x y : List Int) (vx vy : Value) (w : World) (hx : HI w vx x) (hy : HI w vy y) (hxl : x.length ≤ 4096) (hyl : y.length ≤ 4096) (hwx : ∀ c ∈ x, w64 c) (hwy : ∀ c ∈ y, w64 c) (L : List Ch) (hL : Hid (mkL (hKeep x y) y.length = L)) :
    Calls Try.prog 10 #[vx, vy] w fun e w' => ∃ v', e = .returned (.tuple #[v', .int .i64 0]) ∧ HCh w' v' L ∧ Below w.heap.size w w' := by
  obtain ⟨xo, xc, rfl⟩ := Holds.form hx
  obtain ⟨yo, yc, rfl⟩ := Holds.form hy
  obtain ⟨KF, hKF⟩ : ∃ KF, hKeep x y = KF := ⟨_, rfl⟩
  have HK : Hid (Kpt x y KF) := (by rw [← hKF]; exact hKeep_kpt x y)
  have HF : Hid (wrk (List.replicate x.length (-1)) (pcs (hmid x y) x y (x.length + 1) 0 x.length 0 y.length) = KF) := hKF
  rw [hKF] at hL
  have HWX : Hid (∀ c ∈ x, w64 c) := hwx
  have HWY : Hid (∀ c ∈ y, w64 c) := hwy
  clear hKF hwx hwy
  go_enter Try.func10, Try.ntmps10
  go_wp2_with fail
  refine (pDiff_f x y _ _ w hx hy hxl hyl 29 #[] (enters_of Try.func29 (by kernel_rfl) rfl) KF HK (fun u g xo xc yo yc hS hp => hfind_f x y _ g hxl hyl HWX.out HWY.out (x.length + 1) u _ hS 0 x.length 0 y.length _ _ _ _ _ _ _ _ hp (by omega) KF HF) L hL).mono ?_
  rintro e w2 ⟨v2, rfl, hv2, hB2⟩
  go_wp2
  go_ret2
  exact ⟨_, rfl, hv2, hB2⟩
set_option maxHeartbeats 2000000 in
theorem hiDiff_long (x y : List Int) (vx vy : Value) (w : World) (hx : HI w vx x) (hy : HI w vy y) (hl : 4096 < x.length ∨ 4096 < y.length) :
    Calls Try.prog 10 #[vx, vy] w fun e w' => e = .returned (.tuple #[.slice none 0 0, .int .i64 9]) ∧ Below w.heap.size w w' := by
  obtain ⟨xo, xc, rfl⟩ := Holds.form hx
  obtain ⟨yo, yc, rfl⟩ := Holds.form hy
  have HL : Hid (4096 < x.length ∨ 4096 < y.length) := hl
  clear hl
  go_enter Try.func10, Try.ntmps10
  go_wp2_with fail
  refine (pDiff_long x y _ _ _ w hx hy HL.out).mono ?_
  rintro e w2 ⟨rfl, rfl⟩
  go_wp2
  go_ret2
  exact ⟨rfl, Below.refl _ _⟩
end Go.Proofs.Yteplejpbgajecab

/- Which rows are the same, told by the script; SameInts of any two rows, walked. -/
namespace Go.Proofs.Yteplejpbgajecab
open Go.RowKit

theorem kp_self (b : Int) (x : List Int) : kp b x x = (List.range x.length).map fun (j : Nat) => b + (j : Int) := by
  induction x generalizing b with
  | nil => rw [kp_nil]; rfl
  | cons a x ih =>
    rw [kp_cons, if_pos rfl, ih, List.length_cons, List.range_succ_eq_map, List.map_cons, List.map_map]
    simp
    intro j _
    omega
theorem mk_nil (x y : List Int) (hx : x.length ≤ 4096) (hy : y.length ≤ 4096) : mkL (kp 0 x y) y.length = [] ↔ x = y := by
  constructor
  · intro h
    have hv : Vk 0 (y.length : Int) (kp 0 x y) := by
      have := kp_vk 0 x y (Int.le_refl _)
      rwa [Int.zero_add] at this
    have hl := kp_length 0 x y
    obtain ⟨⟨_, _, hS⟩, hU⟩ := mk_script hv (by omega) (by omega) (by rw [hl]; omega)
    rw [h] at hS hU
    rw [U_nil] at hU
    have hnm : x.length = y.length := by
      have h1 := hS.2.2
      rw [hl] at h1
      omega
    apply List.ext_getElem hnm
    intro i h1 h2
    have hm : (⟨(i : Int), (i : Int), 1⟩ : Rn) ∈ keptR 0 (kp 0 x y) := by
      rw [← hU, mem_un]
      rw [hl]
      refine ⟨rfl, ?_, ?_, ?_⟩ <;> dsimp only <;> omega
    rw [mem_keptR] at hm
    obtain ⟨_, _, h3, _⟩ := hm
    dsimp only at h3
    rw [show ((i : Int) - 0).toNat = i by omega] at h3
    obtain ⟨_, c, h4, h5⟩ := kp_same 0 x y (Int.le_refl _) i i h3 (by omega)
    rw [show ((i : Int) - 0).toNat = i by omega] at h5
    rw [List.getElem?_eq_getElem h1] at h4
    rw [List.getElem?_eq_getElem h2] at h5
    rw [Option.some.inj h4, Option.some.inj h5]
  · rintro rfl
    unfold mkL
    rw [kp_self, keptR_run 0 0 (Int.le_refl _), betw_un]
    simp [betw]
theorem gr_step (x y : List Int) (j i : Nat) (hj : j < x.length) (hi : i < y.length) : gr (x.drop j) (y.drop i) = if x[j] = y[i] then gr (x.drop (j + 1)) (y.drop (i + 1)) + 1 else gr (x.drop j) (y.drop (i + 1)) := by
  rw [List.drop_eq_getElem_cons hj, List.drop_eq_getElem_cons hi, gr]
theorem gr_end (x y : List Int) (j i : Nat) (h : x.length ≤ j ∨ y.length ≤ i) : gr (x.drop j) (y.drop i) = 0 := by
  rcases h with h | h
  · rw [List.drop_of_length_le h]; cases y.drop i <;> rfl
  · rw [List.drop_of_length_le h]; cases x.drop j <;> rfl

set_option maxHeartbeats 1000000 in
theorem SameI_dec (va vb : Value) (a b : List Int) (w : World) (ha : HI w va a) (hb : HI w vb b) (ha' : a.length ≤ 1048576) (r : Bool) (hr : Hid (r = decide (a = b))) :
    Calls Try.prog 13 #[va, vb] w fun e w' => e = .returned (.bool r) ∧ Below w.heap.size w w' := by
  obtain ⟨ao, ca, rfl⟩ := Holds.form ha
  obtain ⟨bo, cb, rfl⟩ := Holds.form hb
  by_cases hl : a.length = b.length
  · have HB : Hid (HI w (.slice bo b.length cb) b) := hb
    rw [← hl] at hb
    have HL : Hid (a.length = b.length) := hl
    go_enter Try.func13, Try.ntmps13
    rw [← hl]
    clear hl
    go_wp2
    go_loopw [5] (fun i wr => ∃ k m : Nat, k ≤ a.length ∧ i = .int .i64 k ∧ wr = w.drewN m ∧ Hid (a.take k = b.take k)) (fun i _ => a.length - (intOf i).toNat)
    case atStart => exact ⟨0, 0, Nat.zero_le _, rfl, rfl, (by show _ = _; simp)⟩
    case round =>
      obtain ⟨k, m, hk, rfl, rfl, hT⟩ := hrel
      by_cases hlt : k < a.length
      · have hlt' : k < b.length := by have := HL.out; omega
        obtain ⟨b1, o1, rfl, _, hc1⟩ := HI.at ha (by omega)
        obtain ⟨b2, o2, rfl, _, hc2⟩ := HI.at (n := a.length) hb (by omega)
        have d1 := hc1 k hlt
        have d2 := hc2 k hlt'
        have HT : Hid (a.take (k + 1) = a.take k ++ [a[k]] ∧ b.take (k + 1) = b.take k ++ [b[k]]) := ⟨List.take_succ_eq_append_getElem hlt, List.take_succ_eq_append_getElem hlt'⟩
        have HNE : Hid (a[k] ≠ b[k] → a ≠ b) := (by
          show _ → _
          intro h e
          subst e
          exact h rfl)
        obtain ⟨xk, hxk⟩ : ∃ z, a[k] = z := ⟨_, rfl⟩
        obtain ⟨yk, hyk⟩ : ∃ z, b[k] = z := ⟨_, rfl⟩
        rw [hxk] at d1 HT HNE
        rw [hyk] at d2 HT HNE
        clear hc1 hc2 hxk hyk
        have i1 : 0 ≤ (k : Int) := by omega
        have i2 : (k : Int) < (a.length : Int) := by omega
        by_cases hxy : xk = yk
        · have HT2 : Hid (a.take (k + 1) = b.take (k + 1)) := (by show _ = _; rw [HT.out.1, HT.out.2, hT.out, hxy])
          go_wp2_with fail
          go_quiet (fail)
          go_wp2
          go_roundw
          case rel => exact ⟨k + 1, _, by omega, by go_num, rfl, HT2⟩
          case measure => simp [intOf]; omega
        · have hxy' : decide (xk = yk) = false := decide_eq_false hxy
          obtain rfl : r = false := by rw [hr.out]; exact decide_eq_false (HNE.out hxy)
          go_wp2_with fail
          go_quiet (fail)
          go_wp2
          go_ret
          exact ⟨rfl, Below.dN (Below.dN (Below.refl _ w) _) _⟩
      · obtain rfl : r = true := by
          rw [hr.out]
          apply decide_eq_true
          have h := hT.out
          rw [List.take_of_length_le (by omega), List.take_of_length_le (by have := HL.out; omega)] at h
          exact h
        go_wp2
        go_ret
        exact ⟨rfl, Below.dN (Below.refl _ w) _⟩
  · obtain rfl : r = false := by
      rw [hr.out]
      exact decide_eq_false (fun e => hl (by rw [e]))
    have hl' : ¬ (a.length : Int) = (b.length : Int) := by omega
    have hl2 : decide ((a.length : Int) = (b.length : Int)) = false := decide_eq_false hl'
    go_enter Try.func13, Try.ntmps13
    go_wp2
    go_ret
    exact ⟨rfl, Below.refl _ _⟩
end Go.Proofs.Yteplejpbgajecab
