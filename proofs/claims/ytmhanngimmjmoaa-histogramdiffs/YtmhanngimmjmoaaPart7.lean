/-
  Texts that belong together, joined: HiFd, MiWm, EdRMk, MiTb, PaLs, PaTr, MiRk.
-/
import Derived.Test.YtmhanngimmjmoaaPart6
import Derived.Laws.Rows
import Derived.Deep.CutRange

/- histogram.find and histogram.Diff, walked. -/
namespace Go.Proofs.Ytmhanngimmjmoaa
open Go.RowKit

theorem Best_f (x y : List Int) (vx vy : Value) (w : World) (hx : HI w vx x) (hy : HI w vy y) (hxl : x.length ≤ 1048576) (hyl : y.length ≤ 1048576) (hwx : ∀ c ∈ x, w64 c) (hwy : ∀ c ∈ y, w64 c) (o : Option Hr) (ho : Hid (best x y = o)) :
    Calls Try.prog 22 #[vx, vy] w fun e w' => e = .returned (.tuple #[hrV (o.getD ⟨0, 0, 0, 0⟩), .bool o.isSome]) ∧ Below w.heap.size w w' := by
  rcases Nat.eq_zero_or_pos (rs x 0 y) with h | h
  · have e : o = none := by
      rw [← ho.out]
      cases hb : best x y with
      | none => rfl
      | some r => exact absurd (best_some hb).1 (rs_zero h r)
    subst e
    exact Best_none x y vx vy w hx hy hxl hyl hwx hwy h
  · have e : o = some (pickL btC ⟨0, 0, 0, 0⟩ (cands x y (rs x 0 y))) := by rw [← ho.out]; exact best_of (code_best (rs_rst rfl h))
    subst e
    exact Best_some x y vx vy w hx hy hxl hyl hwx hwy _ rfl h _ rfl

set_option maxRecDepth 10000 in
set_option maxHeartbeats 8000000 in
theorem hfind_f (x y : List Int) (W0 : World) (g : Nat) (hxl : x.length ≤ 4096) (hyl : y.length ≤ 4096) (hwx : ∀ c ∈ x, w64 c) (hwy : ∀ c ∈ y, w64 c) (f : Nat) : ∀ (w : World) (K : List Int) (_ : Ls W0 g x.length K w) (a b c d : Nat) (xo : Option Addr) (nx xc : Nat) (yo : Option Addr) (ny yc : Nat) (ko : Option Addr) (kc : Nat) (_ : Pz W0 g x y a b c d xo nx xc yo ny yc ko kc) (_ : b - a < f) (KF : List Int) (_ : Hid (wrk K (pcs (hmid x y) x y f a b c d) = KF)),
    Calls Try.prog 55 #[.agg #[.slice xo nx xc, .slice yo ny yc, .int .i64 (c : Int), .slice ko nx kc]] w fun e w' => e = .returned (.tuple #[]) ∧ Ls W0 g x.length KF w' ∧ w.grownBy w' (some g) := by
  induction f with
  | zero => intro w K hS a b c d xo nx xc yo ny yc ko kc hp hf; omega
  | succ f ih =>
    intro w K hS a b c d xo nx xc yo ny yc ko kc hp hf KF hKF
    have hg := hS.lt
    have HKF : Hid (∀ k m, k = tf x y a b c d → m = tb x y (a + k) b (c + k) d → wrk (wrk K (fp a c k ++ bp b d m)) (if a + k < b - m ∧ c + k < d - m then hmid x y (pcs (hmid x y) x y f) (a + k) (b - m) (c + k) (d - m) else []) = KF) := (by
      intro k m hk hm
      rw [← hKF.out, pcs, ends, ← hk, ← hm, wrk_append, wrk_append, wrk_append])
    have hQ0 := Qbx.new w (.slice xo nx xc) (.slice yo ny yc) (.int .i64 c) (.slice ko nx kc)
    have hB0 := (Below.refl w.heap.size w).alloc (Nat.le_refl _) (.cells #[.slice xo nx xc, .slice yo ny yc, .int .i64 c, .slice ko nx kc] 64)
    clear hKF
    go_enter Try.func55, Try.ntmps55
    go_wp2_with fail
    refine (KeepEnds_f x y W0 _ g K a b c d xo nx xc yo ny yc ko kc hp hxl hyl (hS.keep hB0)).mono ?_
    rintro e w1 ⟨k, m, xo1, nx1, xc1, yo1, ny1, yc1, ko1, kc1, hk, hm, rfl, hp1, hS1, hG1⟩
    have HK2 := HKF.out k m hk hm
    have hkl := tf_le x y a b c d
    have hml := tb_le x y (a + k) b (c + k) d
    rw [← hk] at hkl
    rw [← hm] at hml
    have hQ1 := hQ0.keep hG1 (by simp; omega)
    have hG1' : w.grownBy w1 (some g) := (low_grown hB0 _).trans hG1
    have hb0 := hp.eb
    have hf' := hp.bx
    clear hk hm HKF hS hB0 hQ0 hG1 hp
    obtain ⟨A, hA⟩ : ∃ A, a + k = A := ⟨_, rfl⟩
    obtain ⟨C, hC⟩ : ∃ C, c + k = C := ⟨_, rfl⟩
    obtain ⟨b1, hb1⟩ : ∃ B, b - m = B := ⟨_, rfl⟩
    obtain ⟨d1, hd1⟩ : ∃ D, d - m = D := ⟨_, rfl⟩
    obtain ⟨K1, hK1⟩ : ∃ K1, wrk K (fp a c k ++ bp b d m) = K1 := ⟨_, rfl⟩
    rw [hK1] at hS1 HK2
    rw [hA, hC, hb1, hd1] at HK2 hp1
    rw [hC]
    have HK3 : Hid (wrk K1 (if A < b1 ∧ C < d1 then hmid x y (pcs (hmid x y) x y f) A b1 C d1 else []) = KF) := HK2
    have hf1 : b1 - A ≤ f := by omega
    clear hA hC hb1 hd1 hK1 hkl hml hf HK2 hb0 hf'
    obtain ⟨c0, c1, c2, c3⟩ := hQ1.cells
    have f0 := hQ1.frozen
    have hQ2 := hQ1.put (.slice xo1 nx1 xc1) (.slice yo1 ny1 yc1) (.int .i64 (C : Int)) (.slice ko1 nx1 kc1)
    have hgw := hS1.low.size
    have hS2 := ls_other (ls_other (ls_other (ls_other hS1 (g := w.heap.size) (by omega) (by omega) 0 (.slice xo1 nx1 xc1)) (g := w.heap.size) (by omega) (by omega) 1 (.slice yo1 ny1 yc1)) (g := w.heap.size) (by omega) (by omega) 2 (.int .i64 (C : Int))) (g := w.heap.size) (by omega) (by omega) 3 (.slice ko1 nx1 kc1)
    have hG2 := grown_new (grown_new (grown_new (grown_new hG1' (B := w.heap.size) (by omega) 0 (.slice xo1 nx1 xc1)) (B := w.heap.size) (by omega) 1 (.slice yo1 ny1 yc1)) (B := w.heap.size) (by omega) 2 (.int .i64 (C : Int))) (B := w.heap.size) (by omega) 3 (.slice ko1 nx1 kc1)
    obtain ⟨W2, hW2⟩ : ∃ W2, (((w1.setCell ⟨w.heap.size, 0, none⟩ (.slice xo1 nx1 xc1)).setCell ⟨w.heap.size, 1, none⟩ (.slice yo1 ny1 yc1)).setCell ⟨w.heap.size, 2, none⟩ (.int .i64 (C : Int))).setCell ⟨w.heap.size, 3, none⟩ (.slice ko1 nx1 kc1) = W2 := ⟨_, rfl⟩
    rw [hW2] at hQ2 hS2 hG2
    unfold pzV
    have hAb := hp1.eb
    have hCd := hp1.ed
    obtain ⟨r, hr⟩ : ∃ r, r = decide (nx1 = 0 ∨ ny1 = 0) := ⟨_, rfl⟩
    have HR : Hid (r = decide (nx1 = 0 ∨ ny1 = 0)) := hr
    obtain ⟨q0, q1, q2, q3⟩ := hQ2.cells
    clear hr
    go_wp2_with fail
    refine (Empty_f xo1 nx1 xc1 yo1 ny1 yc1 C ko1 kc1 W2 r HR).mono ?_
    rintro e w3 ⟨rfl, hB3⟩
    clear q0 q1 q2 q3 c0 c1 c2 c3 f0 hW2 hQ1 hS1 hG1'
    have hQ3 := hQ2.low hB3
    have hS3 := hS2.keep hB3
    have hG3 := hG2.trans (low_grown hB3 (some g))
    clear hQ2 hS2 hG2 hB3
    cases r with
    | true =>
      have e : K1 = KF := by
        have h1 := of_decide_eq_true HR.out.symm
        have := HK3.out
        rw [if_neg (by omega)] at this
        exact this
      subst e
      go_wp2
      (try simp only [Exit.inBlock, Exit.then])
      refine bodyPost_ret (results_none rfl _ _ _) rfl ?_
      exact ⟨rfl, hS3, hG3⟩
    | false =>
      have h1 := of_decide_eq_false HR.out.symm
      have hm0 : A < b1 ∧ C < d1 := by omega
      have HK2 : Hid (wrk K1 (hmid x y (pcs (hmid x y) x y f) A b1 C d1) = KF) := (by
        show _ = _
        have := HK3.out
        rw [if_pos hm0] at this
        exact this)
      clear HK3 HR
      have hbx := hp1.bx
      have hdy := hp1.dy
      obtain ⟨X, hX⟩ : ∃ X, sub x A b1 = X := ⟨_, rfl⟩
      obtain ⟨Y, hY⟩ : ∃ Y, sub y C d1 = Y := ⟨_, rfl⟩
      have hXl : X.length = nx1 := by rw [← hX, sub_length x A b1 hbx]; omega
      have hYl : Y.length = ny1 := by rw [← hY, sub_length y C d1 hdy]; omega
      have hx3 : HI w3 (.slice xo1 nx1 xc1) X := by
        unfold HI
        rw [hXl, ← hX]
        exact Holds.keep hp1.hx (fun q hq => hS3.low.block q hq)
      have hy3 : HI w3 (.slice yo1 ny1 yc1) Y := by
        unfold HI
        rw [hYl, ← hY]
        exact Holds.keep hp1.hy (fun q hq => hS3.low.block q hq)
      have HW : Hid ((∀ c ∈ X, w64 c) ∧ (∀ c ∈ Y, w64 c)) := (by
        refine ⟨fun c hc => hwx c ?_, fun c hc => hwy c ?_⟩
        · rw [← hX] at hc
          exact List.mem_of_mem_drop (List.mem_of_mem_take hc)
        · rw [← hY] at hc
          exact List.mem_of_mem_drop (List.mem_of_mem_take hc))
      have HX : Hid (X.length ≤ 1048576 ∧ Y.length ≤ 1048576) := (by refine ⟨?_, ?_⟩ <;> omega)
      obtain ⟨o, ho⟩ : ∃ o, best X Y = o := ⟨_, rfl⟩
      have HO : Hid (best X Y = o) := ho
      have HK4 : Hid (wrk K1 (hsel x y (pcs (hmid x y) x y f) A b1 C d1 o) = KF) := (by
        show _ = _
        have := HK2.out
        rw [hmid, hX, hY, ho] at this
        exact this)
      have HIn : Hid (∀ r, o = some r → 0 < r.N ∧ A + r.X + r.N ≤ b1 ∧ C + r.Y + r.N ≤ d1 ∧ r.R ≤ 4096) := (by
        intro r hr
        have hrun := (best_some (ho.trans hr)).1
        have h2 := run_in (x := x) (y := y) (a := A) (b := b1) (c := C) (d := d1) hbx hdy (by rw [hX, hY]; exact hrun)
        have h3 : r.R ≤ X.length := by
          rw [hrun.r]
          have : ∀ n, rar X r.X n ≤ X.length := by
            intro n
            induction n with
            | zero => exact Nat.le_refl _
            | succ n ih => rw [rar]; omega
          exact this _
        exact ⟨h2.1, h2.2.1, h2.2.2.1, by omega⟩)
      clear hX hY hXl hYl HK2 ho
      obtain ⟨q0, q1, q2, q3⟩ := hQ3.cells
      go_wp2_with fail
      refine (Best_f X Y _ _ w3 hx3 hy3 HX.out.1 HX.out.2 HW.out.1 HW.out.2 o HO).mono ?_
      rintro e w4 ⟨rfl, hB4⟩
      have hQ4 := hQ3.low hB4
      have hS4 := hS3.keep hB4
      have hG4 := hG3.trans (low_grown hB4 (some g))
      clear q0 q1 q2 q3 hx3 hy3 HW HX HO hQ3 hS3 hG3 hB4
      have hs4 := hS4.low.size
      have hl4 := hS4.lt
      have hg4 := hG4.size
      have hq4 := hQ4.lt
      cases o with
      | none =>
        have e : K1 = KF := HK4.out
        subst e
        have hLn : Below w4.heap.size w4 (w4.alloc (.cells #[.int .i64 ((0 : Nat) : Int), .int .i64 ((0 : Nat) : Int), .int .i64 ((0 : Nat) : Int), .int .i64 ((0 : Nat) : Int)] 50)) := (Below.refl _ w4).alloc (Nat.le_refl _) _
        have hS5 := hS4.keep hLn
        have hG5 := hG4.trans (low_grown hLn (some g))
        simp only [Option.getD_none, Option.isSome_none, hrV]
        go_wp2
        (try simp only [Exit.inBlock, Exit.then])
        refine bodyPost_ret (results_none rfl _ _ _) rfl ?_
        exact ⟨rfl, hS5, hG5⟩
      | some r =>
        obtain ⟨hr1, hr2, hr3, hr4⟩ := HIn.out r rfl
        obtain ⟨rX, rY, rN, rR⟩ := r
        simp only at hr1 hr2 hr3 hr4
        have HK4 : Hid (wrk K1 (if 64 < rR then lp A C (kp 0 (sub x A b1) (sub y C d1)) else fp (A + rX) (C + rY) rN ++ (pcs (hmid x y) x y f A (A + rX) C (C + rY) ++ pcs (hmid x y) x y f (A + rX + rN) b1 (C + rY + rN) d1)) = KF) := HK4
        simp only [Option.getD_some, Option.isSome_some, hrV]
        have hHb := Hbx.new w4 ⟨rX, rY, rN, rR⟩
        have hLn : Below w4.heap.size w4 (w4.alloc (.cells #[.int .i64 (rX : Int), .int .i64 (rY : Int), .int .i64 (rN : Int), .int .i64 (rR : Int)] 50)) := (Below.refl _ w4).alloc (Nat.le_refl _) _
        have hQ5 := hQ4.low hLn
        have hS5 := hS4.keep hLn
        have hG5 := hG4.trans (low_grown hLn (some g))
        obtain ⟨W5, hW5⟩ : ∃ W5, w4.alloc (.cells #[.int .i64 (rX : Int), .int .i64 (rY : Int), .int .i64 (rN : Int), .int .i64 (rR : Int)] 50) = W5 := ⟨_, rfl⟩
        have hgB : g ≠ w4.heap.size := by omega
        obtain ⟨B5, hB5⟩ : ∃ B, w4.heap.size = B := ⟨_, rfl⟩
        rw [hW5] at hHb hQ5 hS5 hG5
        rw [hB5] at hHb hgB
        clear hQ4 hS4 hG4 hLn HIn
        obtain ⟨q0, q1, q2, q3⟩ := hQ5.cells
        obtain ⟨t0, t1, t2, t3⟩ := hHb.cells
        by_cases h64 : 64 < rR
        · have e64 : decide ((64 : Int) < (rR : Int)) = true := decide_eq_true (by omega)
          have HK5 : Hid (wrk K1 (lp A C (kp 0 (sub x A b1) (sub y C d1))) = KF) := (by
            show _ = _
            have := HK4.out
            rw [if_pos h64] at this
            exact this)
          clear HK4
          go_wp2_with fail
          clear hW5 hB5
          refine (KeepMost_f x y W0 W5 g K1 A b1 C d1 xo1 nx1 xc1 yo1 ny1 yc1 ko1 kc1 hp1 hxl hyl hS5 KF HK5).mono ?_
          rintro e w6 ⟨rfl, hS6, hG6⟩
          have hG7 := hG5.trans hG6
          go_wp2
          (try simp only [Exit.inBlock, Exit.then])
          refine bodyPost_ret (results_none rfl _ _ _) rfl ?_
          exact ⟨rfl, hS6, hG7⟩
        · have e64 : decide ((64 : Int) < (rR : Int)) = false := decide_eq_false (by omega)
          have e64' : decide (64 < rR) = false := decide_eq_false h64
          obtain ⟨K6, hK6⟩ : ∃ K6, wrk K1 (fp (A + rX) (C + rY) rN) = K6 := ⟨_, rfl⟩
          obtain ⟨u2, hu⟩ : ∃ u, A + rX = u := ⟨_, rfl⟩
          obtain ⟨v2, hv⟩ : ∃ v, C + rY = v := ⟨_, rfl⟩
          obtain ⟨K7, hK7⟩ : ∃ K7, wrk K6 (pcs (hmid x y) x y f A u2 C v2) = K7 := ⟨_, rfl⟩
          have HK7 : Hid (wrk K6 (pcs (hmid x y) x y f A u2 C v2) = K7) := hK7
          obtain ⟨p2, hp2⟩ : ∃ p, rX + rN = p := ⟨_, rfl⟩
          obtain ⟨p3, hp3⟩ : ∃ p, rY + rN = p := ⟨_, rfl⟩
          obtain ⟨u3, hu3⟩ : ∃ u, A + p2 = u := ⟨_, rfl⟩
          obtain ⟨v3, hv3⟩ : ∃ v, C + p3 = v := ⟨_, rfl⟩
          have HK8 : Hid (wrk K7 (pcs (hmid x y) x y f u3 b1 v3 d1) = KF) := (by
            show _ = _
            have := HK4.out
            rw [if_neg h64, wrk_append, wrk_append, hK6, hu, hv, hK7, show u2 + rN = u3 by omega, show v2 + rN = v3 by omega] at this
            exact this)
          clear HK4 hK7
          go_wp2_with fail
          clear hW5 hB5
          refine (Keep_f K1 xo1 nx1 xc1 yo1 ny1 yc1 A C ko1 kc1 W5 rX rY rN hS5 hp1.at' (by omega) (by omega) (by omega) (by omega)).mono ?_
          rintro e w6 ⟨rfl, hS6, hG6⟩
          rw [hK6] at hS6
          have hQ6 := hQ5.keep hG6 (by simp; omega)
          have hH6 := hHb.keep hG6 (by simp; omega)
          have hG6' := hG5.trans hG6
          clear hK6 hQ5 hHb hS5 hG5 hG6 q0 q1 q2 q3 t0 t1 t2 t3
          obtain ⟨q0, q1, q2, q3⟩ := hQ6.cells
          obtain ⟨t0, t1, t2, t3⟩ := hH6.cells
          go_wp2_with fail
          refine (UpTo_p hp1 rX rY u2 v2 (by omega) (by omega) hu hv w6 w6 (Below.refl _ _)).mono ?_
          rintro e w7 ⟨xo2, nx2, xc2, yo2, ny2, yc2, ko2, kc2, rfl, hpa, hL7⟩
          have hS7 := hS6.keep hL7
          have hQ7 := hQ6.low hL7
          have hH7 := hH6.low hL7
          have hG7 := hG6'.trans (low_grown hL7 (some g))
          clear hQ6 hH6 hS6 hG6' hL7 q0 q1 q2 q3 t0 t1 t2 t3
          go_wp2_with fail
          refine (ih w7 K6 hS7 A u2 C v2 xo2 nx2 xc2 yo2 ny2 yc2 ko2 kc2 hpa (by omega) K7 HK7).mono ?_
          rintro e w8 ⟨rfl, hS8, hG8⟩
          have hQ8 := hQ7.keep hG8 (by simp; omega)
          have hH8 := hH7.keep hG8 (by simp; omega)
          have hG8' := hG7.trans hG8
          clear hQ7 hH7 hS7 hG7 hG8 hpa
          obtain ⟨q0, q1, q2, q3⟩ := hQ8.cells
          obtain ⟨t0, t1, t2, t3⟩ := hH8.cells
          have n1 : (rX : Int) + (rN : Int) = (p2 : Int) := by omega
          have n2 : (rY : Int) + (rN : Int) = (p3 : Int) := by omega
          go_wp2_with fail
          refine (From_p hp1 hyl p2 p3 u3 v3 (by omega) (by omega) hu3 hv3 w8 w8 (Below.refl _ _)).mono ?_
          rintro e w9 ⟨xo3, nx3, xc3, yo3, ny3, yc3, ko3, kc3, rfl, hpb, hL9⟩
          have hS9 := hS8.keep hL9
          have hG9 := hG8'.trans (low_grown hL9 (some g))
          clear hQ8 hH8 hS8 hG8' hL9 q0 q1 q2 q3 t0 t1 t2 t3
          go_wp2_with fail
          refine (ih w9 K7 hS9 u3 b1 v3 d1 xo3 nx3 xc3 yo3 ny3 yc3 ko3 kc3 hpb (by omega) KF HK8).mono ?_
          rintro e w10 ⟨rfl, hS10, hG10⟩
          have hG11 := hG9.trans hG10
          go_wp2
          go_end0
          exact ⟨rfl, hS10, hG11⟩

set_option maxRecDepth 10000 in
set_option maxHeartbeats 2000000 in
theorem hiDiff_f (x y : List Int) (vx vy : Value) (w : World) (hx : HI w vx x) (hy : HI w vy y) (hxl : x.length ≤ 4096) (hyl : y.length ≤ 4096) (hwx : ∀ c ∈ x, w64 c) (hwy : ∀ c ∈ y, w64 c) (L : List Ch) (hL : Hid (mkL (hKeep x y) y.length = L)) :
    Calls Try.prog 24 #[vx, vy] w fun e w' => ∃ v', e = .returned (.tuple #[v', .int .i64 0]) ∧ HCh w' v' L ∧ Below w.heap.size w w' := by
  obtain ⟨xo, xc, rfl⟩ := Holds.form hx
  obtain ⟨yo, yc, rfl⟩ := Holds.form hy
  obtain ⟨KF, hKF⟩ : ∃ KF, hKeep x y = KF := ⟨_, rfl⟩
  have HK : Hid (Kpt x y KF) := (by rw [← hKF]; exact hKeep_kpt x y)
  have HF : Hid (wrk (List.replicate x.length (-1)) (pcs (hmid x y) x y (x.length + 1) 0 x.length 0 y.length) = KF) := hKF
  rw [hKF] at hL
  have HWX : Hid (∀ c ∈ x, w64 c) := hwx
  have HWY : Hid (∀ c ∈ y, w64 c) := hwy
  clear hKF hwx hwy
  go_enter Try.func24, Try.ntmps24
  go_wp2_with fail
  refine (pDiff_f x y _ _ w hx hy hxl hyl 55 #[] (enters_of Try.func55 (by kernel_rfl) rfl) KF HK (fun u g xo xc yo yc hS hp => hfind_f x y _ g hxl hyl HWX.out HWY.out (x.length + 1) u _ hS 0 x.length 0 y.length _ _ _ _ _ _ _ _ hp (by omega) KF HF) L hL).mono ?_
  rintro e w2 ⟨v2, rfl, hv2, hB2⟩
  go_wp2
  go_ret2
  exact ⟨_, rfl, hv2, hB2⟩
set_option maxHeartbeats 2000000 in
theorem hiDiff_long (x y : List Int) (vx vy : Value) (w : World) (hx : HI w vx x) (hy : HI w vy y) (hl : 4096 < x.length ∨ 4096 < y.length) :
    Calls Try.prog 24 #[vx, vy] w fun e w' => e = .returned (.tuple #[.slice none 0 0, .int .i64 9]) ∧ Below w.heap.size w w' := by
  obtain ⟨xo, xc, rfl⟩ := Holds.form hx
  obtain ⟨yo, yc, rfl⟩ := Holds.form hy
  have HL : Hid (4096 < x.length ∨ 4096 < y.length) := hl
  clear hl
  go_enter Try.func24, Try.ntmps24
  go_wp2_with fail
  refine (pDiff_long x y _ _ _ w hx hy HL.out).mono ?_
  rintro e w2 ⟨rfl, rfl⟩
  go_wp2
  go_ret2
  exact ⟨rfl, Below.refl _ _⟩
end Go.Proofs.Ytmhanngimmjmoaa

/- Which rows are the same, told by the script; SameInts of any two rows, walked. -/
namespace Go.Proofs.Ytmhanngimmjmoaa
open Go.RowKit

theorem kp_self (b : Int) (x : List Int) : kp b x x = (List.range x.length).map fun (j : Nat) => b + (j : Int) := by
  induction x generalizing b with
  | nil => rw [kp_nil]; rfl
  | cons a x ih =>
    rw [kp_cons, if_pos rfl, ih, List.length_cons, List.range_succ_eq_map, List.map_cons, List.map_map]
    simp
    intro j _
    omega
theorem mk_nil (x y : List Int) (hx : x.length ≤ 4096) (hy : y.length ≤ 4096) : mkL (kp 0 x y) y.length = [] ↔ x = y := by
  constructor
  · intro h
    have hv : Vk 0 (y.length : Int) (kp 0 x y) := by
      have := kp_vk 0 x y (Int.le_refl _)
      rwa [Int.zero_add] at this
    have hl := kp_length 0 x y
    obtain ⟨⟨_, _, hS⟩, hU⟩ := mk_script hv (by omega) (by omega) (by rw [hl]; omega)
    rw [h] at hS hU
    rw [U_nil] at hU
    have hnm : x.length = y.length := by
      have h1 := hS.2.2
      rw [hl] at h1
      omega
    apply List.ext_getElem hnm
    intro i h1 h2
    have hm : (⟨(i : Int), (i : Int), 1⟩ : Rn) ∈ keptR 0 (kp 0 x y) := by
      rw [← hU, mem_un]
      rw [hl]
      refine ⟨rfl, ?_, ?_, ?_⟩ <;> dsimp only <;> omega
    rw [mem_keptR] at hm
    obtain ⟨_, _, h3, _⟩ := hm
    dsimp only at h3
    rw [show ((i : Int) - 0).toNat = i by omega] at h3
    obtain ⟨_, c, h4, h5⟩ := kp_same 0 x y (Int.le_refl _) i i h3 (by omega)
    rw [show ((i : Int) - 0).toNat = i by omega] at h5
    rw [List.getElem?_eq_getElem h1] at h4
    rw [List.getElem?_eq_getElem h2] at h5
    rw [Option.some.inj h4, Option.some.inj h5]
  · rintro rfl
    unfold mkL
    rw [kp_self, keptR_run 0 0 (Int.le_refl _), betw_un]
    simp [betw]
theorem gr_step (x y : List Int) (j i : Nat) (hj : j < x.length) (hi : i < y.length) : gr (x.drop j) (y.drop i) = if x[j] = y[i] then gr (x.drop (j + 1)) (y.drop (i + 1)) + 1 else gr (x.drop j) (y.drop (i + 1)) := by
  rw [List.drop_eq_getElem_cons hj, List.drop_eq_getElem_cons hi, gr]
theorem gr_end (x y : List Int) (j i : Nat) (h : x.length ≤ j ∨ y.length ≤ i) : gr (x.drop j) (y.drop i) = 0 := by
  rcases h with h | h
  · rw [List.drop_of_length_le h]; cases y.drop i <;> rfl
  · rw [List.drop_of_length_le h]; cases x.drop j <;> rfl

set_option maxHeartbeats 1000000 in
theorem SameI_dec (va vb : Value) (a b : List Int) (w : World) (ha : HI w va a) (hb : HI w vb b) (ha' : a.length ≤ 1048576) (r : Bool) (hr : Hid (r = decide (a = b))) :
    Calls Try.prog 17 #[va, vb] w fun e w' => e = .returned (.bool r) ∧ Below w.heap.size w w' := by
  obtain ⟨ao, ca, rfl⟩ := Holds.form ha
  obtain ⟨bo, cb, rfl⟩ := Holds.form hb
  by_cases hl : a.length = b.length
  · have HB : Hid (HI w (.slice bo b.length cb) b) := hb
    rw [← hl] at hb
    have HL : Hid (a.length = b.length) := hl
    go_enter Try.func17, Try.ntmps17
    rw [← hl]
    clear hl
    go_wp2
    go_loopw [5] (fun i wr => ∃ k m : Nat, k ≤ a.length ∧ i = .int .i64 k ∧ wr = w.drewN m ∧ Hid (a.take k = b.take k)) (fun i _ => a.length - (intOf i).toNat)
    case atStart => exact ⟨0, 0, Nat.zero_le _, rfl, rfl, (by show _ = _; simp)⟩
    case round =>
      obtain ⟨k, m, hk, rfl, rfl, hT⟩ := hrel
      by_cases hlt : k < a.length
      · have hlt' : k < b.length := by have := HL.out; omega
        obtain ⟨b1, o1, rfl, _, hc1⟩ := HI.at ha (by omega)
        obtain ⟨b2, o2, rfl, _, hc2⟩ := HI.at (n := a.length) hb (by omega)
        have d1 := hc1 k hlt
        have d2 := hc2 k hlt'
        have HT : Hid (a.take (k + 1) = a.take k ++ [a[k]] ∧ b.take (k + 1) = b.take k ++ [b[k]]) := ⟨List.take_succ_eq_append_getElem hlt, List.take_succ_eq_append_getElem hlt'⟩
        have HNE : Hid (a[k] ≠ b[k] → a ≠ b) := (by
          show _ → _
          intro h e
          subst e
          exact h rfl)
        obtain ⟨xk, hxk⟩ : ∃ z, a[k] = z := ⟨_, rfl⟩
        obtain ⟨yk, hyk⟩ : ∃ z, b[k] = z := ⟨_, rfl⟩
        rw [hxk] at d1 HT HNE
        rw [hyk] at d2 HT HNE
        clear hc1 hc2 hxk hyk
        have i1 : 0 ≤ (k : Int) := by omega
        have i2 : (k : Int) < (a.length : Int) := by omega
        by_cases hxy : xk = yk
        · have HT2 : Hid (a.take (k + 1) = b.take (k + 1)) := (by show _ = _; rw [HT.out.1, HT.out.2, hT.out, hxy])
          go_wp2_with fail
          go_quiet (fail)
          go_wp2
          go_roundw
          case rel => exact ⟨k + 1, _, by omega, by go_num, rfl, HT2⟩
          case measure => simp [intOf]; omega
        · have hxy' : decide (xk = yk) = false := decide_eq_false hxy
          obtain rfl : r = false := by rw [hr.out]; exact decide_eq_false (HNE.out hxy)
          go_wp2_with fail
          go_quiet (fail)
          go_wp2
          go_ret
          exact ⟨rfl, Below.dN (Below.dN (Below.refl _ w) _) _⟩
      · obtain rfl : r = true := by
          rw [hr.out]
          apply decide_eq_true
          have h := hT.out
          rw [List.take_of_length_le (by omega), List.take_of_length_le (by have := HL.out; omega)] at h
          exact h
        go_wp2
        go_ret
        exact ⟨rfl, Below.dN (Below.refl _ w) _⟩
  · obtain rfl : r = false := by
      rw [hr.out]
      exact decide_eq_false (fun e => hl (by rw [e]))
    have hl' : ¬ (a.length : Int) = (b.length : Int) := by omega
    have hl2 : decide ((a.length : Int) = (b.length : Int)) = false := decide_eq_false hl'
    go_enter Try.func17, Try.ntmps17
    go_wp2
    go_ret
    exact ⟨rfl, Below.refl _ _⟩
end Go.Proofs.Ytmhanngimmjmoaa

/- The reference's Make, walked. -/
namespace Go.Proofs.Ytmhanngimmjmoaa
open Go.RowKit

set_option maxRecDepth 10000 in
set_option maxHeartbeats 4000000 in
theorem rMake_f (K : List Int) (m : Int) (L : List Ch) (v : Value) (w : World) (hK : HI w v K) (hlen : K.length ≤ 1048576) (hV : Hid (Vk 0 m K)) (hm0 : 0 ≤ m) (hm : m ≤ 2147483647) (hL : Hid (mkL K m = L)) :
    Calls Try.prog 41 #[v, .int .i64 m] w fun e w' => ∃ v', e = .returned (.tuple #[v', .int .i64 0]) ∧ HCh w' v' L ∧ Below w.heap.size w w' := by
  obtain ⟨ao, ca, rfl⟩ := Holds.form hK
  go_enter Try.func41, Try.ntmps41
  go_wp2
  go_loopw [6, 7] (fun lv iv wr => ∃ (k : Nat) (la : Int), k ≤ K.length ∧ lv = .int .i64 la ∧ iv = .int .i64 (k : Int) ∧ -1 ≤ la ∧ la ≤ m ∧ w = wr ∧ Hid (Vk (la + 1) m (K.drop k))) (fun _ iv _ => K.length - (intOf iv).toNat)
  case atStart => exact ⟨0, -1, Nat.zero_le _, rfl, rfl, by omega, by omega, rfl, hV⟩
  case round =>
    obtain ⟨k, la, hk, rfl, rfl, hl0, hl1, rfl, hR⟩ := hrel
    by_cases hlt : k < K.length
    · obtain ⟨bk, off, rfl, hbk, hc⟩ := HI.at hK (by omega)
      have c0 := hc k hlt
      have hR' := hR.out
      rw [List.drop_eq_getElem_cons hlt] at hR'
      obtain ⟨z, hzd⟩ : ∃ z, K[k] = z := ⟨_, rfl⟩
      rw [hzd] at hR' c0
      clear hc hzd hR
      have i1 : 0 ≤ (k : Int) := by omega
      have i2 : (k : Int) < (K.length : Int) := by omega
      by_cases hz : z = -1
      · subst hz
        have HR : Hid (Vk (la + 1) m (K.drop (k + 1))) := (by
          rcases hR' with ⟨_, h1⟩ | ⟨h1, _⟩
          · exact h1
          · exact absurd rfl h1)
        clear hR'
        go_wp2
        go_roundw
        case rel => exact ⟨k + 1, la, by omega, rfl, by go_num, hl0, hl1, by first | rfl | trivial, HR⟩
        case measure => simp [intOf]; omega
      · have hq : la + 1 ≤ z ∧ z < m ∧ Vk (z + 1) m (K.drop (k + 1)) := by
          rcases hR' with ⟨h1, _⟩ | ⟨_, h1⟩
          · exact absurd h1 hz
          · exact h1
        obtain ⟨q1, q2, q3⟩ := hq
        have HR : Hid (Vk (z + 1) m (K.drop (k + 1))) := q3
        clear hR' q3
        have hz2 : decide (z = -1) = false := decide_eq_false hz
        have n1 : ¬ z ≤ la := by omega
        have n2 : ¬ m ≤ z := by omega
        go_wp2
        go_roundw
        case rel => exact ⟨k + 1, z, by omega, rfl, by go_num, by omega, by omega, by first | rfl | trivial, HR⟩
        case measure => simp [intOf]; omega
    · have n0 : ¬ m < 0 := by omega
      have i2 : ¬ (k : Int) < (K.length : Int) := by omega
      clear hR
      go_wp2
      go_loopw [8, 9, 10, 11] (fun ov av bv iv wr => ∃ (k : Nat) (a b : Int) (X : List Ch), k ≤ K.length + 1 ∧ (∃ oo oc, ov = .slice oo X.length oc) ∧ av = .int .i64 a ∧ bv = .int .i64 b ∧ iv = .int .i64 (k : Int) ∧ 0 ≤ a ∧ a ≤ k ∧ 0 ≤ b ∧ b ≤ m + 1 ∧ St w 46 4 ov X.length (chcells X) wr ∧ X.length ≤ k ∧ Hid ((k ≤ K.length → Vk b m (K.drop k) ∧ b ≤ m ∧ X ++ betw a b (keptR k (K.drop k) ++ [⟨K.length, m, 0⟩]) = L) ∧ (k = K.length + 1 → X = L))) (fun _ _ _ iv _ => K.length + 1 - (intOf iv).toNat)
      case atStart => exact ⟨0, 0, 0, [], Nat.zero_le _, ⟨_, _, rfl⟩, rfl, rfl, rfl, by omega, by omega, by omega, by omega, ⟨World.ownsRow_nil _ _ _ _, Below.refl _ w⟩, Nat.zero_le _, ⟨fun _ => ⟨hV.out, hm0, hL.out⟩, fun h => by omega⟩⟩
      case round =>
        clear hlt i2 hk
        obtain ⟨k, a, b, X, hk, ⟨oo, oc, rfl⟩, rfl, rfl, rfl, ha0, ha1, hb0, hb1, hSt, hX, hR⟩ := hrel
        have hsz := hSt.low.size
        by_cases hlt : k < K.length
        · obtain ⟨bk, off, rfl, hbk, hc⟩ := HI.at (HI.keep hK hSt.low (Nat.le_refl _)) (by omega)
          have c0 := hc k hlt
          have hR' := hR.out.1 (by omega)
          rw [List.drop_eq_getElem_cons hlt] at hR'
          obtain ⟨z, hzd⟩ : ∃ z, K[k] = z := ⟨_, rfl⟩
          rw [hzd] at hR' c0
          clear hc hzd hR
          have i1 : 0 ≤ (k : Int) := by omega
          have i2 : (k : Int) < (K.length : Int) := by omega
          have i3 : (k : Int) ≤ (K.length : Int) := by omega
          by_cases hz : z = -1
          · subst hz
            have HR : Hid ((k + 1 ≤ K.length → Vk b m (K.drop (k + 1)) ∧ b ≤ m ∧ X ++ betw a b (keptR (k + 1 : Nat) (K.drop (k + 1)) ++ [⟨K.length, m, 0⟩]) = L) ∧ (k + 1 = K.length + 1 → X = L)) := (by
              obtain ⟨h1, h2, h3⟩ := hR'
              rw [keptR, if_pos rfl] at h3
              rcases h1 with ⟨_, h1⟩ | ⟨h1, _⟩
              · exact ⟨fun _ => ⟨h1, h2, h3⟩, fun h => by omega⟩
              · exact absurd rfl h1)
            clear hR'
            go_wp2
            go_roundw
            case rel => exact ⟨k + 1, a, b, X, by omega, ⟨_, _, rfl⟩, rfl, rfl, by go_num, ha0, by omega, hb0, hb1, hSt, by omega, HR⟩
            case measure => simp [intOf]; omega
          · have hq : b ≤ z ∧ z < m ∧ Vk (z + 1) m (K.drop (k + 1)) := by
              rcases hR'.1 with ⟨h1, _⟩ | ⟨_, h1⟩
              · exact absurd h1 hz
              · exact h1
            obtain ⟨q1, q2, q3⟩ := hq
            have hz2 : decide (z = -1) = false := decide_eq_false hz
            have h3 := hR'.2.2
            rw [keptR, if_neg hz, List.cons_append, betw] at h3
            dsimp only at h3
            clear hR'
            by_cases hcd : a < (k : Int) ∨ b < z
            · rw [if_pos hcd] at h3
              have HR : Hid ((k + 1 ≤ K.length → Vk (z + 1) m (K.drop (k + 1)) ∧ z + 1 ≤ m ∧ X ++ [⟨a, (k : Int) - a, b, z - b⟩] ++ betw ((k : Int) + 1) (z + 1) (keptR (k + 1 : Nat) (K.drop (k + 1)) ++ [⟨K.length, m, 0⟩]) = L) ∧ (k + 1 = K.length + 1 → X ++ [⟨a, (k : Int) - a, b, z - b⟩] = L)) := ⟨fun _ => ⟨q3, by omega, by rw [← h3]; simp⟩, fun h => by omega⟩
              clear h3 q3
              by_cases hak : a < (k : Int)
              · have n5 : decide (a < (k : Int)) = true := decide_eq_true hak
                go_wp2_with (at_builtin; refine wpList_append_h _ (by kernel_rfl) (.tmp 69) (.tmp 79) 34 46 (.agg #[.int .i64 0, .int .i64 0, .int .i64 0, .int .i64 0]) 4 32 rfl Try.underlying34 infoCh rfl (by decide) (by decide) w.heap.size _ _ _ rfl (hSt.own.alloc _) _ 1 (chcells [⟨a, (k : Int) - a, b, z - b⟩]) rfl (new_holds _ _ _ _ _ (by decide)) rfl (chcells_one _) (by omega) (by simp; omega) ?_)
                intro v2 w2 hown2 hgrow2
                have hSt2 := (st_alloc (Obj.cells #[Value.int IntKind.i64 a, Value.int IntKind.i64 ((k : Int) - a), Value.int IntKind.i64 b, Value.int IntKind.i64 (z - b)] 46) hSt).grown hown2 hgrow2
                obtain ⟨oo2, oc2, rfl⟩ := (holds_of hown2).form
                rw [← chcells_append] at hSt2
                clear hown2 hgrow2 c0
                go_wp2
                go_roundw
                case rel => exact ⟨k + 1, (k : Int) + 1, z + 1, X ++ [⟨a, (k : Int) - a, b, z - b⟩], by omega, ⟨_, _, by rw [List.length_append]; rfl⟩, by go_num, by go_num, by go_num, by omega, by omega, by omega, by omega, by rw [List.length_append]; exact hSt2, by simp; omega, HR⟩
                case measure => simp [intOf]; omega
              · have n6 : b < z := by omega
                go_wp2_with (at_builtin; refine wpList_append_h _ (by kernel_rfl) (.tmp 69) (.tmp 79) 34 46 (.agg #[.int .i64 0, .int .i64 0, .int .i64 0, .int .i64 0]) 4 32 rfl Try.underlying34 infoCh rfl (by decide) (by decide) w.heap.size _ _ _ rfl (hSt.own.alloc _) _ 1 (chcells [⟨a, (k : Int) - a, b, z - b⟩]) rfl (new_holds _ _ _ _ _ (by decide)) rfl (chcells_one _) (by omega) (by simp; omega) ?_)
                intro v2 w2 hown2 hgrow2
                have hSt2 := (st_alloc (Obj.cells #[Value.int IntKind.i64 a, Value.int IntKind.i64 ((k : Int) - a), Value.int IntKind.i64 b, Value.int IntKind.i64 (z - b)] 46) hSt).grown hown2 hgrow2
                obtain ⟨oo2, oc2, rfl⟩ := (holds_of hown2).form
                rw [← chcells_append] at hSt2
                clear hown2 hgrow2 c0
                go_wp2
                go_roundw
                case rel => exact ⟨k + 1, (k : Int) + 1, z + 1, X ++ [⟨a, (k : Int) - a, b, z - b⟩], by omega, ⟨_, _, by rw [List.length_append]; rfl⟩, by go_num, by go_num, by go_num, by omega, by omega, by omega, by omega, by rw [List.length_append]; exact hSt2, by simp; omega, HR⟩
                case measure => simp [intOf]; omega
            · rw [if_neg hcd] at h3
              have HR : Hid ((k + 1 ≤ K.length → Vk (z + 1) m (K.drop (k + 1)) ∧ z + 1 ≤ m ∧ X ++ betw ((k : Int) + 1) (z + 1) (keptR (k + 1 : Nat) (K.drop (k + 1)) ++ [⟨K.length, m, 0⟩]) = L) ∧ (k + 1 = K.length + 1 → X = L)) := ⟨fun _ => ⟨q3, by omega, h3⟩, fun h => by omega⟩
              clear h3 q3
              have n3 : ¬ a < (k : Int) := by omega
              have n4 : ¬ b < z := by omega
              go_wp2
              go_roundw
              case rel => exact ⟨k + 1, (k : Int) + 1, z + 1, X, by omega, ⟨_, _, rfl⟩, by go_num, by go_num, by go_num, by omega, by omega, by omega, by omega, hSt, by omega, HR⟩
              case measure => simp [intOf]; omega
        · by_cases hke : k = K.length
          · have hR' := (hR.out.1 (by omega)).2
            rw [List.drop_of_length_le (by omega), keptR, List.nil_append, betw, betw] at hR'
            dsimp only at hR'
            have HKE : Hid (k = K.length) := hke
            have i2 : ¬ (k : Int) < (K.length : Int) := by omega
            have i3 : (k : Int) ≤ (K.length : Int) := by omega
            have hz2 : decide (m = -1) = false := decide_eq_false (by omega)
            obtain ⟨hbm, h3⟩ := hR'
            rw [← hke] at h3
            clear hR hke
            by_cases hcd : a < (k : Int) ∨ b < m
            · rw [if_pos hcd] at h3
              have HR : Hid ((k + 1 ≤ K.length → Vk (m + 1) m (K.drop (k + 1)) ∧ m + 1 ≤ m ∧ X ++ [⟨a, (k : Int) - a, b, m - b⟩] ++ betw ((k : Int) + 1) (m + 1) (keptR (k + 1 : Nat) (K.drop (k + 1)) ++ [⟨K.length, m, 0⟩]) = L) ∧ (k + 1 = K.length + 1 → X ++ [⟨a, (k : Int) - a, b, m - b⟩] = L)) := ⟨fun h => by have := HKE.out; omega, fun _ => h3⟩
              clear h3
              by_cases hak : a < (k : Int)
              · have n5 : decide (a < (k : Int)) = true := decide_eq_true hak
                go_wp2_with (at_builtin; refine wpList_append_h _ (by kernel_rfl) (.tmp 69) (.tmp 79) 34 46 (.agg #[.int .i64 0, .int .i64 0, .int .i64 0, .int .i64 0]) 4 32 rfl Try.underlying34 infoCh rfl (by decide) (by decide) w.heap.size _ _ _ rfl (hSt.own.alloc _) _ 1 (chcells [⟨a, (k : Int) - a, b, m - b⟩]) rfl (new_holds _ _ _ _ _ (by decide)) rfl (chcells_one _) (by omega) (by simp; omega) ?_)
                intro v2 w2 hown2 hgrow2
                have hSt2 := (st_alloc (Obj.cells #[Value.int IntKind.i64 a, Value.int IntKind.i64 ((k : Int) - a), Value.int IntKind.i64 b, Value.int IntKind.i64 (m - b)] 46) hSt).grown hown2 hgrow2
                obtain ⟨oo2, oc2, rfl⟩ := (holds_of hown2).form
                rw [← chcells_append] at hSt2
                clear hown2 hgrow2
                go_wp2
                go_roundw
                case rel => exact ⟨k + 1, (k : Int) + 1, m + 1, X ++ [⟨a, (k : Int) - a, b, m - b⟩], by omega, ⟨_, _, by rw [List.length_append]; rfl⟩, by go_num, by go_num, by go_num, by omega, by omega, by omega, by omega, by rw [List.length_append]; exact hSt2, by simp; omega, HR⟩
                case measure => simp [intOf]; omega
              · have n6 : b < m := by omega
                go_wp2_with (at_builtin; refine wpList_append_h _ (by kernel_rfl) (.tmp 69) (.tmp 79) 34 46 (.agg #[.int .i64 0, .int .i64 0, .int .i64 0, .int .i64 0]) 4 32 rfl Try.underlying34 infoCh rfl (by decide) (by decide) w.heap.size _ _ _ rfl (hSt.own.alloc _) _ 1 (chcells [⟨a, (k : Int) - a, b, m - b⟩]) rfl (new_holds _ _ _ _ _ (by decide)) rfl (chcells_one _) (by omega) (by simp; omega) ?_)
                intro v2 w2 hown2 hgrow2
                have hSt2 := (st_alloc (Obj.cells #[Value.int IntKind.i64 a, Value.int IntKind.i64 ((k : Int) - a), Value.int IntKind.i64 b, Value.int IntKind.i64 (m - b)] 46) hSt).grown hown2 hgrow2
                obtain ⟨oo2, oc2, rfl⟩ := (holds_of hown2).form
                rw [← chcells_append] at hSt2
                clear hown2 hgrow2
                go_wp2
                go_roundw
                case rel => exact ⟨k + 1, (k : Int) + 1, m + 1, X ++ [⟨a, (k : Int) - a, b, m - b⟩], by omega, ⟨_, _, by rw [List.length_append]; rfl⟩, by go_num, by go_num, by go_num, by omega, by omega, by omega, by omega, by rw [List.length_append]; exact hSt2, by simp; omega, HR⟩
                case measure => simp [intOf]; omega
            · rw [if_neg hcd] at h3
              have HR : Hid ((k + 1 ≤ K.length → Vk (m + 1) m (K.drop (k + 1)) ∧ m + 1 ≤ m ∧ X ++ betw ((k : Int) + 1) (m + 1) (keptR (k + 1 : Nat) (K.drop (k + 1)) ++ [⟨K.length, m, 0⟩]) = L) ∧ (k + 1 = K.length + 1 → X = L)) := ⟨fun h => by have := HKE.out; omega, fun _ => by rw [← h3]; simp⟩
              clear h3
              have n3 : ¬ a < (k : Int) := by omega
              have n4 : ¬ b < m := by omega
              go_wp2
              go_roundw
              case rel => exact ⟨k + 1, (k : Int) + 1, m + 1, X, by omega, ⟨_, _, rfl⟩, by go_num, by go_num, by go_num, by omega, by omega, by omega, by omega, hSt, by omega, HR⟩
              case measure => simp [intOf]; omega
          · obtain rfl : k = K.length + 1 := by omega
            obtain rfl := hR.out.2 rfl
            have i2 : ¬ ((K.length : Int) + 1) ≤ (K.length : Int) := by omega
            go_wp2
            go_ret2
            exact ⟨_, rfl, holds_of hSt.own, hSt.low⟩
end Go.Proofs.Ytmhanngimmjmoaa

/- The reference's table of lengths, filled: table, walked. -/
namespace Go.Proofs.Ytmhanngimmjmoaa
open Go.RowKit

theorem infoInts : (Try.prog.info? 22).map (fun i => (i.zero, i.size, i.bytes)) = some (some (.slice none 0 0), 1, 24) := by kernel_rfl
/-- make([]T, n) -/
theorem run_makeN {T E : TypeId} {z : Value} {bytes : Nat} (hT : Try.prog.underlying T = some (.slice E)) (hinfo : (Try.prog.info? E).map (fun i => (i.zero, i.size, i.bytes)) = some (some z, 1, bytes)) (hby : bytes ≤ 32) (n : Int) (N : Nat) (hn : n = (N : Int)) (hN : N ≤ 1099511627776) (W : World) :
    (Instr.makeSlice T (.int .i64 n) (.int .i64 n)).run Try.prog W = .ok (.slice (some ⟨W.heap.size, 0, none⟩) N N) (W.alloc (.cells (madeCells z.cells N) E)) := by
  subst hn
  obtain ⟨i0, hi, hz0, hzs, hz2⟩ := info_parts hinfo
  have h1 : i0.bytes * N ≤ 32 * 1099511627776 := by rw [hz2]; exact Nat.mul_le_mul hby hN
  have hr := run_make (P := Try.prog) W T E i0 z hT hi hz0 .i64 .i64 (N : Int) (N : Int) (by omega) (Int.le_refl _) (by
    have : ((i0.bytes * N : Nat) : Int) ≤ 281474976710656 := by omega
    rwa [Int.natCast_mul] at this) (by omega)
  simpa [hzs] using hr
theorem madeL (z : Value) (N : Nat) : (madeCells #[z] N).toList = List.replicate N z := by
  apply List.ext_getElem
  · simp [madeCells]
  · intro i h1 h2
    simp [madeCells, Nat.mod_one]

/-- where row k lies -/
def rowB (B X k : Nat) : Nat := B + 1 + (X - k)
/-- a row as a value -/
def rowV (B X Y k : Nat) : Value := .slice (some ⟨rowB B X k, 0, none⟩) (Y + 1) (Y + 1)
/-- the state of the walk: rows from i on are made, those behind it are filled, row i from c on -/
structure Tb (w : World) (x y : List Int) (i c : Nat) (TS : List Value) (u : World) : Prop where
  low : Below w.heap.size w u
  size : u.heap.size = w.heap.size + 1 + (x.length + 1 - i)
  top : u.ownsRow w.heap.size 22 1 (.slice (some ⟨w.heap.size, 0, none⟩) (x.length + 1) (x.length + 1)) (x.length + 1) TS
  tops : ∀ k, i ≤ k → k ≤ x.length → TS[k]? = some (rowV w.heap.size x.length y.length k)
  rows : ∀ k, i ≤ k → k ≤ x.length → ∃ R, u.ownsRow w.heap.size 3 1 (rowV w.heap.size x.length y.length k) (y.length + 1) R ∧ ∀ j, j ≤ y.length → (i < k ∨ c ≤ j ∨ j = y.length ∨ k = x.length) → R[j]? = some (.int .i64 ((ln x y k j : Nat) : Int))
section
variable {w u : World} {x y : List Int} {i c : Nat} {TS : List Value}
theorem Tb.drewN (h : Tb w x y i c TS u) (n : Nat) : Tb w x y i c TS (u.drewN n) := ⟨Below.dN h.low n, h.size, h.top, h.tops, h.rows⟩
theorem Tb.top_len (h : Tb w x y i c TS u) : TS.length = x.length + 1 := by rw [h.top.1, Nat.mul_one]
theorem Tb.top_at (h : Tb w x y i c TS u) {k : Nat} (hi : i ≤ k) (hk : k ≤ x.length) : u.cell? ⟨w.heap.size, k, none⟩ = some (rowV w.heap.size x.length y.length k) := by
  rw [h.top.cellAt k (by omega)]
  exact h.tops k hi hk
theorem Tb.at (h : Tb w x y i c TS u) {k j : Nat} (hi : i ≤ k) (hk : k ≤ x.length) (hj : j ≤ y.length) (hc : i < k ∨ c ≤ j ∨ j = y.length ∨ k = x.length) : u.cell? ⟨rowB w.heap.size x.length k, j, none⟩ = some (.int .i64 ((ln x y k j : Nat) : Int)) := by
  obtain ⟨R, hR, hv⟩ := h.rows k hi hk
  unfold rowV at hR
  rw [hR.cellAt j (by omega)]
  exact hv j hj hc
theorem Tb.any_at (h : Tb w x y i c TS u) {j : Nat} (hi : i ≤ x.length) (hj : j ≤ y.length) : (∃ z, u.cell? ⟨rowB w.heap.size x.length i, j, none⟩ = some z) ∧ u.frozen? ⟨rowB w.heap.size x.length i, j, none⟩ = false := by
  obtain ⟨R, hR, hv⟩ := h.rows i (Nat.le_refl _) hi
  unfold rowV at hR
  refine ⟨?_, hR.frozenAt j⟩
  rw [hR.cellAt j (by omega)]
  have : R.length = y.length + 1 := by rw [hR.1, Nat.mul_one]
  exact ⟨R[j], List.getElem?_eq_getElem (by omega)⟩
theorem size_set (W : World) (b o : Nat) (v : Value) : (W.setCell ⟨b, o, none⟩ v).heap.size = W.heap.size := by
  show (W.heap.modify b _).size = _
  simp
theorem Tb.skip (h : Tb w x y i (c + 1) TS u) (hc : c = y.length ∨ i = x.length) : Tb w x y i c TS u := by
  refine ⟨h.low, h.size, h.top, h.tops, fun k h1 h2 => ?_⟩
  obtain ⟨R, hR, hv⟩ := h.rows k h1 h2
  exact ⟨R, hR, fun j hj hq => hv j hj (by omega)⟩
theorem Tb.next (h : Tb w x y (i + 1) 0 TS u) (hi : i ≤ x.length) (hY : y.length ≤ 1048576) : Tb w x y i (y.length + 1) (TS.set i (rowV w.heap.size x.length y.length i)) ((u.alloc (.cells (madeCells #[.int .i64 0] (y.length + 1)) 3)).setCell ⟨w.heap.size, i, none⟩ (rowV w.heap.size x.length y.length i)) := by
  have hsz : u.heap.size = rowB w.heap.size x.length i := by rw [h.size]; unfold rowB; omega
  obtain ⟨p1, g1⟩ := (h.top.alloc (.cells (madeCells #[.int .i64 0] (y.length + 1)) 3)).stored i (rowV w.heap.size x.length y.length i)
  refine ⟨?_, ?_, p1, fun k h1 h2 => ?_, fun k h1 h2 => ?_⟩
  · exact (h.low.alloc h.low.size _).grown g1 (by rw [World.size_alloc]; have := h.low.size; omega) (fun j hj => by cases hj; exact Nat.le_refl _)
  · rw [size_set, World.size_alloc, h.size]
    omega
  · by_cases e : k = i
    · subst e
      rw [List.getElem?_set_self (by rw [h.top_len]; omega)]
    · rw [List.getElem?_set_ne (fun q => e q.symm)]
      exact h.tops k (by omega) h2
  · by_cases e : k = i
    · subst e
      have hn := World.ownsRow_lit (base := w.heap.size) (e := 3) (size := 1) u (madeCells #[.int .i64 0] (y.length + 1)) (y.length + 1) h.low.size (by unfold maxLen; omega) (by rw [size_madeCells]; simp)
      rw [madeL, hsz] at hn
      refine ⟨_, hn.kept g1 (.inr (by simp [Value.ownBlock, rowB]; omega)), fun j hj hq => ?_⟩
      rw [List.getElem?_replicate, if_pos (by omega), ln_end x y k j (by omega)]
      rfl
    · obtain ⟨R, hR, hv⟩ := h.rows k (by omega) h2
      exact ⟨R, (hR.alloc _).kept g1 (.inr (by unfold rowV rowB; simp [Value.ownBlock]; omega)), fun j hj hq => hv j hj (by omega)⟩
theorem Tb.set (h : Tb w x y i (c + 1) TS u) (hi : i ≤ x.length) (hc : c ≤ y.length) (v : Int) (hv : v = ((ln x y i c : Nat) : Int)) : Tb w x y i c TS (u.setCell ⟨rowB w.heap.size x.length i, c, none⟩ (.int .i64 v)) := by
  subst hv
  obtain ⟨R, hR, hr⟩ := h.rows i (Nat.le_refl _) hi
  have hR' := hR
  unfold rowV at hR'
  obtain ⟨p1, g1⟩ := hR'.stored c (.int .i64 ((ln x y i c : Nat) : Int))
  have hl : R.length = y.length + 1 := by rw [hR.1, Nat.mul_one]
  refine ⟨?_, ?_, ?_, h.tops, fun k h1 h2 => ?_⟩
  · exact h.low.grown g1 h.low.size (fun j hj => by cases hj; unfold rowB; omega)
  · rw [size_set, h.size]
  · exact h.top.kept g1 (.inr (by simp [Value.ownBlock, rowB]; omega))
  · by_cases e : k = i
    · subst e
      refine ⟨_, p1, fun j hj hq => ?_⟩
      by_cases q : j = c
      · subst q
        rw [List.getElem?_set_self (by omega)]
      · rw [List.getElem?_set_ne (fun q' => q q'.symm)]
        exact hr j hj (by omega)
    · obtain ⟨R2, hR2, hv2⟩ := h.rows k h1 h2
      exact ⟨R2, hR2.kept g1 (.inr (by unfold rowV rowB; simp [Value.ownBlock]; omega)), fun j hj hq => hv2 j hj (by omega)⟩
end
theorem Tb.start (w : World) (x y : List Int) (hX : x.length ≤ 1048576) : Tb w x y (x.length + 1) 0 (List.replicate (x.length + 1) (.slice none 0 0)) (w.alloc (.cells (madeCells #[.slice none 0 0] (x.length + 1)) 22)) := by
  have hn := World.ownsRow_lit (base := w.heap.size) (e := 22) (size := 1) w (madeCells #[.slice none 0 0] (x.length + 1)) (x.length + 1) (Nat.le_refl _) (by unfold maxLen; omega) (by rw [size_madeCells]; simp)
  rw [madeL] at hn
  exact ⟨(Below.refl _ w).alloc (Nat.le_refl _) _, by simp, hn, fun k h1 h2 => by omega, fun k h1 h2 => by omega⟩
/-- what the table tells -/
structure Rd (B : Nat) (x y : List Int) (u : World) : Prop where
  lt : B + 1 + x.length < u.heap.size
  top : ∀ k, k ≤ x.length → u.cell? ⟨B, k, none⟩ = some (rowV B x.length y.length k)
  at' : ∀ k j, k ≤ x.length → j ≤ y.length → u.cell? ⟨rowB B x.length k, j, none⟩ = some (.int .i64 ((ln x y k j : Nat) : Int))
theorem cell_keep {u u' : World} (h : Below u.heap.size u u') {b o : Nat} {v : Value} (hb : b < u.heap.size) (hc : u.cell? ⟨b, o, none⟩ = some v) : u'.cell? ⟨b, o, none⟩ = some v := by
  rw [← hc]
  unfold World.cell?
  rw [h.block b hb]
theorem Rd.keep {B : Nat} {x y : List Int} {u u' : World} (h : Rd B x y u) (hb : Below u.heap.size u u') : Rd B x y u' := by
  have := h.lt
  refine ⟨Nat.lt_of_lt_of_le h.lt hb.size, fun k hk => cell_keep hb (by omega) (h.top k hk), fun k j hk hj => cell_keep hb ?_ (h.at' k j hk hj)⟩
  unfold rowB
  omega
theorem Tb.rd {w u : World} {x y : List Int} {TS : List Value} (h : Tb w x y 0 0 TS u) : Rd w.heap.size x y u :=
  ⟨by rw [h.size]; omega, fun _ hk => h.top_at (Nat.zero_le _) hk, fun _ _ hk hj => h.at (Nat.zero_le _) hk hj (.inr (.inl (Nat.zero_le _)))⟩

set_option maxRecDepth 10000 in
set_option maxHeartbeats 4000000 in
theorem table_f (x y : List Int) (vx vy : Value) (w : World) (hx : HI w vx x) (hy : HI w vy y) (hxl : x.length ≤ 4096) (hyl : y.length ≤ 4096) :
    Calls Try.prog 92 #[vx, vy] w fun e w' => e = .returned (.slice (some ⟨w.heap.size, 0, none⟩) (x.length + 1) (x.length + 1)) ∧ Rd w.heap.size x y w' ∧ Below w.heap.size w w' := by
  obtain ⟨xo, xc, rfl⟩ := Holds.form hx
  obtain ⟨yo, yc, rfl⟩ := Holds.form hy
  have hmk1 := run_makeN (T := 82) Try.underlying82 infoInts (by decide) ((x.length : Int) + 1) (x.length + 1) (by simp) (by omega)
  have hmk2 := run_makeN (T := 22) Try.underlying22 infoInt (by decide) ((y.length : Int) + 1) (y.length + 1) (by simp) (by omega)
  have hst := Tb.start w x y (by omega)
  go_enter Try.func92, Try.ntmps92
  go_wp2
  go_loopw [6] (fun iv wr => ∃ (k : Nat) (z : Int) (TS : List Value), k ≤ x.length + 1 ∧ iv = .int .i64 z ∧ z + 1 = k ∧ Tb w x y k 0 TS wr) (fun iv _ => (intOf iv + 1).toNat)
  case atStart => exact ⟨x.length + 1, (x.length : Int), _, Nat.le_refl _, rfl, by simp, hst⟩
  case round =>
    clear hst hmk1
    obtain ⟨k, z, TS, hk, rfl, hz, hS⟩ := hrel
    cases k with
    | zero =>
      obtain rfl : z = -1 := by omega
      go_wp2
      go_ret
      exact ⟨rfl, hS.rd, hS.low⟩
    | succ i =>
      obtain rfl : z = (i : Int) := by omega
      clear hz
      have c0 := hS.top.cellAt i (by omega)
      rw [List.getElem?_eq_getElem (by rw [hS.top_len]; omega)] at c0
      obtain ⟨z0, hz0⟩ : ∃ z, TS[i]'(by rw [hS.top_len]; omega) = z := ⟨_, rfl⟩
      rw [hz0] at c0
      have f0 := hS.top.frozenAt i
      clear hz0
      have i1 : 0 ≤ (i : Int) := by omega
      have i2 : (i : Int) < (x.length : Int) + 1 := by omega
      have hsz : wr.heap.size = rowB w.heap.size x.length i := by rw [hS.size]; unfold rowB; omega
      have hN := hS.next (by omega) (by omega)
      unfold rowV at hN
      have c0' : (wr.alloc (Obj.cells (madeCells #[Value.int IntKind.i64 0] (y.length + 1)) 3)).cell? ⟨w.heap.size, i, none⟩ = some z0 := cell_keep ((Below.refl _ wr).alloc (Nat.le_refl _) _) (by rw [hS.size]; omega) c0
      have f0' : (wr.alloc (Obj.cells (madeCells #[Value.int IntKind.i64 0] (y.length + 1)) 3)).frozen? ⟨w.heap.size, i, none⟩ = false := (hS.top.alloc _).frozenAt i
      clear c0 f0
      go_wp2
      go_loopw [7] (fun jv wi => ∃ (c : Nat) (z : Int) (TS' : List Value), c ≤ y.length + 1 ∧ jv = .int .i64 z ∧ z + 1 = c ∧ Tb w x y i c TS' wi) (fun jv _ => (intOf jv + 1).toNat)
      case atStart => exact ⟨y.length + 1, (y.length : Int), _, Nat.le_refl _, rfl, by simp, hN⟩
      case round =>
        clear hS c0' f0' hN hsz hmk2
        obtain ⟨c, z, TS', hc, rfl, hz, hS⟩ := hrel
        cases c with
        | zero =>
          obtain rfl : z = -1 := by omega
          go_wp2
          go_roundw
          case rel => exact ⟨i, (i : Int) - 1, TS', by omega, by go_num, by omega, hS⟩
          case measure => simp [intOf]
        | succ j =>
          obtain rfl : z = (j : Int) := by omega
          clear hz
          by_cases he : i = x.length
          · have hS' := hS.skip (.inr he)
            have he' : decide ((i : Int) = (x.length : Int)) = true := decide_eq_true (by omega)
            clear i2
            go_wp2
            go_roundw
            case rel => exact ⟨j, (j : Int) - 1, TS', by omega, by go_num, by omega, hS'⟩
            case measure => simp [intOf]
          · have he' : ((i : Int) == (x.length : Int)) = false := by simp; omega
            by_cases hf : j = y.length
            · have hS' := hS.skip (.inl hf)
              have hf' : decide ((j : Int) = (y.length : Int)) = true := decide_eq_true (by omega)
              go_wp2
              go_roundw
              case rel => exact ⟨j, (j : Int) - 1, TS', by omega, by go_num, by omega, hS'⟩
              case measure => simp [intOf]; omega
            · have hf' : ((j : Int) == (y.length : Int)) = false := by simp; omega
              obtain ⟨bx, ox, rfl, _, hcx⟩ := HI.at (HI.keep hx hS.low (Nat.le_refl _)) (by omega)
              obtain ⟨by', oy, rfl, _, hcy⟩ := HI.at (HI.keep hy hS.low (Nat.le_refl _)) (by omega)
              have d1 := hcx i (by omega)
              have d2 := hcy j (by omega)
              have hln := ln_step x y i j (by omega) (by omega)
              obtain ⟨xi, hxi⟩ : ∃ z, x[i] = z := ⟨_, rfl⟩
              obtain ⟨yj, hyj⟩ : ∃ z, y[j] = z := ⟨_, rfl⟩
              rw [hxi] at d1 hln
              rw [hyj] at d2 hln
              clear hcx hcy hxi hyj
              have t1 := hS.top_at (k := i) (Nat.le_refl _) (by omega)
              have t2 := hS.top_at (k := i + 1) (by omega) (by omega)
              have r1 := hS.at (k := i + 1) (j := j + 1) (by omega) (by omega) (by omega) (by omega)
              have r2 := hS.at (k := i + 1) (j := j) (by omega) (by omega) (by omega) (by omega)
              have r3 := hS.at (k := i) (j := j + 1) (by omega) (by omega) (by omega) (by omega)
              obtain ⟨⟨z0, c0⟩, f0⟩ := hS.any_at (j := j) (by omega) (by omega)
              unfold rowV at t1 t2
              have hgen : ∀ (n : Nat) (v : Int), v = ((ln x y i j : Nat) : Int) → Tb w x y i j TS' ((wr.drewN n).setCell ⟨rowB w.heap.size x.length i, j, none⟩ (.int .i64 v)) := fun n v hv => (hS.drewN n).set (by omega) (by omega) v hv
              have HLN : Hid (ln x y i j = if xi = yj then ln x y (i + 1) (j + 1) + 1 else max (ln x y (i + 1) j) (ln x y i (j + 1))) := hln
              have b1 := ln_le x y (i + 1) (j + 1)
              have b2 := ln_le x y (i + 1) j
              have b3 := ln_le x y i (j + 1)
              clear hln
              have j1 : 0 ≤ (j : Int) := by omega
              have j2 : (j : Int) < (y.length : Int) := by omega
              have j3 : (j : Int) + 1 < (y.length : Int) + 1 := by omega
              have j4 : (j : Int) < (y.length : Int) + 1 := by omega
              have i3 : (i : Int) + 1 < (x.length : Int) + 1 := by omega
              have i4 : (i : Int) < (x.length : Int) := by omega
              generalize rowB w.heap.size x.length i = gi at *
              generalize rowB w.heap.size x.length (i + 1) = gj at *
              by_cases hxy : xi = yj
              · have HL : Hid (ln x y i j = ln x y (i + 1) (j + 1) + 1) := (by show _ = _; rw [HLN.out, if_pos hxy])
                clear HLN r2 r3 b2 b3
                generalize ln x y (i + 1) (j + 1) = a1 at *
                have hxy' : decide (xi = yj) = true := decide_eq_true hxy
                go_wp2_with fail
                go_quiet (fail)
                go_wp2_with fail
                go_region
                go_wp2
                exact ⟨⟨j, (j : Int) - 1, TS', by omega, by go_num, by omega, hgen _ _ (by rw [HL.out]; simp)⟩, by simp [intOf]⟩
              · have HL : Hid (ln x y i j = max (ln x y (i + 1) j) (ln x y i (j + 1))) := (by show _ = _; rw [HLN.out, if_neg hxy])
                clear HLN r1 b1
                have hxy' : decide (xi = yj) = false := decide_eq_false hxy
                generalize ln x y (i + 1) j = a1 at *
                generalize ln x y i (j + 1) = a2 at *
                go_wp2_with fail
                go_quiet (fail)
                go_wp2_with fail
                go_region
                go_wp2
                exact ⟨⟨j, (j : Int) - 1, TS', by omega, by go_num, by omega, hgen _ _ (by rw [HL.out]; split <;> omega)⟩, by simp [intOf]⟩
end Go.Proofs.Ytmhanngimmjmoaa

/- None of the reference, walked. -/
namespace Go.Proofs.Ytmhanngimmjmoaa
open Go.RowKit

set_option maxRecDepth 10000 in
theorem None_f (n : Nat) (w : World) (hn : n ≤ 1048576) :
    Calls Try.prog 39 #[.int .i64 (n : Int)] w fun e w' => e = .returned (.slice (some ⟨w.heap.size, 0, none⟩) n n) ∧ w'.ownsRow w.heap.size 3 1 (.slice (some ⟨w.heap.size, 0, none⟩) n n) n (icells (List.replicate n (-1))) ∧ Below w.heap.size w w' := by
  have hmk := run_makeN (T := 22) Try.underlying22 infoInt (by decide) (n : Int) n rfl (by omega)
  have hrow := World.ownsRow_lit (base := w.heap.size) (e := 3) (size := 1) w (madeCells #[.int .i64 0] n) n (Nat.le_refl _) (by unfold maxLen; omega) (by rw [size_madeCells]; simp)
  rw [madeL] at hrow
  go_enter Try.func39, Try.ntmps39
  go_wp2
  go_loopw [4] (fun iv wr => ∃ (i : Nat) (xs : List Int), i ≤ n ∧ iv = .int .i64 i ∧ wr.ownsRow w.heap.size 3 1 (.slice (some ⟨w.heap.size, 0, none⟩) n n) n (icells xs) ∧ Below w.heap.size w wr ∧ Hid (xs.take i = List.replicate i (-1))) (fun iv _ => n - (intOf iv).toNat)
  case atStart => exact ⟨0, List.replicate n 0, Nat.zero_le _, rfl, by simpa [icells] using hrow, (Below.refl _ w).alloc (Nat.le_refl _) _, by show _ = _; simp⟩
  case round =>
    clear hmk hrow
    obtain ⟨i, xs, hi, rfl, hO, hB, HX⟩ := hrel
    have hxs : xs.length = n := by have := hO.1; rw [icells_length, Nat.mul_one] at this; exact this
    have hs := hB.size
    by_cases hil : i < n
    · have y0 := hO.cellAt i (by omega)
      rw [List.getElem?_eq_getElem (by rw [icells_length]; omega)] at y0
      have f0 := hO.frozenAt i
      obtain ⟨p1, g1⟩ := hO.stored i (.int .i64 (-1))
      have e : (icells xs).set i (.int .i64 (-1)) = icells (xs.set i (-1)) := by simp [icells, List.map_set]
      rw [e] at p1
      have hB' : Below w.heap.size w (wr.setCell ⟨w.heap.size, i, none⟩ (.int .i64 (-1))) := hB.grown g1 hs (fun j hj => owns_ge hO (by simpa [Value.ownBlock] using hj))
      have HX2 : Hid ((xs.set i (-1)).take (i + 1) = List.replicate (i + 1) (-1)) := (by
        show _ = _
        rw [List.take_succ_eq_append_getElem (by rw [List.length_set]; omega), List.getElem_set_self, List.take_set_of_le (Nat.le_refl _), HX.out, List.replicate_succ'])
      clear e HX
      have i1 : 0 ≤ (i : Int) := by omega
      have i2 : (i : Int) < (n : Int) := by omega
      go_wp2
      go_roundw
      case rel => exact ⟨i + 1, _, by omega, by go_num, p1, hB', HX2⟩
      case measure => simp [intOf]; omega
    · obtain rfl : i = n := by omega
      have e : xs = List.replicate i (-1) := by
        have := HX.out
        rw [List.take_of_length_le (by omega)] at this
        exact this
      rw [e] at hO
      clear e HX hxs
      go_wp2
      go_ret
      exact ⟨rfl, hO, hB⟩
end Go.Proofs.Ytmhanngimmjmoaa

/- The reference's Trim, walked. -/
namespace Go.Proofs.Ytmhanngimmjmoaa
open Go.RowKit

/-- a piece as a value, in a box -/
def pcV (a b c d : Nat) : Value := .agg #[.int .i64 a, .int .i64 b, .int .i64 c, .int .i64 d]
def Pbox (u : World) (B : Nat) (a b c d : Nat) : Prop := u.heap[B]? = some (.cells #[.int .i64 (a : Int), .int .i64 (b : Int), .int .i64 (c : Int), .int .i64 (d : Int)] 72 (0, 0))
theorem Pbox.cells {u : World} {B a b c d : Nat} (h : Pbox u B a b c d) : u.cell? ⟨B, 0, none⟩ = some (.int .i64 (a : Int)) ∧ u.cell? ⟨B, 1, none⟩ = some (.int .i64 (b : Int)) ∧ u.cell? ⟨B, 2, none⟩ = some (.int .i64 (c : Int)) ∧ u.cell? ⟨B, 3, none⟩ = some (.int .i64 (d : Int)) := by
  refine ⟨?_, ?_, ?_, ?_⟩ <;> rw [Lib.cell_of_heap h] <;> rfl
theorem Pbox.frozen {u : World} {B a b c d : Nat} (h : Pbox u B a b c d) (j : Nat) : u.frozen? ⟨B, j, none⟩ = false := by
  unfold World.frozen?
  rw [h]
  rfl
/-- the row of what is kept, and a piece beside it -/
structure Tr (W0 : World) (n : Nat) (K : List Int) (B a b c d : Nat) (u : World) : Prop where
  ls : Ls W0 W0.heap.size n K u
  box : Pbox u B a b c d
  ge : W0.heap.size < B
section
variable {W0 : World} {n : Nat} {K : List Int} {B a b c d : Nat} {u : World}
theorem Tr.put (h : Tr W0 n K B a b c d u) (i : Nat) (z : Int) : Tr W0 n (K.set i z) B a b c d (u.setCell ⟨W0.heap.size, i, none⟩ (.int .i64 z)) :=
  ⟨h.ls.set i z, (heap_setCell_other u _ B _ (fun e => by have := h.ge; simp at e; omega)).trans h.box, h.ge⟩
theorem Tr.set0 (h : Tr W0 n K B a b c d u) (a' : Nat) (z : Int) (hz : z = a') : Tr W0 n K B a' b c d (u.setCell ⟨B, 0, none⟩ (.int .i64 z)) := by subst hz; exact ⟨ls_other h.ls (Nat.ne_of_lt h.ge) (Nat.le_of_lt h.ge) _ _, heap_setCell_same u B 0 _ _ _ h.box, h.ge⟩
theorem Tr.set1 (h : Tr W0 n K B a b c d u) (b' : Nat) (z : Int) (hz : z = b') : Tr W0 n K B a b' c d (u.setCell ⟨B, 1, none⟩ (.int .i64 z)) := by subst hz; exact ⟨ls_other h.ls (Nat.ne_of_lt h.ge) (Nat.le_of_lt h.ge) _ _, heap_setCell_same u B 1 _ _ _ h.box, h.ge⟩
theorem Tr.set2 (h : Tr W0 n K B a b c d u) (c' : Nat) (z : Int) (hz : z = c') : Tr W0 n K B a b c' d (u.setCell ⟨B, 2, none⟩ (.int .i64 z)) := by subst hz; exact ⟨ls_other h.ls (Nat.ne_of_lt h.ge) (Nat.le_of_lt h.ge) _ _, heap_setCell_same u B 2 _ _ _ h.box, h.ge⟩
theorem Tr.set3 (h : Tr W0 n K B a b c d u) (d' : Nat) (z : Int) (hz : z = d') : Tr W0 n K B a b c d' (u.setCell ⟨B, 3, none⟩ (.int .i64 z)) := by subst hz; exact ⟨ls_other h.ls (Nat.ne_of_lt h.ge) (Nat.le_of_lt h.ge) _ _, heap_setCell_same u B 3 _ _ _ h.box, h.ge⟩
theorem Tr.at (h : Tr W0 n K B a b c d u) {i : Nat} (hi : i < n) : ∃ z, u.cell? ⟨W0.heap.size, i, none⟩ = some (.int .i64 z) ∧ u.frozen? ⟨W0.heap.size, i, none⟩ = false := by
  have hl := h.ls.len
  exact ⟨K[i], h.ls.at (List.getElem?_eq_getElem (by omega)), h.ls.own.frozenAt i⟩
theorem Tr.drewN (h : Tr W0 n K B a b c d u) (k : Nat) : Tr W0 n K B a b c d (u.drewN k) := ⟨h.ls.drewN k, h.box, h.ge⟩
end

set_option maxRecDepth 10000 in
set_option maxHeartbeats 4000000 in
theorem Trim_f (x y : List Int) (W0 w : World) (vx vy : Value) (hx : HI W0 vx x) (hy : HI W0 vy y) (hxl : x.length ≤ 4096) (hyl : y.length ≤ 4096) (K : List Int) (hS : Ls W0 W0.heap.size x.length K w) (a b c d : Nat) (hab : a ≤ b) (hb : b ≤ x.length) (hcd : c ≤ d) (hd : d ≤ y.length) (hg : W0.heap.size < w.heap.size) :
    Calls Try.prog 65 #[.slice (some ⟨W0.heap.size, 0, none⟩) x.length x.length, vx, vy, pcV a b c d] w fun e w' => ∃ k m, k = tf x y a b c d ∧ m = tb x y (a + k) b (c + k) d ∧ e = .returned (pcV (a + k) (b - m) (c + k) (d - m)) ∧ Ls W0 W0.heap.size x.length (wrk K (fp a c k ++ bp b d m)) w' ∧ w.grownBy w' (some W0.heap.size) := by
  obtain ⟨xo, xc, rfl⟩ := Holds.form hx
  obtain ⟨yo, yc, rfl⟩ := Holds.form hy
  obtain ⟨k, hk⟩ : ∃ k, tf x y a b c d = k := ⟨_, rfl⟩
  obtain ⟨m, hm⟩ : ∃ m, tb x y (a + k) b (c + k) d = m := ⟨_, rfl⟩
  have hkl := tf_le x y a b c d
  have hml := tb_le x y (a + k) b (c + k) d
  rw [hk] at hkl
  rw [hm] at hml
  obtain ⟨KF, hKF⟩ : ∃ KF, wrk K (fp a c k) = KF := ⟨_, rfl⟩
  obtain ⟨A1, hA1⟩ : ∃ A1, a + k = A1 := ⟨_, rfl⟩
  obtain ⟨C1, hC1⟩ : ∃ C1, c + k = C1 := ⟨_, rfl⟩
  have HK : Hid (a + tf x y a b c d = A1 ∧ c + tf x y a b c d = C1 ∧ wrk K (fp a c (tf x y a b c d)) = KF) := ⟨by rw [hk, hA1], by rw [hk, hC1], by rw [hk, hKF]⟩
  have HM : Hid (tb x y A1 b C1 d = m) := (by rw [hA1, hC1] at hm; exact hm)
  have HFin : Hid (k = tf x y a b c d ∧ m = tb x y (a + k) b (c + k) d ∧ A1 = a + k ∧ C1 = c + k ∧ wrk KF (bp b d m) = wrk K (fp a c k ++ bp b d m)) := ⟨hk.symm, hm.symm, hA1.symm, hC1.symm, by rw [wrk_append, hKF]⟩
  have hAb : A1 ≤ b ∧ C1 ≤ d ∧ m ≤ b - A1 ∧ m ≤ d - C1 := by omega
  obtain ⟨hAb, hCd, hmb, hmd⟩ := hAb
  clear hk hm hKF hkl hml hA1 hC1
  have hT0 : Tr W0 x.length K w.heap.size a b c d ((w.alloc (.cells #[.int .i64 a, .int .i64 b, .int .i64 c, .int .i64 d] 72)).alloc (.cells #[.int .i64 0, .int .i64 0, .int .i64 0, .int .i64 0] 72)) :=
    ⟨hS.keep (((Below.refl _ w).alloc (Nat.le_refl _) _).alloc (by simp) _), (Below.heap_alloc _ _ _ (by simp)).trans (_root_.Go.heap_alloc_new w _), hg⟩
  have hR0 := alloc_second w (.cells #[.int .i64 a, .int .i64 b, .int .i64 c, .int .i64 d] 72) (.cells #[.int .i64 0, .int .i64 0, .int .i64 0, .int .i64 0] 72)
  have hG0 : w.grownBy ((w.alloc (.cells #[.int .i64 a, .int .i64 b, .int .i64 c, .int .i64 d] 72)).alloc (.cells #[.int .i64 0, .int .i64 0, .int .i64 0, .int .i64 0] 72)) (some W0.heap.size) := low_grown (((Below.refl _ w).alloc (Nat.le_refl _) _).alloc (by simp) _) _
  have hgB : W0.heap.size ≠ w.heap.size := by omega
  have hBg : w.heap.size ≠ W0.heap.size := by omega
  unfold pcV
  go_enter Try.func65, Try.ntmps65
  go_wp2
  go_loopw [] (fun wr => ∃ (a' c' : Nat) (K' : List Int), a' ≤ b ∧ c' ≤ d ∧ Tr W0 x.length K' w.heap.size a' b c' d wr ∧ wr.heap[w.heap.size + 1]? = some (.cells #[.int .i64 0, .int .i64 0, .int .i64 0, .int .i64 0] 72 (0, 0)) ∧ w.grownBy wr (some W0.heap.size) ∧ Hid (a' + tf x y a' b c' d = A1 ∧ c' + tf x y a' b c' d = C1 ∧ wrk K' (fp a' c' (tf x y a' b c' d)) = KF)) (fun wr => b - (intOf ((wr.cell? ⟨w.heap.size, 0, none⟩).getD undef)).toNat)
  case atStart => exact ⟨a, c, K, hab, hcd, hT0, hR0, hG0, HK⟩
  case round =>
    clear hT0 hR0 hG0 HK hS
    obtain ⟨a', c', K', ha', hc', hT, hR, hG, HV⟩ := hrel
    obtain ⟨c0, c1, c2, c3⟩ := hT.box.cells
    obtain ⟨r, hr⟩ : ∃ r, decide (a' < b ∧ c' < d ∧ x[a']? = y[c']?) = r := ⟨_, rfl⟩
    have HRr : Hid (decide (a' < b ∧ c' < d ∧ x[a']? = y[c']?) = r) := hr
    clear hr
    have hlow := hT.ls.low
    have a1 : 0 ≤ (a' : Int) := by omega
    have c4 : 0 ≤ (c' : Int) := by omega
    go_wp2_with fail
    go_cut [33] from 9 to 47 (fun z wz => z = .bool r ∧ ∃ q, wz = wr.drewN q)
    case first =>
      by_cases h1 : a' < b
      · have e1 : decide ((a' : Int) < (b : Int)) = true := decide_eq_true (by omega)
        by_cases h2 : c' < d
        · have e2 : decide ((c' : Int) < (d : Int)) = true := decide_eq_true (by omega)
          obtain ⟨xb, xf, rfl, _, hcx⟩ := HI.at (HI.keep hx hlow (Nat.le_refl _)) (by omega)
          obtain ⟨yb, yf, rfl, _, hcy⟩ := HI.at (HI.keep hy hlow (Nat.le_refl _)) (by omega)
          have x0 := hcx a' (by omega)
          have y0 := hcy c' (by omega)
          obtain ⟨zx, hzx⟩ : ∃ z, x[a'] = z := ⟨_, rfl⟩
          obtain ⟨zy, hzy⟩ : ∃ z, y[c'] = z := ⟨_, rfl⟩
          rw [hzx] at x0
          rw [hzy] at y0
          have a2 : (a' : Int) < (x.length : Int) := by omega
          have c5 : (c' : Int) < (y.length : Int) := by omega
          have e3 : (zx == zy) = r := by
            rw [← HRr.out, List.getElem?_eq_getElem (by omega), List.getElem?_eq_getElem (by omega), hzx, hzy]
            by_cases q : zx = zy <;> simp [h1, h2, q]
          clear hcx hcy hzx hzy HRr
          go_big_quiet (fail)
          go_wp2
          go_meet
          case rel => exact ⟨rfl, _, rfl⟩
        · have e2 : decide ((c' : Int) < (d : Int)) = false := decide_eq_false (by omega)
          obtain rfl : r = false := by rw [← HRr.out]; simp [h2]
          go_big_quiet (fail)
          go_wp2
          go_meet
          case rel => exact ⟨rfl, _, rfl⟩
      · have e1 : decide ((a' : Int) < (b : Int)) = false := decide_eq_false (by omega)
        obtain rfl : r = false := by rw [← HRr.out]; simp [h1]
        go_big_quiet (fail)
        go_wp2
        go_meet
        case rel => exact ⟨rfl, _, rfl⟩
    case rest =>
      obtain ⟨rfl, q, rfl⟩ := hcut
      have hTq := hT.drewN q
      have hGq := grown_drewN hG q
      have hRq : (wr.drewN q).heap[w.heap.size + 1]? = some (.cells #[.int .i64 0, .int .i64 0, .int .i64 0, .int .i64 0] 72 (0, 0)) := hR
      have cw := c0
      clear c0 c1 c2 c3 hT hG hR hlow
      generalize wr.drewN q = u0 at hTq hGq hRq ⊢
      obtain ⟨c0, c1, c2, c3⟩ := hTq.box.cells
      have f0 := hTq.box.frozen
      cases r with
      | true =>
        have hh := of_decide_eq_true HRr.out
        obtain ⟨h1, h2, h3⟩ := hh
        have HV2 : Hid (a' + 1 + tf x y (a' + 1) b (c' + 1) d = A1 ∧ c' + 1 + tf x y (a' + 1) b (c' + 1) d = C1 ∧ wrk (K'.set a' (c' : Int)) (fp (a' + 1) (c' + 1) (tf x y (a' + 1) b (c' + 1) d)) = KF) := (by
          have := HV.out
          rw [tf_eq, if_pos ⟨h1, h2, h3⟩, fp, wrk_cons] at this
          obtain ⟨q1, q2, q3⟩ := this
          exact ⟨by omega, by omega, by simpa using q3⟩)
        clear HV h3 HRr
        obtain ⟨z0, y0, g0⟩ := hTq.at (i := a') (by omega)
        have hT1 := hTq.put a' (c' : Int)
        have hT2 := hT1.set0 (a' + 1) ((a' : Int) + 1) (by omega)
        have hT3 := hT2.set2 (c' + 1) ((c' : Int) + 1) (by omega)
        obtain ⟨d0, d1, d2, d3⟩ := hT1.box.cells
        have f1 := hT1.box.frozen
        obtain ⟨e0, e1, e2, e3⟩ := hT2.box.cells
        have f2 := hT2.box.frozen
        have hG3 := grown_new (grown_new (hGq.trans (grown_set u0 W0.heap.size a' (.int .i64 (c' : Int)))) (Nat.le_refl _) 0 (.int .i64 ((a' : Int) + 1))) (Nat.le_refl _) 2 (.int .i64 ((c' : Int) + 1))
        have a2 : (a' : Int) < (x.length : Int) := by omega
        go_wp2
        refine ⟨⟨a' + 1, c' + 1, _, h1, h2, hT3, (heap_setCell_other _ _ _ _ (by simp)).trans ((heap_setCell_other _ _ _ _ (by simp)).trans ((heap_setCell_other _ _ _ _ (by simp; omega)).trans hRq)), hG3, HV2⟩, ?_⟩
        rw [cw, hT3.box.cells.1]
        simp [intOf]
        omega
      | false =>
        have hh := of_decide_eq_false HRr.out
        have hz : tf x y a' b c' d = 0 := by rw [tf_eq, if_neg hh]
        obtain ⟨q1, q2, q3⟩ := HV.out
        rw [hz] at q1 q2 q3
        have q3' : K' = KF := q3
        obtain rfl : A1 = a' := by omega
        obtain rfl : C1 = c' := by omega
        subst q3'
        clear hh hz q1 q2 q3 HV HRr cw
        go_wp2
        go_loopw [] (fun wr => ∃ (b' d' : Nat) (K2 : List Int), A1 ≤ b' ∧ b' ≤ b ∧ C1 ≤ d' ∧ d' ≤ d ∧ Tr W0 x.length K2 w.heap.size (A1) b' (C1) d' wr ∧ wr.heap[w.heap.size + 1]? = some (.cells #[.int .i64 0, .int .i64 0, .int .i64 0, .int .i64 0] 72 (0, 0)) ∧ w.grownBy wr (some W0.heap.size) ∧ Hid (b' - tb x y (A1) b' (C1) d' = b - m ∧ d' - tb x y (A1) b' (C1) d' = d - m ∧ wrk K2 (bp b' d' (tb x y (A1) b' (C1) d')) = wrk K' (bp b d m))) (fun wr => (intOf ((wr.cell? ⟨w.heap.size, 1, none⟩).getD undef)).toNat)
        case atStart => exact ⟨b, d, K', by omega, Nat.le_refl _, by omega, Nat.le_refl _, hTq, hRq, hGq, ⟨by rw [HM.out], by rw [HM.out], by rw [HM.out]⟩⟩
        case round =>
          clear hTq hRq hGq c0 c1 c2 c3 f0 HM
          obtain ⟨b', d', K2, hb1, hb2, hd1, hd2, hT, hR, hG, HV⟩ := hrel
          obtain ⟨c0, c1, c2, c3⟩ := hT.box.cells
          obtain ⟨r, hr⟩ : ∃ r, decide (A1 < b' ∧ C1 < d' ∧ x[b' - 1]? = y[d' - 1]?) = r := ⟨_, rfl⟩
          have HRr : Hid (decide (A1 < b' ∧ C1 < d' ∧ x[b' - 1]? = y[d' - 1]?) = r) := hr
          clear hr
          have hlow := hT.ls.low
          have a1' : 0 ≤ (b' : Int) - 1 ∨ b' = 0 := by omega
          go_wp2_with fail
          go_cut [74] from 48 to 90 (fun z wz => z = .bool r ∧ ∃ q, wz = wr.drewN q)
          case first =>
            by_cases h1 : A1 < b'
            · have e1 : decide ((A1 : Int) < (b' : Int)) = true := decide_eq_true (by omega)
              by_cases h2 : C1 < d'
              · have e2 : decide ((C1 : Int) < (d' : Int)) = true := decide_eq_true (by omega)
                obtain ⟨xb, xf, rfl, _, hcx⟩ := HI.at (HI.keep hx hlow (Nat.le_refl _)) (by omega)
                obtain ⟨yb, yf, rfl, _, hcy⟩ := HI.at (HI.keep hy hlow (Nat.le_refl _)) (by omega)
                obtain ⟨b2, rfl⟩ : ∃ b2, b' = b2 + 1 := ⟨b' - 1, by omega⟩
                obtain ⟨d2, rfl⟩ : ∃ d2, d' = d2 + 1 := ⟨d' - 1, by omega⟩
                rw [Nat.add_sub_cancel, Nat.add_sub_cancel] at HRr
                have c1' : wr.cell? ⟨w.heap.size, 1, none⟩ = some (.int .i64 ((b2 : Int) + 1)) := c1
                have c3' : wr.cell? ⟨w.heap.size, 3, none⟩ = some (.int .i64 ((d2 : Int) + 1)) := c3
                have e1' : decide ((A1 : Int) < (b2 : Int) + 1) = true := decide_eq_true (by omega)
                have e2' : decide ((C1 : Int) < (d2 : Int) + 1) = true := decide_eq_true (by omega)
                clear c1 c3 e1 e2
                have x0 := hcx b2 (by omega)
                have y0 := hcy d2 (by omega)
                obtain ⟨zx, hzx⟩ : ∃ z, x[b2] = z := ⟨_, rfl⟩
                obtain ⟨zy, hzy⟩ : ∃ z, y[d2] = z := ⟨_, rfl⟩
                rw [hzx] at x0
                rw [hzy] at y0
                have n1 : ((b2 + 1 : Nat) : Int) - 1 = (b2 : Int) := by omega
                have n2 : ((d2 + 1 : Nat) : Int) - 1 = (d2 : Int) := by omega
                have n3 : (b2 : Int) + 1 - 1 = (b2 : Int) := by omega
                have n4 : (d2 : Int) + 1 - 1 = (d2 : Int) := by omega
                have n5 : IntKind.i64.wrap ((b2 : Int) + 1 - 1) = (b2 : Int) := by rw [IntKind.wrap_i64]; omega
                have n6 : IntKind.i64.wrap ((d2 : Int) + 1 - 1) = (d2 : Int) := by rw [IntKind.wrap_i64]; omega
                have n7 : IntKind.i64.wrap (b2 : Int) = (b2 : Int) := by rw [IntKind.wrap_i64]; omega
                have n8 : IntKind.i64.wrap (d2 : Int) = (d2 : Int) := by rw [IntKind.wrap_i64]; omega
                have a3 : 0 ≤ (b2 : Int) := by omega
                have c6 : 0 ≤ (d2 : Int) := by omega
                have a2 : (b2 : Int) < (x.length : Int) := by omega
                have c5 : (d2 : Int) < (y.length : Int) := by omega
                have e3 : (zx == zy) = r := by
                  rw [← HRr.out, List.getElem?_eq_getElem (by omega), List.getElem?_eq_getElem (by omega), hzx, hzy]
                  by_cases q : zx = zy <;> simp [h1, h2, q]
                clear hcx hcy hzx hzy HRr
                go_big_quiet (fail)
                go_wp2
                go_meet
                case rel => exact ⟨rfl, _, rfl⟩
              · have e2 : decide ((C1 : Int) < (d' : Int)) = false := decide_eq_false (by omega)
                obtain rfl : r = false := by rw [← HRr.out]; simp [h2]
                go_big_quiet (fail)
                go_wp2
                go_meet
                case rel => exact ⟨rfl, _, rfl⟩
            · have e1 : decide ((A1 : Int) < (b' : Int)) = false := decide_eq_false (by omega)
              obtain rfl : r = false := by rw [← HRr.out]; simp [h1]
              go_big_quiet (fail)
              go_wp2
              go_meet
              case rel => exact ⟨rfl, _, rfl⟩
          case rest =>
            obtain ⟨rfl, q, rfl⟩ := hcut
            have hTq := hT.drewN q
            have hGq := grown_drewN hG q
            have hRq : (wr.drewN q).heap[w.heap.size + 1]? = some (.cells #[.int .i64 0, .int .i64 0, .int .i64 0, .int .i64 0] 72 (0, 0)) := hR
            have cw := c1
            clear c0 c1 c2 c3 hT hG hR hlow
            generalize wr.drewN q = u1 at hTq hGq hRq ⊢
            obtain ⟨c0, c1, c2, c3⟩ := hTq.box.cells
            have f0 := hTq.box.frozen
            cases r with
            | true =>
              have hh := of_decide_eq_true HRr.out
              obtain ⟨h1, h2, h3⟩ := hh
              obtain ⟨b2, rfl⟩ : ∃ b2, b' = b2 + 1 := ⟨b' - 1, by omega⟩
              obtain ⟨d2, rfl⟩ : ∃ d2, d' = d2 + 1 := ⟨d' - 1, by omega⟩
              have HV2 : Hid (b2 - tb x y A1 b2 C1 d2 = b - m ∧ d2 - tb x y A1 b2 C1 d2 = d - m ∧ wrk (K2.set b2 (d2 : Int)) (bp b2 d2 (tb x y A1 b2 C1 d2)) = wrk K' (bp b d m)) := (by
                have := HV.out
                rw [tb, if_pos ⟨h1, h2, h3⟩, Nat.add_sub_cancel, Nat.add_sub_cancel, bp, wrk_cons, Nat.add_sub_cancel, Nat.add_sub_cancel] at this
                obtain ⟨q1, q2, q3⟩ := this
                exact ⟨by omega, by omega, by simpa using q3⟩)
              clear HV h3 HRr
              obtain ⟨z0, y0, g0⟩ := hTq.at (i := b2) (by omega)
              have hT1 := hTq.put b2 (d2 : Int)
              have hT2 := hT1.set1 b2 (b2 : Int) rfl
              have hT3 := hT2.set3 d2 (d2 : Int) rfl
              have k1 : u1.cell? ⟨w.heap.size, 1, none⟩ = some (.int .i64 ((b2 : Int) + 1)) := c1
              have k3 : u1.cell? ⟨w.heap.size, 3, none⟩ = some (.int .i64 ((d2 : Int) + 1)) := c3
              clear c1 c3
              obtain ⟨d0, d1', d2', d3'⟩ := hT1.box.cells
              have l1 : (u1.setCell ⟨W0.heap.size, b2, none⟩ (.int .i64 (d2 : Int))).cell? ⟨w.heap.size, 1, none⟩ = some (.int .i64 ((b2 : Int) + 1)) := d1'
              have l3 : (u1.setCell ⟨W0.heap.size, b2, none⟩ (.int .i64 (d2 : Int))).cell? ⟨w.heap.size, 3, none⟩ = some (.int .i64 ((d2 : Int) + 1)) := d3'
              clear d1' d3'
              have f1 := hT1.box.frozen
              obtain ⟨e0, e1', e2', e3'⟩ := hT2.box.cells
              have m3 : ((u1.setCell ⟨W0.heap.size, b2, none⟩ (.int .i64 (d2 : Int))).setCell ⟨w.heap.size, 1, none⟩ (.int .i64 (b2 : Int))).cell? ⟨w.heap.size, 3, none⟩ = some (.int .i64 ((d2 : Int) + 1)) := e3'
              clear e3'
              have f2 := hT2.box.frozen
              have hG3 := grown_new (grown_new (hGq.trans (grown_set u1 W0.heap.size b2 (.int .i64 (d2 : Int)))) (Nat.le_refl _) 1 (.int .i64 (b2 : Int))) (Nat.le_refl _) 3 (.int .i64 (d2 : Int))
              have n3 : (b2 : Int) + 1 - 1 = (b2 : Int) := by omega
              have n4 : (d2 : Int) + 1 - 1 = (d2 : Int) := by omega
              have a3 : 0 ≤ (b2 : Int) := by omega
              have a2 : (b2 : Int) < (x.length : Int) := by omega
              go_wp2
              refine ⟨⟨b2, d2, _, by omega, by omega, by omega, by omega, hT3, (heap_setCell_other _ _ _ _ (by simp)).trans ((heap_setCell_other _ _ _ _ (by simp)).trans ((heap_setCell_other _ _ _ _ (by simp; omega)).trans hRq)), hG3, HV2⟩, ?_⟩
              rw [cw, hT3.box.cells.2.1]
              simp [intOf]
            | false =>
              have hh := of_decide_eq_false HRr.out
              have hz : tb x y A1 b' C1 d' = 0 := by rw [tb, if_neg hh]
              obtain ⟨q1, q2, q3⟩ := HV.out
              rw [hz] at q1 q2 q3
              have q3' : K2 = wrk K' (bp b d m) := q3
              clear hh hz q3 HV HRr cw
              have hr0 : u1.cell? ⟨w.heap.size + 1, 0, none⟩ = some (.int .i64 0) := by rw [Lib.cell_of_heap hRq]; rfl
              have hr1 : u1.cell? ⟨w.heap.size + 1, 1, none⟩ = some (.int .i64 0) := by rw [Lib.cell_of_heap hRq]; rfl
              have hr2 : u1.cell? ⟨w.heap.size + 1, 2, none⟩ = some (.int .i64 0) := by rw [Lib.cell_of_heap hRq]; rfl
              have hr3 : u1.cell? ⟨w.heap.size + 1, 3, none⟩ = some (.int .i64 0) := by rw [Lib.cell_of_heap hRq]; rfl
              have fr : ∀ j, u1.frozen? ⟨w.heap.size + 1, j, none⟩ = false := fun j => by unfold World.frozen?; rw [hRq]; rfl
              go_wp2
              have s1 := heap_setCell_same u1 (w.heap.size + 1) 0 _ _ (.int .i64 (A1 : Int)) hRq
              have s2 := heap_setCell_same _ (w.heap.size + 1) 1 _ _ (.int .i64 (b' : Int)) s1
              have s3 := heap_setCell_same _ (w.heap.size + 1) 2 _ _ (.int .i64 (C1 : Int)) s2
              have s4 := heap_setCell_same _ (w.heap.size + 1) 3 _ _ (.int .i64 (d' : Int)) s3
              have hL4 := ls_other (ls_other (ls_other (ls_other hTq.ls (g := w.heap.size + 1) (by omega) (by omega) 0 (.int .i64 (A1 : Int))) (g := w.heap.size + 1) (by omega) (by omega) 1 (.int .i64 (b' : Int))) (g := w.heap.size + 1) (by omega) (by omega) 2 (.int .i64 (C1 : Int))) (g := w.heap.size + 1) (by omega) (by omega) 3 (.int .i64 (d' : Int))
              have hG4 := grown_new (grown_new (grown_new (grown_new hGq (B := w.heap.size + 1) (by omega) 0 (.int .i64 (A1 : Int))) (B := w.heap.size + 1) (by omega) 1 (.int .i64 (b' : Int))) (B := w.heap.size + 1) (by omega) 2 (.int .i64 (C1 : Int))) (B := w.heap.size + 1) (by omega) 3 (.int .i64 (d' : Int))
              refine bodyPost_ret (v := .agg #[.int .i64 (A1 : Int), .int .i64 (b' : Int), .int .i64 (C1 : Int), .int .i64 (d' : Int)]) (results_cell_row rfl _ _ (w.heap.size + 1) 72 #[.int .i64 (A1 : Int), .int .i64 (b' : Int), .int .i64 (C1 : Int), .int .i64 (d' : Int)] (0, 0) _ rfl s4 Try.underlying72 rfl (by kernel_rfl)) rfl ⟨k, m, HFin.out.1, HFin.out.2.1, ?_, ?_, hG4⟩
              · rw [← HFin.out.2.2.1, ← HFin.out.2.2.2.1, show b - m = b' by omega, show d - m = d' by omega]
              · rw [← HFin.out.2.2.2.2, ← q3']
                exact hL4
end Go.Proofs.Ytmhanngimmjmoaa

/- What the least edit script keeps, by the reference: Keeps, Length and Diff, walked. -/
namespace Go.Proofs.Ytmhanngimmjmoaa
open Go.RowKit

set_option maxRecDepth 10000 in
set_option maxHeartbeats 4000000 in
theorem Keeps_own (x y : List Int) (vx vy : Value) (w : World) (hx : HI w vx x) (hy : HI w vy y) (hxl : x.length ≤ 4096) (hyl : y.length ≤ 4096) (K : List Int) (hK : Hid (kp 0 x y = K)) :
    Calls Try.prog 81 #[vx, vy] w fun e w' => ∃ v' B, e = .returned v' ∧ w.heap.size ≤ B ∧ w'.ownsRow B 3 1 v' K.length (icells K) ∧ Below w.heap.size w w' := by
  obtain ⟨xo, xc, rfl⟩ := Holds.form hx
  obtain ⟨yo, yc, rfl⟩ := Holds.form hy
  have HKl : Hid (K.length = x.length) := (by show _ = _; rw [← hK.out, kp_length])
  go_enter Try.func81, Try.ntmps81
  go_wp2_with fail
  refine (table_f x y _ _ w hx hy hxl hyl).mono ?_
  rintro e w1 ⟨rfl, hR, hB1⟩
  go_wp2
  go_loopw [6, 7, 8] (fun kv jv iv wr => ∃ (i j : Nat) (Z : List Int) (zo : Option Addr) (zc : Nat), i ≤ x.length ∧ j ≤ y.length ∧ iv = .int .i64 i ∧ jv = .int .i64 j ∧ kv = .slice zo i zc ∧ Z.length = i ∧ wr.ownsRow w1.heap.size 3 1 (.slice zo i zc) i (icells Z) ∧ Below w1.heap.size w1 wr ∧ Hid (Z ++ kp j (x.drop i) (y.drop j) = K)) (fun _ jv iv _ => (x.length - (intOf iv).toNat) + (y.length - (intOf jv).toNat))
  case atStart => exact ⟨0, 0, [], none, 0, Nat.zero_le _, Nat.zero_le _, rfl, rfl, rfl, rfl, World.ownsRow_nil _ _ _ _, Below.refl _ _, hK⟩
  case round =>
    obtain ⟨i, j, Z, zo, zc, hi, hj, rfl, rfl, rfl, hZl, hO, hB, HZ⟩ := hrel
    have hs := hB.size
    have hB0 : Below w.heap.size w wr := hB1.trans (hB.mono hB1.size)
    by_cases hil : i < x.length
    · obtain ⟨bx, ox, rfl, _, hcx⟩ := HI.at (HI.keep hx hB0 (Nat.le_refl _)) (by omega)
      have d1 := hcx i hil
      obtain ⟨xi, hxi⟩ : ∃ z, x[i] = z := ⟨_, rfl⟩
      rw [hxi] at d1
      clear hcx
      have i1 : 0 ≤ (i : Int) := by omega
      have i2 : (i : Int) < (x.length : Int) := by omega
      by_cases hjl : j < y.length
      · obtain ⟨by', oy, rfl, _, hcy⟩ := HI.at (HI.keep hy hB0 (Nat.le_refl _)) (by omega)
        have d2 := hcy j hjl
        obtain ⟨yj, hyj⟩ : ∃ z, y[j] = z := ⟨_, rfl⟩
        rw [hyj] at d2
        clear hcy
        have hRr := hR.keep hB
        have hkp := kp_step j x y i j hil hjl
        rw [hxi, hyj] at hkp
        have t1 := hRr.top i hi
        have t2 := hRr.top (i + 1) (by omega)
        have r1 := hRr.at' (i + 1) j (by omega) (by omega)
        have r2 := hRr.at' i (j + 1) (by omega) (by omega)
        unfold rowV at t1 t2
        have b1 := ln_le x y (i + 1) j
        have b2 := ln_le x y i (j + 1)
        have HKP : Hid (kp j (x.drop i) (y.drop j) = if xi = yj then (j : Int) :: kp ((j : Int) + 1) (x.drop (i + 1)) (y.drop (j + 1)) else if ln x y i (j + 1) ≤ ln x y (i + 1) j then -1 :: kp j (x.drop (i + 1)) (y.drop j) else kp ((j : Int) + 1) (x.drop i) (y.drop (j + 1))) := hkp
        clear hkp hxi hyj hRr
        have i3 : (i : Int) + 1 < (x.length : Int) + 1 := by omega
        have i4 : (i : Int) < (x.length : Int) + 1 := by omega
        have j1 : 0 ≤ (j : Int) := by omega
        have j2 : (j : Int) < (y.length : Int) := by omega
        have j3 : (j : Int) + 1 < (y.length : Int) + 1 := by omega
        have j4 : (j : Int) < (y.length : Int) + 1 := by omega
        have hje : ((j : Int) == (y.length : Int)) = false := by simp; omega
        generalize rowB w.heap.size x.length i = gi at *
        generalize rowB w.heap.size x.length (i + 1) = gj at *
        generalize ln x y (i + 1) j = a1 at *
        generalize ln x y i (j + 1) = a2 at *
        by_cases hxy : xi = yj
        · have HK2 : Hid ((Z ++ [(j : Int)]) ++ kp ((j + 1 : Nat) : Int) (x.drop (i + 1)) (y.drop (j + 1)) = K) := (by
            show _ = _
            rw [← HZ.out, HKP.out, if_pos hxy]
            simp)
          clear HKP
          subst hxy
          have e1 : (xi == xi) = true := by simp
          have e2 : (xi != xi) = false := by simp
          go_wp2_with fail
          go_big_quiet (fail)
          revert nq
          intro n1
          go_wp2_with fail
          go_quiet (fail)
          have hOd : ((wr.drewN n1).drewN nq).ownsRow w1.heap.size 3 1 (.slice zo i zc) i (icells Z) := hO
          have hBd : Below w1.heap.size w1 ((wr.drewN n1).drewN nq) := Below.dN (Below.dN hB n1) nq
          generalize (wr.drewN n1).drewN nq = wd at hOd hBd ⊢
          have hsd := hBd.size
          go_wp2_with (at_builtin; refine wpList_append_h _ (by kernel_rfl) (.tmp 68) (.tmp 70) 22 3 (.int .i64 0) 1 8 rfl Try.underlying22 infoInt rfl (by decide) (by decide) w1.heap.size (.slice zo i zc) i (icells Z) (by kernel_rfl) (hOd.alloc _) (.slice (some ⟨wd.heap.size, 0, none⟩) 1 1) 1 (icells [(j : Int)]) (by kernel_rfl) (new_holds wd _ _ 1 1 (by decide)) rfl (icells_one _) (by omega) (by simp; omega) ?_)
          intro v3 w3 hown3 hgrow3
          have hB3 : Below w1.heap.size w1 w3 := (hBd.alloc (by omega) _).grown hgrow3 (by simp; omega) (fun _ hj => owns_ge hO hj)
          rw [← icells_append] at hown3
          obtain ⟨zo3, zc3, rfl⟩ := (holds_of hown3).form
          clear hgrow3
          go_wp2
          go_roundw
          case rel => exact ⟨i + 1, j + 1, Z ++ [(j : Int)], zo3, zc3, by omega, by omega, by go_num, by go_num, rfl, by simp [hZl], hown3, hB3, HK2⟩
          case measure => simp [intOf]; omega
        · have e1 : (xi == yj) = false := by simp [hxy]
          have e2 : (xi != yj) = true := by simp [hxy]
          by_cases hle : a2 ≤ a1
          · have HK2 : Hid ((Z ++ [-1]) ++ kp (j : Int) (x.drop (i + 1)) (y.drop j) = K) := (by
              show _ = _
              rw [← HZ.out, HKP.out, if_neg hxy, if_pos hle]
              simp)
            clear HKP
            go_wp2_with fail
            go_big_quiet (fail)
            have hOd : (wr.drewN nq).ownsRow w1.heap.size 3 1 (.slice zo i zc) i (icells Z) := hO
            have hBd : Below w1.heap.size w1 (wr.drewN nq) := Below.dN hB nq
            generalize wr.drewN nq = wd at hOd hBd ⊢
            have hsd := hBd.size
            go_wp2_with (at_builtin; refine wpList_append_h _ (by kernel_rfl) (.tmp 53) (.tmp 54) 22 3 (.int .i64 0) 1 8 rfl Try.underlying22 infoInt rfl (by decide) (by decide) w1.heap.size (.slice zo i zc) i (icells Z) (by kernel_rfl) (hOd.alloc _) (.slice (some ⟨wd.heap.size, 0, none⟩) 1 1) 1 (icells [-1]) (by kernel_rfl) (new_holds wd _ _ 1 1 (by decide)) rfl (icells_one _) (by omega) (by simp; omega) ?_)
            intro v3 w3 hown3 hgrow3
            have hB3 : Below w1.heap.size w1 w3 := (hBd.alloc (by omega) _).grown hgrow3 (by simp; omega) (fun _ hj => owns_ge hO hj)
            rw [← icells_append] at hown3
            obtain ⟨zo3, zc3, rfl⟩ := (holds_of hown3).form
            clear hgrow3
            go_wp2
            go_roundw
            case rel => exact ⟨i + 1, j, Z ++ [-1], zo3, zc3, by omega, by omega, by go_num, rfl, rfl, by simp [hZl], hown3, hB3, HK2⟩
            case measure => simp [intOf]; omega
          · have HK2 : Hid (Z ++ kp ((j + 1 : Nat) : Int) (x.drop i) (y.drop (j + 1)) = K) := (by
              show _ = _
              rw [← HZ.out, HKP.out, if_neg hxy, if_neg hle]
              simp)
            clear HKP
            have e3 : decide ((a2 : Int) ≤ (a1 : Int)) = false := decide_eq_false (by omega)
            have e4 : decide (a2 ≤ a1) = false := decide_eq_false hle
            go_wp2_with fail
            go_big_quiet (fail)
            go_wp2_with fail
            go_quiet (fail)
            go_wp2
            exact ⟨⟨i, j + 1, Z, zo, zc, hi, by omega, rfl, by go_num, rfl, hZl, hO, Below.dN hB _, HK2⟩, by simp [intOf]; omega⟩
      · have HK2 : Hid ((Z ++ [-1]) ++ kp (j : Int) (x.drop (i + 1)) (y.drop j) = K) := (by
          show _ = _
          rw [← HZ.out, show y.drop j = [] by rw [List.drop_eq_nil_iff]; omega, List.drop_eq_getElem_cons hil, kp]
          simp)
        have hje : ((j : Int) == (y.length : Int)) = true := by simp; omega
        go_wp2_with fail
        go_big_quiet (fail)
        have hOd : (wr.drewN nq).ownsRow w1.heap.size 3 1 (.slice zo i zc) i (icells Z) := hO
        have hBd : Below w1.heap.size w1 (wr.drewN nq) := Below.dN hB nq
        generalize wr.drewN nq = wd at hOd hBd ⊢
        have hsd := hBd.size
        go_wp2_with (at_builtin; refine wpList_append_h _ (by kernel_rfl) (.tmp 53) (.tmp 54) 22 3 (.int .i64 0) 1 8 rfl Try.underlying22 infoInt rfl (by decide) (by decide) w1.heap.size (.slice zo i zc) i (icells Z) (by kernel_rfl) (hOd.alloc _) (.slice (some ⟨wd.heap.size, 0, none⟩) 1 1) 1 (icells [-1]) (by kernel_rfl) (new_holds wd _ _ 1 1 (by decide)) rfl (icells_one _) (by omega) (by simp; omega) ?_)
        intro v3 w3 hown3 hgrow3
        have hB3 : Below w1.heap.size w1 w3 := (hBd.alloc (by omega) _).grown hgrow3 (by simp; omega) (fun _ hj => owns_ge hO hj)
        rw [← icells_append] at hown3
        obtain ⟨zo3, zc3, rfl⟩ := (holds_of hown3).form
        clear hgrow3
        go_wp2
        go_roundw
        case rel => exact ⟨i + 1, j, Z ++ [-1], zo3, zc3, by omega, by omega, by go_num, rfl, rfl, by simp [hZl], hown3, hB3, HK2⟩
        case measure => simp [intOf]; omega
    · obtain rfl : i = x.length := by omega
      have hZK : Z = K := by rw [← HZ.out, show x.drop x.length = [] by simp, kp_nil, List.append_nil]
      subst hZK
      go_wp2
      go_ret
      exact ⟨_, _, rfl, hB1.size, by rw [hZl]; exact hO, hB0⟩
theorem Keeps_f (x y : List Int) (vx vy : Value) (w : World) (hx : HI w vx x) (hy : HI w vy y) (hxl : x.length ≤ 4096) (hyl : y.length ≤ 4096) (K : List Int) (hK : Hid (kp 0 x y = K)) :
    Calls Try.prog 81 #[vx, vy] w fun e w' => ∃ v', e = .returned v' ∧ HI w' v' K ∧ Below w.heap.size w w' := by
  refine (Keeps_own x y vx vy w hx hy hxl hyl K hK).mono ?_
  rintro e w' ⟨v', B, rfl, _, ho, hb⟩
  exact ⟨v', rfl, holds_of ho, hb⟩
end Go.Proofs.Ytmhanngimmjmoaa
