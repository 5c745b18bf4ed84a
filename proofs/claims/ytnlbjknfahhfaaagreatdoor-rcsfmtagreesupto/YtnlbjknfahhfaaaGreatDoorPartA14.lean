/-
  Texts that belong together, joined: SpFd, SpGr, SpRg, SpDf.
-/
import Derived.Test.YtnlbjknfahhfaaaGreatDoorPartA9
import Derived.Test.YtnlbjknfahhfaaaGreatDoorPartA13
import Derived.Test.YtnlbjknfahhfaaaGreatDoorPartA12
import Derived.Test.YtnlbjknfahhfaaaGreatDoorPartA7
import Derived.Test.YtnlbjknfahhfaaaGreatDoorPartA5
import Derived.Test.YtnlbjknfahhfaaaGreatDoorPartA11
import Derived.Test.YtnlbjknfahhfaaaGreatDoorPartA10

/- speedy.Diff's closure, and Diff, walked. -/
set_option maxRecDepth 20000
namespace Go.Proofs.YtnlbjknfahhfaaaGreatDoor
open Go.RowKit

theorem lp_none (Z : List Int) : ∀ (a c : Int), (∀ z ∈ Z, z = -1) → lp a c Z = [] := by
  induction Z with
  | nil => intro a c _; rfl
  | cons z Z ih =>
    intro a c h
    rw [lp, if_pos (h z List.mem_cons_self), ih (a + 1) c (fun q hq => h q (List.mem_cons_of_mem _ hq))]
    rfl
/-- where a piece is empty nothing is kept -/
theorem lp_empty (a c : Int) (X Y : List Int) (h : X.length = 0 ∨ Y.length = 0) : lp a c (kp 0 X Y) = [] := by
  refine lp_none _ a c fun z hz => ?_
  have hV := kp_vk 0 X Y (Int.le_refl _)
  rw [Int.zero_add] at hV
  rcases h with h | h
  · rw [List.eq_nil_of_length_eq_zero h] at hz
    have := kp_length 0 [] Y
    rw [List.eq_nil_of_length_eq_zero this] at hz
    cases hz
  · have h1 := hV.each (Int.le_refl _) z hz
    have h2 := hV.lt z hz
    omega
theorem smid_cut (B : Int) (x y : List Int) (rec : Nat → Nat → Nat → Nat → List Pr) (A b C d : Nat) (hA : A ≤ b) (hC : C ≤ d) (hb : b ≤ x.length) (hd : d ≤ y.length) : (if A < b ∧ C < d then smid B x y rec A b C d else []) = if ((b - A : Nat) : Int) * ((d - C : Nat) : Int) ≤ max 0 B then lp A C (kp 0 (sub x A b) (sub y C d)) else lp A C (gdy (sub y C d) 64 0 (sub x A b)) := by
  by_cases h : A < b ∧ C < d
  · rw [if_pos h]
    rfl
  · have h0 : ((b - A : Nat) : Int) * ((d - C : Nat) : Int) = 0 := by
      rcases Nat.lt_or_ge A b with h1 | h1
      · rw [show d - C = 0 by omega]
        simp
      · rw [show b - A = 0 by omega]
        simp
    rw [if_neg h, if_pos (by rw [h0]; omega), lp_empty]
    rw [sub_length x A b hb, sub_length y C d hd]
    omega
theorem load_row {u : World} {a : Addr} {ao : Option Addr} {n c : Nat} (h : u.cell? a = some (.slice ao n c)) {op : Oper} (x : Operand) (ho : op.op = .load 55 x) {ev : Operand → Value} (hx : ev x = .pointer (some a)) :
    (execOp ev op).run Tryz.prog u = .ok (.value (.slice ao n c)) u := by
  simp only [execOp, ho, hx]
  go_simp
theorem greedy_held {X Y : List Int} {xo : Option Addr} {nx xc : Nat} {yo : Option Addr} {ny yc : Nat} {u : World} {G : List Int} {B : Nat} {v0 v1 v2 v3 : Value} (hl : X.length ≤ 1048576 ∧ Y.length ≤ 1048576) (hX : X.length = nx) (hx : HI u (.slice xo nx xc) X) (hy : HI u (.slice yo ny yc) Y) (hG : Hid (gdy Y 64 0 X = G)) (hQ : Qbx u B v0 v1 v2 v3) :
    Calls Tryz.prog 111 (#[.slice xo nx xc, .slice yo ny yc, .int .i64 64] ++ #[]) u fun e w' => ∃ v, e = .returned v ∧ Qbx w' B v0 v1 v2 v3 ∧ ∃ zo zc, v = .slice zo nx zc ∧ w'.ownsRow u.heap.size 3 1 (.slice zo nx zc) nx (icells G) ∧ Below u.heap.size u w' := by
  subst hX
  refine (Greedy_f X Y 64 _ _ u hx hy hl.1 hl.2 G hG).mono ?_
  rintro e w' ⟨zo, zc, rfl, h1, h2⟩
  exact ⟨_, rfl, hQ.low h2, zo, zc, rfl, h1, h2⟩
theorem keepAt_held {x : List Int} {W0 u : World} {g B : Nat} {K Z : List Int} {a c : Nat} {xo : Option Addr} {nx xc : Nat} {yo : Option Addr} {ny yc : Nat} {ko : Option Addr} {kc : Nat} (hat : 0 < nx → ko = some ⟨g, a, none⟩) (hnx : a + nx ≤ x.length) (hny : c + ny ≤ 4096) (hxl : x.length ≤ 4096) {zo : Option Addr} {zc : Nat} (hZl : Z.length = nx) (hO : u.ownsRow B 3 1 (.slice zo nx zc) nx (icells Z)) (hgB : g < B) (hV : Vk 0 ny Z) (hS : Ls W0 g x.length K u) {KF : List Int} (hKF : Hid (wrk K (lp a c Z) = KF)) {Q : Nat} {v0 v1 v2 v3 : Value} (hQ : Qbx u Q v0 v1 v2 v3) (hg : g ≠ Q) :
    Calls Tryz.prog 110 (#[.agg #[.slice xo nx xc, .slice yo ny yc, .int .i64 (c : Int), .slice ko nx kc], .slice zo nx zc] ++ #[]) u fun e w' => ∃ v, e = .returned v ∧ Qbx w' Q v0 v1 v2 v3 ∧ v = .tuple #[] ∧ Ls W0 g x.length KF w' ∧ u.grownBy w' (some g) := by
  refine (KeepAt_f x W0 u g B K Z a c xo nx xc yo ny yc ko kc hat hnx hny hxl zo zc hZl hO hgB hV hS KF hKF).mono ?_
  rintro e w' ⟨rfl, h1, h2⟩
  exact ⟨_, rfl, hQ.keep h2 (fun q => hg (Option.some.inj q).symm), rfl, h1, h2⟩

set_option maxRecDepth 10000 in
set_option maxHeartbeats 8000000 in
theorem sfind_f (x y : List Int) (W0 : World) (g Bf : Nat) (bound : Int) (hf0 : W0.cell? ⟨Bf, 0, none⟩ = some (.int .i64 bound)) (hxl : x.length ≤ 4096) (hyl : y.length ≤ 4096) (f : Nat) (w : World) (K : List Int) (hS : Ls W0 g x.length K w) (a b c d : Nat) (xo : Option Addr) (nx xc : Nat) (yo : Option Addr) (ny yc : Nat) (ko : Option Addr) (kc : Nat) (hp : Pz W0 g x y a b c d xo nx xc yo ny yc ko kc) (KF : List Int) (hKF : Hid (wrk K (pcs (smid bound x y) x y (f + 1) a b c d) = KF)) :
    Calls Tryz.prog 109 #[.agg #[.slice xo nx xc, .slice yo ny yc, .int .i64 (c : Int), .slice ko nx kc], .pointer (some ⟨Bf, 0, none⟩)] w fun e w' => e = .returned (.tuple #[]) ∧ Ls W0 g x.length KF w' ∧ w.grownBy w' (some g) := by
  have hg := hS.lt
  have HKF : Hid (∀ k m, k = tf x y a b c d → m = tb x y (a + k) b (c + k) d → wrk (wrk K (fp a c k ++ bp b d m)) (if a + k < b - m ∧ c + k < d - m then smid bound x y (pcs (smid bound x y) x y f) (a + k) (b - m) (c + k) (d - m) else []) = KF) := (by
    intro k m hk hm
    rw [← hKF.out, pcs, ends, ← hk, ← hm, wrk_append, wrk_append, wrk_append])
  have hQ0 := Qbx.new w (.slice xo nx xc) (.slice yo ny yc) (.int .i64 c) (.slice ko nx kc)
  have hB0 := (Below.refl w.heap.size w).alloc (Nat.le_refl _) (.cells #[.slice xo nx xc, .slice yo ny yc, .int .i64 c, .slice ko nx kc] 183)
  clear hKF
  go_enter Tryz.func109, Tryz.ntmps109
  go_wp2_with fail
  refine (KeepEnds_f x y W0 _ g K a b c d xo nx xc yo ny yc ko kc hp hxl hyl (hS.keep hB0)).mono ?_
  rintro e w1 ⟨k, m, xo1, nx1, xc1, yo1, ny1, yc1, ko1, kc1, hk, hm, rfl, hp1, hS1, hG1⟩
  have HK2 := HKF.out k m hk hm
  have hkl := tf_le x y a b c d
  have hml := tb_le x y (a + k) b (c + k) d
  rw [← hk] at hkl
  rw [← hm] at hml
  have hQ1 := hQ0.keep hG1 (by simp; omega)
  have hG1' : w.grownBy w1 (some g) := (low_grown hB0 _).trans hG1
  clear hk hm HKF hS hB0 hQ0 hG1
  obtain ⟨A, hA⟩ : ∃ A, a + k = A := ⟨_, rfl⟩
  obtain ⟨C, hC⟩ : ∃ C, c + k = C := ⟨_, rfl⟩
  obtain ⟨b1, hb1⟩ : ∃ B, b - m = B := ⟨_, rfl⟩
  obtain ⟨d1, hd1⟩ : ∃ D, d - m = D := ⟨_, rfl⟩
  obtain ⟨K1, hK1⟩ : ∃ K1, wrk K (fp a c k ++ bp b d m) = K1 := ⟨_, rfl⟩
  rw [hK1] at hS1 HK2
  rw [hA, hC, hb1, hd1] at HK2 hp1
  rw [hC]
  clear hA hC hb1 hd1 hK1 hkl hml hp
  have hAb := hp1.eb
  have hCd := hp1.ed
  have hbx := hp1.bx
  have hdy := hp1.dy
  rw [smid_cut bound x y _ A b1 C d1 (by omega) (by omega) hbx hdy] at HK2
  obtain ⟨P, hP⟩ : ∃ P, nx1 * ny1 = P := ⟨_, rfl⟩
  obtain ⟨M, hM⟩ : ∃ M, max 0 bound = M := ⟨_, rfl⟩
  have hPi : (nx1 : Int) * (ny1 : Int) = (P : Int) := by rw [← hP]; simp
  have hPb : P ≤ 4096 * 4096 := by rw [← hP]; exact Nat.mul_le_mul (by omega) (by omega)
  have HK3 : Hid (wrk K1 (if (P : Int) ≤ M then lp A C (kp 0 (sub x A b1) (sub y C d1)) else lp A C (gdy (sub y C d1) 64 0 (sub x A b1))) = KF) := (by
    show _ = _
    rw [show b1 - A = nx1 by omega, show d1 - C = ny1 by omega, hPi, hM] at HK2
    exact HK2)
  have hmax : ∀ w : World, (Builtin.max_ #[3, 3] 3 #[.int .i64 bound, .int .i64 0]).run Tryz.prog w = .ok (.int .i64 M) w := by
    intro w
    rw [run_max_int2, ← hM]
    congr 2
    split <;> omega
  clear HK2 hP
  obtain ⟨c0, c1, c2, c3⟩ := hQ1.cells
  have f0 := hQ1.frozen
  have hQ2 := hQ1.put (.slice xo1 nx1 xc1) (.slice yo1 ny1 yc1) (.int .i64 (C : Int)) (.slice ko1 nx1 kc1)
  have hgw := hS1.low.size
  have hgl := hS1.lt
  have hS2 := ls_other (ls_other (ls_other (ls_other hS1 (g := w.heap.size) (by omega) (by omega) 0 (.slice xo1 nx1 xc1)) (g := w.heap.size) (by omega) (by omega) 1 (.slice yo1 ny1 yc1)) (g := w.heap.size) (by omega) (by omega) 2 (.int .i64 (C : Int))) (g := w.heap.size) (by omega) (by omega) 3 (.slice ko1 nx1 kc1)
  have hG2 := grown_new (grown_new (grown_new (grown_new hG1' (B := w.heap.size) (by omega) 0 (.slice xo1 nx1 xc1)) (B := w.heap.size) (by omega) 1 (.slice yo1 ny1 yc1)) (B := w.heap.size) (by omega) 2 (.int .i64 (C : Int))) (B := w.heap.size) (by omega) 3 (.slice ko1 nx1 kc1)
  obtain ⟨W2, hW2⟩ : ∃ W2, (((w1.setCell ⟨w.heap.size, 0, none⟩ (.slice xo1 nx1 xc1)).setCell ⟨w.heap.size, 1, none⟩ (.slice yo1 ny1 yc1)).setCell ⟨w.heap.size, 2, none⟩ (.int .i64 (C : Int))).setCell ⟨w.heap.size, 3, none⟩ (.slice ko1 nx1 kc1) = W2 := ⟨_, rfl⟩
  rw [hW2] at hQ2 hS2 hG2
  have hbd : W2.cell? ⟨Bf, 0, none⟩ = some (.int .i64 bound) := by
    have : Bf < W0.heap.size := by
      rcases Nat.lt_or_ge Bf W0.heap.size with h | h
      · exact h
      · unfold World.cell? at hf0
        rw [Array.getElem?_eq_none h] at hf0
        cases hf0
    rw [World.cell?_of_block (w := W0) (hS2.low.block Bf this)]
    exact hf0
  unfold pzV
  obtain ⟨q0, q1, q2, q3⟩ := hQ2.cells
  by_cases hle : (P : Int) ≤ M
  · have HK4 : Hid (wrk K1 (lp A C (kp 0 (sub x A b1) (sub y C d1))) = KF) := (by
      show _ = _
      have := HK3.out
      rw [if_pos hle] at this
      exact this)
    clear HK3
    go_wp2_with fail
    clear hW2
    refine (KeepMost_f x y W0 W2 g K1 A b1 C d1 xo1 nx1 xc1 yo1 ny1 yc1 ko1 kc1 hp1 hxl hyl hS2 KF HK4).mono ?_
    rintro e w6 ⟨rfl, hS6, hG6⟩
    have hG7 := hG2.trans hG6
    go_wp2
    go_end0
    exact ⟨rfl, hS6, hG7⟩
  · obtain ⟨X, hX⟩ : ∃ X, sub x A b1 = X := ⟨_, rfl⟩
    obtain ⟨Y, hY⟩ : ∃ Y, sub y C d1 = Y := ⟨_, rfl⟩
    obtain ⟨G, hG⟩ : ∃ G, gdy Y 64 0 X = G := ⟨_, rfl⟩
    have hXl : X.length = nx1 := by rw [← hX, sub_length x A b1 hbx]; omega
    have hYl : Y.length = ny1 := by rw [← hY, sub_length y C d1 hdy]; omega
    have hx3 : HI W2.drew (.slice xo1 nx1 xc1) X := by
      unfold HI
      rw [hXl, ← hX]
      exact Holds.keep hp1.hx (fun q hq => hS2.low.block q hq)
    have hy3 : HI W2.drew (.slice yo1 ny1 yc1) Y := by
      unfold HI
      rw [hYl, ← hY]
      exact Holds.keep hp1.hy (fun q hq => hS2.low.block q hq)
    have HG : Hid (gdy Y 64 0 X = G) := hG
    have HGl : Hid (G.length = nx1) := (by show _ = _; rw [← hG, gdy_length, hXl])
    have HGv : Hid (Vk 0 ny1 G) := (by
      have := gdy_vk Y 64 X 0
      rw [hG, hYl] at this
      exact this)
    have HX : Hid (X.length ≤ 1048576 ∧ Y.length ≤ 1048576) := (by refine ⟨?_, ?_⟩ <;> omega)
    have HK4 : Hid (wrk K1 (lp A C G) = KF) := (by
      show _ = _
      have := HK3.out
      rw [if_neg hle, hX, hY, hG] at this
      exact this)
    have hnx1 : A + nx1 ≤ x.length := by omega
    have hny1 : C + ny1 ≤ 4096 := by omega
    have hgW : g < W2.drew.heap.size := hS2.lt.2
    have hgw2 : g ≠ w.heap.size := by omega
    have hle' : M < (P : Int) := by omega
    have hle2 : decide ((P : Int) ≤ M) = false := decide_eq_false hle
    clear HK3 hG hX hY
    go_wp2_with fail
    clear hW2 q0 q1 q2 q3 c0 c1 c2 c3
    refine wp_region_noPanic ?_
    refine wp_region_held_drew (S := fun u => Qbx u w.heap.size (.slice xo1 nx1 xc1) (.slice yo1 ny1 yc1) (.int .i64 (C : Int)) (.slice ko1 nx1 kc1)) (by kernel_rfl) (hQ2.drewN 1) (fun hHeld => ?_)
    refine go_take 0 17 _ (.agg #[.slice xo1 nx1 xc1, .slice yo1 ny1 yc1, .int .i64 (C : Int), .slice ko1 nx1 kc1]) rfl (by kernel_rfl) (by kernel_rfl) (by kernel_rfl) (by kernel_rfl) (fun _ _ _ h => h) (Or.inl ⟨by kernel_rfl, fun u hu => load_pz hu (.tmp 2) (by kernel_rfl) (by kernel_rfl)⟩) hHeld ?_
    simp only [Act.put, List.setIfInBounds_toArray, List.set_cons_zero, List.set_cons_succ]
    refine go_take 1 18 _ (.pointer (some ⟨w.heap.size, 0, none⟩)) rfl (by kernel_rfl) (by kernel_rfl) (by kernel_rfl) (by kernel_rfl) (fun _ _ _ h => h) (Or.inl ⟨by kernel_rfl, fun u hu => by kernel_rfl⟩) hHeld ?_
    simp only [Act.put, List.setIfInBounds_toArray, List.set_cons_zero, List.set_cons_succ]
    refine go_take 2 19 _ (.slice xo1 nx1 xc1) rfl (by kernel_rfl) (by kernel_rfl) (by kernel_rfl) (by kernel_rfl) (fun _ _ _ h => h) (Or.inl ⟨by kernel_rfl, fun u hu => load_row hu.cells.1 (.tmp 18) (by kernel_rfl) (by kernel_rfl)⟩) hHeld ?_
    simp only [Act.put, List.setIfInBounds_toArray, List.set_cons_zero, List.set_cons_succ]
    refine go_take 3 20 _ (.pointer (some ⟨w.heap.size, 1, none⟩)) rfl (by kernel_rfl) (by kernel_rfl) (by kernel_rfl) (by kernel_rfl) (fun _ _ _ h => h) (Or.inl ⟨by kernel_rfl, fun u hu => by kernel_rfl⟩) hHeld ?_
    simp only [Act.put, List.setIfInBounds_toArray, List.set_cons_zero, List.set_cons_succ]
    refine go_take 4 21 _ (.slice yo1 ny1 yc1) rfl (by kernel_rfl) (by kernel_rfl) (by kernel_rfl) (by kernel_rfl) (fun _ _ _ h => h) (Or.inl ⟨by kernel_rfl, fun u hu => load_row hu.cells.2.1 (.tmp 20) (by kernel_rfl) (by kernel_rfl)⟩) hHeld ?_
    simp only [Act.put, List.setIfInBounds_toArray, List.set_cons_zero, List.set_cons_succ]
    refine go_callE 5 22 _ rfl (by kernel_rfl) (by kernel_rfl) (by kernel_rfl) 111 (.func 111) #[.tmp 19, .tmp 21, .const (.int .i64 64)] #[55, 55, 3] (by kernel_rfl) #[] (by kernel_rfl) #[.slice xo1 nx1 xc1, .slice yo1 ny1 yc1, .int .i64 64] (by kernel_rfl) (enters_of Tryz.func111 (by kernel_rfl) rfl) _ (greedy_held HX.out hXl hx3 hy3 HG hHeld) ?_
    rintro _ u5 hHeld ⟨zo, zc, rfl, hO5, hL5⟩
    simp only [Act.put, List.setIfInBounds_toArray, List.set_cons_zero, List.set_cons_succ]
    have hgB : g < W2.drew.heap.size := hgW
    have hS5 := (hS2.keep (Below.dN (Below.refl _ W2) 1)).keep hL5
    have hG5 := hG2.trans (low_grown ((Below.dN (Below.refl W2.heap.size W2) 1).trans hL5) (some g))
    refine go_callE 6 23 _ rfl (by kernel_rfl) (by kernel_rfl) (by kernel_rfl) 110 (.func 110) #[.tmp 17, .tmp 22] #[183, 55] (by kernel_rfl) #[] (by kernel_rfl) #[.agg #[.slice xo1 nx1 xc1, .slice yo1 ny1 yc1, .int .i64 (C : Int), .slice ko1 nx1 kc1], .slice zo nx1 zc] (by kernel_rfl) (enters_of Tryz.func110 (by kernel_rfl) rfl) _ (keepAt_held (by have := hp1.at'; exact this) hnx1 hny1 hxl HGl.out hO5 hgB HGv.out hS5 HK4 hHeld hgw2) ?_
    rintro _ u6 hHeld ⟨rfl, hS6, hG6⟩
    simp only [Act.put, List.setIfInBounds_toArray, List.set_cons_zero, List.set_cons_succ]
    refine wpAnyH_done (by kernel_rfl) ?_ _
    refine NoPanic.normal ?_
    have hG7 := hG5.trans hG6
    go_wp2
    go_end0
    exact ⟨rfl, hS6, hG7⟩
set_option maxRecDepth 10000 in
set_option maxHeartbeats 2000000 in
theorem spDiff_f (x y : List Int) (bound : Int) (vx vy : Value) (w : World) (hx : HI w vx x) (hy : HI w vy y) (hxl : x.length ≤ 4096) (hyl : y.length ≤ 4096) (L : List Ch) (hL : Hid (mkL (sKeep bound x y) y.length = L)) :
    Calls Tryz.prog 74 #[vx, vy, .int .i64 bound] w fun e w' => ∃ v', e = .returned (.tuple #[v', .int .i64 0]) ∧ HCh w' v' L ∧ Below w.heap.size w w' := by
  obtain ⟨xo, xc, rfl⟩ := Holds.form hx
  obtain ⟨yo, yc, rfl⟩ := Holds.form hy
  obtain ⟨KF, hKF⟩ : ∃ KF, sKeep bound x y = KF := ⟨_, rfl⟩
  have HK : Hid (Kpt x y KF) := (by rw [← hKF]; exact sKeep_kpt bound x y)
  have HF : Hid (wrk (List.replicate x.length (-1)) (pcs (smid bound x y) x y (x.length + 1) 0 x.length 0 y.length) = KF) := hKF
  rw [hKF] at hL
  clear hKF
  have hW1 : Below w.heap.size w (w.alloc (.cells #[.int .i64 bound] 3)) := (Below.refl _ w).alloc (Nat.le_refl _) _
  have hf0 : (w.alloc (.cells #[.int .i64 bound] 3)).cell? ⟨w.heap.size, 0, none⟩ = some (.int .i64 bound) := by
    rw [Lib.cell_of_heap (_root_.Go.heap_alloc_new w _)]
    rfl
  go_enter Tryz.func74, Tryz.ntmps74
  go_wp2_with fail
  refine (pDiff_f x y _ _ _ (HI.keep hx hW1 (Nat.le_refl _)) (HI.keep hy hW1 (Nat.le_refl _)) hxl hyl 109 #[.pointer (some ⟨w.heap.size, 0, none⟩)] (enters_of Tryz.func109 (by kernel_rfl) rfl) KF HK (fun u g xo xc yo yc hS hp => sfind_f x y _ g w.heap.size bound hf0 hxl hyl x.length u _ hS 0 x.length 0 y.length _ _ _ _ _ _ _ _ hp KF HF) L hL).mono ?_
  rintro e w2 ⟨v2, rfl, hv2, hB2⟩
  have hB := hW1.trans (hB2.mono (by simp))
  clear hf0
  go_wp2
  go_ret2
  exact ⟨_, rfl, hv2, hB⟩
set_option maxHeartbeats 2000000 in
theorem spDiff_long (x y : List Int) (bound : Int) (vx vy : Value) (w : World) (hx : HI w vx x) (hy : HI w vy y) (hl : 4096 < x.length ∨ 4096 < y.length) :
    Calls Tryz.prog 74 #[vx, vy, .int .i64 bound] w fun e w' => e = .returned (.tuple #[.slice none 0 0, .int .i64 9]) ∧ Below w.heap.size w w' := by
  obtain ⟨xo, xc, rfl⟩ := Holds.form hx
  obtain ⟨yo, yc, rfl⟩ := Holds.form hy
  have HL : Hid (4096 < x.length ∨ 4096 < y.length) := hl
  clear hl
  have hW1 : Below w.heap.size w (w.alloc (.cells #[.int .i64 bound] 3)) := (Below.refl _ w).alloc (Nat.le_refl _) _
  go_enter Tryz.func74, Tryz.ntmps74
  go_wp2_with fail
  refine (pDiff_long x y _ _ _ _ (HI.keep hx hW1 (Nat.le_refl _)) (HI.keep hy hW1 (Nat.le_refl _)) HL.out).mono ?_
  rintro e w2 ⟨rfl, rfl⟩
  go_wp2
  go_ret2
  exact ⟨rfl, hW1⟩
end Go.Proofs.YtnlbjknfahhfaaaGreatDoor

/- Greedy from the last place down, as the reference goes: plain. -/
set_option maxRecDepth 20000
namespace Go.Proofs.YtnlbjknfahhfaaaGreatDoor

/-- the least place from j on that will do, or -1 -/
def atF (c : Int) (y : List Int) (nx : Nat) (far : Int) (j : Nat) : Int := match (y.drop j).findIdx? (fun z => z == c) with
  | some k => if ((j + k : Nat) : Int) - (nx : Int) < far then ((j + k : Nat) : Int) else -1
  | none => -1
theorem atF_end (c : Int) (y : List Int) (nx : Nat) (far : Int) : atF c y nx far y.length = -1 := by
  unfold atF
  rw [List.drop_of_length_le (Nat.le_refl _)]
  rfl
theorem atF_step (c : Int) (y : List Int) (nx : Nat) (far : Int) (j : Nat) (hj : j < y.length) : atF c y nx far j = if y[j] = c ∧ (j : Int) - (nx : Int) < far then (j : Int) else atF c y nx far (j + 1) := by
  unfold atF
  rw [List.drop_eq_getElem_cons hj, List.findIdx?_cons]
  by_cases e : y[j] = c
  · rw [if_pos (by simp [e])]
    by_cases f : (j : Int) - (nx : Int) < far
    · rw [if_pos ⟨e, f⟩]
      simp only [Nat.add_zero]
      rw [if_pos f]
    · rw [if_neg (fun h => f h.2)]
      simp only [Nat.add_zero]
      rw [if_neg f]
      split
      · rw [if_neg (by omega)]
      · rfl
  · rw [if_neg (by simp [e]), if_neg (fun h => e h.1)]
    cases h : (y.drop (j + 1)).findIdx? (fun z => z == c) with
    | none => rfl
    | some k =>
      simp only [Option.map_some]
      rw [show j + (k + 1) = j + 1 + k by omega]
theorem atF_gdn (c : Int) (y : List Int) (nx : Nat) (far : Int) : atF c y nx far nx = match gdn c y nx far with
    | some j => (j : Int)
    | none => -1 := by
  unfold atF gdn
  cases h : (y.drop nx).findIdx? (fun z => z == c) with
  | none => rfl
  | some k =>
    simp only
    by_cases f : (k : Int) < far
    · rw [if_pos (by omega), if_pos f]
    · rw [if_neg (by omega), if_neg f]
theorem atF_range (c : Int) (y : List Int) (nx : Nat) (far : Int) (j : Nat) : atF c y nx far j = -1 ∨ ∃ k : Nat, atF c y nx far j = (k : Int) ∧ k < y.length := by
  unfold atF
  split
  · rename_i k hk
    split
    · obtain ⟨h1, _⟩ := List.findIdx?_eq_some_iff_getElem.1 hk
      rw [List.length_drop] at h1
      exact .inr ⟨j + k, rfl, by omega⟩
    · exact .inl rfl
  · exact .inl rfl
/-- one member more -/
theorem gdy_atF (y : List Int) (far : Int) (nx : Nat) (c : Int) (x : List Int) {z : Int} (h : atF c y nx far nx = z) : gdy y far nx (c :: x) = z :: gdy y far (if 0 ≤ z then z.toNat + 1 else nx) x := by
  rw [gdy]
  rw [atF_gdn] at h
  split at h
  · rename_i j hj
    rw [hj]
    subst h
    rw [if_pos (Int.natCast_nonneg j)]
    rfl
  · rename_i hj
    rw [hj]
    subst h
    rw [if_neg (by omega)]
end Go.Proofs.YtnlbjknfahhfaaaGreatDoor

/- The reference's Greedy, walked. -/
set_option maxRecDepth 20000
namespace Go.Proofs.YtnlbjknfahhfaaaGreatDoor
open Go.RowKit

theorem gdy_hit {y : List Int} {far : Int} {nx k : Nat} {c : Int} {x X G : List Int} (h : X ++ gdy y far nx (c :: x) = G) (hz : atF c y nx far nx = (k : Int)) : X ++ [(k : Int)] ++ gdy y far (k + 1) x = G := by
  rw [← h, gdy_atF y far nx c x hz, if_pos (by omega), List.append_assoc]
  rfl
theorem gdy_miss {y : List Int} {far : Int} {nx : Nat} {c : Int} {x X G : List Int} (h : X ++ gdy y far nx (c :: x) = G) (hz : atF c y nx far nx = -1) : X ++ [-1] ++ gdy y far nx x = G := by
  rw [← h, gdy_atF y far nx c x hz, if_neg (by omega), List.append_assoc]
  rfl

end Go.Proofs.YtnlbjknfahhfaaaGreatDoor

/- The reference's Diff of layer 9, walked. -/
set_option maxRecDepth 20000
namespace Go.Proofs.YtnlbjknfahhfaaaGreatDoor
open Go.RowKit
attribute [local simp] low_drew

theorem exec_slG {u : World} {ao ao' : Option Addr} {n cap l h n' c' : Nat} (hr : ∀ u : World, (Instr.slice 55 (.slice ao n cap) (some (.int .i64 (l : Int))) (some (.int .i64 (h : Int))) none).run Tryz.prog u = .ok (.slice ao' n' c') u) {op : Oper} (x y z : Operand) (ho : op.op = .slice 55 x (some y) (some z) none) {ev : Operand → Value} (hx : ev x = .slice ao n cap) (hy : ev y = .int .i64 (l : Int)) (hz : ev z = .int .i64 (h : Int)) :
    (execOp ev op).run Tryz.prog u = .ok (.value (.slice ao' n' c')) u := by
  have h2 := run_sliceAt_slice (P := Tryz.prog) (w := u) 55 (.slice ao n cap) (some (.int .i64 (l : Int))) (some (.int .i64 (h : Int))) none (by kernel_rfl)
  simp only [execOp, ho, hx, hy, hz, Option.map_some, Option.map_none, Sem.run_bind, h2, hr u, Result.andThen_ok, Sem.run_pure]
end Go.Proofs.YtnlbjknfahhfaaaGreatDoor
