/-
  Texts that belong together, joined: SpDf.
-/
import Derived.Test.YtjhanfiohfakoaaGreatDoorPartA11
import Derived.Test.YtjhanfiohfakoaaGreatDoorPartA15
import Derived.Test.YtjhanfiohfakoaaGreatDoorPartA9
import Derived.Test.YtjhanfiohfakoaaGreatDoorPartA7

/- The reference's Diff of layer 9, walked. -/
set_option maxRecDepth 20000
namespace Go.Proofs.YtjhanfiohfakoaaGreatDoor
open Go.RowKit
attribute [local simp] low_drew

theorem exec_slG {u : World} {ao ao' : Option Addr} {n cap l h n' c' : Nat} (hr : ∀ u : World, (Instr.slice 35 (.slice ao n cap) (some (.int .i64 (l : Int))) (some (.int .i64 (h : Int))) none).run Tryz.prog u = .ok (.slice ao' n' c') u) {op : Oper} (x y z : Operand) (ho : op.op = .slice 35 x (some y) (some z) none) {ev : Operand → Value} (hx : ev x = .slice ao n cap) (hy : ev y = .int .i64 (l : Int)) (hz : ev z = .int .i64 (h : Int)) :
    (execOp ev op).run Tryz.prog u = .ok (.value (.slice ao' n' c')) u := by
  have h2 := run_sliceAt_slice (P := Tryz.prog) (w := u) 35 (.slice ao n cap) (some (.int .i64 (l : Int))) (some (.int .i64 (h : Int))) none (by kernel_rfl)
  simp only [execOp, ho, hx, hy, hz, Option.map_some, Option.map_none, Sem.run_bind, h2, hr u, Result.andThen_ok, Sem.run_pure]
theorem rgreedy_held {X Y : List Int} {xo : Option Addr} {nx xc : Nat} {yo : Option Addr} {ny yc : Nat} {W u : World} {G : List Int} (hl : X.length ≤ 65536 ∧ Y.length ≤ 65536) (hX : X.length = nx) (hx : HI u (.slice xo nx xc) X) (hy : HI u (.slice yo ny yc) Y) (hG : Hid (gdy Y 64 0 X = G)) (hL : Low W u) :
    Calls Tryz.prog 40 (#[.slice xo nx xc, .slice yo ny yc, .int .i64 64] ++ #[]) u fun e w' => ∃ v, e = .returned v ∧ Low W w' ∧ ∃ zo zc B, v = .slice zo nx zc ∧ W.heap.size ≤ B ∧ w'.ownsRow B 3 1 (.slice zo nx zc) nx (icells G) := by
  subst hX
  refine (rGreedy_f X Y 64 _ _ u hx hy hl.1 hl.2 G hG).mono ?_
  rintro e w' ⟨zo, zc, rfl, h1, h2⟩
  exact ⟨_, rfl, Below.trans hL (h2.mono (Below.size hL)), zo, zc, _, rfl, Below.size hL, h1⟩

set_option maxRecDepth 10000 in
set_option maxHeartbeats 8000000 in
theorem rspDiff_f (x y : List Int) (bound : Int) (vx vy : Value) (w : World) (hx : HI w vx x) (hy : HI w vy y) (hxl : x.length ≤ 4096) (hyl : y.length ≤ 4096) (L : List Ch) (hL : Hid (mkL (sKeep bound x y) y.length = L)) :
    Calls Tryz.prog 23 #[vx, vy, .int .i64 bound] w fun e w' => ∃ v', e = .returned (.tuple #[v', .int .i64 0]) ∧ HCh w' v' L ∧ Below w.heap.size w w' := by
  obtain ⟨xo, xc, rfl⟩ := Holds.form hx
  obtain ⟨yo, yc, rfl⟩ := Holds.form hy
  obtain ⟨KF, hKF⟩ : ∃ KF, sKeep bound x y = KF := ⟨_, rfl⟩
  have HK : Hid (Kpt x y KF) := (by rw [← hKF]; exact sKeep_kpt bound x y)
  have HF : Hid (wrk (List.replicate x.length (-1)) (pcs (smid bound x y) x y (x.length + 1) 0 x.length 0 y.length) = KF) := hKF
  rw [hKF] at hL
  clear hKF
  have HMk : Hid (∀ u : World, Ls w w.heap.size x.length KF u → Calls Tryz.prog 36 #[.slice (some ⟨w.heap.size, 0, none⟩) x.length x.length, .int .i64 (y.length : Int)] u fun e w' => ∃ v', e = .returned (.tuple #[v', .int .i64 0]) ∧ HCh w' v' L ∧ Below w.heap.size w w') := (by
    intro u hS
    have hKl := HK.out.len
    have hv2 : HI u (.slice (some ⟨w.heap.size, 0, none⟩) x.length x.length) KF := by
      unfold HI
      rw [hKl]
      exact holds_of hS.own
    refine (rMake_f KF y.length L _ u hv2 (by omega) HK.out.vk (by omega) (by omega) hL).mono ?_
    rintro e w3 ⟨v3, rfl, hv3, hB3⟩
    exact ⟨v3, rfl, hv3, hS.low.trans (hB3.mono hS.low.size)⟩)
  clear HK hL
  have e1 : decide ((4096 : Int) < (x.length : Int)) = false := decide_eq_false (by omega)
  have e2 : decide ((4096 : Int) < (y.length : Int)) = false := decide_eq_false (by omega)
  go_enter Tryz.func23, Tryz.ntmps23
  go_wp2_with fail
  refine (None_f x.length w (by omega)).mono ?_
  rintro e w1 ⟨rfl, hO1, hB1⟩
  have hS1 : Ls w w.heap.size x.length (List.replicate x.length (-1)) w1 := ⟨hB1, hO1⟩
  clear hO1 hB1
  go_wp2_with fail
  refine (Trim_f x y w _ _ _ hx hy hxl hyl _ hS1 0 x.length 0 y.length (Nat.zero_le _) (Nat.le_refl _) (Nat.zero_le _) (Nat.le_refl _) hS1.lt.2).mono ?_
  rintro e w2 ⟨k, m, hk, hm, rfl, hS2, _⟩
  clear hS1
  have hkl := tf_le x y 0 x.length 0 y.length
  have hml := tb_le x y (0 + k) x.length (0 + k) y.length
  rw [← hk] at hkl
  rw [← hm] at hml
  have HK2 : wrk (wrk (List.replicate x.length (-1)) (fp 0 0 k ++ bp x.length y.length m)) (if 0 + k < x.length - m ∧ 0 + k < y.length - m then smid bound x y (pcs (smid bound x y) x y x.length) (0 + k) (x.length - m) (0 + k) (y.length - m) else []) = KF := by
    rw [← HF.out, pcs, ends, ← hk, ← hm, wrk_append, wrk_append, wrk_append]
  clear hk hm HF
  obtain ⟨A, hA⟩ : ∃ A, 0 + k = A := ⟨_, rfl⟩
  obtain ⟨b1, hb1⟩ : ∃ B, x.length - m = B := ⟨_, rfl⟩
  obtain ⟨d1, hd1⟩ : ∃ D, y.length - m = D := ⟨_, rfl⟩
  obtain ⟨K1, hK1⟩ : ∃ K1, wrk (List.replicate x.length (-1)) (fp 0 0 k ++ bp x.length y.length m) = K1 := ⟨_, rfl⟩
  rw [hK1] at hS2 HK2
  rw [hA, hb1, hd1] at HK2 ⊢
  obtain ⟨C, hC⟩ : ∃ C, A = C := ⟨_, rfl⟩
  have HK3 : wrk K1 (if A < b1 ∧ C < d1 then smid bound x y (pcs (smid bound x y) x y x.length) A b1 C d1 else []) = KF := by rw [← hC]; exact HK2
  have hv : pcV A b1 A d1 = pcV A b1 C d1 := by rw [← hC]
  rw [hv]
  have hAb : A ≤ b1 := by omega
  have hCd : C ≤ d1 := by omega
  have hbx : b1 ≤ x.length := by omega
  have hdy : d1 ≤ y.length := by omega
  clear hkl hml hA hb1 hd1 hK1 hC HK2 hv
  rw [smid_cut bound x y _ A b1 C d1 hAb hCd hbx hdy] at HK3
  obtain ⟨nx, hnx⟩ : ∃ nx, b1 - A = nx := ⟨_, rfl⟩
  obtain ⟨ny, hny⟩ : ∃ ny, d1 - C = ny := ⟨_, rfl⟩
  obtain ⟨P, hP⟩ : ∃ P, nx * ny = P := ⟨_, rfl⟩
  obtain ⟨M, hM⟩ : ∃ M, max 0 bound = M := ⟨_, rfl⟩
  have hPi : (nx : Int) * (ny : Int) = (P : Int) := by rw [← hP]; simp
  have hPb : P ≤ 4096 * 4096 := by rw [← hP]; exact Nat.mul_le_mul (by omega) (by omega)
  have HK4 : Hid (wrk K1 (if (P : Int) ≤ M then lp A C (kp 0 (sub x A b1) (sub y C d1)) else lp A C (gdy (sub y C d1) 64 0 (sub x A b1))) = KF) := (by
    show _ = _
    rw [hnx, hny, hPi, hM] at HK3
    exact HK3)
  have hmax : ∀ w : World, (Builtin.max_ #[3, 3] 3 #[.int .i64 0, .int .i64 bound]).run Tryz.prog w = .ok (.int .i64 M) w := by
    intro w
    rw [run_max_int2, ← hM]
    congr 2
    split <;> omega
  have n1 : (b1 : Int) - (A : Int) = (nx : Int) := by omega
  have n2 : (d1 : Int) - (C : Int) = (ny : Int) := by omega
  clear HK3 hP
  obtain ⟨Bp, hBp⟩ : ∃ Bp, w2.heap.size = Bp := ⟨_, rfl⟩
  have hgB : w.heap.size < Bp := by rw [← hBp]; exact hS2.lt.2
  have hwB := hS2.low.size
  have hB3 := (Below.refl w2.heap.size w2).alloc (Nat.le_refl _) (.cells #[.int .i64 (A : Int), .int .i64 (b1 : Int), .int .i64 (C : Int), .int .i64 (d1 : Int)] 75)
  have hS4 := hS2.keep hB3
  have hQ4 := Pbox.new w2 A b1 C d1
  rw [hBp] at hQ4
  obtain ⟨W2, hW2⟩ : ∃ W2, w2.alloc (.cells #[.int .i64 (A : Int), .int .i64 (b1 : Int), .int .i64 (C : Int), .int .i64 (d1 : Int)] 75) = W2 := ⟨_, rfl⟩
  rw [hW2] at hS4 hQ4 hB3
  have hsW : Bp < W2.heap.size := (Array.getElem?_eq_some_iff.1 hQ4).1
  clear hS2 hB3
  obtain ⟨c0, c1, c2, c3⟩ := hQ4.cells
  unfold pcV
  by_cases hle : (P : Int) ≤ M
  · have HK5 : Hid (wrk K1 (lp A C (kp 0 (sub x A b1) (sub y C d1))) = KF) := (by
      show _ = _
      have := HK4.out
      rw [if_pos hle] at this
      exact this)
    clear HK4
    go_wp2_with fail
    clear hW2
    refine (Least_f x y w W2 _ _ hx hy hxl hyl K1 hS4 A b1 C d1 hAb hbx hCd hdy KF HK5).mono ?_
    rintro e w6 ⟨rfl, hS6, _⟩
    clear c0 c1 c2 c3 hQ4 hS4
    go_wp2_with fail
    refine (HMk.out w6 hS6).mono ?_
    rintro e w7 ⟨v7, rfl, hv7, hB7⟩
    go_wp2
    go_ret2
    exact ⟨_, rfl, hv7, hB7⟩
  · obtain ⟨X, hX⟩ : ∃ X, sub x A b1 = X := ⟨_, rfl⟩
    obtain ⟨Y, hY⟩ : ∃ Y, sub y C d1 = Y := ⟨_, rfl⟩
    obtain ⟨G, hG⟩ : ∃ G, gdy Y 64 0 X = G := ⟨_, rfl⟩
    have hXl : X.length = nx := by rw [← hX, sub_length x A b1 hbx, hnx]
    have hYl : Y.length = ny := by rw [← hY, sub_length y C d1 hdy, hny]
    have r1 := run_slB xo x.length xc A b1 hAb hbx (hold_cap hx)
    have r2 := run_slB yo y.length yc C d1 hCd hdy (hold_cap hy)
    rw [hnx] at r1
    rw [hny] at r2
    have hxs : ∀ u : World, Low W2 u → HI u (.slice (slF xo xc A) nx (xc - A)) X ∧ HI u (.slice (slF yo yc C) ny (yc - C)) Y := fun u hu => by
      have hlow : Below w.heap.size w u := hS4.low.trans (Below.mono hu hS4.low.size)
      have h1 := hold_sub (HI.keep hx hlow (Nat.le_refl _)) hAb hbx
      have h2 := hold_sub (HI.keep hy hlow (Nat.le_refl _)) hCd hdy
      unfold HI
      rw [hXl, hYl]
      rw [hX, hnx] at h1
      rw [hY, hny] at h2
      exact ⟨h1, h2⟩
    have HG : Hid (gdy Y 64 0 X = G) := hG
    have HZl : Hid (G.length = nx) := (by show _ = _; rw [← hG, gdy_length, hXl])
    have HV : Hid (Vk 0 ny G) := (by
      have := gdy_vk Y 64 X 0
      rw [hG, hYl] at this
      exact this)
    have HX : Hid (X.length ≤ 65536 ∧ Y.length ≤ 65536) := (by refine ⟨?_, ?_⟩ <;> omega)
    have HK5 : Hid (wrk K1 (lp A C G) = KF) := (by
      show _ = _
      have := HK4.out
      rw [if_neg hle, hX, hY, hG] at this
      exact this)
    have HE : Hid (b1 = A + nx ∧ d1 = C + ny) := ⟨by omega, by omega⟩
    have hnl : nx ≤ 4096 := by omega
    have hle' : M < (P : Int) := by omega
    have hle2 : decide ((P : Int) ≤ M) = false := decide_eq_false hle
    obtain ⟨xo2, hxo⟩ : ∃ o, slF xo xc A = o := ⟨_, rfl⟩
    obtain ⟨yo2, hyo⟩ : ∃ o, slF yo yc C = o := ⟨_, rfl⟩
    obtain ⟨xc2, hxc⟩ : ∃ o, xc - A = o := ⟨_, rfl⟩
    obtain ⟨yc2, hyc⟩ : ∃ o, yc - C = o := ⟨_, rfl⟩
    rw [hxo, hxc] at r1 hxs
    rw [hyo, hyc] at r2 hxs
    have hcs : ∀ u : World, Low W2 u → u.cell? ⟨Bp, 0, none⟩ = some (.int .i64 (A : Int)) ∧ u.cell? ⟨Bp, 1, none⟩ = some (.int .i64 (b1 : Int)) ∧ u.cell? ⟨Bp, 2, none⟩ = some (.int .i64 (C : Int)) ∧ u.cell? ⟨Bp, 3, none⟩ = some (.int .i64 (d1 : Int)) := fun u hu => (hQ4.low hu).cells
    clear HK4 hG hX hY hxo hyo hxc hyc
    go_wp2_with fail
    clear hW2
    refine wp_region_noPanic ?_
    refine wp_region_held_drew (S := fun u => Low W2 u) (by kernel_rfl) (Below.dN (Below.refl _ W2) 1) (fun hHeld => ?_)
    refine go_take 0 51 _ (.slice xo x.length xc) rfl (by kernel_rfl) (by kernel_rfl) (by kernel_rfl) (by kernel_rfl) (fun _ _ _ h => h) (Or.inl ⟨by kernel_rfl, fun u hu => by kernel_rfl⟩) hHeld ?_
    simp only [Act.put, List.setIfInBounds_toArray, List.set_cons_zero, List.set_cons_succ]
    refine go_take 1 52 _ (.pointer (some ⟨Bp, 0, none⟩)) rfl (by kernel_rfl) (by kernel_rfl) (by kernel_rfl) (by kernel_rfl) (fun _ _ _ h => h) (Or.inl ⟨by kernel_rfl, fun u hu => by kernel_rfl⟩) hHeld ?_
    simp only [Act.put, List.setIfInBounds_toArray, List.set_cons_zero, List.set_cons_succ]
    refine go_take 2 53 _ (.int .i64 (A : Int)) rfl (by kernel_rfl) (by kernel_rfl) (by kernel_rfl) (by kernel_rfl) (fun _ _ _ h => h) (Or.inl ⟨by kernel_rfl, fun u hu => load_int (hcs u hu).1 (.tmp 52) (by kernel_rfl) (by kernel_rfl)⟩) hHeld ?_
    simp only [Act.put, List.setIfInBounds_toArray, List.set_cons_zero, List.set_cons_succ]
    refine go_take 3 54 _ (.pointer (some ⟨Bp, 1, none⟩)) rfl (by kernel_rfl) (by kernel_rfl) (by kernel_rfl) (by kernel_rfl) (fun _ _ _ h => h) (Or.inl ⟨by kernel_rfl, fun u hu => by kernel_rfl⟩) hHeld ?_
    simp only [Act.put, List.setIfInBounds_toArray, List.set_cons_zero, List.set_cons_succ]
    refine go_take 4 55 _ (.int .i64 (b1 : Int)) rfl (by kernel_rfl) (by kernel_rfl) (by kernel_rfl) (by kernel_rfl) (fun _ _ _ h => h) (Or.inl ⟨by kernel_rfl, fun u hu => load_int (hcs u hu).2.1 (.tmp 54) (by kernel_rfl) (by kernel_rfl)⟩) hHeld ?_
    simp only [Act.put, List.setIfInBounds_toArray, List.set_cons_zero, List.set_cons_succ]
    refine go_take 5 56 _ (.slice xo2 nx xc2) rfl (by kernel_rfl) (by kernel_rfl) (by kernel_rfl) (by kernel_rfl) (fun _ _ _ h => h) (Or.inl ⟨by kernel_rfl, fun u hu => exec_slG r1 (.tmp 51) (.tmp 53) (.tmp 55) (by kernel_rfl) (by kernel_rfl) (by kernel_rfl) (by kernel_rfl)⟩) hHeld ?_
    simp only [Act.put, List.setIfInBounds_toArray, List.set_cons_zero, List.set_cons_succ]
    refine go_take 6 57 _ (.slice yo y.length yc) rfl (by kernel_rfl) (by kernel_rfl) (by kernel_rfl) (by kernel_rfl) (fun _ _ _ h => h) (Or.inl ⟨by kernel_rfl, fun u hu => by kernel_rfl⟩) hHeld ?_
    simp only [Act.put, List.setIfInBounds_toArray, List.set_cons_zero, List.set_cons_succ]
    refine go_take 7 58 _ (.pointer (some ⟨Bp, 2, none⟩)) rfl (by kernel_rfl) (by kernel_rfl) (by kernel_rfl) (by kernel_rfl) (fun _ _ _ h => h) (Or.inl ⟨by kernel_rfl, fun u hu => by kernel_rfl⟩) hHeld ?_
    simp only [Act.put, List.setIfInBounds_toArray, List.set_cons_zero, List.set_cons_succ]
    refine go_take 8 59 _ (.int .i64 (C : Int)) rfl (by kernel_rfl) (by kernel_rfl) (by kernel_rfl) (by kernel_rfl) (fun _ _ _ h => h) (Or.inl ⟨by kernel_rfl, fun u hu => load_int (hcs u hu).2.2.1 (.tmp 58) (by kernel_rfl) (by kernel_rfl)⟩) hHeld ?_
    simp only [Act.put, List.setIfInBounds_toArray, List.set_cons_zero, List.set_cons_succ]
    refine go_take 9 60 _ (.pointer (some ⟨Bp, 3, none⟩)) rfl (by kernel_rfl) (by kernel_rfl) (by kernel_rfl) (by kernel_rfl) (fun _ _ _ h => h) (Or.inl ⟨by kernel_rfl, fun u hu => by kernel_rfl⟩) hHeld ?_
    simp only [Act.put, List.setIfInBounds_toArray, List.set_cons_zero, List.set_cons_succ]
    refine go_take 10 61 _ (.int .i64 (d1 : Int)) rfl (by kernel_rfl) (by kernel_rfl) (by kernel_rfl) (by kernel_rfl) (fun _ _ _ h => h) (Or.inl ⟨by kernel_rfl, fun u hu => load_int (hcs u hu).2.2.2 (.tmp 60) (by kernel_rfl) (by kernel_rfl)⟩) hHeld ?_
    simp only [Act.put, List.setIfInBounds_toArray, List.set_cons_zero, List.set_cons_succ]
    refine go_take 11 62 _ (.slice yo2 ny yc2) rfl (by kernel_rfl) (by kernel_rfl) (by kernel_rfl) (by kernel_rfl) (fun _ _ _ h => h) (Or.inl ⟨by kernel_rfl, fun u hu => exec_slG r2 (.tmp 57) (.tmp 59) (.tmp 61) (by kernel_rfl) (by kernel_rfl) (by kernel_rfl) (by kernel_rfl)⟩) hHeld ?_
    simp only [Act.put, List.setIfInBounds_toArray, List.set_cons_zero, List.set_cons_succ]
    refine go_callE 12 63 _ rfl (by kernel_rfl) (by kernel_rfl) (by kernel_rfl) 40 (.func 40) #[.tmp 56, .tmp 62, .const (.int .i64 64)] #[35, 35, 3] (by kernel_rfl) #[] (by kernel_rfl) #[.slice xo2 nx xc2, .slice yo2 ny yc2, .int .i64 64] (by kernel_rfl) (enters_of Tryz.func40 (by kernel_rfl) rfl) _ (rgreedy_held HX.out hXl (hxs _ hHeld).1 (hxs _ hHeld).2 HG hHeld) ?_
    rintro _ u5 hHeld ⟨zo, zc, B, rfl, hBB, hO⟩
    simp only [Act.put, List.setIfInBounds_toArray, List.set_cons_zero, List.set_cons_succ]
    refine go_take 13 10 _ (.slice zo nx zc) rfl (by kernel_rfl) (by kernel_rfl) (by kernel_rfl) (by kernel_rfl) (fun _ _ _ h => h) (Or.inl ⟨by kernel_rfl, fun u hu => by kernel_rfl⟩) hHeld ?_
    simp only [Act.put, List.setIfInBounds_toArray, List.set_cons_zero, List.set_cons_succ]
    refine wpAnyH_done (by kernel_rfl) ?_ _
    refine NoPanic.normal ?_
    have hgB2 : w.heap.size < B := by have := hS4.lt.2; omega
    have hQ5 := hQ4.low hHeld
    have hS5 := hS4.keep hHeld
    clear c0 c1 c2 c3 hQ4 hS4 hcs hxs r1 r2 hHeld hBB HG HX hmax
    go_wp2
    go_loopw [11] (fun iv wr => ∃ (i : Nat) (K2 : List Int), i ≤ nx ∧ iv = .int .i64 i ∧ Ls w w.heap.size x.length K2 wr ∧ Pbox wr Bp A b1 C d1 ∧ wr.ownsRow B 3 1 (.slice zo nx zc) nx (icells G) ∧ Hid (wrk K2 (lp ((A : Int) + i) C (G.drop i)) = KF)) (fun iv _ => nx - (intOf iv).toNat)
    case atStart => exact ⟨0, K1, Nat.zero_le _, rfl, hS5, hQ5, hO, by simpa using HK5⟩
    case round =>
      clear hS5 hQ5 hO HK5
      obtain ⟨i, K2, hi, rfl, hS, hQ, hO, HW⟩ := hrel
      by_cases hlt : i < nx
      · have hiZ : i < G.length := by have := HZl.out; omega
        obtain ⟨zb, zf, zcc, hze, _, hcz⟩ := Holds.at (holds_of hO) (by rw [icells_length]; omega)
        cases hze
        have z0 := hcz i (by rw [icells_length]; omega)
        obtain ⟨j, hj⟩ : ∃ j, G[i] = j := ⟨_, rfl⟩
        have z1 : wr.cell? ⟨zb, zf + i, none⟩ = some (.int .i64 j) := by rw [z0]; simp [icells, hj]
        have hjv := (HV.out.each (Int.le_refl _)) j (by rw [← hj]; exact List.getElem_mem _)
        have hjl := HV.out.lt j (by rw [← hj]; exact List.getElem_mem _)
        have HW2 : Hid (wrk K2 ((if j = -1 then [] else [⟨(A : Int) + i, C + j⟩]) ++ lp ((A : Int) + i + 1) C (G.drop (i + 1))) = KF) := (by
          show _ = _
          have := HW.out
          rw [List.drop_eq_getElem_cons hiZ, lp, hj] at this
          exact this)
        clear z0 hcz hj HW
        have i1 : 0 ≤ (i : Int) := by omega
        have i2 : (i : Int) < (nx : Int) := by omega
        by_cases hj1 : j = -1
        · have e1 : ¬ 0 ≤ j := by omega
          have e2 : decide (0 ≤ j) = false := decide_eq_false e1
          have HW3 : Hid (wrk K2 (lp ((A : Int) + ((i + 1 : Nat) : Int)) C (G.drop (i + 1))) = KF) := (by
            show _ = _
            rw [← HW2.out, if_pos hj1, List.nil_append, show (A : Int) + ((i + 1 : Nat) : Int) = (A : Int) + i + 1 by omega])
          clear HW2 hj1 hjv hjl
          go_wp2
          go_roundw
          case rel => exact ⟨i + 1, K2, by omega, by go_num, hS, hQ, hO, HW3⟩
          case measure => simp [intOf]; omega
        · obtain ⟨q, rfl⟩ : ∃ q : Nat, j = q := ⟨j.toNat, by omega⟩
          have hqn : q < ny := by omega
          obtain ⟨u, hu⟩ : ∃ u, A + i = u := ⟨_, rfl⟩
          obtain ⟨v, hv⟩ : ∃ v, C + q = v := ⟨_, rfl⟩
          have hE := HE.out
          have n1 : (A : Int) + (i : Int) = (u : Int) := by omega
          have n2 : (C : Int) + (q : Int) = (v : Int) := by omega
          have n3 : IntKind.i64.wrap (u : Int) = (u : Int) := by rw [IntKind.wrap_i64]; omega
          have n4 : IntKind.i64.wrap (v : Int) = (v : Int) := by rw [IntKind.wrap_i64]; omega
          have i3 : 0 ≤ (u : Int) := by omega
          have i4 : (u : Int) < (x.length : Int) := by omega
          have e1 : 0 ≤ (q : Int) := by omega
          have hl := hS.len
          have d0 := hS.at (List.getElem?_eq_getElem (i := u) (by omega))
          have f0 := hS.own.frozenAt u
          have hS1 := hS.set u (v : Int)
          have hQ1 := hQ.keep (grown_set wr w.heap.size u (.int .i64 (v : Int))) (by simp; omega)
          have hO1 := holds_grown hO (grown_set wr w.heap.size u (.int .i64 (v : Int))) (by omega)
          have HW3 : Hid (wrk (K2.set u (v : Int)) (lp ((A : Int) + ((i + 1 : Nat) : Int)) C (G.drop (i + 1))) = KF) := (by
            show _ = _
            rw [← HW2.out, if_neg hj1, wrk_append, show (A : Int) + ((i + 1 : Nat) : Int) = (A : Int) + i + 1 by omega]
            simp only [wrk, List.foldl_cons, List.foldl_nil, n1, n2, Int.toNat_natCast])
          generalize K2[u] = z0 at d0
          obtain ⟨c0, c1, c2, c3⟩ := hQ.cells
          clear HW2 hj1 hjv hjl hl hu hv hE
          go_wp2
          go_region
          go_wp2
          go_roundw
          case rel => exact ⟨i + 1, _, by omega, by go_num, hS1.drewN 1, hQ1, hO1, HW3⟩
          case measure => simp [intOf]; omega
      · obtain rfl : i = nx := by omega
        have e : K2 = KF := by
          have := HW.out
          rw [List.drop_of_length_le (by have := HZl.out; omega)] at this
          exact this
        subst e
        go_wp2_with fail
        refine (HMk.out wr hS).mono ?_
        rintro e w7 ⟨v7, rfl, hv7, hB7⟩
        go_wp2
        go_ret2
        exact ⟨_, rfl, hv7, hB7⟩
end Go.Proofs.YtjhanfiohfakoaaGreatDoor
