/-
  For every four rows of numbers and every two numbers the law MinimalSteps returns true and leaves its arguments as they were: a number more anywhere in one row lets minimal.Length grow by at most one and never fall, and rows behind both keep at least what each pair keeps. No condition.
-/
import Derived.Test.YtoacmaloiaeniabPartH1
import Derived.Test.YtoacmaloiaeniabPartB1
import Derived.Test.YtoacmaloiaeniabPartA3
import Derived.JoinedOf
import Derived.Handed
namespace Go.Proofs.Ytoacmaloiaeniab.minimalSteps
open Go.ChangeShapes Go.WideShapes Go.ChangeAt Go.RowKit
attribute [local simp] low_drew low_alloc

set_option maxRecDepth 10000 in
set_option maxHeartbeats 4000000 in
theorem let_go (x y : List Int) (at' c : Int) (u v : List Int) (vx vy vu vv : Value) (w : World) (hx : HI w vx x) (hy : HI w vy y) (hu : HI w vu u) (hv : HI w vv v) (hbig : 200 < x.length ∨ 200 < y.length ∨ 100 < u.length ∨ 100 < v.length) :
    Calls Try.prog 7 #[vx, vy, .int .i64 at', .int .i64 c, vu, vv] w fun e w' => e = .returned (.bool true) ∧ Below w.heap.size w w' := by
  obtain ⟨xo, xc, rfl⟩ := Holds.form hx
  obtain ⟨yo, yc, rfl⟩ := Holds.form hy
  obtain ⟨uo, uc, rfl⟩ := Holds.form hu
  obtain ⟨vo, vc, rfl⟩ := Holds.form hv
  have HB : Hid (200 < x.length ∨ 200 < y.length ∨ 100 < u.length ∨ 100 < v.length) := hbig
  clear hbig
  go_enter Try.func7, Try.ntmps7
  go_wp2_with fail
  refine (works_any w).mono ?_
  rintro e w0 ⟨rfl, hB0⟩
  by_cases h1 : 200 < x.length
  · have h1' : (200 : Int) < (x.length : Int) := by omega
    go_wp2
    go_ret
    exact ⟨rfl, hB0⟩
  have h1' : ¬ (200 : Int) < (x.length : Int) := by omega
  by_cases h2 : 200 < y.length
  · have h2' : (200 : Int) < (y.length : Int) := by omega
    go_wp2
    go_ret
    exact ⟨rfl, hB0⟩
  have h2' : ¬ (200 : Int) < (y.length : Int) := by omega
  by_cases h3 : 100 < u.length
  · have h3' : (100 : Int) < (u.length : Int) := by omega
    go_wp2
    go_ret
    exact ⟨rfl, hB0⟩
  have h3' : ¬ (100 : Int) < (u.length : Int) := by omega
  have h4' : (100 : Int) < (v.length : Int) := by have := HB.out; omega
  go_wp2
  go_ret
  exact ⟨rfl, hB0⟩

set_option maxRecDepth 10000 in
set_option maxHeartbeats 4000000 in
theorem all_small (x y : List Int) (at' c : Int) (u v : List Int) (vx vy vu vv : Value) (w : World) (hx : HI w vx x) (hy : HI w vy y) (hu : HI w vu u) (hv : HI w vv v) (hxl : x.length ≤ 200) (hyl : y.length ≤ 200) (hul : u.length ≤ 100) (hvl : v.length ≤ 100) :
    Calls Try.prog 7 #[vx, vy, .int .i64 at', .int .i64 c, vu, vv] w fun e w' => e = .returned (.bool true) ∧ Below w.heap.size w w' := by
  obtain ⟨xo, xc, rfl⟩ := Holds.form hx
  obtain ⟨yo, yc, rfl⟩ := Holds.form hy
  obtain ⟨uo, uc, rfl⟩ := Holds.form hu
  obtain ⟨vo, vc, rfl⟩ := Holds.form hv
  have h1' : ¬ (200 : Int) < (x.length : Int) := by omega
  have h2' : ¬ (200 : Int) < (y.length : Int) := by omega
  have h3' : ¬ (100 : Int) < (u.length : Int) := by omega
  have h4' : ¬ (100 : Int) < (v.length : Int) := by omega
  obtain ⟨k, hqq, hkl⟩ : ∃ k : Nat, (IntKind.u64.wrap at').tmod ((x.length : Int) + 1) = (k : Int) ∧ k ≤ x.length := by
    have h : 0 ≤ IntKind.u64.wrap at' := by rw [IntKind.wrap_u64]; omega
    rw [Int.tmod_eq_emod_of_nonneg h]
    have h0 := Int.emod_nonneg (IntKind.u64.wrap at') (show (x.length : Int) + 1 ≠ 0 by omega)
    have h1 := Int.emod_lt_of_pos (IntKind.u64.wrap at') (show 0 < (x.length : Int) + 1 by omega)
    exact ⟨((IntKind.u64.wrap at') % ((x.length : Int) + 1)).toNat, by omega, by omega⟩
  have hw64 : wrap64 (k : Int) = (k : Int) := by unfold wrap64; omega
  obtain ⟨n, hn⟩ : ∃ n, lc x y = n := ⟨_, rfl⟩
  have hnx := lc_left x y
  rw [hn] at hnx
  have HN : Hid (lc x y = n) := hn
  obtain ⟨P, hP⟩ : ∃ P, x.take k = P := ⟨_, rfl⟩
  obtain ⟨D, hD⟩ : ∃ D, x.drop k = D := ⟨_, rfl⟩
  have hPD : P ++ D = x := by rw [← hP, ← hD, List.take_append_drop]
  have hPl : P.length = k := by rw [← hP, List.length_take]; omega
  have hDl : D.length = x.length - k := by rw [← hD, List.length_drop]
  obtain ⟨PC, hPC⟩ : ∃ PC, P ++ [c] = PC := ⟨_, rfl⟩
  obtain ⟨X2, hX2⟩ : ∃ X2, PC ++ D = X2 := ⟨_, rfl⟩
  have hPCl : PC.length = k + 1 := by rw [← hPC, List.length_append, hPl]; rfl
  have hX2l : X2.length ≤ 201 := by rw [← hX2, List.length_append]; omega
  obtain ⟨m, hm⟩ : ∃ m, lc X2 y = m := ⟨_, rfl⟩
  have hmn : n ≤ m ∧ m ≤ n + 1 := by
    have := lc_more P D y c
    rw [hPD, hn] at this
    rw [← hm, ← hX2, ← hPC]
    simpa using this
  obtain ⟨xt, xtc, hr1, hh1⟩ := run_to x xo xc k w hkl hx
  obtain ⟨xd, xdc, hr2, hh2⟩ := run_from x xo xc k w hkl hx
  have HM : Hid (lc X2 y = m) := hm
  have HPC : Hid (P ++ [c] = PC ∧ PC ++ D = X2 ∧ P.length = k ∧ D.length = x.length - k ∧ PC.length = k + 1) := ⟨hPC, hX2, hPl, hDl, hPCl⟩
  rw [hP] at hh1
  rw [hD] at hh2
  clear hn hm hPD hPC hX2 hPl hDl hPCl hP hD
  obtain ⟨p, hp⟩ : ∃ p, lc u v = p := ⟨_, rfl⟩
  have hpu := lc_left u v
  rw [hp] at hpu
  have HP : Hid (lc u v = p) := hp
  obtain ⟨XU, hXU⟩ : ∃ X, x ++ u = X := ⟨_, rfl⟩
  obtain ⟨YV, hYV⟩ : ∃ X, y ++ v = X := ⟨_, rfl⟩
  have hXUl : XU.length ≤ 300 := by rw [← hXU, List.length_append]; omega
  have hYVl : YV.length ≤ 300 := by rw [← hYV, List.length_append]; omega
  obtain ⟨b, hb⟩ : ∃ b, lc XU YV = b := ⟨_, rfl⟩
  have hbb : n + p ≤ b := by
    have := lc_behind x y u v
    rw [HN.out, hp, hXU, hYV, hb] at this
    exact this
  have HBt : Hid (lc XU YV = b) := hb
  have HXU : Hid (x ++ u = XU ∧ y ++ v = YV) := ⟨hXU, hYV⟩
  have hbl := lc_left XU YV
  rw [hb] at hbl
  clear hp hXU hYV hb
  go_enter Try.func7, Try.ntmps7
  go_wp2_with fail
  refine (works_any w).mono ?_
  rintro e w0 ⟨rfl, hB0⟩
  go_wp2_with fail
  refine (Length_f x y _ _ _ (HI.keep hx hB0 (Nat.le_refl _)) (HI.keep hy hB0 (Nat.le_refl _)) (by omega) (by omega) n HN).mono ?_
  rintro e w1 ⟨rfl, hB1'⟩
  have hB1 := hB0.trans (hB1'.mono hB0.size)
  clear hB0 hB1'
  have hx1 := HI.keep hx hB1 (Nat.le_refl _)
  have hy1 := HI.keep hy hB1 (Nat.le_refl _)
  have q1 : Holds w1 (.slice xt k xtc) k (icells P) := hh1 w1 hx1
  have q2 : Holds w1 (.slice xd (x.length - k) xdc) (x.length - k) (icells D) := by
    have := hh2 w1 hx1
    unfold HI at this
    rw [HPC.out.2.2.2.1] at this
    exact this
  clear hh1 hh2
  go_wp2_with fail
  go_cut [16, 17] from 56 to 72 (fun mv fv wz => mv = .int .i64 (m : Int) ∧ fv = .int .i64 0 ∧ Low w1 wz)
  case first =>
    have hL : Low w1 w1 := Below.refl _ w1
    go_region_held3 (fun w' => Low w1 w') (go_keep)
      (first
        | (refine step_two w1 _ rfl (.tmp 57) (.tmp 60) rfl _ _ [] k P P rfl c _ rfl rfl q1 HPC.out.2.2.1 (by simp; omega) (by first | assumption | exact sg_behind (by first | assumption | (simp [*]; done)) | exact sg_ahead (by first | assumption | (simp [*]; done))) (by first | assumption | (simp [*]; done)) ?_; intro v1 u1 hw1 hlow1)
        | (refine step_one w1 _ rfl (.tmp 57) (.tmp 60) rfl _ _ [] k P P rfl rfl rfl q1 HPC.out.2.2.1 (by simp; omega) (by first | assumption | exact one_new (by first | assumption | (simp [*]; done))) (by first | assumption | (simp [*]; done)) ?_; intro v1 u1 hw1 hlow1)
        | (refine step_num w1 _ rfl (.tmp 61) (.tmp 63) rfl _ _ P PC c HPC.out.1 rfl rfl (by have := HPC.out.2.2.1; omega) (by first | assumption | exact sg_new (by assumption)) (by first | assumption | (simp [*]; done)) ?_; intro v2 u2 hw2 hlow2)
        | (refine step_one w1 _ rfl (.tmp 64) (.tmp 67) rfl _ _ PC (x.length - k) D X2 HPC.out.2.1 rfl rfl q2 HPC.out.2.2.2.1 (by have := HPC.out.2.2.2.2; omega) (by assumption) (by first | assumption | (simp [*]; done)) ?_; intro v3 u3 hw3 hlow3)
        | (go_at_call 9; refine (LengthOne X2 y _ _ w1 _ hy1 (by omega) (by omega) m HM (by assumption) (by first | assumption | (simp [*]; done))).mono ?_; rintro e w' ⟨rfl, hlow4⟩))
    all_goals
      go_wp2_with fail
      go_meet
      case rel => exact ⟨rfl, rfl, hlow4⟩
  case rest =>
    obtain ⟨rfl, rfl, hL1⟩ := hcut
    have hB2 : Below w.heap.size w wc := hB1.trans (Below.mono hL1 hB1.size)
    clear hx1 hy1 q1 q2 hr1 hr2 hL1
    go_wp2_with fail
    refine (Length_f u v _ _ wc (HI.keep hu hB2 (Nat.le_refl _)) (HI.keep hv hB2 (Nat.le_refl _)) (by omega) (by omega) p HP).mono ?_
    rintro e w3 ⟨rfl, hB3'⟩
    have hB3 := hB2.trans (hB3'.mono hB2.size)
    clear hB2 hB3' hB1
    have hx3 := HI.keep hx hB3 (Nat.le_refl _)
    have hy3 := HI.keep hy hB3 (Nat.le_refl _)
    have hu3 := HI.keep hu hB3 (Nat.le_refl _)
    have hv3 := HI.keep hv hB3 (Nat.le_refl _)
    have hs3 := hB3.size
    go_wp2_with (at_builtin; refine wpList_append_h _ (by kernel_rfl) (.tmp 80) (.tmp 81) 22 3 (.int .i64 0) 1 8 rfl Try.underlying22 infoInt rfl (by decide) (by decide) w3.heap.size (.slice (some ⟨w3.heap.size, 0, none⟩) 0 0) 0 [] (by kernel_rfl) (nil_row_new _ _ _ rfl (Nat.le_refl _)) (.slice xo x.length xc) x.length (icells x) (by kernel_rfl) (HI.keep hx3 ((Below.refl _ w3).alloc (Nat.le_refl _) _) (Nat.le_refl _)) (by rw [icells_length, Nat.mul_one]) (icells_one x) (by omega) (by simp) ?_)
    intro v4 w4 ho4 hg4
    have hB4 : Below w3.heap.size w3 w4 := ((Below.refl _ w3).alloc (Nat.le_refl _) _).grown hg4 (by simp) (fun j hj => by simp [Value.ownBlock] at hj; omega)
    have hs4 := hB4.size
    obtain ⟨o4, c4, rfl⟩ := (holds_of ho4).form
    clear hg4
    go_wp2_with (at_builtin; refine wpList_append_h _ (by kernel_rfl) (.tmp 82) (.tmp 83) 22 3 (.int .i64 0) 1 8 rfl Try.underlying22 infoInt rfl (by decide) (by decide) w3.heap.size (.slice o4 x.length c4) x.length (icells x) (by kernel_rfl) ho4 (.slice uo u.length uc) u.length (icells u) (by kernel_rfl) (HI.keep hu3 hB4 (Nat.le_refl _)) (by rw [icells_length, Nat.mul_one]) (icells_one u) (by omega) (by omega) ?_)
    intro v5 w5 ho5 hg5
    have hB5 : Below w3.heap.size w3 w5 := hB4.grown hg5 hs4 (fun _ hj => owns_ge ho4 hj)
    have hs5 := hB5.size
    have hX5 : HI w5 v5 XU := by
      have := holds_of ho5
      rw [← icells_append, HXU.out.1, ← List.length_append, HXU.out.1] at this
      exact this
    obtain ⟨o5, c5, rfl⟩ := Holds.form hX5
    clear hg5 ho4 ho5 hB4 hs4
    go_wp2_with (at_builtin; refine wpList_append_h _ (by kernel_rfl) (.tmp 85) (.tmp 86) 22 3 (.int .i64 0) 1 8 rfl Try.underlying22 infoInt rfl (by decide) (by decide) w5.heap.size (.slice (some ⟨w5.heap.size, 0, none⟩) 0 0) 0 [] (by kernel_rfl) (nil_row_new _ _ _ rfl (Nat.le_refl _)) (.slice yo y.length yc) y.length (icells y) (by kernel_rfl) (HI.keep (HI.keep hy3 hB5 (Nat.le_refl _)) ((Below.refl _ w5).alloc (Nat.le_refl _) _) (Nat.le_refl _)) (by rw [icells_length, Nat.mul_one]) (icells_one y) (by omega) (by simp) ?_)
    intro v6 w6 ho6 hg6
    have hB6 : Below w5.heap.size w5 w6 := ((Below.refl _ w5).alloc (Nat.le_refl _) _).grown hg6 (by simp) (fun j hj => by simp [Value.ownBlock] at hj; omega)
    have hs6 := hB6.size
    obtain ⟨o6, c6, rfl⟩ := (holds_of ho6).form
    clear hg6
    go_wp2_with (at_builtin; refine wpList_append_h _ (by kernel_rfl) (.tmp 87) (.tmp 88) 22 3 (.int .i64 0) 1 8 rfl Try.underlying22 infoInt rfl (by decide) (by decide) w5.heap.size (.slice o6 y.length c6) y.length (icells y) (by kernel_rfl) ho6 (.slice vo v.length vc) v.length (icells v) (by kernel_rfl) (HI.keep (HI.keep hv3 hB5 (Nat.le_refl _)) hB6 (Nat.le_refl _)) (by rw [icells_length, Nat.mul_one]) (icells_one v) (by omega) (by omega) ?_)
    intro v7 w7 ho7 hg7
    have hB7 : Below w5.heap.size w5 w7 := hB6.grown hg7 hs6 (fun _ hj => owns_ge ho6 hj)
    have hY7 : HI w7 v7 YV := by
      have := holds_of ho7
      rw [← icells_append, HXU.out.2, ← List.length_append, HXU.out.2] at this
      exact this
    obtain ⟨o7, c7, rfl⟩ := Holds.form hY7
    have hX7 := HI.keep hX5 hB7 (Nat.le_refl _)
    have hB07 : Below w.heap.size w w7 := (hB3.trans (hB5.mono hs3)).trans (hB7.mono (Nat.le_trans hs3 hs5))
    clear hg7 ho6 ho7 hB6 hs6 hX5 hB5 hB7 hB3 hx3 hy3 hu3 hv3
    go_wp2_with fail
    refine (Length_f XU YV _ _ w7 hX7 hY7 (by omega) (by omega) b HBt).mono ?_
    rintro e w8 ⟨rfl, hB8'⟩
    have hB8 := hB07.trans (hB8'.mono hB07.size)
    have e3 : (n : Int) + (p : Int) ≤ (b : Int) := by omega
    by_cases hmn2 : m = n
    · have e1 : ((m : Int) == (n : Int)) = true := by simp; omega
      go_wp2
      go_ret
      exact ⟨by first | rfl | (apply ret_bool; simp; omega), hB8⟩
    · have e1 : ((m : Int) == (n : Int)) = false := by simp; omega
      have e2 : ((m : Int) == (n : Int) + 1) = true := by simp; omega
      go_wp2
      go_ret
      exact ⟨by first | rfl | (apply ret_bool; simp; omega), hB8⟩

theorem walk (x y : List Int) (at' c : Int) (u v : List Int) (vx vy vu vv : Value) (w : World) (_ : -9223372036854775808 ≤ at' ∧ at' ≤ 9223372036854775807) (_ : -9223372036854775808 ≤ c ∧ c ≤ 9223372036854775807) (hx : HI w vx x) (hy : HI w vy y) (hu : HI w vu u) (hv : HI w vv v) :
    Calls Try.prog 7 #[vx, vy, .int .i64 at', .int .i64 c, vu, vv] w fun e w' => e = .returned (.bool true) ∧ Below w.heap.size w w' := by
  by_cases h : x.length ≤ 200 ∧ y.length ≤ 200 ∧ u.length ≤ 100 ∧ v.length ≤ 100
  · exact all_small x y at' c u v vx vy vu vv w hx hy hu hv h.1 h.2.1 h.2.2.1 h.2.2.2
  · exact let_go x y at' c u v vx vy vu vv w hx hy hu hv (by omega)

set_option maxRecDepth 20000 in
theorem contract (H : Type) (enc : TypeId × Value → H) (W : World) (base : Nat) (args : Array Value) (ds gs : List (DataW H)) (before : List MemPlace)
    (hval : ∀ (j : Nat) t v, Try.f7.params[j]? = some t → args[j]? = some v → Value.okWide Try.prog W .any base t v)
    (hW : DataW.Whole enc Try.prog Try.f7.params.toList Rows.minimalStepsSpec.vars false W args.toList ds gs before) :
    Calls Try.prog 7 args W fun e W' => ∃ v, e = .returned v ∧ Rows.minimalStepsSpec.post enc Try.prog Try.f7 false true false false W args v W' := by
  have hW' := hW
  obtain ⟨p, q, hA0, hV, rfl, hfz, hnd⟩ := hW
  have hA : DataW.TrodAll enc Try.prog W 0 (fun _ => true) true Try.f7.params.toList args.toList ds p := hA0
  rw [Try.params7] at hA hval
  obtain ⟨v0, vs0, d0, ds0, p0, q0, hargs, rfl, rfl, h0, r0⟩ := trodAll_cons hA
  obtain ⟨v1, vs1, d1, ds1, p1, q1, rfl, rfl, rfl, h1, r1⟩ := trodAll_cons r0
  obtain ⟨v2, vs2, d2, ds2, p2, q2, rfl, rfl, rfl, h2, r2⟩ := trodAll_cons r1
  obtain ⟨v3, vs3, d3, ds3, p3, q3, rfl, rfl, rfl, h3, r3⟩ := trodAll_cons r2
  obtain ⟨v4, vs4, d4, ds4, p4, q4, rfl, rfl, rfl, h4, r4⟩ := trodAll_cons r3
  obtain ⟨v5, vs5, d5, ds5, p5, q5, rfl, rfl, rfl, h5, r5⟩ := trodAll_cons r4
  obtain ⟨rfl, rfl, rfl⟩ := trodAll_nil r5
  obtain rfl : args = #[v0, v1, v2, v3, v4, v5] := by cases args; simp_all
  obtain ⟨rfl, rfl⟩ := trodVars_none hV
  obtain ⟨a0, len0, cap0, rfl⟩ := okWide_slice Try.underlying22 (hval 0 22 v0 rfl rfl)
  have k0 := h0
  have lt0 : ∀ x ∈ p0, x.block < W.heap.size := by obtain ⟨m, hm⟩ := k0; exact DataW.trod_lt m _ _ _ hm
  obtain ⟨a1, len1, cap1, rfl⟩ := okWide_slice Try.underlying22 (hval 1 22 v1 rfl rfl)
  have k1 := h1
  have lt1 : ∀ x ∈ p1, x.block < W.heap.size := by obtain ⟨m, hm⟩ := k1; exact DataW.trod_lt m _ _ _ hm
  obtain ⟨n2, rfl, rfl, rfl, wn2⟩ := open_int Try.underlying3 (hval 2 3 v2 rfl rfl) h2
  obtain ⟨n3, rfl, rfl, rfl, wn3⟩ := open_int Try.underlying3 (hval 3 3 v3 rfl rfl) h3
  obtain ⟨a4, len4, cap4, rfl⟩ := okWide_slice Try.underlying22 (hval 4 22 v4 rfl rfl)
  have k4 := h4
  have lt4 : ∀ x ∈ p4, x.block < W.heap.size := by obtain ⟨m, hm⟩ := k4; exact DataW.trod_lt m _ _ _ hm
  obtain ⟨a5, len5, cap5, rfl⟩ := okWide_slice Try.underlying22 (hval 5 22 v5 rfl rfl)
  have k5 := h5
  have lt5 : ∀ x ∈ p5, x.block < W.heap.size := by obtain ⟨m, hm⟩ := k5; exact DataW.trod_lt m _ _ _ hm
  clear hA0
  obtain ⟨f0, hf0⟩ := h0
  obtain ⟨ws0, hv0, hwl0, hwf0⟩ := open_nums (by simpa [Value.cells] using hf0)
  obtain ⟨f1, hf1⟩ := h1
  obtain ⟨ws1, hv1, hwl1, hwf1⟩ := open_nums (by simpa [Value.cells] using hf1)
  obtain ⟨f4, hf4⟩ := h4
  obtain ⟨ws4, hv4, hwl4, hwf4⟩ := open_nums (by simpa [Value.cells] using hf4)
  obtain ⟨f5, hf5⟩ := h5
  obtain ⟨ws5, hv5, hwl5, hwf5⟩ := open_nums (by simpa [Value.cells] using hf5)
  have hw := walk ws0 ws1 n2 n3 ws4 ws5 (.slice a0 len0 cap0) (.slice a1 len1 cap1) (.slice a4 len4 cap4) (.slice a5 len5 cap5) W (bounds_i64 wn2) (bounds_i64 wn3) hv0 hv1 hv4 hv5
  refine hw.mono fun e W' ⟨he, bel⟩ => ?_
  subst he
  exact ⟨_, rfl, _, _, _, [], _, [], hW', trodAll_mk1 (shut_bool Try.underlying4 _), trodAll_cons_mk (Below.trod laidOut (by kernel_rfl) (of_decide_eq_true (by kernel_rfl)) k0 bel lt0) (trodAll_cons_mk (Below.trod laidOut (by kernel_rfl) (of_decide_eq_true (by kernel_rfl)) k1 bel lt1) (trodAll_cons_mk (shut_int Try.underlying3 wn2) (trodAll_cons_mk (shut_int Try.underlying3 wn3) (trodAll_cons_mk (Below.trod laidOut (by kernel_rfl) (of_decide_eq_true (by kernel_rfl)) k4 bel lt4) (trodAll_cons_mk (Below.trod laidOut (by kernel_rfl) (of_decide_eq_true (by kernel_rfl)) k5 bel lt5) trodAll_mk0))))), rfl, bel.frame _, fun h => by cases h⟩

set_option maxRecDepth 100000 in
theorem lifted (os : Os) (started : os.Started) (H : Type) (enc : TypeId × Value → H) :
    ReturnsInHanded {} Try.checked os 7 .any (Rows.minimalStepsSpec.pre6 enc Try.prog Try.f7 Rows.minimalStepsRow.domain false) (Rows.minimalStepsSpec.post enc Try.prog Try.f7 false true false false) := by
  refine returnsInHanded_of_change (C := Try.checked) own started (by kernel_rfl) Try.func7
    (ChangeSpec.witness6 (enc := enc) (C := Try.checked) false ⟨#[], #[.slice none 0 0, .slice none 0 0, .int .i64 0, .int .i64 0, .slice none 0 0, .slice none 0 0], []⟩ 8 (by kernel_rfl) (by kernel_rfl) (by kernel_rfl) (by kernel_rfl)) ?_
  intro W base args ds gs before hval hW _ _
  exact contract H enc W base args ds gs before hval hW

theorem proved : Rows.MinimalStepsSaid :=
  OpenClaim.holds_of_wide 7 Try.f7 rfl rfl rfl rfl rfl rfl rfl ⟨rfl, rfl, rfl, rfl, rfl⟩ rfl rfl rfl rfl rfl (by kernel_rfl) Try.func7 (by kernel_rfl)
    (of_decide_eq_true (by kernel_rfl)) (by unfold Func.isWrapper; first | (rw [if_pos (by decide +kernel)]; kernel_rfl) | (rw [if_neg (by decide +kernel)]; exact ⟨rfl, rfl⟩))
    (fun os started H enc _ => lifted os started H enc)
#print axioms proved
end Go.Proofs.Ytoacmaloiaeniab.minimalSteps
