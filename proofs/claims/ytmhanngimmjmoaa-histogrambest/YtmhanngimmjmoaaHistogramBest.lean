/-
  For every two rows of numbers the law HistogramBest returns true and leaves its arguments as they were: histogram.Best answers the run that the plain reference answers, out of all runs. No condition.
-/
import Derived.Test.YtmhanngimmjmoaaPart7
namespace Go.Proofs.Ytmhanngimmjmoaa.histogramBest
open Go.ChangeShapes Go.WideShapes Go.ChangeAt Go.RowKit

set_option maxRecDepth 10000 in
set_option maxHeartbeats 4000000 in
theorem walk (x y : List Int) (vx vy : Value) (w : World) (hwx : ∀ z ∈ x, w64 z) (hwy : ∀ z ∈ y, w64 z) (hx : HI w vx x) (hy : HI w vy y) :
    Calls Try.prog 7 #[vx, vy] w fun e w' => e = .returned (.bool true) ∧ Below w.heap.size w w' := by
  obtain ⟨xo, xc, rfl⟩ := Holds.form hx
  obtain ⟨yo, yc, rfl⟩ := Holds.form hy
  have HWX : Hid (∀ z ∈ x, w64 z) := hwx
  have HWY : Hid (∀ z ∈ y, w64 z) := hwy
  clear hwx hwy
  go_enter Try.func7, Try.ntmps7
  by_cases h1 : 120 < x.length
  · have e1 : decide ((120 : Int) < (x.length : Int)) = true := decide_eq_true (by omega)
    go_wp2
    go_ret
    exact ⟨rfl, Below.refl _ _⟩
  have e1 : decide ((120 : Int) < (x.length : Int)) = false := decide_eq_false (by omega)
  by_cases h2 : 120 < y.length
  · have e2 : decide ((120 : Int) < (y.length : Int)) = true := decide_eq_true (by omega)
    go_wp2
    go_ret
    exact ⟨rfl, Below.refl _ _⟩
  have e2 : decide ((120 : Int) < (y.length : Int)) = false := decide_eq_false (by omega)
  go_wp2_with (at_builtin; refine wpList_append_h _ (by kernel_rfl) (.tmp 18) (.tmp 19) 22 3 (.int .i64 0) 1 8 rfl Try.underlying22 infoInt rfl (by decide) (by decide) w.heap.size _ 0 [] rfl (nil_row_new _ _ _ rfl (by omega)) _ x.length (icells x) rfl ?hold1 (by rw [icells_length, Nat.mul_one]) (icells_one x) (by omega) (by simp) ?_)
  case hold1 => exact HI.keep hx ((Below.refl _ w).alloc (Nat.le_refl _) _) (Nat.le_refl _)
  intro va w1 hown1 hgrow1
  have hB1 : Below w.heap.size w w1 := ((Below.refl _ w).alloc (Nat.le_refl _) _).grown hgrow1 (by simp) (fun j hj => by simp [Value.ownBlock] at hj; omega)
  have hs1 := hB1.size
  have ha1 : HI w1 va x := by simpa [HI] using holds_of hown1
  obtain ⟨ao, ac, rfl⟩ := Holds.form ha1
  clear hown1 hgrow1
  go_wp2_with (at_builtin; refine wpList_append_h _ (by kernel_rfl) (.tmp 21) (.tmp 22) 22 3 (.int .i64 0) 1 8 rfl Try.underlying22 infoInt rfl (by decide) (by decide) w1.heap.size _ 0 [] rfl (nil_row_new _ _ _ rfl (by omega)) _ y.length (icells y) rfl ?hold2 (by rw [icells_length, Nat.mul_one]) (icells_one y) (by omega) (by simp) ?_)
  case hold2 => exact HI.keep (HI.keep hy hB1 (Nat.le_refl _)) ((Below.refl _ w1).alloc (Nat.le_refl _) _) (Nat.le_refl _)
  intro vb w2 hown2 hgrow2
  have hB2 : Below w1.heap.size w1 w2 := ((Below.refl _ w1).alloc (Nat.le_refl _) _).grown hgrow2 (by simp) (fun j hj => by simp [Value.ownBlock] at hj; omega)
  have hs2 := hB2.size
  have hb2 : HI w2 vb y := by simpa [HI] using holds_of hown2
  obtain ⟨bo, bc, rfl⟩ := Holds.form hb2
  have ha2 := HI.keep ha1 hB2 (Nat.le_refl _)
  have hB02 : Below w.heap.size w w2 := hB1.trans (hB2.mono hs1)
  clear hown2 hgrow2 ha1
  obtain ⟨o, ho⟩ : ∃ o, best x y = o := ⟨_, rfl⟩
  have HO : Hid (best x y = o) := ho
  clear ho
  go_wp2_with fail
  refine (Best_f x y _ _ w2 ha2 hb2 (by omega) (by omega) HWX.out HWY.out o HO).mono ?_
  rintro e w3 ⟨rfl, hB3⟩
  have hB03 : Below w.heap.size w w3 := hB02.trans (hB3.mono hB02.size)
  clear hB3 ha2 hb2
  unfold hrV
  obtain ⟨r, hr⟩ : ∃ r, o.getD ⟨0, 0, 0, 0⟩ = r := ⟨_, rfl⟩
  obtain ⟨fl, hfl⟩ : ∃ fl, o.isSome = fl := ⟨_, rfl⟩
  have HE : Hid (bestV o = .tuple #[.agg #[.int .i64 (r.X : Int), .int .i64 (r.Y : Int), .int .i64 (r.N : Int), .int .i64 (r.R : Int)], .bool fl]) := (by show _ = _; unfold bestV; rw [hr, hfl])
  rw [hr, hfl]
  clear hr hfl
  have hH3 := Hbx.new w3 r
  have hBa := hB03.alloc hB03.size (.cells #[.int .i64 (r.X : Int), .int .i64 (r.Y : Int), .int .i64 (r.N : Int), .int .i64 (r.R : Int)] 50)
  go_wp2_with fail
  refine (rBest_f x y _ _ _ (HI.keep hx hBa (Nat.le_refl _)) (HI.keep hy hBa (Nat.le_refl _)) (by omega) (by omega) o HO).mono ?_
  rintro e w4 ⟨rfl, hB4⟩
  rw [HE.out]
  have hH4 := hH3.low hB4
  have hB04 := hBa.trans (hB4.mono (by have := hB03.size; simp; omega))
  have hG4 := Gbx.new w4 r
  have hH5 := hH4.low ((Below.refl _ w4).alloc (Nat.le_refl _) (.cells #[.int .i64 (r.X : Int), .int .i64 (r.Y : Int), .int .i64 (r.N : Int), .int .i64 (r.R : Int)] 53))
  have hB05 := hB04.alloc hB04.size (.cells #[.int .i64 (r.X : Int), .int .i64 (r.Y : Int), .int .i64 (r.N : Int), .int .i64 (r.R : Int)] 53)
  clear hH3 hBa hB4 hH4 hB04 HE HO
  obtain ⟨c0, c1, c2, c3⟩ := hH5.cells
  obtain ⟨d0, d1, d2, d3⟩ := hG4.cells
  go_wp2
  go_ret
  exact ⟨ret_bool (by simp), hB05⟩
set_option maxRecDepth 20000 in
theorem contract (H : Type) (enc : TypeId × Value → H) (W : World) (base : Nat) (args : Array Value) (ds gs : List (DataW H)) (before : List MemPlace)
    (hval : ∀ (j : Nat) t v, Try.f7.params[j]? = some t → args[j]? = some v → Value.okWide Try.prog W .any base t v)
    (hW : DataW.Whole enc Try.prog Try.f7.params.toList Rows.histogramBestSpec.vars false W args.toList ds gs before) :
    Calls Try.prog 7 args W fun e W' => ∃ v, e = .returned v ∧ Rows.histogramBestSpec.post enc Try.prog Try.f7 false true false false W args v W' := by
  have hW' := hW
  obtain ⟨p, q, hA0, hV, rfl, hfz, hnd⟩ := hW
  have hA : DataW.TrodAll enc Try.prog W 0 (fun _ => true) true Try.f7.params.toList args.toList ds p := hA0
  rw [Try.params7] at hA hval
  obtain ⟨v0, vs0, d0, ds0, p0, q0, hargs, rfl, rfl, h0, r0⟩ := trodAll_cons hA
  obtain ⟨v1, vs1, d1, ds1, p1, q1, rfl, rfl, rfl, h1, r1⟩ := trodAll_cons r0
  obtain ⟨rfl, rfl, rfl⟩ := trodAll_nil r1
  obtain rfl : args = #[v0, v1] := by cases args; simp_all
  obtain ⟨rfl, rfl⟩ := trodVars_none hV
  obtain ⟨a0, len0, cap0, rfl⟩ := okWide_slice Try.underlying22 (hval 0 22 v0 rfl rfl)
  have k0 := h0
  have lt0 : ∀ x ∈ p0, x.block < W.heap.size := by obtain ⟨m, hm⟩ := k0; exact DataW.trod_lt m _ _ _ hm
  obtain ⟨a1, len1, cap1, rfl⟩ := okWide_slice Try.underlying22 (hval 1 22 v1 rfl rfl)
  have k1 := h1
  have lt1 : ∀ x ∈ p1, x.block < W.heap.size := by obtain ⟨m, hm⟩ := k1; exact DataW.trod_lt m _ _ _ hm
  clear hA0
  obtain ⟨f0, hf0⟩ := h0
  obtain ⟨ws0, hv0, hwl0, hwf0⟩ := open_nums (by simpa [Value.cells] using hf0)
  obtain ⟨f1, hf1⟩ := h1
  obtain ⟨ws1, hv1, hwl1, hwf1⟩ := open_nums (by simpa [Value.cells] using hf1)
  have hw := walk ws0 ws1 (.slice a0 len0 cap0) (.slice a1 len1 cap1) W hwf0 hwf1 hv0 hv1
  refine hw.mono fun e W' ⟨he, bel⟩ => ?_
  subst he
  exact ⟨_, rfl, _, _, _, [], _, [], hW', trodAll_mk1 (shut_bool Try.underlying4 _), trodAll_cons_mk (Below.trod laidOut (by kernel_rfl) (of_decide_eq_true (by kernel_rfl)) k0 bel lt0) (trodAll_cons_mk (Below.trod laidOut (by kernel_rfl) (of_decide_eq_true (by kernel_rfl)) k1 bel lt1) trodAll_mk0), rfl, bel.frame _, fun h => by cases h⟩

set_option maxRecDepth 100000 in
theorem lifted (os : Os) (started : os.Started) (H : Type) (enc : TypeId × Value → H) :
    ReturnsInHanded {} Try.checked os 7 .any (Rows.histogramBestSpec.pre6 enc Try.prog Try.f7 Rows.histogramBestRow.domain false) (Rows.histogramBestSpec.post enc Try.prog Try.f7 false true false false) := by
  refine returnsInHanded_of_change (C := Try.checked) own started (by kernel_rfl) Try.func7
    (ChangeSpec.witness6 (enc := enc) (C := Try.checked) false ⟨#[], #[.slice none 0 0, .slice none 0 0], []⟩ 8 (by kernel_rfl) (by kernel_rfl) (by kernel_rfl) (by kernel_rfl)) ?_
  intro W base args ds gs before hval hW _ _
  exact contract H enc W base args ds gs before hval hW

theorem proved : Rows.HistogramBestSaid :=
  OpenClaim.holds_of_wide 7 Try.f7 rfl rfl rfl rfl rfl rfl rfl ⟨rfl, rfl, rfl, rfl, rfl⟩ rfl rfl rfl rfl rfl (by kernel_rfl) Try.func7 (by kernel_rfl)
    (of_decide_eq_true (by kernel_rfl)) (by unfold Func.isWrapper; first | (rw [if_pos (by decide +kernel)]; kernel_rfl) | (rw [if_neg (by decide +kernel)]; exact ⟨rfl, rfl⟩))
    (fun os started H enc _ => lifted os started H enc)
#print axioms proved
