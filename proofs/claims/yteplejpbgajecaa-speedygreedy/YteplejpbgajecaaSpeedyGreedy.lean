/-
  For every two rows of numbers and every reach the law SpeedyGreedy returns true and leaves its arguments as they were: speedy.Greedy answers as the plain reference does. No condition.
-/
import Derived.Test.YteplejpbgajecaaPartA4
import Derived.Test.YteplejpbgajecaaPartB1
namespace Go.Proofs.Yteplejpbgajecaa.speedyGreedy
open Go.ChangeShapes Go.WideShapes Go.ChangeAt Go.RowKit

set_option maxRecDepth 10000 in
set_option maxHeartbeats 4000000 in
theorem walk (x y : List Int) (far : Int) (vx vy : Value) (w : World) (_ : -9223372036854775808 ≤ far ∧ far ≤ 9223372036854775807) (hx : HI w vx x) (hy : HI w vy y) :
    Calls Try.prog 4 #[vx, vy, .int .i64 far] w fun e w' => e = .returned (.bool true) ∧ Below w.heap.size w w' := by
  obtain ⟨xo, xc, rfl⟩ := Holds.form hx
  obtain ⟨yo, yc, rfl⟩ := Holds.form hy
  go_enter Try.func4, Try.ntmps4
  by_cases h1 : 300 < x.length
  · have e1 : decide ((300 : Int) < (x.length : Int)) = true := decide_eq_true (by omega)
    go_wp2
    go_ret
    exact ⟨rfl, Below.refl _ _⟩
  have e1 : decide ((300 : Int) < (x.length : Int)) = false := decide_eq_false (by omega)
  by_cases h2 : 300 < y.length
  · have e2 : decide ((300 : Int) < (y.length : Int)) = true := decide_eq_true (by omega)
    go_wp2
    go_ret
    exact ⟨rfl, Below.refl _ _⟩
  have e2 : decide ((300 : Int) < (y.length : Int)) = false := decide_eq_false (by omega)
  obtain ⟨G, hG⟩ : ∃ G, gdy y far 0 x = G := ⟨_, rfl⟩
  have HG : Hid (gdy y far 0 x = G) := hG
  have HGl : Hid (G.length = x.length) := (by show _ = _; rw [← hG, gdy_length])
  clear hG
  go_wp2_with (at_builtin; refine wpList_append_h _ (by kernel_rfl) (.tmp 15) (.tmp 16) 22 3 (.int .i64 0) 1 8 rfl Try.underlying22 infoInt rfl (by decide) (by decide) w.heap.size _ 0 [] rfl (nil_row_new _ _ _ rfl (by omega)) _ x.length (icells x) rfl ?hold1 (by rw [icells_length, Nat.mul_one]) (icells_one x) (by omega) (by simp) ?_)
  case hold1 => exact HI.keep hx ((Below.refl _ w).alloc (Nat.le_refl _) _) (Nat.le_refl _)
  intro va w1 hown1 hgrow1
  have hB1 : Below w.heap.size w w1 := ((Below.refl _ w).alloc (Nat.le_refl _) _).grown hgrow1 (by simp) (fun j hj => by simp [Value.ownBlock] at hj; omega)
  have hs1 := hB1.size
  have ha1 : HI w1 va x := by simpa [HI] using holds_of hown1
  obtain ⟨ao, ac, rfl⟩ := Holds.form ha1
  clear hown1 hgrow1
  go_wp2_with (at_builtin; refine wpList_append_h _ (by kernel_rfl) (.tmp 18) (.tmp 19) 22 3 (.int .i64 0) 1 8 rfl Try.underlying22 infoInt rfl (by decide) (by decide) w1.heap.size _ 0 [] rfl (nil_row_new _ _ _ rfl (by omega)) _ y.length (icells y) rfl ?hold2 (by rw [icells_length, Nat.mul_one]) (icells_one y) (by omega) (by simp) ?_)
  case hold2 => exact HI.keep (HI.keep hy hB1 (Nat.le_refl _)) ((Below.refl _ w1).alloc (Nat.le_refl _) _) (Nat.le_refl _)
  intro vb w2 hown2 hgrow2
  have hB2 : Below w1.heap.size w1 w2 := ((Below.refl _ w1).alloc (Nat.le_refl _) _).grown hgrow2 (by simp) (fun j hj => by simp [Value.ownBlock] at hj; omega)
  have hs2 := hB2.size
  have hb2 : HI w2 vb y := by simpa [HI] using holds_of hown2
  obtain ⟨bo, bc, rfl⟩ := Holds.form hb2
  have ha2 := HI.keep ha1 hB2 (Nat.le_refl _)
  have hB02 : Below w.heap.size w w2 := hB1.trans (hB2.mono hs1)
  clear hown2 hgrow2 ha1
  go_wp2_with fail
  refine (Greedy_f x y far _ _ w2 ha2 hb2 (by omega) (by omega) G HG).mono ?_
  rintro e w3 ⟨zo, zc, rfl, h3, hB3⟩
  have hB03 : Below w.heap.size w w3 := hB02.trans (hB3.mono hB02.size)
  have h3' : HI w3 (.slice zo x.length zc) G := by unfold HI; rw [HGl.out]; exact holds_of h3
  clear h3
  go_wp2_with fail
  refine (rGreedy_f x y far _ _ w3 (HI.keep hx hB03 (Nat.le_refl _)) (HI.keep hy hB03 (Nat.le_refl _)) (by omega) (by omega) G HG).mono ?_
  rintro e w4 ⟨yo4, yc4, rfl, h4, hB4⟩
  have hB04 : Below w.heap.size w w4 := hB03.trans (hB4.mono hB03.size)
  have h4' : HI w4 (.slice yo4 x.length yc4) G := by unfold HI; rw [HGl.out]; exact holds_of h4
  have h34 := HI.keep h3' hB4 (Nat.le_refl _)
  clear h3' hB3 hB4 h4
  go_wp2_with fail
  refine (SameI_any _ _ G w4 (by have := HGl.out; omega) h34 h4').mono ?_
  rintro e w7 ⟨rfl, hB7⟩
  have hB07 : Below w.heap.size w w7 := hB04.trans (hB7.mono hB04.size)
  go_wp2
  go_ret
  exact ⟨rfl, hB07⟩
set_option maxRecDepth 20000 in
theorem contract (H : Type) (enc : TypeId × Value → H) (W : World) (base : Nat) (args : Array Value) (ds gs : List (DataW H)) (before : List MemPlace)
    (hval : ∀ (j : Nat) t v, Try.f4.params[j]? = some t → args[j]? = some v → Value.okWide Try.prog W .any base t v)
    (hW : DataW.Whole enc Try.prog Try.f4.params.toList Rows.speedyGreedySpec.vars false W args.toList ds gs before) :
    Calls Try.prog 4 args W fun e W' => ∃ v, e = .returned v ∧ Rows.speedyGreedySpec.post enc Try.prog Try.f4 false true false false W args v W' := by
  have hW' := hW
  obtain ⟨p, q, hA0, hV, rfl, hfz, hnd⟩ := hW
  have hA : DataW.TrodAll enc Try.prog W 0 (fun _ => true) true Try.f4.params.toList args.toList ds p := hA0
  rw [Try.params4] at hA hval
  obtain ⟨v0, vs0, d0, ds0, p0, q0, hargs, rfl, rfl, h0, r0⟩ := trodAll_cons hA
  obtain ⟨v1, vs1, d1, ds1, p1, q1, rfl, rfl, rfl, h1, r1⟩ := trodAll_cons r0
  obtain ⟨v2, vs2, d2, ds2, p2, q2, rfl, rfl, rfl, h2, r2⟩ := trodAll_cons r1
  obtain ⟨rfl, rfl, rfl⟩ := trodAll_nil r2
  obtain rfl : args = #[v0, v1, v2] := by cases args; simp_all
  obtain ⟨rfl, rfl⟩ := trodVars_none hV
  obtain ⟨a0, len0, cap0, rfl⟩ := okWide_slice Try.underlying22 (hval 0 22 v0 rfl rfl)
  have k0 := h0
  have lt0 : ∀ x ∈ p0, x.block < W.heap.size := by obtain ⟨m, hm⟩ := k0; exact DataW.trod_lt m _ _ _ hm
  obtain ⟨a1, len1, cap1, rfl⟩ := okWide_slice Try.underlying22 (hval 1 22 v1 rfl rfl)
  have k1 := h1
  have lt1 : ∀ x ∈ p1, x.block < W.heap.size := by obtain ⟨m, hm⟩ := k1; exact DataW.trod_lt m _ _ _ hm
  obtain ⟨n2, rfl, rfl, rfl, wn2⟩ := open_int Try.underlying3 (hval 2 3 v2 rfl rfl) h2
  clear hA0
  obtain ⟨f0, hf0⟩ := h0
  obtain ⟨ws0, hv0, hwl0, hwf0⟩ := open_nums (by simpa [Value.cells] using hf0)
  obtain ⟨f1, hf1⟩ := h1
  obtain ⟨ws1, hv1, hwl1, hwf1⟩ := open_nums (by simpa [Value.cells] using hf1)
  have hw := walk ws0 ws1 n2 (.slice a0 len0 cap0) (.slice a1 len1 cap1) W (bounds_i64 wn2) hv0 hv1
  refine hw.mono fun e W' ⟨he, bel⟩ => ?_
  subst he
  exact ⟨_, rfl, _, _, _, [], _, [], hW', trodAll_mk1 (shut_bool Try.underlying4 _), trodAll_cons_mk (Below.trod laidOut (by kernel_rfl) (of_decide_eq_true (by kernel_rfl)) k0 bel lt0) (trodAll_cons_mk (Below.trod laidOut (by kernel_rfl) (of_decide_eq_true (by kernel_rfl)) k1 bel lt1) (trodAll_cons_mk (shut_int Try.underlying3 wn2) trodAll_mk0)), rfl, bel.frame _, fun h => by cases h⟩

set_option maxRecDepth 100000 in
theorem lifted (os : Os) (started : os.Started) (H : Type) (enc : TypeId × Value → H) :
    ReturnsInHanded {} Try.checked os 4 .any (Rows.speedyGreedySpec.pre6 enc Try.prog Try.f4 Rows.speedyGreedyRow.domain false) (Rows.speedyGreedySpec.post enc Try.prog Try.f4 false true false false) := by
  refine returnsInHanded_of_change (C := Try.checked) own started (by kernel_rfl) Try.func4
    (ChangeSpec.witness6 (enc := enc) (C := Try.checked) false ⟨#[], #[.slice none 0 0, .slice none 0 0, .int .i64 0], []⟩ 8 (by kernel_rfl) (by kernel_rfl) (by kernel_rfl) (by kernel_rfl)) ?_
  intro W base args ds gs before hval hW _ _
  exact contract H enc W base args ds gs before hval hW

theorem proved : Rows.SpeedyGreedySaid :=
  OpenClaim.holds_of_wide 4 Try.f4 rfl rfl rfl rfl rfl rfl rfl ⟨rfl, rfl, rfl, rfl, rfl⟩ rfl rfl rfl rfl rfl (by kernel_rfl) Try.func4 (by kernel_rfl)
    (of_decide_eq_true (by kernel_rfl)) (by unfold Func.isWrapper; first | (rw [if_pos (by decide +kernel)]; kernel_rfl) | (rw [if_neg (by decide +kernel)]; exact ⟨rfl, rfl⟩))
    (fun os started H enc _ => lifted os started H enc)
#print axioms proved
