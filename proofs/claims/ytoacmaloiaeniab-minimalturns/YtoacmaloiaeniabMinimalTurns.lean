/-
  For every two rows of numbers and every number, the law MinimalTurns returns true and leaves its arguments as they were: how much two rows have in common (minimal.Length) is the same the other way round and with both turned about, is at most the shorter one's length, and one more with the number ahead of both. No condition is asked.
-/
import Derived.Test.YtoacmaloiaeniabPartF1
import Derived.Test.YtoacmaloiaeniabPartB1
import Derived.Test.YtoacmaloiaeniabPartA3
import Derived.JoinedOf
import Derived.Handed
namespace Go.Proofs.Ytoacmaloiaeniab.minimalTurns
open Go.ChangeShapes Go.WideShapes Go.ChangeAt Go.RowKit

set_option maxRecDepth 10000 in
set_option maxHeartbeats 4000000 in
theorem walk (x y : List Int) (c : Int) (vx vy : Value) (w : World) (_hc : -9223372036854775808 ≤ c ∧ c ≤ 9223372036854775807) (hx : HI w vx x) (hy : HI w vy y) :
    Calls Try.prog 5 #[vx, vy, .int .i64 c] w fun e w' => e = .returned (.bool true) ∧ Below w.heap.size w w' := by
  obtain ⟨xo, xc, rfl⟩ := Holds.form hx
  obtain ⟨yo, yc, rfl⟩ := Holds.form hy
  go_enter Try.func5, Try.ntmps5
  go_wp2_with fail
  refine (works_any w).mono ?_
  rintro e w0 ⟨rfl, hB0⟩
  by_cases h1 : 300 < x.length
  · have h1' : (300 : Int) < (x.length : Int) := by omega
    go_wp2
    go_ret
    exact ⟨rfl, hB0⟩
  by_cases h2 : 300 < y.length
  · have h2' : (300 : Int) < (y.length : Int) := by omega
    have h1' : ¬ (300 : Int) < (x.length : Int) := by omega
    go_wp2
    go_ret
    exact ⟨rfl, hB0⟩
  have h1' : ¬ (300 : Int) < (x.length : Int) := by omega
  have h2' : ¬ (300 : Int) < (y.length : Int) := by omega
  have hx0 := HI.keep hx hB0 (Nat.le_refl _)
  have hy0 := HI.keep hy hB0 (Nat.le_refl _)
  obtain ⟨n, hn⟩ : ∃ n, lc x y = n := ⟨_, rfl⟩
  have hnx := lc_left x y
  have hny := lc_right x y
  rw [hn] at hnx hny
  have HN : Hid (lc x y = n) := hn
  clear hn
  go_wp2_with fail
  refine (Length_f x y _ _ _ hx0 hy0 (by omega) (by omega) n HN).mono ?_
  rintro e w1 ⟨rfl, hB1⟩
  have hB01 := hB0.trans (hB1.mono hB0.size)
  have hx1 := HI.keep hx hB01 (Nat.le_refl _)
  have hy1 := HI.keep hy hB01 (Nat.le_refl _)
  clear hx0 hy0 hB1 hB0
  go_wp2_with fail
  refine (Length_f y x _ _ _ hy1 hx1 (by omega) (by omega) n (by show _ = _; rw [lc_comm]; exact HN.out)).mono ?_
  rintro e w2 ⟨rfl, hB2⟩
  have hB02 := hB01.trans (hB2.mono hB01.size)
  have hx2 := HI.keep hx hB02 (Nat.le_refl _)
  clear hx1 hy1 hB2 hB01
  go_wp2_with fail
  refine (turned_f x _ _ hx2 (by omega)).mono ?_
  rintro e w3 ⟨v3, rfl, hv3, hB3⟩
  have hB03 := hB02.trans (hB3.mono hB02.size)
  have hy3 := HI.keep hy hB03 (Nat.le_refl _)
  clear hx2 hB3 hB02
  obtain ⟨X, hX⟩ : ∃ X, x.reverse = X := ⟨_, rfl⟩
  have hXl : X.length ≤ 300 := by rw [← hX]; simp; omega
  rw [hX] at hv3
  have HX : Hid (x.reverse = X) := hX
  clear hX
  obtain ⟨o3, c3, rfl⟩ := Holds.form hv3
  go_wp2_with fail
  refine (turned_f y _ _ hy3 (by omega)).mono ?_
  rintro e w4 ⟨v4, rfl, hv4, hB4⟩
  have hB04 := hB03.trans (hB4.mono hB03.size)
  have hv34 := HI.keep hv3 hB4 (Nat.le_refl _)
  clear hy3 hB4 hv3 hB03
  obtain ⟨Y, hY⟩ : ∃ Y, y.reverse = Y := ⟨_, rfl⟩
  have hYl : Y.length ≤ 300 := by rw [← hY]; simp; omega
  rw [hY] at hv4
  have HY : Hid (y.reverse = Y) := hY
  clear hY
  obtain ⟨o4, c4, rfl⟩ := Holds.form hv4
  go_wp2_with fail
  refine (Length_f X Y _ _ _ hv34 hv4 (by omega) (by omega) n (by show _ = _; rw [← HX.out, ← HY.out, lc_rev]; exact HN.out)).mono ?_
  rintro e w5 ⟨rfl, hB5⟩
  have hB05 := hB04.trans (hB5.mono hB04.size)
  have hsz5 := hB05.size
  have hx5 := HI.keep hx hB05 (Nat.le_refl _)
  clear hv34 hv4 hB5 hB04
  have hr6 := World.ownsRow_lit (base := w5.heap.size) (e := 3) (size := 1) w5 #[Value.int .i64 c] 1 (Nat.le_refl _) (by decide) (by rfl)
  have hx6 := HI.keep hx5 ((Below.refl _ w5).alloc (Nat.le_refl _) (Obj.cells #[Value.int .i64 c] 3)) (Nat.le_refl _)
  go_wp2_with (at_builtin; refine wpList_append_h _ (by kernel_rfl) (.tmp 49) (.tmp 50) 22 3 (.int .i64 0) 1 8 rfl Try.underlying22 infoInt rfl (by decide) (by decide) w5.heap.size _ _ _ rfl hr6 _ x.length (icells x) rfl hx6 (by rw [icells_length]; omega) (icells_one _) (by omega) (by simp) ?_)
  intro v7 w7 hown7 hgrow7
  have hB57 : Below w5.heap.size w5 w7 := ((Below.refl _ w5).alloc (Nat.le_refl _) _).grown hgrow7 (by simp) (fun _ hj => owns_ge hr6 hj)
  have hB07 := hB05.trans (hB57.mono hsz5)
  obtain ⟨CX, hCX⟩ : ∃ CX, c :: x = CX := ⟨_, rfl⟩
  have hCXl : CX.length ≤ 301 := by rw [← hCX]; simp; omega
  have HCX : Hid (c :: x = CX) := hCX
  have hv7 : HI w7 v7 CX := by
    have := holds_of hown7
    unfold HI
    rw [← hCX, List.length_cons, Nat.add_comm]
    exact this
  clear hCX
  have hy7 := HI.keep hy hB07 (Nat.le_refl _)
  clear hown7 hgrow7 hB57 hx6 hr6 hx5 hB05 hsz5
  obtain ⟨o7, c7, rfl⟩ := Holds.form hv7
  have hsz7 := hB07.size
  have hr8 := World.ownsRow_lit (base := w7.heap.size) (e := 3) (size := 1) w7 #[Value.int .i64 c] 1 (Nat.le_refl _) (by decide) (by rfl)
  have hy8 := HI.keep hy7 ((Below.refl _ w7).alloc (Nat.le_refl _) (Obj.cells #[Value.int .i64 c] 3)) (Nat.le_refl _)
  go_wp2_with (at_builtin; refine wpList_append_h _ (by kernel_rfl) (.tmp 53) (.tmp 54) 22 3 (.int .i64 0) 1 8 rfl Try.underlying22 infoInt rfl (by decide) (by decide) w7.heap.size _ _ _ rfl hr8 _ y.length (icells y) rfl hy8 (by rw [icells_length]; omega) (icells_one _) (by omega) (by simp) ?_)
  intro v9 w9 hown9 hgrow9
  have hB79 : Below w7.heap.size w7 w9 := ((Below.refl _ w7).alloc (Nat.le_refl _) _).grown hgrow9 (by simp) (fun _ hj => owns_ge hr8 hj)
  have hB09 := hB07.trans (hB79.mono hsz7)
  obtain ⟨CY, hCY⟩ : ∃ CY, c :: y = CY := ⟨_, rfl⟩
  have hCYl : CY.length ≤ 301 := by rw [← hCY]; simp; omega
  have HCY : Hid (c :: y = CY) := hCY
  have hv9 : HI w9 v9 CY := by
    have := holds_of hown9
    unfold HI
    rw [← hCY, List.length_cons, Nat.add_comm]
    exact this
  clear hCY
  have hv79 := HI.keep hv7 hB79 (Nat.le_refl _)
  clear hown9 hgrow9 hB79 hy8 hr8 hy7 hB07 hsz7 hv7
  obtain ⟨o9, c9, rfl⟩ := Holds.form hv9
  go_wp2_with fail
  refine (Length_f CX CY _ _ _ hv79 hv9 (by omega) (by omega) (n + 1) (by show _ = _; rw [← HCX.out, ← HCY.out, lc_ahead, HN.out])).mono ?_
  rintro e w10 ⟨rfl, hB10⟩
  have hB010 := hB09.trans (hB10.mono hB09.size)
  have hx10 := HI.keep hx hB010 (Nat.le_refl _)
  clear hv79 hv9 hB10 hB09
  go_wp2_with fail
  refine (Length_f x x _ _ _ hx10 hx10 (by omega) (by omega) x.length (lc_self x)).mono ?_
  rintro e w11 ⟨rfl, hB11⟩
  have hB011 := hB010.trans (hB11.mono hB010.size)
  clear hx10 hB11 hB010
  have hmin : (if y.length < x.length then (y.length : Int) else (x.length : Int)) = ((min x.length y.length : Nat) : Int) := by split <;> omega
  have hle : (n : Int) ≤ ((min x.length y.length : Nat) : Int) := by omega
  go_wp2
  go_ret
  exact ⟨rfl, hB011⟩

theorem contract (H : Type) (enc : TypeId × Value → H) (W : World) (base : Nat) (args : Array Value) (ds gs : List (DataW H)) (before : List MemPlace)
    (hval : ∀ (j : Nat) t v, Try.f5.params[j]? = some t → args[j]? = some v → Value.okWide Try.prog W .any base t v)
    (hW : DataW.Whole enc Try.prog Try.f5.params.toList Rows.minimalTurnsSpec.vars false W args.toList ds gs before) :
    Calls Try.prog 5 args W fun e W' => ∃ v, e = .returned v ∧ Rows.minimalTurnsSpec.post enc Try.prog Try.f5 false true false false W args v W' := by
  have hW' := hW
  obtain ⟨p, q, hA0, hV, rfl, hfz, hnd⟩ := hW
  have hA : DataW.TrodAll enc Try.prog W 0 (fun _ => true) true Try.f5.params.toList args.toList ds p := hA0
  rw [Try.params5] at hA hval
  obtain ⟨v0, vs0, d0, ds0, p0, q0, hargs, rfl, rfl, h0, r0⟩ := trodAll_cons hA
  obtain ⟨v1, vs1, d1, ds1, p1, q1, rfl, rfl, rfl, h1, r1⟩ := trodAll_cons r0
  obtain ⟨v2, vs2, d2, ds2, p2, q2, rfl, rfl, rfl, h2, r2⟩ := trodAll_cons r1
  obtain ⟨rfl, rfl, rfl⟩ := trodAll_nil r2
  obtain rfl : args = #[v0, v1, v2] := by cases args; simp_all
  obtain ⟨rfl, rfl⟩ := trodVars_none hV
  obtain ⟨a0, len0, cap0, rfl⟩ := okWide_slice Try.underlying22 (hval 0 22 v0 rfl rfl)
  have k0 := h0
  have lt0 : ∀ x ∈ p0, x.block < W.heap.size := by obtain ⟨m, hm⟩ := k0; exact DataW.trod_lt m _ _ _ hm
  obtain ⟨a1, len1, cap1, rfl⟩ := okWide_slice Try.underlying22 (hval 1 22 v1 rfl rfl)
  have k1 := h1
  have lt1 : ∀ x ∈ p1, x.block < W.heap.size := by obtain ⟨m, hm⟩ := k1; exact DataW.trod_lt m _ _ _ hm
  obtain ⟨n2, rfl, rfl, rfl, wn2⟩ := open_int Try.underlying3 (hval 2 3 v2 rfl rfl) h2
  clear hA0
  obtain ⟨f0, hf0⟩ := h0
  obtain ⟨ws0, hv0, hwl0, hwf0⟩ := open_nums (by simpa [Value.cells] using hf0)
  obtain ⟨f1, hf1⟩ := h1
  obtain ⟨ws1, hv1, hwl1, hwf1⟩ := open_nums (by simpa [Value.cells] using hf1)
  have hw := walk ws0 ws1 n2 (.slice a0 len0 cap0) (.slice a1 len1 cap1) W (bounds_i64 wn2) hv0 hv1
  refine hw.mono fun e W' ⟨he, bel⟩ => ?_
  subst he
  exact ⟨_, rfl, _, _, _, [], _, [], hW', trodAll_mk1 (shut_bool Try.underlying4 _), trodAll_cons_mk (Below.trod laidOut (by kernel_rfl) (of_decide_eq_true (by kernel_rfl)) k0 bel lt0) (trodAll_cons_mk (Below.trod laidOut (by kernel_rfl) (of_decide_eq_true (by kernel_rfl)) k1 bel lt1) (trodAll_cons_mk (shut_int Try.underlying3 wn2) trodAll_mk0)), rfl, bel.frame _, fun h => by cases h⟩

set_option maxRecDepth 100000 in
theorem lifted (os : Os) (started : os.Started) (H : Type) (enc : TypeId × Value → H) :
    ReturnsInHanded {} Try.checked os 5 .any (Rows.minimalTurnsSpec.pre6 enc Try.prog Try.f5 Rows.minimalTurnsRow.domain false) (Rows.minimalTurnsSpec.post enc Try.prog Try.f5 false true false false) := by
  refine returnsInHanded_of_change (C := Try.checked) own started (by kernel_rfl) Try.func5
    (ChangeSpec.witness6 (enc := enc) (C := Try.checked) false ⟨#[], #[.slice none 0 0, .slice none 0 0, .int .i64 0], []⟩ 8 (by kernel_rfl) (by kernel_rfl) (by kernel_rfl) (by kernel_rfl)) ?_
  intro W base args ds gs before hval hW _ _
  exact contract H enc W base args ds gs before hval hW

theorem proved : Rows.MinimalTurnsSaid :=
  OpenClaim.holds_of_wide 5 Try.f5 rfl rfl rfl rfl rfl rfl rfl ⟨rfl, rfl, rfl, rfl, rfl⟩ rfl rfl rfl rfl rfl (by kernel_rfl) Try.func5 (by kernel_rfl)
    (of_decide_eq_true (by kernel_rfl)) (by unfold Func.isWrapper; first | (rw [if_pos (by decide +kernel)]; kernel_rfl) | (rw [if_neg (by decide +kernel)]; exact ⟨rfl, rfl⟩))
    (fun os started H enc _ => lifted os started H enc)
#print axioms proved
end Go.Proofs.Ytoacmaloiaeniab.minimalTurns
