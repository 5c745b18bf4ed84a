/-
  For every two lists of changes of together at most 1048576 values, and every three numbers, the law EditsComposes returns true and leaves its arguments as they were: edits.Compose answers as the plain reference does. The condition is the statement's own bound on what comes in; nothing else is asked.
-/
import Derived.Test.YtoacmaloiaeniaaPartN1
import Derived.Test.YtoacmaloiaeniaaPartA1
namespace Go.Proofs.Ytoacmaloiaeniaa.editsComposes
open Go.ChangeShapes Go.WideShapes Go.ChangeAt Go.RowKit

theorem small_f (n : Int) (r : Bool) (w : World) (hr : Hid (decide (n ≤ 2000) = r)) : Calls Try.prog 9 #[.int .i64 n] w fun e w' => e = .returned (.bool r) ∧ Below w.heap.size w w' := by
  have h := hr.out
  go_enter Try.func9, Try.ntmps9
  subst h
  go_wp2
  go_ret
  exact ⟨rfl, Below.refl _ _⟩
theorem betw_len (a b : Int) (l : List Rn) : (betw a b l).length ≤ l.length := by
  induction l generalizing a b with
  | nil => simp [betw]
  | cons r l ih =>
    rw [betw]
    have := ih (r.a + r.n) (r.b + r.n)
    split <;> simp <;> omega
theorem comp_len (x y : List Ch) (n m k : Int) : (compS x y n m k).length ≤ x.length + y.length + 3 := by
  unfold compS
  have h1 := betw_len 0 0 (bothR (rns 0 0 n m x) (rns 0 0 m k y) ++ [⟨n, k, 0⟩])
  have h2 := both_len (rns 0 0 n m x) (rns 0 0 m k y)
  have h3 : (rns 0 0 n m x).length = x.length + 1 := by unfold rns; rw [List.length_map, pieces_len]
  have h4 : (rns 0 0 m k y).length = y.length + 1 := by unfold rns; rw [List.length_map, pieces_len]
  rw [List.length_append, List.length_singleton] at h1
  omega

theorem let_go (x y : List Ch) (n m k : Int) (vx vy : Value) (w : World) (hx : HCh w vx x) (hy : HCh w vy y) (hbig : 2000 < n ∨ 2000 < m ∨ 2000 < k) :
    Calls Try.prog 5 #[vx, vy, .int .i64 n, .int .i64 m, .int .i64 k] w fun e w' => e = .returned (.bool true) ∧ Below w.heap.size w w' := by
  obtain ⟨xo, xc, rfl⟩ := Holds.form hx
  obtain ⟨yo, yc, rfl⟩ := Holds.form hy
  by_cases h1 : 2000 < n
  · go_enter Try.func5, Try.ntmps5
    clear hbig
    go_wp2_with fail
    refine (small_f n false w (decide_eq_false (by omega))).mono ?_
    rintro e w1 ⟨rfl, hB1⟩
    go_wp2
    go_ret
    exact ⟨rfl, hB1⟩
  · by_cases h2 : 2000 < m
    · go_enter Try.func5, Try.ntmps5
      clear hbig
      go_wp2_with fail
      refine (small_f n true w (decide_eq_true (by omega))).mono ?_
      rintro e w1 ⟨rfl, hB1⟩
      go_wp2_with fail
      refine (small_f m false w1 (decide_eq_false (by omega))).mono ?_
      rintro e w2 ⟨rfl, hB2⟩
      have hB := hB1.trans (hB2.mono hB1.size)
      go_wp2
      go_ret
      exact ⟨rfl, hB⟩
    · have h3 : 2000 < k := by omega
      go_enter Try.func5, Try.ntmps5
      clear hbig
      go_wp2_with fail
      refine (small_f n true w (decide_eq_true (by omega))).mono ?_
      rintro e w1 ⟨rfl, hB1⟩
      go_wp2_with fail
      refine (small_f m true w1 (decide_eq_true (by omega))).mono ?_
      rintro e w2 ⟨rfl, hB2⟩
      have hB := hB1.trans (hB2.mono hB1.size)
      go_wp2_with fail
      refine (small_f k false w2 (decide_eq_false (by omega))).mono ?_
      rintro e w3 ⟨rfl, hB3⟩
      have hB' := hB.trans (hB3.mono hB.size)
      go_wp2
      go_ret
      exact ⟨rfl, hB'⟩

set_option maxRecDepth 10000 in
set_option maxHeartbeats 4000000 in
theorem all_small (x y : List Ch) (n m k : Int) (vx vy : Value) (w : World) (hxl : x.length ≤ 1048576) (hyl : y.length ≤ 1048576) (hx : HCh w vx x) (hy : HCh w vy y) (hn : n ≤ 2000) (hm : m ≤ 2000) (hk : k ≤ 2000) :
    Calls Try.prog 5 #[vx, vy, .int .i64 n, .int .i64 m, .int .i64 k] w fun e w' => e = .returned (.bool true) ∧ Below w.heap.size w w' := by
  obtain ⟨xo, xc, rfl⟩ := Holds.form hx
  obtain ⟨yo, yc, rfl⟩ := Holds.form hy
  go_enter Try.func5, Try.ntmps5
  go_wp2_with fail
  refine (small_f n true w (decide_eq_true (by omega))).mono ?_
  rintro e w1 ⟨rfl, hB1⟩
  go_wp2_with fail
  refine (small_f m true w1 (decide_eq_true (by omega))).mono ?_
  rintro e w2 ⟨rfl, hB2'⟩
  have hB2 := hB1.trans (hB2'.mono hB1.size)
  go_wp2_with fail
  refine (small_f k true w2 (decide_eq_true (by omega))).mono ?_
  rintro e w3 ⟨rfl, hB3'⟩
  have hB3 := hB2.trans (hB3'.mono hB2.size)
  have hs3 := hB3.size
  clear hB1 hB2 hB2' hB3'
  go_wp2_with (at_builtin; refine wpList_append_h _ (by kernel_rfl) (.tmp 29) (.tmp 30) 22 51 (.agg #[.int .i64 0, .int .i64 0, .int .i64 0, .int .i64 0]) 4 32 rfl Try.underlying22 infoCh rfl (by decide) (by decide) w3.heap.size _ 0 [] rfl (nil_row_new _ _ _ rfl (by omega)) _ x.length (chcells x) rfl ?hold1 (chcells_length x) (chcells_one x) (by omega) (by simp) ?_)
  case hold1 => exact HCh.keep (HCh.keep hx hB3 (Nat.le_refl _)) ((Below.refl _ w3).alloc (Nat.le_refl _) _) (Nat.le_refl _)
  intro vl w4 hownl hgrow4
  have hB4 : Below w3.heap.size w3 w4 := ((Below.refl _ w3).alloc (Nat.le_refl _) _).grown hgrow4 (by simp) (fun j hj => by simp [Value.ownBlock] at hj; omega)
  have hs4 := hB4.size
  have hx4 : HCh w4 vl x := by simpa [HCh] using holds_of hownl
  obtain ⟨lo, lc, rfl⟩ := Holds.form hx4
  have hB04 : Below w.heap.size w w4 := hB3.trans (hB4.mono (by omega))
  clear hownl hgrow4
  go_wp2_with (at_builtin; refine wpList_append_h _ (by kernel_rfl) (.tmp 32) (.tmp 33) 22 51 (.agg #[.int .i64 0, .int .i64 0, .int .i64 0, .int .i64 0]) 4 32 rfl Try.underlying22 infoCh rfl (by decide) (by decide) w4.heap.size _ 0 [] rfl (nil_row_new _ _ _ rfl (by omega)) _ y.length (chcells y) rfl ?hold2 (chcells_length y) (chcells_one y) (by omega) (by simp) ?_)
  case hold2 => exact HCh.keep (HCh.keep hy hB04 (Nat.le_refl _)) ((Below.refl _ w4).alloc (Nat.le_refl _) _) (Nat.le_refl _)
  intro vl2 w5 hownl2 hgrow5
  have hB5 : Below w4.heap.size w4 w5 := ((Below.refl _ w4).alloc (Nat.le_refl _) _).grown hgrow5 (by simp) (fun j hj => by simp [Value.ownBlock] at hj; omega)
  have hs5 := hB5.size
  have hy5 : HCh w5 vl2 y := by simpa [HCh] using holds_of hownl2
  obtain ⟨lo2, lc2, rfl⟩ := Holds.form hy5
  have hx5 := HCh.keep hx4 hB5 (Nat.le_refl _)
  have hB05 : Below w.heap.size w w5 := hB04.trans (hB5.mono (by omega))
  clear hownl2 hgrow5 hx4
  by_cases hS : Script x n m ∧ Script y m k
  · have HX : Hid (Script x n m) := hS.1
    have HY : Hid (Script y m k) := hS.2
    clear hS
    have hLl := comp_len x y n m k
    obtain ⟨L, hL⟩ : ∃ L, compS x y n m k = L := ⟨_, rfl⟩
    rw [hL] at hLl
    have HL : Hid (compS x y n m k = L) := hL
    clear hL
    go_wp2_with fail
    refine (Compose_f x y L n m k _ _ w5 hx5 hy5 HX HY (by omega) (by omega) (by omega) hxl hyl HL).mono ?_
    rintro e w6 ⟨v6, rfl, h6, hB6⟩
    obtain ⟨o6, c6, rfl⟩ := Holds.form h6
    have hB06 : Below w.heap.size w w6 := hB05.trans (hB6.mono (by omega))
    have hs6 := hB6.size
    go_wp2_with fail
    refine (rCompose_f x y L n m k _ _ w6 (HCh.keep hx hB06 (Nat.le_refl _)) (HCh.keep hy hB06 (Nat.le_refl _)) HX HY (by omega) (by omega) (by omega) hxl hyl HL).mono ?_
    rintro e w7 ⟨v7, rfl, h7, hB7⟩
    obtain ⟨o7, c7, rfl⟩ := Holds.form h7
    have h67 := HCh.keep h6 hB7 (Nat.le_refl _)
    have hB07 : Below w.heap.size w w7 := hB06.trans (hB7.mono (by omega))
    go_wp2_with fail
    refine (SameC_any _ _ L w7 (by omega) h67 h7).mono ?_
    rintro e w8 ⟨rfl, hB8⟩
    have hB08 : Below w.heap.size w w8 := hB07.trans (hB8.mono hB07.size)
    go_wp2
    go_ret
    exact ⟨rfl, hB08⟩
  · have HS' : Hid (¬ (Script x n m ∧ Script y m k)) := hS
    clear hS
    go_wp2_with fail
    refine (Compose_no x y n m k _ _ w5 hx5 hy5 HS'.out (by omega) (by omega) (by omega) hxl hyl).mono ?_
    rintro e w6 ⟨rfl, hB6⟩
    have hB06 : Below w.heap.size w w6 := hB05.trans (hB6.mono (by omega))
    have hs6 := hB6.size
    go_wp2_with fail
    refine (rCompose_no x y n m k _ _ w6 (HCh.keep hx hB06 (Nat.le_refl _)) (HCh.keep hy hB06 (Nat.le_refl _)) HS'.out (by omega) (by omega) (by omega) hxl hyl).mono ?_
    rintro e w7 ⟨rfl, hB7⟩
    have hB07 : Below w.heap.size w w7 := hB06.trans (hB7.mono (by omega))
    go_wp2_with fail
    refine (SameC_any _ _ [] w7 (by simp) (Holds.nil w7) (Holds.nil w7)).mono ?_
    rintro e w8 ⟨rfl, hB8⟩
    have hB08 : Below w.heap.size w w8 := hB07.trans (hB8.mono hB07.size)
    go_wp2
    go_ret
    exact ⟨rfl, hB08⟩

theorem walk (x y : List Ch) (n m k : Int) (vx vy : Value) (w : World) (hxl : x.length ≤ 1048576) (hyl : y.length ≤ 1048576) (_ : -9223372036854775808 ≤ n ∧ n ≤ 9223372036854775807) (_ : -9223372036854775808 ≤ m ∧ m ≤ 9223372036854775807) (_ : -9223372036854775808 ≤ k ∧ k ≤ 9223372036854775807) (hx : HCh w vx x) (hy : HCh w vy y) :
    Calls Try.prog 5 #[vx, vy, .int .i64 n, .int .i64 m, .int .i64 k] w fun e w' => e = .returned (.bool true) ∧ Below w.heap.size w w' := by
  by_cases h : n ≤ 2000 ∧ m ≤ 2000 ∧ k ≤ 2000
  · exact all_small x y n m k vx vy w hxl hyl hx hy h.1 h.2.1 h.2.2
  · exact let_go x y n m k vx vy w hx hy (by omega)

set_option maxRecDepth 20000 in
theorem contract (H : Type) (enc : TypeId × Value → H) (W : World) (base : Nat) (args : Array Value) (ds gs : List (DataW H)) (before : List MemPlace)
    (hval : ∀ (j : Nat) t v, Try.f5.params[j]? = some t → args[j]? = some v → Value.okWide Try.prog W .any base t v)
    (hW : DataW.Whole enc Try.prog Try.f5.params.toList Rows.editsComposesSpec.vars false W args.toList ds gs before) (hk : Rows.uptoSmall H (ds ++ gs) = true) :
    Calls Try.prog 5 args W fun e W' => ∃ v, e = .returned v ∧ Rows.editsComposesSpec.post enc Try.prog Try.f5 false true false false W args v W' := by
  have hW' := hW
  obtain ⟨p, q, hA0, hV, rfl, hfz, hnd⟩ := hW
  have hA : DataW.TrodAll enc Try.prog W 0 (fun _ => true) true Try.f5.params.toList args.toList ds p := hA0
  rw [Try.params5] at hA hval
  obtain ⟨v0, vs0, d0, ds0, p0, q0, hargs, rfl, rfl, h0, r0⟩ := trodAll_cons hA
  obtain ⟨v1, vs1, d1, ds1, p1, q1, rfl, rfl, rfl, h1, r1⟩ := trodAll_cons r0
  obtain ⟨v2, vs2, d2, ds2, p2, q2, rfl, rfl, rfl, h2, r2⟩ := trodAll_cons r1
  obtain ⟨v3, vs3, d3, ds3, p3, q3, rfl, rfl, rfl, h3, r3⟩ := trodAll_cons r2
  obtain ⟨v4, vs4, d4, ds4, p4, q4, rfl, rfl, rfl, h4, r4⟩ := trodAll_cons r3
  obtain ⟨rfl, rfl, rfl⟩ := trodAll_nil r4
  obtain rfl : args = #[v0, v1, v2, v3, v4] := by cases args; simp_all
  obtain ⟨rfl, rfl⟩ := trodVars_none hV
  obtain ⟨a0, len0, cap0, rfl⟩ := okWide_slice Try.underlying22 (hval 0 22 v0 rfl rfl)
  have k0 := h0
  have lt0 : ∀ x ∈ p0, x.block < W.heap.size := by obtain ⟨m, hm⟩ := k0; exact DataW.trod_lt m _ _ _ hm
  obtain ⟨a1, len1, cap1, rfl⟩ := okWide_slice Try.underlying22 (hval 1 22 v1 rfl rfl)
  have k1 := h1
  have lt1 : ∀ x ∈ p1, x.block < W.heap.size := by obtain ⟨m, hm⟩ := k1; exact DataW.trod_lt m _ _ _ hm
  obtain ⟨n2, rfl, rfl, rfl, wn2⟩ := open_int Try.underlying3 (hval 2 3 v2 rfl rfl) h2
  obtain ⟨n3, rfl, rfl, rfl, wn3⟩ := open_int Try.underlying3 (hval 3 3 v3 rfl rfl) h3
  obtain ⟨n4, rfl, rfl, rfl, wn4⟩ := open_int Try.underlying3 (hval 4 3 v4 rfl rfl) h4
  clear hA0
  simp only [List.append_nil] at hk
  have hbk : Rows.uptoBulkAll [d0, d1, .lit (.int .i64 n2), .lit (.int .i64 n3), .lit (.int .i64 n4)] ≤ 1048576 := of_decide_eq_true hk
  simp only [Rows.uptoBulkAll, Rows.uptoBulk] at hbk
  obtain ⟨f0, hf0⟩ := h0
  obtain ⟨ws0, hv0, hwl0, hwf0⟩ := open_chs (by simpa [Value.cells] using hf0)
  obtain ⟨f1, hf1⟩ := h1
  obtain ⟨ws1, hv1, hwl1, hwf1⟩ := open_chs (by simpa [Value.cells] using hf1)
  have hw := walk ws0 ws1 n2 n3 n4 (.slice a0 len0 cap0) (.slice a1 len1 cap1) W (by omega) (by omega) (bounds_i64 wn2) (bounds_i64 wn3) (bounds_i64 wn4) hv0 hv1
  refine hw.mono fun e W' ⟨he, bel⟩ => ?_
  subst he
  exact ⟨_, rfl, _, _, _, [], _, [], hW', trodAll_mk1 (shut_bool Try.underlying4 _), trodAll_cons_mk (Below.trod laidOut (by kernel_rfl) (of_decide_eq_true (by kernel_rfl)) k0 bel lt0) (trodAll_cons_mk (Below.trod laidOut (by kernel_rfl) (of_decide_eq_true (by kernel_rfl)) k1 bel lt1) (trodAll_cons_mk (shut_int Try.underlying3 wn2) (trodAll_cons_mk (shut_int Try.underlying3 wn3) (trodAll_cons_mk (shut_int Try.underlying3 wn4) trodAll_mk0)))), rfl, bel.frame _, fun h => by cases h⟩

set_option maxRecDepth 100000 in
theorem lifted (os : Os) (started : os.Started) (H : Type) (enc : TypeId × Value → H) (F : Stop.Interp) :
    ReturnsInHanded {} Try.checked os 5 .any ((Rows.OpenSpec.upto Rows.editsComposesSpec).pre6 enc Try.prog Try.f5 Rows.editsComposesUptoRow.domain false) (((Rows.OpenSpec.upto Rows.editsComposesSpec).at F).post enc Try.prog Try.f5 false true false false) := by
  refine returnsInHanded_of_cond (C := Try.checked) (s := Rows.OpenSpec.upto Rows.editsComposesSpec) (k := Rows.uptoSmall) rfl own started (by kernel_rfl) Try.func5
    (OpenSpec.witness (enc := enc) (C := Try.checked) (s := Rows.OpenSpec.upto Rows.editsComposesSpec) (k := Rows.uptoSmall) rfl false ⟨#[], #[.slice none 0 0, .slice none 0 0, .int .i64 0, .int .i64 0, .int .i64 0], []⟩ 8 (by kernel_rfl) (by kernel_rfl) (by kernel_rfl)
      (x := ([.nil, .nil, .lit (.int .i64 0), .lit (.int .i64 0), .lit (.int .i64 0)], [], [])) (by kernel_rfl) rfl (by kernel_rfl)) ?_
  intro W base args ds gs before hval hW _ hk _
  exact contract H enc W base args ds gs before hval hW hk

theorem proved : Rows.EditsComposesUptoSaid :=
  OpenClaim.holds_of_cond 5 Try.f5 rfl rfl rfl rfl rfl rfl rfl ⟨rfl, rfl, rfl, rfl, rfl⟩ rfl rfl rfl rfl rfl (by kernel_rfl) Try.func5 (by kernel_rfl)
    (of_decide_eq_true (by kernel_rfl)) (by unfold Func.isWrapper; first | (rw [if_pos (by decide +kernel)]; kernel_rfl) | (rw [if_neg (by decide +kernel)]; exact ⟨rfl, rfl⟩))
    (fun os started H enc _ F => lifted os started H enc F)
#print axioms proved
end Go.Proofs.Ytoacmaloiaeniaa.editsComposes
