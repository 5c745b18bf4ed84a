/-
  For every two rows of numbers and every row of pairs the law PatiencePairs returns true and leaves its arguments as they were: patience.Unique and patience.Longest answer as the plain reference does. No condition.
-/
import Derived.Test.YteplejpbgajecaaPartA6
namespace Go.Proofs.Yteplejpbgajecaa.patiencePairs
open Go.ChangeShapes Go.WideShapes Go.ChangeAt Go.RowKit
attribute [local simp] low_drew low_alloc

theorem low_pr {W w : World} (h : Low W w) {b off n c : Nat} {l : List Pr} (hl : HPr W (.slice (some ⟨b, off, none⟩) n c) l) (k : Nat) (hk : k < l.length) {x : Pr} (hx : l[k] = x) : w.cell? ⟨b, off + k * 2, none⟩ = some (.int .i64 x.X) ∧ w.cell? ⟨b, off + k * 2 + 1, none⟩ = some (.int .i64 x.Y) := by
  obtain ⟨b', off', e, _, hc⟩ := HPr.at (HPr.keep hl h (Nat.le_refl _)) (by omega)
  cases e
  rw [← hx]
  exact hc k hk

set_option maxRecDepth 10000 in
set_option maxHeartbeats 2000000 in
theorem too_long (x y : List Int) (l : List Pr) (vx vy vl : Value) (w : World) (hx : HI w vx x) (hy : HI w vy y) (hl : HPr w vl l) (hh : 200 < x.length ∨ 200 < y.length ∨ 200 < l.length) :
    Calls Try.prog 6 #[vx, vy, vl] w fun e w' => e = .returned (.bool true) ∧ Below w.heap.size w w' := by
  obtain ⟨xo, xc, rfl⟩ := Holds.form hx
  obtain ⟨yo, yc, rfl⟩ := Holds.form hy
  obtain ⟨lo, lc, rfl⟩ := Holds.form hl
  have HH : Hid (200 < x.length ∨ 200 < y.length ∨ 200 < l.length) := hh
  clear hh
  go_enter Try.func6, Try.ntmps6
  by_cases h1 : 200 < x.length
  · have e1 : decide ((200 : Int) < (x.length : Int)) = true := decide_eq_true (by omega)
    go_wp2
    go_ret
    exact ⟨rfl, Below.refl _ _⟩
  · have e1 : decide ((200 : Int) < (x.length : Int)) = false := decide_eq_false (by omega)
    by_cases h2 : 200 < y.length
    · have e2 : decide ((200 : Int) < (y.length : Int)) = true := decide_eq_true (by omega)
      go_wp2
      go_ret
      exact ⟨rfl, Below.refl _ _⟩
    · have e2 : decide ((200 : Int) < (y.length : Int)) = false := decide_eq_false (by omega)
      have h3 : 200 < l.length := by have := HH.out; omega
      have e3 : decide ((200 : Int) < (l.length : Int)) = true := decide_eq_true (by omega)
      go_wp2
      go_ret
      exact ⟨rfl, Below.refl _ _⟩

set_option maxRecDepth 10000 in
set_option maxHeartbeats 4000000 in
theorem all_small (x y : List Int) (l : List Pr) (vx vy vl : Value) (w : World) (hwx : ∀ z ∈ x, w64 z) (hwy : ∀ z ∈ y, w64 z) (hx : HI w vx x) (hy : HI w vy y) (hl : HPr w vl l) (hxl : x.length ≤ 200) (hyl : y.length ≤ 200) (hll : l.length ≤ 200) :
    Calls Try.prog 6 #[vx, vy, vl] w fun e w' => e = .returned (.bool true) ∧ Below w.heap.size w w' := by
  obtain ⟨xo, xc, rfl⟩ := Holds.form hx
  obtain ⟨yo, yc, rfl⟩ := Holds.form hy
  obtain ⟨lo, lc, rfl⟩ := Holds.form hl
  have HWX : Hid (∀ z ∈ x, w64 z) := hwx
  have HWY : Hid (∀ z ∈ y, w64 z) := hwy
  clear hwx hwy
  obtain ⟨U, hU⟩ : ∃ U, unq x y = U := ⟨_, rfl⟩
  obtain ⟨G, hG⟩ : ∃ G, lng l = G := ⟨_, rfl⟩
  have hUl : U.length ≤ 200 := by rw [← hU]; exact Nat.le_trans (uq_length x y 0 x) hxl
  have hGl : G.length ≤ 200 := by rw [← hG]; exact Nat.le_trans (pick_length _ _ _ _) hll
  have HU : Hid (unq x y = U) := hU
  have HG : Hid (lng l = G) := hG
  clear hU hG
  have e1 : decide ((200 : Int) < (x.length : Int)) = false := decide_eq_false (by omega)
  have e2 : decide ((200 : Int) < (y.length : Int)) = false := decide_eq_false (by omega)
  have e3 : decide ((200 : Int) < (l.length : Int)) = false := decide_eq_false (by omega)
  go_enter Try.func6, Try.ntmps6
  go_wp2
  go_loopw [7, 8] (fun mv iv wr => ∃ (k : Nat) (X : List Pr), k ≤ l.length ∧ (∃ oo oc, mv = .slice oo X.length oc) ∧ iv = .int .i64 k ∧ St w 40 2 mv X.length (prcells X) wr ∧ X.length ≤ k ∧ Hid (X ++ l.drop k = l)) (fun _ iv _ => l.length - (intOf iv).toNat)
  case atStart => exact ⟨0, [], Nat.zero_le _, ⟨none, 0, rfl⟩, rfl, ⟨World.ownsRow_nil _ _ _ _, Below.refl _ _⟩, Nat.le_refl _, (by show _ = _; simp)⟩
  case round =>
    obtain ⟨k, X, hk, ⟨oo, oc, rfl⟩, rfl, hSt, hX, hR⟩ := hrel
    by_cases hlt : k < l.length
    · have hLow : Low w wr := hSt.low
      obtain ⟨bk, off, rfl, hbk, _⟩ := HPr.at (HPr.keep hl hSt.low (Nat.le_refl _)) (by omega)
      obtain ⟨c, hcd⟩ : ∃ c, l[k] = c := ⟨_, rfl⟩
      have HC : Hid (l[k] = c) := hcd
      have HR : Hid ((X ++ [c]) ++ l.drop (k + 1) = l) := (by
        show _ = _
        have := hR.out
        rw [List.drop_eq_getElem_cons hlt, hcd] at this
        simpa using this)
      clear hcd hR
      obtain ⟨c0, c1⟩ := low_pr hLow hl k hlt HC.out
      obtain ⟨PX, PY⟩ := c
      dsimp only at c0 c1
      have i1 : 0 ≤ (k : Int) := by omega
      have i2 : (k : Int) < (l.length : Int) := by omega
      have hxb : X.length + 1 ≤ 4398046511104 := by omega
      go_wp2_with fail
      have t0 : wr.drew.cell? ⟨bk, off + k * 2, none⟩ = some (.int .i64 PX) := by simp [c0]
      have t1 : wr.drew.cell? ⟨bk, off + k * 2 + 1, none⟩ = some (.int .i64 PY) := by simp [c1]
      obtain ⟨u0, u1⟩ := low_pr ((low_drew _ _).2 (low_alloc (Obj.cells #[Value.int IntKind.i64 PX, Value.int IntKind.i64 PY] 40) hLow)) hl k hlt HC.out
      dsimp only at u0 u1
      go_region_held3 (fun w' => w'.cell? ⟨bk, off + k * 2, none⟩ = some (.int .i64 PX) ∧ w'.cell? ⟨bk, off + k * 2 + 1, none⟩ = some (.int .i64 PY)) (go_keep)
        (first | (refine step_append_h _ rfl (.tmp 30) (.tmp 42) 37 40 (.agg #[.int .i64 0, .int .i64 0]) 2 16 rfl Try.underlying37 infoPr rfl (by decide) (by decide) w.heap.size _ _ _ rfl (St.own (st_d _ hSt)) _ 1 (prcells [⟨PX, PY⟩]) rfl (new_holds_d _ _ _ _ _ (by decide)) rfl (prcells_one _) hxb (Below.size (St.low (st_d _ hSt))) ?_; intro v2 w2 hown2 hgrow2; have hSt2 := St.grown (st_d _ hSt) hown2 hgrow2; have hLow2 : Low w w2 := hSt2.low; obtain ⟨e0, e1'⟩ := low_pr hLow2 hl k hlt HC.out))
      dsimp only at e0 e1'
      obtain ⟨oo2, oc2, rfl⟩ := (holds_of hown2).form
      rw [← prcells_append] at hSt2
      clear c0 c1 t0 t1 u0 u1 hSt hLow hown2 hgrow2
      go_wp2
      go_roundw
      case rel => exact ⟨k + 1, X ++ [⟨PX, PY⟩], by omega, ⟨_, _, by rw [List.length_append]; rfl⟩, by go_num, by rw [List.length_append]; exact hSt2, by simp; omega, HR⟩
      case measure => simp [intOf]; omega
    · obtain rfl : k = l.length := by omega
      have e : X = l := by
        have := hR.out
        rw [List.drop_of_length_le (by omega), List.append_nil] at this
        exact this
      clear hR hlt
      subst e
      obtain ⟨W1, rfl⟩ : ∃ W1, W1 = wr := ⟨wr, rfl⟩
      have hB1 : Below w.heap.size w W1 := hSt.low
      have hm : HPr W1 (.slice oo X.length oc) X := holds_of hSt.own
      clear hSt hk hX
      go_wp2_with fail
      refine (Longest_f X _ W1 hm (by omega) G HG).mono ?_
      rintro e W2 ⟨vg, rfl, hOg, hB2⟩
      obtain ⟨go, gc, rfl⟩ := (holds_of hOg).form
      have hB02 : Below w.heap.size w W2 := hB1.trans (hB2.mono hB1.size)
      go_wp2_with (at_builtin; refine wpList_append_h _ (by kernel_rfl) (.tmp 46) (.tmp 47) 22 3 (.int .i64 0) 1 8 rfl Try.underlying22 infoInt rfl (by decide) (by decide) W2.heap.size _ 0 [] rfl (nil_row_new _ _ _ rfl (by omega)) _ x.length (icells x) rfl ?hold1 (by rw [icells_length, Nat.mul_one]) (icells_one x) (by omega) (by simp) ?_)
      case hold1 => exact HI.keep (HI.keep hx hB02 (Nat.le_refl _)) ((Below.refl _ W2).alloc (Nat.le_refl _) _) (Nat.le_refl _)
      intro va W3 hown3 hgrow3
      have hB3 : Below W2.heap.size W2 W3 := ((Below.refl _ W2).alloc (Nat.le_refl _) _).grown hgrow3 (by simp) (fun j hj => by simp [Value.ownBlock] at hj; omega)
      have ha3 : HI W3 va x := by simpa [HI] using holds_of hown3
      obtain ⟨ao, ac, rfl⟩ := Holds.form ha3
      have hB03 : Below w.heap.size w W3 := hB02.trans (hB3.mono hB02.size)
      clear hown3 hgrow3
      go_wp2_with (at_builtin; refine wpList_append_h _ (by kernel_rfl) (.tmp 49) (.tmp 50) 22 3 (.int .i64 0) 1 8 rfl Try.underlying22 infoInt rfl (by decide) (by decide) W3.heap.size _ 0 [] rfl (nil_row_new _ _ _ rfl (by omega)) _ y.length (icells y) rfl ?hold2 (by rw [icells_length, Nat.mul_one]) (icells_one y) (by omega) (by simp) ?_)
      case hold2 => exact HI.keep (HI.keep hy hB03 (Nat.le_refl _)) ((Below.refl _ W3).alloc (Nat.le_refl _) _) (Nat.le_refl _)
      intro vb W4 hown4 hgrow4
      have hB4 : Below W3.heap.size W3 W4 := ((Below.refl _ W3).alloc (Nat.le_refl _) _).grown hgrow4 (by simp) (fun j hj => by simp [Value.ownBlock] at hj; omega)
      have hb4 : HI W4 vb y := by simpa [HI] using holds_of hown4
      obtain ⟨bo, bc, rfl⟩ := Holds.form hb4
      have ha4 := HI.keep ha3 hB4 (Nat.le_refl _)
      have hB24 : Below W2.heap.size W2 W4 := hB3.trans (hB4.mono hB3.size)
      clear hown4 hgrow4 ha3 hB3 hB03 hB4
      go_wp2_with fail
      refine (Unique_f x y _ _ W4 ha4 hb4 (by omega) (by omega) HWX.out HWY.out U HU).mono ?_
      rintro e W5 ⟨v5, rfl, h5, hB5⟩
      obtain ⟨o5, c5, rfl⟩ := Holds.form h5
      have hB25 : Below W2.heap.size W2 W5 := hB24.trans (hB5.mono hB24.size)
      have hB05 : Below w.heap.size w W5 := hB02.trans (hB25.mono hB02.size)
      go_wp2_with fail
      refine (rUnique_f x y _ _ W5 (HI.keep hx hB05 (Nat.le_refl _)) (HI.keep hy hB05 (Nat.le_refl _)) (by omega) (by omega) U HU).mono ?_
      rintro e W6 ⟨v6, rfl, h6, hB6⟩
      obtain ⟨o6, c6, rfl⟩ := Holds.form h6
      have hB26 : Below W2.heap.size W2 W6 := hB25.trans (hB6.mono hB25.size)
      go_wp2_with fail
      refine (same_any _ _ U W6 (by omega) (HPr.keep h5 hB6 (Nat.le_refl _)) h6).mono ?_
      rintro e W7 ⟨rfl, hB7⟩
      have hB27 : Below W2.heap.size W2 W7 := hB26.trans (hB7.mono hB26.size)
      have hB07 : Below w.heap.size w W7 := hB02.trans (hB27.mono hB02.size)
      clear h5 h6 hB5 hB6 hB7 hB05 hB25 hB26
      go_wp2_with fail
      refine (rLongest_f X _ W7 (HPr.keep hl hB07 (Nat.le_refl _)) (by omega) G HG).mono ?_
      rintro e W8 ⟨v8, rfl, h8, hB8⟩
      obtain ⟨o8, c8, rfl⟩ := Holds.form h8
      have hB28 : Below W2.heap.size W2 W8 := hB27.trans (hB8.mono hB27.size)
      go_wp2_with fail
      refine (same_any _ _ G W8 (by omega) (HPr.keep (holds_of hOg) hB28 (Nat.le_refl _)) h8).mono ?_
      rintro e W9 ⟨rfl, hB9⟩
      have hB29 : Below W2.heap.size W2 W9 := hB28.trans (hB9.mono hB28.size)
      have hB19 : Below W1.heap.size W1 W9 := hB2.trans (hB29.mono hB2.size)
      have hB09 : Below w.heap.size w W9 := hB02.trans (hB29.mono hB02.size)
      clear h8 hB8 hB9
      go_wp2_with fail
      refine (same_any _ _ X W9 (by omega) (HPr.keep hm hB19 (Nat.le_refl _)) (HPr.keep hl hB09 (Nat.le_refl _))).mono ?_
      rintro e W10 ⟨rfl, hB10⟩
      have hB210 : Below W2.heap.size W2 W10 := hB29.trans (hB10.mono hB29.size)
      have hB110 : Below W1.heap.size W1 W10 := hB2.trans (hB210.mono hB2.size)
      have hO10 := owns_keep hOg hB210
      clear hOg hB29 hB19 hB09 hB28 hB27 hB07 hB24 ha4 hb4 hB10
      go_wp2
      go_loopw [10] (fun iv wr => ∃ (i : Nat) (xs : List Value), i ≤ G.length ∧ iv = .int .i64 i ∧ wr.ownsRow W1.heap.size 40 2 (.slice go G.length gc) G.length xs ∧ Below W1.heap.size W1 wr) (fun iv _ => G.length - (intOf iv).toNat)
      case atStart => exact ⟨0, _, Nat.zero_le _, rfl, hO10, hB110⟩
      case round =>
        clear hO10
        obtain ⟨i, xs, hi, rfl, hO, hB⟩ := hrel
        by_cases hig : i < G.length
        · obtain ⟨g, rfl⟩ : ∃ g, go = some ⟨g, 0, none⟩ := by
            rcases hO.2 with ⟨h1, h2⟩ | ⟨g, cap, cur, q1, _⟩
            · omega
            · cases q1
              exact ⟨g, rfl⟩
          have hxs := hO.1
          have y0 := hO.cellAt (i * 2) (by omega)
          rw [List.getElem?_eq_getElem (by omega)] at y0
          have f0 := hO.frozenAt (i * 2)
          obtain ⟨p1, g1⟩ := hO.stored (i * 2) (.int .i64 (-7))
          have hB' : Below W1.heap.size W1 (wr.setCell ⟨g, i * 2, none⟩ (.int .i64 (-7))) := hB.grown g1 hB.size (fun j hj => owns_ge hO (by simpa [Value.ownBlock] using hj))
          have i1 : 0 ≤ (i : Int) := by omega
          have i2 : (i : Int) < (G.length : Int) := by omega
          go_wp2
          go_roundw
          case rel => exact ⟨i + 1, _, by omega, by go_num, p1, hB'⟩
          case measure => simp [intOf]; omega
        · obtain rfl : i = G.length := by omega
          have hBw : Below w.heap.size w wr := hB1.trans (hB.mono hB1.size)
          go_wp2_with fail
          refine (same_any _ _ X wr (by omega) (HPr.keep hm hB (Nat.le_refl _)) (HPr.keep hl hBw (Nat.le_refl _))).mono ?_
          rintro e W11 ⟨rfl, hB11⟩
          go_wp2
          go_ret
          exact ⟨rfl, hBw.trans (hB11.mono hBw.size)⟩

theorem walk (x y : List Int) (l : List Pr) (vx vy vl : Value) (w : World) (hwx : ∀ z ∈ x, w64 z) (hwy : ∀ z ∈ y, w64 z) (hx : HI w vx x) (hy : HI w vy y) (hl : HPr w vl l) :
    Calls Try.prog 6 #[vx, vy, vl] w fun e w' => e = .returned (.bool true) ∧ Below w.heap.size w w' := by
  by_cases h : 200 < x.length ∨ 200 < y.length ∨ 200 < l.length
  · exact too_long x y l vx vy vl w hx hy hl h
  · exact all_small x y l vx vy vl w hwx hwy hx hy hl (by omega) (by omega) (by omega)

set_option maxRecDepth 20000 in
theorem contract (H : Type) (enc : TypeId × Value → H) (W : World) (base : Nat) (args : Array Value) (ds gs : List (DataW H)) (before : List MemPlace)
    (hval : ∀ (j : Nat) t v, Try.f6.params[j]? = some t → args[j]? = some v → Value.okWide Try.prog W .any base t v)
    (hW : DataW.Whole enc Try.prog Try.f6.params.toList Rows.patiencePairsSpec.vars false W args.toList ds gs before) :
    Calls Try.prog 6 args W fun e W' => ∃ v, e = .returned v ∧ Rows.patiencePairsSpec.post enc Try.prog Try.f6 false true false false W args v W' := by
  have hW' := hW
  obtain ⟨p, q, hA0, hV, rfl, hfz, hnd⟩ := hW
  have hA : DataW.TrodAll enc Try.prog W 0 (fun _ => true) true Try.f6.params.toList args.toList ds p := hA0
  rw [Try.params6] at hA hval
  obtain ⟨v0, vs0, d0, ds0, p0, q0, hargs, rfl, rfl, h0, r0⟩ := trodAll_cons hA
  obtain ⟨v1, vs1, d1, ds1, p1, q1, rfl, rfl, rfl, h1, r1⟩ := trodAll_cons r0
  obtain ⟨v2, vs2, d2, ds2, p2, q2, rfl, rfl, rfl, h2, r2⟩ := trodAll_cons r1
  obtain ⟨rfl, rfl, rfl⟩ := trodAll_nil r2
  obtain rfl : args = #[v0, v1, v2] := by cases args; simp_all
  obtain ⟨rfl, rfl⟩ := trodVars_none hV
  obtain ⟨a0, len0, cap0, rfl⟩ := okWide_slice Try.underlying22 (hval 0 22 v0 rfl rfl)
  have k0 := h0
  have lt0 : ∀ x ∈ p0, x.block < W.heap.size := by obtain ⟨m, hm⟩ := k0; exact DataW.trod_lt m _ _ _ hm
  obtain ⟨a1, len1, cap1, rfl⟩ := okWide_slice Try.underlying22 (hval 1 22 v1 rfl rfl)
  have k1 := h1
  have lt1 : ∀ x ∈ p1, x.block < W.heap.size := by obtain ⟨m, hm⟩ := k1; exact DataW.trod_lt m _ _ _ hm
  obtain ⟨a2, len2, cap2, rfl⟩ := okWide_slice Try.underlying36 (hval 2 36 v2 rfl rfl)
  have k2 := h2
  have lt2 : ∀ x ∈ p2, x.block < W.heap.size := by obtain ⟨m, hm⟩ := k2; exact DataW.trod_lt m _ _ _ hm
  clear hA0
  obtain ⟨f0, hf0⟩ := h0
  obtain ⟨ws0, hv0, hwl0, hwf0⟩ := open_nums (by simpa [Value.cells] using hf0)
  obtain ⟨f1, hf1⟩ := h1
  obtain ⟨ws1, hv1, hwl1, hwf1⟩ := open_nums (by simpa [Value.cells] using hf1)
  obtain ⟨f2, hf2⟩ := h2
  obtain ⟨ws2, hv2, hwl2, hwf2⟩ := open_prs (by simpa [Value.cells] using hf2)
  have hw := walk ws0 ws1 ws2 (.slice a0 len0 cap0) (.slice a1 len1 cap1) (.slice a2 len2 cap2) W hwf0 hwf1 hv0 hv1 hv2
  refine hw.mono fun e W' ⟨he, bel⟩ => ?_
  subst he
  exact ⟨_, rfl, _, _, _, [], _, [], hW', trodAll_mk1 (shut_bool Try.underlying4 _), trodAll_cons_mk (Below.trod laidOut (by kernel_rfl) (of_decide_eq_true (by kernel_rfl)) k0 bel lt0) (trodAll_cons_mk (Below.trod laidOut (by kernel_rfl) (of_decide_eq_true (by kernel_rfl)) k1 bel lt1) (trodAll_cons_mk (Below.trod laidOut (by kernel_rfl) (of_decide_eq_true (by kernel_rfl)) k2 bel lt2) trodAll_mk0)), rfl, bel.frame _, fun h => by cases h⟩

set_option maxRecDepth 100000 in
theorem lifted (os : Os) (started : os.Started) (H : Type) (enc : TypeId × Value → H) :
    ReturnsInHanded {} Try.checked os 6 .any (Rows.patiencePairsSpec.pre6 enc Try.prog Try.f6 Rows.patiencePairsRow.domain false) (Rows.patiencePairsSpec.post enc Try.prog Try.f6 false true false false) := by
  refine returnsInHanded_of_change (C := Try.checked) own started (by kernel_rfl) Try.func6
    (ChangeSpec.witness6 (enc := enc) (C := Try.checked) false ⟨#[], #[.slice none 0 0, .slice none 0 0, .slice none 0 0], []⟩ 8 (by kernel_rfl) (by kernel_rfl) (by kernel_rfl) (by kernel_rfl)) ?_
  intro W base args ds gs before hval hW _ _
  exact contract H enc W base args ds gs before hval hW

theorem proved : Rows.PatiencePairsSaid :=
  OpenClaim.holds_of_wide 6 Try.f6 rfl rfl rfl rfl rfl rfl rfl ⟨rfl, rfl, rfl, rfl, rfl⟩ rfl rfl rfl rfl rfl (by kernel_rfl) Try.func6 (by kernel_rfl)
    (of_decide_eq_true (by kernel_rfl)) (by unfold Func.isWrapper; first | (rw [if_pos (by decide +kernel)]; kernel_rfl) | (rw [if_neg (by decide +kernel)]; exact ⟨rfl, rfl⟩))
    (fun os started H enc _ => lifted os started H enc)
#print axioms proved
end Go.Proofs.Yteplejpbgajecaa.patiencePairs
