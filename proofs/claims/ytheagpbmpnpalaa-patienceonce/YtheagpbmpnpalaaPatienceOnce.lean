/-
  For every two rows of numbers the law PatienceOnce returns true and leaves its arguments as they were: numbers that stand once in each row, in one order in both, are all kept by patience.Diff, where the rows have neither the first nor the last number in common. No condition.
-/
import Derived.Test.YtheagpbmpnpalaaPartA10
import Derived.Test.YtheagpbmpnpalaaPartA8
import Derived.Deep.CutRange
namespace Go.Proofs.Ytheagpbmpnpalaa.patienceOnce
open Go.ChangeShapes Go.WideShapes Go.ChangeAt Go.RowKit

set_option maxRecDepth 10000 in
set_option maxHeartbeats 4000000 in
theorem walk (x y : List Int) (vx vy : Value) (w : World) (hwx : ∀ z ∈ x, w64 z) (hwy : ∀ z ∈ y, w64 z) (hx : HI w vx x) (hy : HI w vy y) :
    Calls Try.prog 6 #[vx, vy] w fun e w' => e = .returned (.bool true) ∧ Below w.heap.size w w' := by
  obtain ⟨xo, xc, rfl⟩ := Holds.form hx
  obtain ⟨yo, yc, rfl⟩ := Holds.form hy
  have HWX : Hid (∀ z ∈ x, w64 z) := hwx
  have HWY : Hid (∀ z ∈ y, w64 z) := hwy
  clear hwx hwy
  go_enter Try.func6, Try.ntmps6
  go_wp2_with fail
  refine (paWorks_any w).mono ?_
  rintro e w0 ⟨rfl, hB0⟩
  by_cases h1 : 150 < x.length
  · have e1 : decide ((150 : Int) < (x.length : Int)) = true := decide_eq_true (by omega)
    go_wp2
    go_ret
    exact ⟨rfl, hB0⟩
  have e1 : decide ((150 : Int) < (x.length : Int)) = false := decide_eq_false (by omega)
  by_cases h2 : 150 < y.length
  · have e2 : decide ((150 : Int) < (y.length : Int)) = true := decide_eq_true (by omega)
    go_wp2
    go_ret
    exact ⟨rfl, hB0⟩
  have e2 : decide ((150 : Int) < (y.length : Int)) = false := decide_eq_false (by omega)
  obtain ⟨q, hq⟩ : ∃ q, decide (x.length = 0 ∨ y.length = 0 ∨ x[0]? = y[0]? ∨ x[x.length - 1]? = y[y.length - 1]?) = q := ⟨_, rfl⟩
  have HQ : Hid (decide (x.length = 0 ∨ y.length = 0 ∨ x[0]? = y[0]? ∨ x[x.length - 1]? = y[y.length - 1]?) = q) := hq
  clear hq
  go_upto_region 5 with fail
  go_cut [53] from 22 to 53 (fun z wz => z = .bool q ∧ ∃ m, wz = w0.drewN m)
  case first =>
    by_cases h3 : x.length = 0
    · have e3 : ((x.length : Int) == 0) = true := beq_iff_eq.2 (by omega)
      obtain rfl : q = true := by rw [← HQ.out]; simp [h3]
      clear h3
      go_big_quiet (fail)
      go_wp2
      go_meet
      case rel => exact ⟨rfl, _, rfl⟩
    · have e3 : ((x.length : Int) == 0) = false := beq_eq_false_iff_ne.2 (by omega)
      by_cases h4 : y.length = 0
      · have e4 : ((y.length : Int) == 0) = true := beq_iff_eq.2 (by omega)
        obtain rfl : q = true := by rw [← HQ.out]; simp [h4]
        clear h3 h4
        go_big_quiet (fail)
        go_wp2
        go_meet
        case rel => exact ⟨rfl, _, rfl⟩
      · have e4 : ((y.length : Int) == 0) = false := beq_eq_false_iff_ne.2 (by omega)
        obtain ⟨px, hpx⟩ : ∃ p, x.length = p + 1 := ⟨x.length - 1, by omega⟩
        obtain ⟨py, hpy⟩ : ∃ p, y.length = p + 1 := ⟨y.length - 1, by omega⟩
        obtain ⟨xb, xf, rfl, _, hcx⟩ := HI.at (HI.keep hx hB0 (Nat.le_refl _)) (by omega)
        obtain ⟨yb, yf, rfl, _, hcy⟩ := HI.at (HI.keep hy hB0 (Nat.le_refl _)) (by omega)
        have x0 := hcx 0 (by omega)
        have y0 := hcy 0 (by omega)
        have x1 := hcx px (by omega)
        have y1 := hcy py (by omega)
        rw [Nat.add_zero] at x0 y0
        obtain ⟨zx, hzx⟩ : ∃ z, x[0] = z := ⟨_, rfl⟩
        obtain ⟨zy, hzy⟩ : ∃ z, y[0] = z := ⟨_, rfl⟩
        obtain ⟨tx, htx⟩ : ∃ z, x[px] = z := ⟨_, rfl⟩
        obtain ⟨ty, hty⟩ : ∃ z, y[py] = z := ⟨_, rfl⟩
        rw [hzx] at x0
        rw [hzy] at y0
        rw [htx] at x1
        rw [hty] at y1
        have hq2 : decide (zx = zy ∨ tx = ty) = q := by
          rw [← HQ.out, show x.length - 1 = px by omega, show y.length - 1 = py by omega, List.getElem?_eq_getElem (by omega), List.getElem?_eq_getElem (by omega), List.getElem?_eq_getElem (by omega), List.getElem?_eq_getElem (by omega), hzx, hzy, htx, hty]
          simp [h3, h4]
        have i1 : (0 : Int) < (x.length : Int) := by omega
        have i2 : (0 : Int) < (y.length : Int) := by omega
        have n1 : IntKind.i64.wrap ((x.length : Int) - 1) = (px : Int) := by rw [IntKind.wrap_i64]; omega
        have n2 : IntKind.i64.wrap ((y.length : Int) - 1) = (py : Int) := by rw [IntKind.wrap_i64]; omega
        have n3 : (x.length : Int) - 1 = (px : Int) := by omega
        have n4 : (y.length : Int) - 1 = (py : Int) := by omega
        have n5 : IntKind.i64.wrap (px : Int) = (px : Int) := by rw [IntKind.wrap_i64]; omega
        have n6 : IntKind.i64.wrap (py : Int) = (py : Int) := by rw [IntKind.wrap_i64]; omega
        have i3 : 0 ≤ (px : Int) := by omega
        have i4 : (px : Int) < (x.length : Int) := by omega
        have i5 : 0 ≤ (py : Int) := by omega
        have i6 : (py : Int) < (y.length : Int) := by omega
        clear hcx hcy hzx hzy htx hty HQ hpx hpy h3 h4
        by_cases hz : zx = zy
        · have e5 : (zx == zy) = true := by simp [hz]
          obtain rfl : q = true := by rw [← hq2]; simp [hz]
          clear hz hq2
          go_big_quiet (fail)
          go_wp2
          go_meet
          case rel => exact ⟨rfl, _, rfl⟩
        · have e5 : (zx == zy) = false := by simp [hz]
          have e6 : (tx == ty) = q := by rw [← hq2]; by_cases ht : tx = ty <;> simp [hz, ht]
          clear hz hq2
          go_big_quiet (fail)
          go_wp2
          go_meet
          case rel => exact ⟨rfl, _, rfl⟩
  case rest =>
    obtain ⟨rfl, mq, rfl⟩ := hcut
    have hB1 := Below.dN hB0 mq
    clear hB0
    generalize w0.drewN mq = w1 at hB1 ⊢
    cases q with
    | true =>
      go_wp2
      go_ret
      exact ⟨rfl, hB1⟩
    | false =>
      have hq := of_decide_eq_false HQ.out
      have HO : Hid (0 < x.length ∧ 0 < y.length ∧ x[0]? ≠ y[0]? ∧ x[x.length - 1]? ≠ y[y.length - 1]?) := (by
        refine ⟨by omega, by omega, fun h => hq (.inr (.inr (.inl h))), fun h => hq (.inr (.inr (.inr h)))⟩)
      clear hq HQ
      obtain ⟨U, hU⟩ : ∃ U, unq x y = U := ⟨_, rfl⟩
      have HU : Hid (unq x y = U) := hU
      have hUl : U.length ≤ 150 := by rw [← hU]; exact Nat.le_trans (unq_length' x y) (by omega)
      obtain ⟨L, hL⟩ : ∃ L, mkL (pKeep x y) y.length = L := ⟨_, rfl⟩
      have HL : Hid (mkL (pKeep x y) y.length = L) := hL
      have HOn : Hid ((∀ k (h : k + 1 < U.length), U[k].Y < U[k + 1].Y) → ∀ p ∈ U, (pKeep x y)[p.X.toNat]? = some p.Y ∧ 0 ≤ p.X ∧ p.X < x.length) := (by
        intro hY p hp
        subst hU
        refine ⟨pKeep_once x y HO.out.1 HO.out.2.1 HO.out.2.2.1 HO.out.2.2.2 hY p hp, ?_⟩
        have := uq_mem x y x 0 p hp
        omega)
      have HSc : Hid (Script L x.length y.length ∧ keepL L x.length y.length = pKeep x y ∧ L.length ≤ 1048576) := (by
        have hk := pKeep_kpt x y
        have hkl := hk.len
        obtain ⟨h5, h6, h7⟩ := keep_mk hk.vk (by omega) (by omega) (by rw [hkl]; omega)
        rw [hL, hkl] at h5 h6 h7
        exact ⟨h5, h6, by omega⟩)
      have HKl : Hid ((pKeep x y).length = x.length) := (pKeep_kpt x y).len
      clear hU hL HO
      go_wp2_with fail
      refine (rUnique_f x y _ _ w1 (HI.keep hx hB1 (Nat.le_refl _)) (HI.keep hy hB1 (Nat.le_refl _)) (by omega) (by omega) U HU).mono ?_
      rintro e w2 ⟨v2, rfl, hv2, hB2⟩
      obtain ⟨uo, uc, rfl⟩ := Holds.form hv2
      have hB02 := hB1.trans (hB2.mono hB1.size)
      clear hB1 hB2
      go_wp2
      go_loopw [6] (fun iv wr => ∃ k : Nat, k ≤ U.length + 1 ∧ 1 ≤ k ∧ iv = .int .i64 k ∧ Below w2.heap.size w2 wr ∧ Hid (∀ j (h : j + 1 < U.length), j + 1 < k → U[j].Y < U[j + 1].Y)) (fun iv _ => U.length + 1 - (intOf iv).toNat)
      case atStart => exact ⟨1, by omega, Nat.le_refl _, rfl, Below.refl _ _, fun j h h' => by omega⟩
      case round =>
        obtain ⟨k, hk, hk1, rfl, hBr, HA⟩ := hrel
        have hvr := HPr.keep hv2 hBr (Nat.le_refl _)
        have hB0r := hB02.trans (hBr.mono hB02.size)
        by_cases hlt : k < U.length
        · obtain ⟨j, rfl⟩ : ∃ j, k = j + 1 := ⟨k - 1, by omega⟩
          obtain ⟨ub, uf, rfl, _, hcu⟩ := HPr.at hvr (by omega)
          have u0 := (hcu j (by omega)).2
          have u1 := (hcu (j + 1) hlt).2
          have HA2 : Hid (U[j].Y < U[j + 1].Y → ∀ i (h : i + 1 < U.length), i + 1 < j + 1 + 1 → U[i].Y < U[i + 1].Y) := (by
            intro h i hi hij
            by_cases e : i = j
            · subst e; exact h
            · exact HA.out i hi (by omega))
          obtain ⟨za, hza⟩ : ∃ z, U[j].Y = z := ⟨_, rfl⟩
          obtain ⟨zb, hzb⟩ : ∃ z, U[j + 1].Y = z := ⟨_, rfl⟩
          rw [hza] at u0 HA2
          rw [hzb] at u1 HA2
          have i1 : 0 ≤ ((j + 1 : Nat) : Int) := by omega
          have i2 : ((j + 1 : Nat) : Int) < (U.length : Int) := by omega
          have i3 : 0 ≤ (j : Int) := by omega
          have i4 : (j : Int) < (U.length : Int) := by omega
          have i5 : 0 ≤ (j : Int) + 1 := by omega
          have i6 : (j : Int) + 1 < (U.length : Int) := by omega
          have n1 : IntKind.i64.wrap ((j : Int) + 1 - 1) = (j : Int) := by rw [IntKind.wrap_i64]; omega
          have n2 : IntKind.i64.wrap (j : Int) = (j : Int) := by rw [IntKind.wrap_i64]; omega
          have n3 : (j : Int) + 1 - 1 = (j : Int) := by omega
          clear hcu hza hzb HA
          by_cases hz : zb ≤ za
          · go_wp2_with fail
            go_big_quiet (fail)
            go_wp2
            go_ret
            exact ⟨rfl, Below.dN hB0r _⟩
          · have e7 : decide (zb ≤ za) = false := decide_eq_false hz
            have HA3 := HA2.out (by omega)
            have HA4 : Hid (∀ i (h : i + 1 < U.length), i + 1 < j + 1 + 1 → U[i].Y < U[i + 1].Y) := HA3
            clear HA2 HA3
            go_wp2_with fail
            go_big_quiet (fail)
            go_wp2
            go_roundw
            case rel => exact ⟨j + 1 + 1, by omega, by omega, by go_num, Below.dN hBr _, HA4⟩
            case measure => simp [intOf]; omega
        · have HOn2 : Hid (∀ p ∈ U, (pKeep x y)[p.X.toNat]? = some p.Y ∧ 0 ≤ p.X ∧ p.X < x.length) := HOn.out (fun i h => HA.out i h (by omega))
          have hk' : ¬ (k : Int) < (U.length : Int) := by omega
          clear HOn HA
          go_wp2_with fail
          refine (paDiff_f x y _ _ wr (HI.keep hx hB0r (Nat.le_refl _)) (HI.keep hy hB0r (Nat.le_refl _)) (by omega) (by omega) HWX.out HWY.out L HL).mono ?_
          rintro e w3 ⟨v3, rfl, hv3, hB3⟩
          obtain ⟨lo, lc, rfl⟩ := Holds.form hv3
          have hv3u := HPr.keep hvr hB3 (Nat.le_refl _)
          have hB03 := hB0r.trans (hB3.mono hB0r.size)
          clear hB3 hvr hBr hB0r hv2 hB02
          go_wp2_with fail
          refine (rKeep_ok L x.length y.length _ w3 hv3 HSc.out.1 (by omega) (by omega) HSc.out.2.2).mono ?_
          rintro e w4 ⟨v4, rfl, hv4, hB4⟩
          rw [HSc.out.2.1] at hv4
          obtain ⟨ko, kc, rfl⟩ := Holds.form hv4
          have hv4u := HPr.keep hv3u hB4 (Nat.le_refl _)
          have hB04 := hB03.trans (hB4.mono hB03.size)
          obtain ⟨K, hK⟩ : ∃ K, pKeep x y = K := ⟨_, rfl⟩
          rw [hK] at hv4 HOn2 HKl ⊢
          clear hB4 hv3u hv3 hB03 hK HSc HL
          rw [HKl.out]
          have hv4' : Holds w4 (.slice ko x.length kc) x.length (icells K) := by
            have := hv4
            unfold HI at this
            rw [HKl.out] at this
            exact this
          clear hv4
          go_wp2
          go_loopw [11] (fun iv wr => ∃ k : Nat, k ≤ U.length ∧ iv = .int .i64 k ∧ Below w4.heap.size w4 wr) (fun iv _ => U.length - (intOf iv).toNat)
          case atStart => exact ⟨0, Nat.zero_le _, rfl, Below.refl _ _⟩
          case round =>
            obtain ⟨i, hi, rfl, hBq⟩ := hrel
            have hvq := HPr.keep hv4u hBq (Nat.le_refl _)
            have hB0q := hB04.trans (hBq.mono hB04.size)
            by_cases hlu : i < U.length
            · obtain ⟨ub, uf, rfl, _, hcu⟩ := HPr.at hvq (by omega)
              obtain ⟨u0, u1⟩ := hcu i hlu
              obtain ⟨hk1, hp0, hp1⟩ := HOn2.out U[i] (List.getElem_mem _)
              obtain ⟨z, hz⟩ : ∃ z : Nat, U[i].X = z := ⟨U[i].X.toNat, by omega⟩
              obtain ⟨t, ht⟩ : ∃ t, U[i].Y = t := ⟨_, rfl⟩
              rw [hz] at u0 hk1 hp1
              rw [ht] at u1 hk1
              have hkz : z < K.length := by rw [HKl.out]; omega
              obtain ⟨kb, kf, kcc, hke, _, hck⟩ := Holds.at (Holds.keep hv4' (fun q hq => hBq.block q hq)) (by rw [icells_length]; omega)
              cases hke
              have k0 : wr.cell? ⟨kb, kf + z, none⟩ = some (.int .i64 t) := by
                rw [hck z (by rw [icells_length]; exact hkz)]
                simp only [Int.toNat_natCast] at hk1
                rw [List.getElem?_eq_getElem hkz] at hk1
                simp [icells, Option.some.inj hk1]
              have i1 : 0 ≤ (i : Int) := by omega
              have i2 : (i : Int) < (U.length : Int) := by omega
              have i3 : 0 ≤ (z : Int) := by omega
              have e8 : (t != t) = false := by simp
              clear hcu hk1 hz ht hp0 hck
              go_wp2_with fail
              go_big_quiet (fail)
              go_wp2
              go_roundw
              case rel => exact ⟨i + 1, by omega, by go_num, Below.dN hBq _⟩
              case measure => simp [intOf]; omega
            · have hi' : ¬ (i : Int) < (U.length : Int) := by omega
              go_wp2
              go_ret
              exact ⟨rfl, hB0q⟩
set_option maxRecDepth 20000 in
theorem contract (H : Type) (enc : TypeId × Value → H) (W : World) (base : Nat) (args : Array Value) (ds gs : List (DataW H)) (before : List MemPlace)
    (hval : ∀ (j : Nat) t v, Try.f6.params[j]? = some t → args[j]? = some v → Value.okWide Try.prog W .any base t v)
    (hW : DataW.Whole enc Try.prog Try.f6.params.toList Rows.patienceOnceSpec.vars false W args.toList ds gs before) :
    Calls Try.prog 6 args W fun e W' => ∃ v, e = .returned v ∧ Rows.patienceOnceSpec.post enc Try.prog Try.f6 false true false false W args v W' := by
  have hW' := hW
  obtain ⟨p, q, hA0, hV, rfl, hfz, hnd⟩ := hW
  have hA : DataW.TrodAll enc Try.prog W 0 (fun _ => true) true Try.f6.params.toList args.toList ds p := hA0
  rw [Try.params6] at hA hval
  obtain ⟨v0, vs0, d0, ds0, p0, q0, hargs, rfl, rfl, h0, r0⟩ := trodAll_cons hA
  obtain ⟨v1, vs1, d1, ds1, p1, q1, rfl, rfl, rfl, h1, r1⟩ := trodAll_cons r0
  obtain ⟨rfl, rfl, rfl⟩ := trodAll_nil r1
  obtain rfl : args = #[v0, v1] := by cases args; simp_all
  obtain ⟨rfl, rfl⟩ := trodVars_none hV
  obtain ⟨a0, len0, cap0, rfl⟩ := okWide_slice Try.underlying22 (hval 0 22 v0 rfl rfl)
  have k0 := h0
  have lt0 : ∀ x ∈ p0, x.block < W.heap.size := by obtain ⟨m, hm⟩ := k0; exact DataW.trod_lt m _ _ _ hm
  obtain ⟨a1, len1, cap1, rfl⟩ := okWide_slice Try.underlying22 (hval 1 22 v1 rfl rfl)
  have k1 := h1
  have lt1 : ∀ x ∈ p1, x.block < W.heap.size := by obtain ⟨m, hm⟩ := k1; exact DataW.trod_lt m _ _ _ hm
  clear hA0
  obtain ⟨f0, hf0⟩ := h0
  obtain ⟨ws0, hv0, hwl0, hwf0⟩ := open_nums (by simpa [Value.cells] using hf0)
  obtain ⟨f1, hf1⟩ := h1
  obtain ⟨ws1, hv1, hwl1, hwf1⟩ := open_nums (by simpa [Value.cells] using hf1)
  have hw := walk ws0 ws1 (.slice a0 len0 cap0) (.slice a1 len1 cap1) W hwf0 hwf1 hv0 hv1
  refine hw.mono fun e W' ⟨he, bel⟩ => ?_
  subst he
  exact ⟨_, rfl, _, _, _, [], _, [], hW', trodAll_mk1 (shut_bool Try.underlying4 _), trodAll_cons_mk (Below.trod laidOut (by kernel_rfl) (of_decide_eq_true (by kernel_rfl)) k0 bel lt0) (trodAll_cons_mk (Below.trod laidOut (by kernel_rfl) (of_decide_eq_true (by kernel_rfl)) k1 bel lt1) trodAll_mk0), rfl, bel.frame _, fun h => by cases h⟩

set_option maxRecDepth 100000 in
theorem lifted (os : Os) (started : os.Started) (H : Type) (enc : TypeId × Value → H) :
    ReturnsInHanded {} Try.checked os 6 .any (Rows.patienceOnceSpec.pre6 enc Try.prog Try.f6 Rows.patienceOnceRow.domain false) (Rows.patienceOnceSpec.post enc Try.prog Try.f6 false true false false) := by
  refine returnsInHanded_of_change (C := Try.checked) own started (by kernel_rfl) Try.func6
    (ChangeSpec.witness6 (enc := enc) (C := Try.checked) false ⟨#[], #[.slice none 0 0, .slice none 0 0], []⟩ 8 (by kernel_rfl) (by kernel_rfl) (by kernel_rfl) (by kernel_rfl)) ?_
  intro W base args ds gs before hval hW _ _
  exact contract H enc W base args ds gs before hval hW

theorem proved : Rows.PatienceOnceSaid :=
  OpenClaim.holds_of_wide 6 Try.f6 rfl rfl rfl rfl rfl rfl rfl ⟨rfl, rfl, rfl, rfl, rfl⟩ rfl rfl rfl rfl rfl (by kernel_rfl) Try.func6 (by kernel_rfl)
    (of_decide_eq_true (by kernel_rfl)) (by unfold Func.isWrapper; first | (rw [if_pos (by decide +kernel)]; kernel_rfl) | (rw [if_neg (by decide +kernel)]; exact ⟨rfl, rfl⟩))
    (fun os started H enc _ => lifted os started H enc)
#print axioms proved
