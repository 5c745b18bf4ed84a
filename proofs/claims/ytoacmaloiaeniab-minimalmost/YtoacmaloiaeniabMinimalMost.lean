/-
  For every three rows of numbers, the law MinimalMost returns true and leaves its arguments as they were: what minimal.Diff keeps are pairs of the same class, as many as minimal.Length says, and no other honest way through both rows, whichever is drawn, keeps more. No condition is asked.
-/
import Derived.Test.YtoacmaloiaeniabPartE1
import Derived.Test.YtoacmaloiaeniabPartB1
import Derived.Test.YtoacmaloiaeniabPartA3
import Derived.JoinedOf
import Derived.Handed
namespace Go.Proofs.Ytoacmaloiaeniab.minimalMost
open Go.ChangeShapes Go.WideShapes Go.ChangeAt Go.RowKit

/-- so many members of x's first i and of y's first j are a common row -/
def Cm (x y : List Int) (i j o : Nat) : Prop := ∃ s : List Int, s.Sublist (x.take i) ∧ s.Sublist (y.take j) ∧ s.length = o
theorem take_up (x : List Int) {i k : Nat} (h : i ≤ k) : (x.take i).Sublist (x.take k) := by
  have : x.take i = (x.take k).take i := by rw [List.take_take, Nat.min_eq_left h]
  rw [this]
  exact List.take_sublist _ _
theorem Cm.skip {x y : List Int} {i j o : Nat} (h : Cm x y i j o) : Cm x y (i + 1) j o := by
  obtain ⟨s, h1, h2, h3⟩ := h
  exact ⟨s, h1.trans (take_up x (by omega)), h2, h3⟩
theorem Cm.pair {x y : List Int} {i nx j o : Nat} (h : Cm x y i nx o) (hn : nx ≤ j) (hi : i < x.length) (hj : j < y.length) (e : x[i] = y[j]) : Cm x y (i + 1) (j + 1) (o + 1) := by
  obtain ⟨s, h1, h2, h3⟩ := h
  refine ⟨s ++ [x[i]], ?_, ?_, by simp [h3]⟩
  · rw [List.take_succ_eq_append_getElem hi]
    exact h1.append (List.Sublist.refl _)
  · rw [List.take_succ_eq_append_getElem hj, e]
    exact (h2.trans (take_up y hn)).append (List.Sublist.refl _)
theorem Cm.le {x y : List Int} {i j o : Nat} (h : Cm x y i j o) : o ≤ lc x y := by
  obtain ⟨s, h1, h2, h3⟩ := h
  rw [← h3]
  exact lc_le s x y (h1.trans (List.take_sublist _ _)) (h2.trans (List.take_sublist _ _))
def q4 (z : Int) : Int := (IntKind.u64.wrap z).tmod 4
theorem q4_range (z : Int) : 0 ≤ q4 z ∧ q4 z ≤ 3 := by
  have h : 0 ≤ IntKind.u64.wrap z := by rw [IntKind.wrap_u64]; omega
  unfold q4
  rw [Int.tmod_eq_emod_of_nonneg h]
  omega

set_option maxRecDepth 10000 in
set_option maxHeartbeats 4000000 in
theorem walk (x y pick : List Int) (vx vy vp : Value) (w : World) (hx : HI w vx x) (hy : HI w vy y) (hp : HI w vp pick) :
    Calls Try.prog 4 #[vx, vy, vp] w fun e w' => e = .returned (.bool true) ∧ Below w.heap.size w w' := by
  obtain ⟨xo, xc, rfl⟩ := Holds.form hx
  obtain ⟨yo, yc, rfl⟩ := Holds.form hy
  obtain ⟨po, pc, rfl⟩ := Holds.form hp
  go_enter Try.func4, Try.ntmps4
  go_wp2_with fail
  refine (works_any w).mono ?_
  rintro e w0 ⟨rfl, hB0⟩
  by_cases h1 : 600 < x.length
  · have h1' : (600 : Int) < (x.length : Int) := by omega
    go_wp2
    go_ret
    exact ⟨rfl, hB0⟩
  by_cases h2 : 600 < y.length
  · have h2' : (600 : Int) < (y.length : Int) := by omega
    have h1' : ¬ (600 : Int) < (x.length : Int) := by omega
    go_wp2
    go_ret
    exact ⟨rfl, hB0⟩
  have h1' : ¬ (600 : Int) < (x.length : Int) := by omega
  have h2' : ¬ (600 : Int) < (y.length : Int) := by omega
  have hx0 := HI.keep hx hB0 (Nat.le_refl _)
  have hy0 := HI.keep hy hB0 (Nat.le_refl _)
  obtain ⟨L, hL⟩ : ∃ L, mkL (kp 0 x y) y.length = L := ⟨_, rfl⟩
  have HL : Hid (mkL (kp 0 x y) y.length = L) := hL
  clear hL
  obtain ⟨n, hn⟩ : ∃ n, lc x y = n := ⟨_, rfl⟩
  have HN : Hid (lc x y = n) := hn
  clear hn
  go_wp2_with fail
  refine (Diff_f x y _ _ _ hx0 hy0 (by omega) (by omega) L HL).mono ?_
  rintro e w1 ⟨v1, rfl, hv1, hB1⟩
  have hB01 := hB0.trans (hB1.mono hB0.size)
  have hx1 := HI.keep hx hB01 (Nat.le_refl _)
  have hy1 := HI.keep hy hB01 (Nat.le_refl _)
  clear hx0 hy0 hB1 hB0
  obtain ⟨o1, c1, rfl⟩ := Holds.form hv1
  go_wp2_with fail
  refine (Length_f x y _ _ _ hx1 hy1 (by omega) (by omega) n HN).mono ?_
  rintro e w2 ⟨rfl, hB2⟩
  have hB02 := hB01.trans (hB2.mono hB01.size)
  have hx2 := HI.keep hx hB02 (Nat.le_refl _)
  have hy2 := HI.keep hy hB02 (Nat.le_refl _)
  have hv2 := HCh.keep hv1 hB2 (Nat.le_refl _)
  clear hx1 hy1 hB2 hB01 hv1
  go_wp2_with fail
  refine (Honest_f x y L _ _ _ _ hv2 hx2 hy2 (by omega) (by omega) HL n HN).mono ?_
  rintro e w3 ⟨rfl, hB3⟩
  have hB03 := hB02.trans (hB3.mono hB02.size)
  clear hx2 hy2 hB3 hB02 hv2
  go_wp2
  go_loopw [13, 14, 15] (fun ov nv iv wr => ∃ (o nx i : Nat), o ≤ i ∧ nx ≤ y.length ∧ i ≤ x.length ∧ ov = .int .i64 (o : Int) ∧ nv = .int .i64 (nx : Int) ∧ iv = .int .i64 (i : Int) ∧ Below w.heap.size w wr ∧ Hid (Cm x y i nx o)) (fun _ _ iv _ => x.length - (intOf iv).toNat)
  case atStart => exact ⟨0, 0, 0, Nat.le_refl _, Nat.zero_le _, Nat.zero_le _, rfl, rfl, rfl, hB03, ⟨[], List.nil_sublist _, List.nil_sublist _, rfl⟩⟩
  case round =>
    obtain ⟨o, nx, i, hoi, hnx, hi, rfl, rfl, rfl, hB, hC⟩ := hrel
    clear hB03
    by_cases hlt : i < x.length
    · by_cases hp0 : 0 < pick.length
      · obtain ⟨bp, op, rfl, _, hcp⟩ := HI.at (HI.keep hp hB (Nat.le_refl _)) hp0
        obtain ⟨t, ht⟩ : ∃ t, t = i % pick.length := ⟨_, rfl⟩
        have htl : t < pick.length := by rw [ht]; exact Nat.mod_lt _ hp0
        have hmod : Int.tmod (i : Int) (pick.length : Int) = (t : Int) := by rw [ht, Int.tmod_eq_emod_of_nonneg (by omega)]; simp
        have d0 := hcp t htl
        obtain ⟨z, hz⟩ : ∃ z, pick[t] = z := ⟨_, rfl⟩
        rw [hz] at d0
        clear hcp hz ht
        have hq : (IntKind.u64.wrap z).tmod 4 = q4 z := rfl
        obtain ⟨hq0, hq1⟩ := q4_range z
        generalize q4 z = q at *
        have i1 : 0 ≤ (t : Int) := by omega
        have i2 : (t : Int) < (pick.length : Int) := by omega
        have i3 : (0 : Int) < (pick.length : Int) := by omega
        have i4 : ¬ (pick.length : Int) = 0 := by omega
        have i5 : (i : Int) < (x.length : Int) := by omega
        have i6 : 0 ≤ (i : Int) := by omega
        go_wp2
        clear hq hmod
        go_loopw [13, 14, 17] (fun ov nv jv wi => ∃ (j : Nat), nx ≤ j ∧ j ≤ y.length ∧ ov = .int .i64 (o : Int) ∧ nv = .int .i64 (nx : Int) ∧ jv = .int .i64 (j : Int) ∧ Below w.heap.size w wi) (fun _ _ jv _ => y.length - (intOf jv).toNat)
        case atStart => exact ⟨nx, Nat.le_refl _, hnx, rfl, rfl, rfl, hB⟩
        case round =>
          obtain ⟨j, hnj, hj, rfl, rfl, rfl, hBi⟩ := hrel
          have HC2 : Hid (Cm x y (i + 1) nx o) := hC.out.skip
          by_cases hjy : j < y.length
          · have j1 : (j : Int) < (y.length : Int) := by omega
            have j0 : 0 ≤ (j : Int) := by omega
            by_cases hjq : (j : Int) ≤ (nx : Int) + q * 3
            · obtain ⟨b1, o1, rfl, _, hc1⟩ := HI.at (HI.keep hx hBi (Nat.le_refl _)) (by omega)
              obtain ⟨b2, o2, rfl, _, hc2⟩ := HI.at (HI.keep hy hBi (Nat.le_refl _)) (by omega)
              have d1 := hc1 i hlt
              have d2 := hc2 j hjy
              have HC3 : Hid (x[i] = y[j] → Cm x y (i + 1) (j + 1) (o + 1)) := fun e => hC.out.pair hnj hlt hjy e
              obtain ⟨xk, hxk⟩ : ∃ z, x[i] = z := ⟨_, rfl⟩
              obtain ⟨yk, hyk⟩ : ∃ z, y[j] = z := ⟨_, rfl⟩
              rw [hxk] at d1 HC3
              rw [hyk] at d2 HC3
              clear hc1 hc2 hxk hyk
              by_cases hxy : xk = yk
              · have HC4 : Hid (Cm x y (i + 1) (j + 1) (o + 1)) := HC3.out hxy
                go_wp2_with fail
                go_quiet (fail)
                go_wp2
                go_roundw
                case rel => exact ⟨o + 1, j + 1, i + 1, by omega, by omega, by omega, by go_num, by go_num, by go_num, Below.dN hBi _, HC4⟩
                case measure => simp [intOf]; omega
              · have hxy' : decide (xk = yk) = false := decide_eq_false hxy
                go_wp2_with fail
                go_quiet (fail)
                go_wp2
                go_roundw
                case rel => exact ⟨j + 1, by omega, by omega, rfl, rfl, by go_num, Below.dN hBi _⟩
                case measure => simp [intOf]; omega
            · go_wp2
              go_roundw
              case rel => exact ⟨o, nx, i + 1, by omega, by omega, by omega, rfl, rfl, by go_num, hBi, HC2⟩
              case measure => simp [intOf]; omega
          · have j1 : ¬ (j : Int) < (y.length : Int) := by omega
            go_wp2
            go_roundw
            case rel => exact ⟨o, nx, i + 1, by omega, by omega, by omega, rfl, rfl, by go_num, hBi, HC2⟩
            case measure => simp [intOf]; omega
      · have i3 : decide ((0 : Int) < (pick.length : Int)) = false := decide_eq_false (by omega)
        have i3' : decide (0 < pick.length) = false := decide_eq_false hp0
        clear hp0
        have i5 : (i : Int) < (x.length : Int) := by omega
        have i6 : 0 ≤ (i : Int) := by omega
        go_wp2
        go_loopw [13, 14, 17] (fun ov nv jv wi => ∃ (j : Nat), nx ≤ j ∧ j ≤ y.length ∧ ov = .int .i64 (o : Int) ∧ nv = .int .i64 (nx : Int) ∧ jv = .int .i64 (j : Int) ∧ Below w.heap.size w wi) (fun _ _ jv _ => y.length - (intOf jv).toNat)
        case atStart => exact ⟨nx, Nat.le_refl _, hnx, rfl, rfl, rfl, hB⟩
        case round =>
          obtain ⟨j, hnj, hj, rfl, rfl, rfl, hBi⟩ := hrel
          have HC2 : Hid (Cm x y (i + 1) nx o) := hC.out.skip
          by_cases hjy : j < y.length
          · have j1 : (j : Int) < (y.length : Int) := by omega
            have j0 : 0 ≤ (j : Int) := by omega
            by_cases hjq : (j : Int) ≤ (nx : Int) + 0
            · obtain ⟨b1, o1, rfl, _, hc1⟩ := HI.at (HI.keep hx hBi (Nat.le_refl _)) (by omega)
              obtain ⟨b2, o2, rfl, _, hc2⟩ := HI.at (HI.keep hy hBi (Nat.le_refl _)) (by omega)
              have d1 := hc1 i hlt
              have d2 := hc2 j hjy
              have HC3 : Hid (x[i] = y[j] → Cm x y (i + 1) (j + 1) (o + 1)) := fun e => hC.out.pair hnj hlt hjy e
              obtain ⟨xk, hxk⟩ : ∃ z, x[i] = z := ⟨_, rfl⟩
              obtain ⟨yk, hyk⟩ : ∃ z, y[j] = z := ⟨_, rfl⟩
              rw [hxk] at d1 HC3
              rw [hyk] at d2 HC3
              clear hc1 hc2 hxk hyk
              by_cases hxy : xk = yk
              · have HC4 : Hid (Cm x y (i + 1) (j + 1) (o + 1)) := HC3.out hxy
                go_wp2_with fail
                go_quiet (fail)
                go_wp2
                go_roundw
                case rel => exact ⟨o + 1, j + 1, i + 1, by omega, by omega, by omega, by go_num, by go_num, by go_num, Below.dN hBi _, HC4⟩
                case measure => simp [intOf]; omega
              · have hxy' : decide (xk = yk) = false := decide_eq_false hxy
                go_wp2_with fail
                go_quiet (fail)
                go_wp2
                go_roundw
                case rel => exact ⟨j + 1, by omega, by omega, rfl, rfl, by go_num, Below.dN hBi _⟩
                case measure => simp [intOf]; omega
            · go_wp2
              go_roundw
              case rel => exact ⟨o, nx, i + 1, by omega, by omega, by omega, rfl, rfl, by go_num, hBi, HC2⟩
              case measure => simp [intOf]; omega
          · have j1 : ¬ (j : Int) < (y.length : Int) := by omega
            go_wp2
            go_roundw
            case rel => exact ⟨o, nx, i + 1, by omega, by omega, by omega, rfl, rfl, by go_num, hBi, HC2⟩
            case measure => simp [intOf]; omega
    · have hle : o ≤ n := by rw [← HN.out]; exact hC.out.le
      have hle' : (o : Int) ≤ (n : Int) := by omega
      have i5 : ¬ (i : Int) < (x.length : Int) := by omega
      go_wp2
      go_ret
      exact ⟨rfl, hB⟩

theorem contract (H : Type) (enc : TypeId × Value → H) (W : World) (base : Nat) (args : Array Value) (ds gs : List (DataW H)) (before : List MemPlace)
    (hval : ∀ (j : Nat) t v, Try.f4.params[j]? = some t → args[j]? = some v → Value.okWide Try.prog W .any base t v)
    (hW : DataW.Whole enc Try.prog Try.f4.params.toList Rows.minimalMostSpec.vars false W args.toList ds gs before) :
    Calls Try.prog 4 args W fun e W' => ∃ v, e = .returned v ∧ Rows.minimalMostSpec.post enc Try.prog Try.f4 false true false false W args v W' := by
  have hW' := hW
  obtain ⟨p, q, hA0, hV, rfl, hfz, hnd⟩ := hW
  have hA : DataW.TrodAll enc Try.prog W 0 (fun _ => true) true Try.f4.params.toList args.toList ds p := hA0
  rw [Try.params4] at hA hval
  obtain ⟨v0, vs0, d0, ds0, p0, q0, hargs, rfl, rfl, h0, r0⟩ := trodAll_cons hA
  obtain ⟨v1, vs1, d1, ds1, p1, q1, rfl, rfl, rfl, h1, r1⟩ := trodAll_cons r0
  obtain ⟨v2, vs2, d2, ds2, p2, q2, rfl, rfl, rfl, h2, r2⟩ := trodAll_cons r1
  obtain ⟨rfl, rfl, rfl⟩ := trodAll_nil r2
  obtain rfl : args = #[v0, v1, v2] := by cases args; simp_all
  obtain ⟨rfl, rfl⟩ := trodVars_none hV
  obtain ⟨a0, len0, cap0, rfl⟩ := okWide_slice Try.underlying22 (hval 0 22 v0 rfl rfl)
  have k0 := h0
  have lt0 : ∀ x ∈ p0, x.block < W.heap.size := by obtain ⟨m, hm⟩ := k0; exact DataW.trod_lt m _ _ _ hm
  obtain ⟨a1, len1, cap1, rfl⟩ := okWide_slice Try.underlying22 (hval 1 22 v1 rfl rfl)
  have k1 := h1
  have lt1 : ∀ x ∈ p1, x.block < W.heap.size := by obtain ⟨m, hm⟩ := k1; exact DataW.trod_lt m _ _ _ hm
  obtain ⟨a2, len2, cap2, rfl⟩ := okWide_slice Try.underlying22 (hval 2 22 v2 rfl rfl)
  have k2 := h2
  have lt2 : ∀ x ∈ p2, x.block < W.heap.size := by obtain ⟨m, hm⟩ := k2; exact DataW.trod_lt m _ _ _ hm
  clear hA0
  obtain ⟨f0, hf0⟩ := h0
  obtain ⟨ws0, hv0, hwl0, hwf0⟩ := open_nums (by simpa [Value.cells] using hf0)
  obtain ⟨f1, hf1⟩ := h1
  obtain ⟨ws1, hv1, hwl1, hwf1⟩ := open_nums (by simpa [Value.cells] using hf1)
  obtain ⟨f2, hf2⟩ := h2
  obtain ⟨ws2, hv2, hwl2, hwf2⟩ := open_nums (by simpa [Value.cells] using hf2)
  have hw := walk ws0 ws1 ws2 (.slice a0 len0 cap0) (.slice a1 len1 cap1) (.slice a2 len2 cap2) W  hv0 hv1 hv2
  refine hw.mono fun e W' ⟨he, bel⟩ => ?_
  subst he
  exact ⟨_, rfl, _, _, _, [], _, [], hW', trodAll_mk1 (shut_bool Try.underlying4 _), trodAll_cons_mk (Below.trod laidOut (by kernel_rfl) (of_decide_eq_true (by kernel_rfl)) k0 bel lt0) (trodAll_cons_mk (Below.trod laidOut (by kernel_rfl) (of_decide_eq_true (by kernel_rfl)) k1 bel lt1) (trodAll_cons_mk (Below.trod laidOut (by kernel_rfl) (of_decide_eq_true (by kernel_rfl)) k2 bel lt2) trodAll_mk0)), rfl, bel.frame _, fun h => by cases h⟩

set_option maxRecDepth 100000 in
theorem lifted (os : Os) (started : os.Started) (H : Type) (enc : TypeId × Value → H) :
    ReturnsInHanded {} Try.checked os 4 .any (Rows.minimalMostSpec.pre6 enc Try.prog Try.f4 Rows.minimalMostRow.domain false) (Rows.minimalMostSpec.post enc Try.prog Try.f4 false true false false) := by
  refine returnsInHanded_of_change (C := Try.checked) own started (by kernel_rfl) Try.func4
    (ChangeSpec.witness6 (enc := enc) (C := Try.checked) false ⟨#[], #[.slice none 0 0, .slice none 0 0, .slice none 0 0], []⟩ 8 (by kernel_rfl) (by kernel_rfl) (by kernel_rfl) (by kernel_rfl)) ?_
  intro W base args ds gs before hval hW _ _
  exact contract H enc W base args ds gs before hval hW

theorem proved : Rows.MinimalMostSaid :=
  OpenClaim.holds_of_wide 4 Try.f4 rfl rfl rfl rfl rfl rfl rfl ⟨rfl, rfl, rfl, rfl, rfl⟩ rfl rfl rfl rfl rfl (by kernel_rfl) Try.func4 (by kernel_rfl)
    (of_decide_eq_true (by kernel_rfl)) (by unfold Func.isWrapper; first | (rw [if_pos (by decide +kernel)]; kernel_rfl) | (rw [if_neg (by decide +kernel)]; exact ⟨rfl, rfl⟩))
    (fun os started H enc _ => lifted os started H enc)
#print axioms proved
end Go.Proofs.Ytoacmaloiaeniab.minimalMost
