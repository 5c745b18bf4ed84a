/-
  For every two texts of together at most 1048576 letters, the law RcsfmtNothing returns true and leaves its arguments as they were: no commands leave the lines of a text as they are, one command takes them all out, and one puts all lines of a text in. The conditions are the statement's own bound and the card's: the library's tables hold what the program's text lays.
-/
import Derived.Test.YtkmgblnofapccaaDoorCards
import Derived.Test.YtkmgblnofapccaaDoorTie
import Derived.Test.YtkmgblnofapccaaDoorPartA8
import Derived.Test.YtkmgblnofapccaaDoorPartA9
import Derived.Test.YtkmgblnofapccaaDoorPartA3
import Derived.ProofKit
import Derived.OpenShut
import Derived.ShutString
import Derived.JoinedCond
import Derived.Deep.DeepHandedRow
import Derived.Lib.LaidTab
import Derived.LaidSub
namespace Go.Proofs.YtkmgblnofapccaaDoor.rcsfmtNothing
open Go.ChangeShapes Go.WideShapes Go.ChangeAt Go.RowKit
open Go.ChangeMaps (open_string shut_string)

theorem itoa_one : Lib.itoa 1 = [49] := by kernel_rfl
theorem itoa_nought : Lib.itoa 0 = [48] := by kernel_rfl
theorem rc_none {a : List (List UInt8)} (h : Ln.checkB a = true) : rcR [] a = .ok a := by
  have e : rcR [] a = rcF 0 ([] ++ a.drop 0) := rfl
  rw [e]
  unfold rcF
  have e2 : ([] : List (List UInt8)) ++ a.drop 0 = a := rfl
  rw [e2, if_pos h]
theorem rc_out {a : List (List UInt8)} (h0 : 0 < a.length) (h1 : a.length ≤ 1000) : rcR ([100, 49, 32] ++ Lib.itoa (a.length : Int) ++ [10]) a = .ok [] := by
  have hs : Script [⟨0, (a.length : Int), 0, 0⟩] a.length ([] : List (List UInt8)).length := by
    refine ⟨by omega, by simp, ⟨(numB_iff _).2 ?_, rfl, Int.le_refl _, .inl rfl⟩, ?_⟩
    · dsimp only
      omega
    · refine ⟨?_, ?_, ?_⟩ <;> simp
  have e : rcT [⟨0, (a.length : Int), 0, 0⟩] [] = [100, 49, 32] ++ Lib.itoa (a.length : Int) ++ [10] := by
    unfold rcT rcL rcC rcB
    simp only [List.flatMap_cons, List.flatMap_nil, List.append_nil]
    rw [if_pos (by omega), if_neg (by omega), show (0 : Int) + 1 = 1 by rfl, itoa_one]
    simp
  have hb := rc_back hs rfl (by omega) (fun r hr => by
    rw [U_cons, U_nil] at hr
    have z1 : ((0 : Int) - 0).toNat = 0 := rfl
    have z2 : ((a.length : Int) - (0 + (a.length : Int))).toNat = 0 := by omega
    dsimp only at hr
    rw [z1, z2] at hr
    cases hr)
  rw [e] at hb
  have hl := itoa_short (a.length : Int) (by omega) (by omega)
  rw [hb, if_neg (by simp only [List.length_append, List.length_cons, List.length_nil]; omega)]
theorem rc_in {b : List (List UInt8)} (hc : Ln.checkB b = true) (h0 : 0 < b.length) (h1 : b.length ≤ 1000) (h2 : b.flatten.length ≤ 100000) : rcT [⟨0, 0, 0, (b.length : Int)⟩] b = [97, 48, 32] ++ Lib.itoa (b.length : Int) ++ [10] ++ b.flatten ∧ chk [⟨0, 0, 0, (b.length : Int)⟩] 0 b.length = 0 ∧ rcR ([97, 48, 32] ++ Lib.itoa (b.length : Int) ++ [10] ++ b.flatten) [] = .ok b := by
  have hs : Script [⟨0, 0, 0, (b.length : Int)⟩] ([] : List (List UInt8)).length b.length := by
    refine ⟨by simp, by omega, ⟨(numB_iff _).2 ?_, rfl, Int.le_refl _, .inl rfl⟩, ?_⟩
    · dsimp only
      omega
    · refine ⟨?_, ?_, ?_⟩ <;> simp
  have hcut : cut b 0 (b.length : Int) = b := by
    unfold cut
    simp
  have e : rcT [⟨0, 0, 0, (b.length : Int)⟩] b = [97, 48, 32] ++ Lib.itoa (b.length : Int) ++ [10] ++ b.flatten := by
    unfold rcT rcL rcC rcB
    simp only [List.flatMap_cons, List.flatMap_nil, List.append_nil]
    rw [if_neg (by omega), if_pos (by omega), show (0 : Int) + 0 = 0 by rfl, itoa_nought, hcut]
    simp
  have hb := rc_back hs hc (by simp) (fun r hr => by
    rw [U_cons, U_nil] at hr
    have z1 : ((0 : Int) - 0).toNat = 0 := rfl
    have z2 : ((([] : List (List UInt8)).length : Int) - (0 + 0)).toNat = 0 := rfl
    dsimp only at hr
    rw [z1, z2] at hr
    cases hr)
  rw [e] at hb
  have hl := itoa_short (b.length : Int) (by omega) (by omega)
  refine ⟨e, chk_ok hs, ?_⟩
  rw [hb, if_neg (by simp only [List.length_append, List.length_cons, List.length_nil]; omega)]
set_option maxRecDepth 20000 in
set_option maxHeartbeats 16000000 in
theorem walk (s t : List UInt8) (w : World) (hl : s.length + t.length ≤ 1048576) (HTb0 : Tab10 w) :
    Calls Tryd.prog 5 #[.string ⟨s.toArray⟩, .string ⟨t.toArray⟩] w fun e w' => e = .returned (.bool true) ∧ Below w.heap.size w w' := by
  have HTb : Hid (Tab10 w) := HTb0
  clear HTb0
  have hxl0 := Ln.split_len s
  have hyl0 := Ln.split_len t
  have hyf : (Ln.splitL t).flatten = t := Ln.split_join t
  have hyc := Ln.split_right t
  have hxc := Ln.split_right s
  obtain ⟨x, hx⟩ : ∃ x, Ln.splitL s = x := ⟨_, rfl⟩
  obtain ⟨y, hy⟩ : ∃ y, Ln.splitL t = y := ⟨_, rfl⟩
  have HSx : Hid (∀ u ∈ x, u.length ≤ 1099511627776) := (by
    intro u hu
    rw [← hx] at hu
    have h1 := congrArg List.length (Ln.split_join s)
    have h2 := rc_mem hu
    omega)
  have hsx := fun w => nSplit_f s w (by omega)
  have hsy := fun w => nSplit_f t w (by omega)
  rw [hx] at hsx hxc hxl0
  rw [hy] at hsy hyl0 hyf hyc
  have HYF : Hid (y.flatten = t) := hyf
  have HYC : Hid (Ln.checkB y = true) := hyc
  have HXC : Hid (Ln.checkB x = true) := hxc
  clear hx hy hyf hyc hxc
  go_enter Tryd.func5, Tryd.ntmps5
  go_wp2_with fail
  refine (rworks_f w HTb).mono ?_
  rintro e w0 ⟨rfl, hB0⟩
  go_wp2_with fail
  refine (hsx w0).mono ?_
  rintro e w1 ⟨v1, rfl, hown1, hB1⟩
  have ha1 : HS w1 v1 x := holds_of hown1
  obtain ⟨ao, ac, rfl⟩ := Holds.form ha1
  clear hown1
  go_wp2_with fail
  refine (hsy w1).mono ?_
  rintro e w2 ⟨v2, rfl, hown2, hB2⟩
  have hb2 : HS w2 v2 y := holds_of hown2
  obtain ⟨bo, bc, rfl⟩ := Holds.form hb2
  have ha2 := HS.keep ha1 hB2 (Nat.le_refl _)
  have hB01 := hB0.trans (hB1.mono hB0.size)
  have hB02 := hB01.trans (hB2.mono hB01.size)
  clear hown2 hsx hsy ha1 hB0 hB1 hB2 hB01
  by_cases hx1 : 1000 < x.length
  · have i1 : (1000 : Int) < (x.length : Int) := by omega
    go_wp2
    go_ret
    exact ⟨rfl, hB02⟩
  have i1 : ¬ (1000 : Int) < (x.length : Int) := by omega
  by_cases hy1 : 1000 < y.length
  · have i2 : (1000 : Int) < (y.length : Int) := by omega
    go_wp2
    go_ret
    exact ⟨rfl, hB02⟩
  have i2 : ¬ (1000 : Int) < (y.length : Int) := by omega
  by_cases hb1 : 100000 < s.length + t.length
  · have i3 : (100000 : Int) < (s.length : Int) + (t.length : Int) := by omega
    go_wp2
    go_ret
    exact ⟨rfl, hB02⟩
  have i3 : ¬ (100000 : Int) < (s.length : Int) + (t.length : Int) := by omega
  have HR1 : Hid (rcR [] x = .ok x) := rc_none HXC.out
  go_wp2_with fail
  refine (rcRun_f [] x _ w2 ha2 (by simp) (by omega) HSx _ HR1).mono ?_
  rintro e w3 ⟨v3, rfl, ho3, hB3⟩
  have hv3 : HS w3 v3 x := holds_of ho3
  obtain ⟨o3, c3, rfl⟩ := Holds.form hv3
  have ha3 := HS.keep ha2 hB3 (Nat.le_refl _)
  have hb3 := HS.keep hb2 hB3 (Nat.le_refl _)
  have hB03 := hB02.trans (hB3.mono hB02.size)
  clear ha2 hb2 hB3 ho3 hB02 HR1
  go_wp2_with fail
  refine (SameS_any _ _ x w3 (by omega) hv3 ha3).mono ?_
  rintro e w4 ⟨rfl, hB4⟩
  have ha4 := HS.keep ha3 hB4 (Nat.le_refl _)
  have hb4 := HS.keep hb3 hB4 (Nat.le_refl _)
  have hB04 := hB03.trans (hB4.mono hB03.size)
  clear ha3 hb3 hB4 hv3 hB03 i1 i2 i3
  go_upto_if 51 with fail
  go_cut [9] (fun _ wz => HS wz (.slice bo y.length bc) y ∧ Below w.heap.size w wz)
  case first =>
    by_cases hx0 : 0 < x.length
    · have j1 : (0 : Int) < (x.length : Int) := by omega
      have hDl := itoa_short (x.length : Int) (by omega) (by omega)
      have HR2 : Hid (rcR ([100, 49, 32] ++ Lib.itoa (x.length : Int) ++ [10]) x = .ok []) := rc_out hx0 (by omega)
      have hT := fun u => rText_f (x.length : Int) (by omega) (by omega) u
      obtain ⟨D, hD⟩ : ∃ D, Lib.itoa (x.length : Int) = D := ⟨_, rfl⟩
      rw [hD] at hDl HR2 hT
      obtain ⟨Z1, hZ1⟩ : ∃ Z, [100, 49, 32] ++ D = Z := ⟨_, rfl⟩
      have q1 := add_z hZ1 (by unfold Fits; simp only [List.length_cons, List.length_nil]; omega) Tryd.prog
      have hZ1l : Z1.length ≤ 24 := (by rw [← hZ1]; simp only [List.length_append, List.length_cons, List.length_nil]; omega)
      rw [hZ1] at HR2
      obtain ⟨Z2, hZ2⟩ : ∃ Z, Z1 ++ [10] = Z := ⟨_, rfl⟩
      have q2 := add_z hZ2 (by unfold Fits; simp only [List.length_cons, List.length_nil]; omega) Tryd.prog
      have hZ2l : Z2.length ≤ 25 := (by rw [← hZ2]; simp only [List.length_append, List.length_cons, List.length_nil]; omega)
      rw [hZ2] at HR2
      clear hD hZ1 hZ2 hDl hZ1l
      go_wp2_with fail
      refine (hT w4).mono ?_
      rintro e w5 ⟨rfl, hB5⟩
      have ha5 := HS.keep ha4 hB5 (Nat.le_refl _)
      have hb5 := HS.keep hb4 hB5 (Nat.le_refl _)
      have hB05 := hB04.trans (hB5.mono hB04.size)
      clear ha4 hb4 hB5 hT
      go_wp2_with fail
      refine (rcRun_f Z2 x _ w5 ha5 (by omega) (by omega) HSx _ HR2).mono ?_
      rintro e w6 ⟨v6, rfl, ho6, hB6⟩
      obtain ⟨o6, c6, rfl⟩ := rc_form ho6
      have hb6 := HS.keep hb5 hB6 (Nat.le_refl _)
      have hB06 := hB05.trans (hB6.mono hB05.size)
      clear ha5 hb5 hB6 ho6
      go_wp2
      go_meet
      case rel => exact ⟨hb6, hB06⟩
    · have j1 : ¬ (0 : Int) < (x.length : Int) := by omega
      go_wp2
      go_meet
      case rel => exact ⟨hb4, hB04⟩
  case rest =>
    obtain ⟨hb7, hB07⟩ := hcut
    clear ha4 hb4 hB04
    generalize wc = w7 at hb7 hB07 ⊢
    by_cases hy0 : y.length = 0
    · have j1 : ((y.length : Int) == 0) = true := by rw [hy0]; rfl
      go_wp2
      go_ret
      exact ⟨rfl, hB07⟩
    · have j1 : ((y.length : Int) == 0) = false := beq_eq_false_iff_ne.2 (by omega)
      have hDl := itoa_short (y.length : Int) (by omega) (by omega)
      obtain ⟨k1, k2, k3⟩ := rc_in HYC.out (by omega) (by omega) (by rw [HYF.out]; omega)
      rw [HYF.out] at k1 k3
      have hT := fun u => rText_f (y.length : Int) (by omega) (by omega) u
      obtain ⟨D, hD⟩ : ∃ D, Lib.itoa (y.length : Int) = D := ⟨_, rfl⟩
      rw [hD] at hDl k1 k3 hT
      obtain ⟨Z1, hZ1⟩ : ∃ Z, [97, 48, 32] ++ D = Z := ⟨_, rfl⟩
      have q1 := add_z hZ1 (by unfold Fits; simp only [List.length_cons, List.length_nil]; omega) Tryd.prog
      have hZ1l : Z1.length ≤ 24 := (by rw [← hZ1]; simp only [List.length_append, List.length_cons, List.length_nil]; omega)
      rw [hZ1] at k1 k3
      obtain ⟨Z2, hZ2⟩ : ∃ Z, Z1 ++ [10] = Z := ⟨_, rfl⟩
      have q2 := add_z hZ2 (by unfold Fits; simp only [List.length_cons, List.length_nil]; omega) Tryd.prog
      have hZ2l : Z2.length ≤ 25 := (by rw [← hZ2]; simp only [List.length_append, List.length_cons, List.length_nil]; omega)
      rw [hZ2] at k1 k3
      obtain ⟨Z3, hZ3⟩ : ∃ Z, Z2 ++ t = Z := ⟨_, rfl⟩
      have q3 := add_z hZ3 (by unfold Fits; omega) Tryd.prog
      have hZ3l : Z3.length ≤ 1048601 := (by rw [← hZ3, List.length_append]; omega)
      rw [hZ3] at k1 k3
      have HK3 : Hid (rcR Z3 [] = .ok y) := k3
      have HK2 : Hid (chk [⟨0, 0, 0, (y.length : Int)⟩] ([] : List (List UInt8)).length y.length = 0) := k2
      have HK1 : Hid ((if (0 : Int) = 0 then rcT [⟨0, 0, 0, (y.length : Int)⟩] y else []) = Z3) := (by show _ = _; rw [if_pos rfl]; exact k1)
      clear hD hZ1 hZ2 hZ3 hDl hZ1l hZ2l k1 k2 k3
      have hE0 : ∀ u : World, HS u (.slice none 0 0) [] := fun u => .inl ⟨rfl, rfl, rfl⟩
      go_wp2_with fail
      refine (hT w7).mono ?_
      rintro e w8 ⟨rfl, hB8⟩
      have hb8 := HS.keep hb7 hB8 (Nat.le_refl _)
      have hB08 := hB07.trans (hB8.mono hB07.size)
      clear hb7 hB8 hB07
      go_wp2_with fail
      refine (rcRun_f Z3 [] _ w8 (hE0 w8) (by omega) (by simp) (fun s hs => by cases hs) _ HK3).mono ?_
      rintro e w9 ⟨v9, rfl, ho9, hB9⟩
      have hv9 : HS w9 v9 y := holds_of ho9
      obtain ⟨o9, c9, rfl⟩ := Holds.form hv9
      have hb9 := HS.keep hb8 hB9 (Nat.le_refl _)
      have hB09 := hB08.trans (hB9.mono hB08.size)
      have hBA : Below w9.heap.size w9 (w9.alloc (.cells #[.int .i64 0, .int .i64 0, .int .i64 0, .int .i64 (y.length : Int)] 43)) := (Below.refl _ w9).alloc (Nat.le_refl _) _
      have hcA : HCh (w9.alloc (.cells #[.int .i64 0, .int .i64 0, .int .i64 0, .int .i64 (y.length : Int)] 43)) (.slice (some ⟨w9.heap.size, 0, none⟩) 1 1) [⟨0, 0, 0, (y.length : Int)⟩] := new_holds w9 #[.int .i64 0, .int .i64 0, .int .i64 0, .int .i64 (y.length : Int)] 43 1 1 (by decide)
      have hbA := HS.keep hb9 hBA (Nat.le_refl _)
      have hvA := HS.keep hv9 hBA (Nat.le_refl _)
      have hB0A := hB09.trans (hBA.mono hB09.size)
      have HTA : Hid (Tab10 (w9.alloc (.cells #[.int .i64 0, .int .i64 0, .int .i64 0, .int .i64 (y.length : Int)] 43))) := HTb.out.on hB0A
      clear hb8 hB9 hB08 hb9 hv9 ho9 hBA hB09 HK3
      go_wp2_with fail
      refine (rcPrint_f [⟨0, 0, 0, (y.length : Int)⟩] _ _ _ [] y _ hcA (hE0 _) hbA (by simp) (by simp) (by omega) (by rw [HYF.out]; omega) HTA 0 HK2 Z3 HK1 (by omega)).mono ?_
      rintro e wB ⟨rfl, hBB⟩
      have hvB := HS.keep hvA hBB (Nat.le_refl _)
      have hB0B := hB0A.trans (hBB.mono hB0A.size)
      clear hvA hbA hcA hBB hB0A HTA HK1 HK2
      go_wp2_with fail
      refine (lJoin_f _ y wB (by omega) (by rw [HYF.out]; omega) hvB).mono ?_
      rw [HYF.out]
      rintro e wC ⟨rfl, hBC⟩
      have hB0C := hB0B.trans (hBC.mono hB0B.size)
      clear hvB hBC hB0B
      go_wp2_with fail
      refine (hT wC).mono ?_
      rintro e wD ⟨rfl, hBD⟩
      have hB0D := hB0C.trans (hBD.mono hB0C.size)
      go_wp2
      go_ret
      exact ⟨rfl, hB0D⟩

set_option maxRecDepth 100000 in
theorem contract (H : Type) (enc : TypeId × Value → H) (W : World) (base : Nat) (args : Array Value) (ds gs : List (DataW H)) (before : List MemPlace)
    (hval : ∀ (j : Nat) t v, Tryd.f5.params[j]? = some t → args[j]? = some v → Value.okWide Tryd.prog W .any base t v)
    (hW : DataW.Whole enc Tryd.prog Tryd.f5.params.toList Rows.rcsfmtNothingSpec.vars false W args.toList ds gs before) (hL : laidMetH Tryd.prog Rows.rcsfmtNothingUptoRow.laid W) (hk : Rows.uptoSmall H (ds ++ gs) = true) :
    Calls Tryd.prog 5 args W fun e W' => ∃ v, e = .returned v ∧ Rows.rcsfmtNothingSpec.post enc Tryd.prog Tryd.f5 false true false false W args v W' := by
  have hW' := hW
  obtain ⟨p, q, hA0, hV, rfl, hfz, hnd⟩ := hW
  have hA : DataW.TrodAll enc Tryd.prog W 0 (fun _ => true) true Tryd.f5.params.toList args.toList ds p := hA0
  rw [Tryd.params5] at hA hval
  obtain ⟨v0, vs0, d0, ds0, p0, q0, hargs, rfl, rfl, h0, r0⟩ := trodAll_cons hA
  obtain ⟨v1, vs1, d1, ds1, p1, q1, rfl, rfl, rfl, h1, r1⟩ := trodAll_cons r0
  obtain ⟨rfl, rfl, rfl⟩ := trodAll_nil r1
  obtain rfl : args = #[v0, v1] := by cases args; simp_all
  obtain ⟨rfl, rfl⟩ := trodVars_none hV
  obtain ⟨a0, rfl, rfl, rfl, wt0⟩ := open_string Tryd.underlying9 (hval 0 9 v0 rfl rfl) h0
  obtain ⟨a1, rfl, rfl, rfl, wt1⟩ := open_string Tryd.underlying9 (hval 1 9 v1 rfl rfl) h1
  clear hA0
  simp only [List.append_nil] at hk
  have hbk : Rows.uptoBulkAll [.lit (.string a0.data.toList), .lit (.string a1.data.toList)] ≤ 1048576 := of_decide_eq_true hk
  simp only [Rows.uptoBulkAll] at hbk
  have ht := Tb.tab_of Rows.rcsfmtNothingUptoRow.laid rfl hL
  have hw := walk a0.data.toList a1.data.toList  W (by simp only [Rows.uptoBulk] at hbk; omega) (fun u hu => var?_below hu Tb.gTab (Tb.tab_lt ht) ht)
  refine hw.mono fun e W' ⟨he, bel⟩ => ?_
  subst he
  exact ⟨_, rfl, _, _, _, [], _, [], hW', trodAll_mk1 (shut_bool Tryd.underlying4 _), trodAll_cons_mk (shut_string Tryd.underlying9 wt0) (trodAll_cons_mk (shut_string Tryd.underlying9 wt1) trodAll_mk0), rfl, bel.frame _, fun h => by cases h⟩

theorem laid_met (os : Os) : laidMet Tryd.prog Rows.rcsfmtNothingUptoRow.laid ((Tb.laidOn (World.holding Tryd.prog os ⟨#[], #[], []⟩)).forCall (fun _ _ => 0) ⟨#[], #[.string .empty, .string .empty], []⟩).memory :=
  laidMet_of_run' 8 (by kernel_rfl) (by kernel_rfl)
theorem reads (os : Os) {H : Type} (enc : TypeId × Value → H) : ∃ places, DataW.whole enc Tryd.prog ((Tb.laidOn (World.holding Tryd.prog os ⟨#[], #[], []⟩)).forCall (fun _ _ => 0) ⟨#[], #[.string .empty, .string .empty], []⟩).memory Tryd.f5.params.toList Rows.rcsfmtNothingSpec.vars false #[Value.string .empty, Value.string .empty].toList 8 = some ([.lit (.string []), .lit (.string [])], [], places) :=
  ⟨[], by kernel_rfl⟩

set_option maxRecDepth 100000 in
theorem lifted (os : Os) (started : os.Started) (H : Type) (enc : TypeId × Value → H) (F : Stop.Interp) :
    ReturnsInHanded {} Tryd.checked os 5 .any ((Rows.OpenSpec.upto Rows.rcsfmtNothingSpec).preRow enc Tryd.prog Tryd.f5 Rows.rcsfmtNothingUptoRow.domain false Rows.rcsfmtNothingUptoRow.laid) (((Rows.OpenSpec.upto Rows.rcsfmtNothingSpec).at F).post enc Tryd.prog Tryd.f5 false true false false) := by
  obtain ⟨places, hx⟩ := reads os enc
  refine returnsInHanded_of_row (C := Tryd.checked) (s := Rows.OpenSpec.upto Rows.rcsfmtNothingSpec) own started (by kernel_rfl) Tryd.func5
    (witness_row_at (enc := enc) (C := Tryd.checked) false (Tb.laidOn (World.holding Tryd.prog os ⟨#[], #[], []⟩)) #[.string .empty, .string .empty] rfl (by kernel_rfl) (by kernel_rfl) (by kernel_rfl)
      (OpenSpec.preRow_of_cond 8 hx (by kernel_rfl) (fun k hk => by cases hk; kernel_rfl) (by kernel_rfl) (laid_met os))) ?_
  intro W base args ds gs before hval hW _ hcond _ hL _ _
  exact contract H enc W base args ds gs before hval hW hL (hcond _ rfl)

theorem said : Rows.RcsfmtNothingUptoSaid :=
  OpenClaim.holds_of_cond 5 Tryd.f5 rfl rfl rfl rfl rfl rfl rfl ⟨rfl, rfl, rfl, rfl, rfl⟩ rfl rfl rfl rfl rfl (by kernel_rfl) Tryd.func5 (by kernel_rfl)
    (of_decide_eq_true (by kernel_rfl)) (by unfold Func.isWrapper; first | (rw [if_pos (by decide +kernel)]; kernel_rfl) | (rw [if_neg (by decide +kernel)]; exact ⟨rfl, rfl⟩))
    (fun os started H enc _ F => by rw [OpenClaim.pre_eq_preRow]; exact lifted os started H enc F)

theorem plain (f : FuncId) (fn : Func) (hf : Tryd.pinned.checked.prog.funcNamed "redline/redlinelaw14.RcsfmtNothing" = some f) (hfn : Tryd.pinned.checked.prog.funcs[f]? = some fn) :
    true = Tryd.pinned.checked.prog.looks [] ∧ ∀ (j : Nat) t, fn.params[j]? = some t → Tryd.pinned.checked.prog.wantsStandIn t = false := by
  obtain rfl : f = 5 := Option.some.inj ((show Tryd.prog.funcNamed "redline/redlinelaw14.RcsfmtNothing" = some 5 by kernel_rfl).symm.trans hf) |>.symm
  obtain rfl : fn = Tryd.f5 := (Option.some.inj (Tryd.func5.symm.trans hfn)).symm
  refine ⟨by kernel_rfl, fun j t ht => ?_⟩
  rw [Tryd.params5] at ht
  have hm : t = 9 ∨ t = 9 := by simpa using Array.mem_of_getElem? ht
  rcases hm with rfl | rfl
  · exact (show Tryd.prog.wantsStandIn 9 = false by kernel_rfl)
  · exact (show Tryd.prog.wantsStandIn 9 = false by kernel_rfl)

theorem card : Rows.RcsfmtNothingUptoCardSaid :=
  Claim7.holds_tied_plain_at .later [] _ _ _ _ said (fun _ h => by cases h) (by kernel_rfl) (fun _ h => by cases h) rcsfmtNothingUpto_row_tie rfl ⟨rfl, rfl⟩ (by kernel_rfl) rfl plain (by kernel_rfl)
#print axioms card
end Go.Proofs.YtkmgblnofapccaaDoor.rcsfmtNothing
