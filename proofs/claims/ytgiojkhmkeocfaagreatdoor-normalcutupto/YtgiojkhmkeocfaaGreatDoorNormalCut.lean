/-
  For every two texts and every number, of together at most 1048576 letters and values, the law NormalCut returns true and leaves its arguments as they were: a part of what normal.Print writes is refused by normal.Parse, or says other hunks than the whole. The conditions are the statement's own bound and the card's: the library's tables hold what the program's text lays.
-/
import Derived.Test.YtgiojkhmkeocfaaGreatDoorCards
import Derived.Test.YtgiojkhmkeocfaaGreatDoorTie
import Derived.Test.YtgiojkhmkeocfaaGreatDoorNomalA13
import Derived.Test.YtgiojkhmkeocfaaGreatDoorNomalA15
import Derived.Test.YtgiojkhmkeocfaaGreatDoorNomalA14
import Derived.Test.YtgiojkhmkeocfaaGreatDoorNomalA9
import Derived.Test.YtgiojkhmkeocfaaGreatDoorNomalA16
import Derived.Test.YtgiojkhmkeocfaaGreatDoorNomalA8
import Derived.ProofKit
import Derived.OpenShut
import Derived.ShutString
import Derived.JoinedCond
import Derived.Deep.DeepHandedRow
import Derived.Lib.LaidTab
import Derived.LaidSub
set_option maxRecDepth 20000
namespace Go.Proofs.YtgiojkhmkeocfaaGreatDoor.normalCut
open Go.ChangeShapes Go.WideShapes Go.ChangeAt Go.RowKit
open Go.ChangeMaps (open_string shut_string)
attribute [local go_sem] ByteArray.extract_mk no_at

theorem cut_at (k : Int) (n : Nat) (h0 : 0 < n) (h1 : n ≤ 1048576) : ∃ c : Nat, wrap64 ((IntKind.u64.wrap k).tmod (n : Int)) = (c : Int) ∧ c < n := by
  have h0' : 0 ≤ IntKind.u64.wrap k := by simp [IntKind.wrap, IntKind.bits, IntKind.signed]; omega
  generalize IntKind.u64.wrap k = z at h0'
  rw [Int.tmod_eq_emod_of_nonneg h0']
  refine ⟨(z % (n : Int)).toNat, ?_, ?_⟩
  · have a := Int.emod_nonneg z (show (n : Int) ≠ 0 by omega)
    have b := Int.emod_lt_of_pos z (show (0 : Int) < n by omega)
    unfold wrap64
    omega
  · have a := Int.emod_nonneg z (show (n : Int) ≠ 0 by omega)
    have b := Int.emod_lt_of_pos z (show (0 : Int) < n by omega)
    omega
set_option maxRecDepth 10000 in
set_option maxHeartbeats 16000000 in
theorem walk (s t : List UInt8) (kc : Int) (w : World) (hl : s.length + t.length ≤ 1048576) (HTb0 : Tab10 w) :
    Calls Tryz.prog 4 #[.string ⟨s.toArray⟩, .string ⟨t.toArray⟩, .int .i64 kc] w fun e w' => e = .returned (.bool true) ∧ Below w.heap.size w w' := by
  have HTb : Hid (Tab10 w) := HTb0
  clear HTb0
  obtain ⟨x, hx⟩ : ∃ x, Ln.splitL s = x := ⟨_, rfl⟩
  obtain ⟨y, hy⟩ : ∃ y, Ln.splitL t = y := ⟨_, rfl⟩
  have HXs : Hid (Ln.splitL s = x) := hx
  have HYs : Hid (Ln.splitL t = y) := hy
  have HSx : Hid (∀ u ∈ x, u.length ≤ 1048576) := (by rw [← hx]; exact split_short (by omega))
  have HSy : Hid (∀ u ∈ y, u.length ≤ 1048576) := (by rw [← hy]; exact split_short (by omega))
  have hsx := fun w => nSplit_f s w (by omega)
  have hsy := fun w => nSplit_f t w (by omega)
  rw [hx] at hsx
  rw [hy] at hsy
  clear hx hy
  go_enter Tryz.func4, Tryz.ntmps4
  go_wp2_with fail
  refine (nworks_f w HTb).mono ?_
  rintro e w0 ⟨rfl, hB0⟩
  go_wp2_with fail
  refine (hsx w0).mono ?_
  rintro e w1 ⟨v1, rfl, hown1, hB1⟩
  have ha1 : HS w1 v1 x := holds_of hown1
  obtain ⟨ao, ac, rfl⟩ := Holds.form ha1
  clear hown1
  go_wp2_with fail
  refine (hsy w1).mono ?_
  rintro e w2 ⟨v2, rfl, hown2, hB2⟩
  have hb2 : HS w2 v2 y := holds_of hown2
  obtain ⟨bo, bc, rfl⟩ := Holds.form hb2
  have ha2 := HS.keep ha1 hB2 (Nat.le_refl _)
  have hB01 := hB0.trans (hB1.mono hB0.size)
  have hB02 := hB01.trans (hB2.mono hB01.size)
  clear hown2 hsx hsy ha1 hB0 hB1 hB2 hB01
  by_cases hsm : (x.length ≤ 200 ∧ y.length ≤ 200) ∧ s.length + t.length ≤ 100000
  · obtain ⟨⟨hxl, hyl⟩, hst⟩ := hsm
    obtain ⟨L, hL⟩ : ∃ L, mkL (eng 1 (clx ig0 x y) (cly ig0 x y)) y.length = L := ⟨_, rfl⟩
    have HL : Hid (mkL (eng 1 (clx ig0 x y) (cly ig0 x y)) y.length = L) := hL
    have HBk : Hid (Bk s t L) := bk_of 1 s t (by rw [HXs.out]; exact hxl) (by rw [HYs.out]; exact hyl) (by rw [HXs.out, HYs.out]; exact hL)
    clear hL
    have i1 : ¬ (200 : Int) < (x.length : Int) := by omega
    have i2 : ¬ (200 : Int) < (y.length : Int) := by omega
    have i3 : ¬ (100000 : Int) < (s.length : Int) + (t.length : Int) := by omega
    go_wp2_with fail
    refine (En1_f ig0 x y _ _ w2 ha2 hb2 (by omega) (by omega) (fun u hu => Nat.le_trans (HSx.out u hu) (by omega)) (fun u hu => Nat.le_trans (HSy.out u hu) (by omega)) L HL).mono ?_
    rintro e w3 ⟨v3, rfl, hv3, hB3⟩
    obtain ⟨o3, c3, rfl⟩ := Holds.form hv3
    have hB03 := hB02.trans (hB3.mono hB02.size)
    have ha3 := HS.keep ha2 hB3 (Nat.le_refl _)
    have hb3 := HS.keep hb2 hB3 (Nat.le_refl _)
    have hbk := HBk.out
    obtain ⟨T, hT⟩ : ∃ T, prtT L x y = T := ⟨_, rfl⟩
    obtain ⟨M, hM⟩ : ∃ M, mkR L x y 0 = M := ⟨_, rfl⟩
    have hTl := hbk.len
    have hLl := hbk.few
    have hrd := hbk.rd
    have hgrp := hbk.grp
    have hscr := hbk.scr
    rw [HXs.out, HYs.out] at hTl hrd hgrp hscr
    rw [HXs.out] at hLl
    rw [hT] at hTl hrd
    rw [hM] at hrd
    rw [if_neg (by omega)] at hrd
    have HR : Hid (chk L x.length y.length = 0) := (by show _ = _; rw [← grpE_zero]; exact hgrp)
    have HT : Hid ((if (0 : Int) = 0 then prtT L x y else []) = T) := (by show _ = _; rw [if_pos rfl]; exact hT)
    have HTT : Hid (prtT L x y = T) := hT
    have HM : Hid (mkR L x y 0 = M) := hM
    have HSC : Hid (Script L x.length y.length) := hscr
    have HRD : Hid (prsT T = .ok M) := hrd
    have HTb3 : Hid (Tab10 w3) := HTb.out.on hB03
    clear hbk hT hM hrd hgrp hscr hB02 hB3 ha2 hb2 i1 i2 i3
    go_wp2_with fail
    refine (nPrint_f L _ _ _ x y w3 hv3 ha3 hb3 (by omega) (by omega) (by omega) (fun u hu => Nat.le_trans (HSx.out u hu) (by omega)) (fun u hu => Nat.le_trans (HSy.out u hu) (by omega)) HTb3 0 HR T HT (by omega)).mono ?_
    rintro e w4 ⟨rfl, hB4⟩
    have hB04 := hB03.trans (hB4.mono hB03.size)
    clear hv3 ha3 hb3 hB4 hB03 HTb3 HT HR
    by_cases hTn : T = []
    · subst hTn
      have hst2 : s = t := (by
        have h1 : prsT [] = .ok M := HRD.out
        have h2 : M = [] := (by
          have h3 : prsT [] = .ok [] := by kernel_rfl
          rw [h3] at h1
          cases h1
          rfl)
        have h4 := HM.out
        rw [h2, mk_zero HSC.out] at h4
        exact HBk.out.nil.1 (List.map_eq_nil_iff.1 h4))
      subst hst2
      go_wp2
      go_ret
      exact ⟨rfl, hB04⟩
    · have hT0 : 0 < T.length := List.length_pos_iff.2 hTn
      obtain ⟨k, hk, hkl⟩ := cut_at kc T.length hT0 (by omega)
      have i1 : 0 ≤ (k : Int) := by omega
      have i2 : (k : Int) ≤ (T.length : Int) := by omega
      have i3 : (k : Int).toNat = k := by omega
      have hTe : T.isEmpty = false := (by cases T with | nil => exact absurd rfl hTn | cons => rfl)
      obtain ⟨X, hX⟩ : ∃ X, prsT (T.take k) = X := ⟨_, rfl⟩
      have HX : Hid (prsT (T.take k) = X) := hX
      have HNE : Hid (X ≠ .ok M) := (by rw [← hX]; exact normal_cut HRD.out hkl)
      clear hX
      go_wp2_with fail
      clear hTe
      refine (nPars_f (T.take k) w4 (by rw [List.length_take]; omega) X HX).mono ?_
      intro e w5 hq
      rcases X with ⟨a, z⟩ | M1
      · obtain ⟨g, rfl, hg5, hB5⟩ := hq
        have hB05 := hB04.trans (hB5.mono hB04.size)
        clear hB5 hB04 hg5 HNE HX
        go_wp2_with fail
        refine (nPars_f T w5 (by omega) _ HRD).mono ?_
        rintro e w6 ⟨v6, P6, rfl, hP6, hPm6⟩
        obtain ⟨o6, c6, rfl⟩ := (holds_of hP6.own).form
        have hB06 := hB05.trans (hP6.low.mono hB05.size)
        clear hB05 hP6 hPm6
        clear hk
        cases k with
        | zero =>
          go_wp2
          go_ret
          exact ⟨rfl, hB06⟩
        | succ j =>
          have j1 : 0 < (((j + 1 : Nat)) : Int) := by omega
          go_wp2
          all_goals (go_ret; exact ⟨rfl, hB06⟩)
      · obtain ⟨v5, P5, rfl, hP5, hPm5⟩ := hq
        obtain ⟨o5, c5, rfl⟩ := (holds_of hP5.own).form
        have hB05 := hB04.trans (hP5.low.mono hB04.size)
        have hh5 := hP5.holds
        have HP5 : Hid (P5.map (·.1) = M1) := hPm5
        have HOW : Hid (HOw P5) := how_of (by rw [hPm5]; exact HX.out) (by rw [List.length_take]; omega)
        clear hB04 hP5 hPm5
        go_wp2_with fail
        refine (nPars_f T w5 (by omega) _ HRD).mono ?_
        rintro e w6 ⟨v6, P6, rfl, hP6, hPm6⟩
        obtain ⟨o6, c6, rfl⟩ := (holds_of hP6.own).form
        have hB06 := hB05.trans (hP6.low.mono hB05.size)
        have hh6 := hP6.holds
        have hh56 := hh5.keep hP6.low (Nat.le_refl _)
        have HNR : Hid (false = true ↔ P5.map (·.1) = P6.map (·.1)) := (by
          refine ⟨fun h => absurd h (by simp), fun h => absurd (?_ : Except.ok M1 = Except.ok M) HNE.out⟩
          rw [← HP5.out, h, hPm6])
        clear hB05 hP6 hPm6 hh5 hk
        cases k with
        | zero =>
          go_wp2_with fail
          refine (rSameHunksG_f P5 P6 _ _ w6 hh56 hh6 HOW.out false HNR).mono ?_
          rintro e w7 ⟨rfl, hB7⟩
          have hB07 := hB06.trans (hB7.mono hB06.size)
          clear hh56 hh6 hB7 hB06
          go_wp2
          go_ret
          exact ⟨rfl, hB07⟩
        | succ j =>
          have j1 : 0 < (((j + 1 : Nat)) : Int) := by omega
          have j2 : j < T.length := by omega
          have j3 : ((T[j].toNat : Nat) : Int) = 10 := (by rw [take_feed j2 HX.out]; rfl)
          go_wp2_with fail
          refine (rSameHunksG_f P5 P6 _ _ w6 hh56 hh6 HOW.out false HNR).mono ?_
          rintro e w7 ⟨rfl, hB7⟩
          have hB07 := hB06.trans (hB7.mono hB06.size)
          clear hh56 hh6 hB7 hB06
          go_wp2
          go_ret
          exact ⟨rfl, hB07⟩
  · by_cases h1 : (200 : Int) < (x.length : Int)
    · go_wp2
      go_ret
      exact ⟨rfl, hB02⟩
    · by_cases h2 : (200 : Int) < (y.length : Int)
      · go_wp2
        go_ret
        exact ⟨rfl, hB02⟩
      · have h3 : (100000 : Int) < (s.length : Int) + (t.length : Int) := by omega
        go_wp2
        go_ret
        exact ⟨rfl, hB02⟩

set_option maxRecDepth 100000 in
theorem contract (H : Type) (enc : TypeId × Value → H) (W : World) (base : Nat) (args : Array Value) (ds gs : List (DataW H)) (before : List MemPlace)
    (hval : ∀ (j : Nat) t v, Tryz.f4.params[j]? = some t → args[j]? = some v → Value.okWide Tryz.prog W .any base t v)
    (hW : DataW.Whole enc Tryz.prog Tryz.f4.params.toList Rows.normalCutSpec.vars false W args.toList ds gs before) (hL : laidMetH Tryz.prog Rows.normalCutUptoRow.laid W) (hk : Rows.uptoSmall H (ds ++ gs) = true) :
    Calls Tryz.prog 4 args W fun e W' => ∃ v, e = .returned v ∧ Rows.normalCutSpec.post enc Tryz.prog Tryz.f4 false true false false W args v W' := by
  have hW' := hW
  obtain ⟨p, q, hA0, hV, rfl, hfz, hnd⟩ := hW
  have hA : DataW.TrodAll enc Tryz.prog W 0 (fun _ => true) true Tryz.f4.params.toList args.toList ds p := hA0
  rw [Tryz.params4] at hA hval
  obtain ⟨v0, vs0, d0, ds0, p0, q0, hargs, rfl, rfl, h0, r0⟩ := trodAll_cons hA
  obtain ⟨v1, vs1, d1, ds1, p1, q1, rfl, rfl, rfl, h1, r1⟩ := trodAll_cons r0
  obtain ⟨v2, vs2, d2, ds2, p2, q2, rfl, rfl, rfl, h2, r2⟩ := trodAll_cons r1
  obtain ⟨rfl, rfl, rfl⟩ := trodAll_nil r2
  obtain rfl : args = #[v0, v1, v2] := by cases args; simp_all
  obtain ⟨rfl, rfl⟩ := trodVars_none hV
  obtain ⟨n2, rfl, rfl, rfl, wn2⟩ := open_int Tryz.underlying3 (hval 2 3 v2 rfl rfl) h2
  obtain ⟨a0, rfl, rfl, rfl, wt0⟩ := open_string Tryz.underlying9 (hval 0 9 v0 rfl rfl) h0
  obtain ⟨a1, rfl, rfl, rfl, wt1⟩ := open_string Tryz.underlying9 (hval 1 9 v1 rfl rfl) h1
  clear hA0
  simp only [List.append_nil] at hk
  have hbk : Rows.uptoBulkAll [.lit (.string a0.data.toList), .lit (.string a1.data.toList), .lit (.int .i64 n2)] ≤ 1048576 := of_decide_eq_true hk
  simp only [Rows.uptoBulkAll] at hbk
  have ht := Tb.tab_of Rows.normalCutUptoRow.laid rfl hL
  have hw := walk a0.data.toList a1.data.toList n2  W (by simp only [Rows.uptoBulk] at hbk; omega) (fun u hu => var?_below hu Tb.gTab (Tb.tab_lt ht) ht)
  refine hw.mono fun e W' ⟨he, bel⟩ => ?_
  subst he
  exact ⟨_, rfl, _, _, _, [], _, [], hW', trodAll_mk1 (shut_bool Tryz.underlying4 _), trodAll_cons_mk (shut_string Tryz.underlying9 wt0) (trodAll_cons_mk (shut_string Tryz.underlying9 wt1) (trodAll_cons_mk (shut_int Tryz.underlying3 wn2) trodAll_mk0)), rfl, bel.frame _, fun h => by cases h⟩

theorem laid_met (os : Os) : laidMet Tryz.prog Rows.normalCutUptoRow.laid ((Tt.laidOn (World.holding Tryz.prog os ⟨#[], #[], []⟩)).forCall (fun _ _ => 0) ⟨#[], #[.string .empty, .string .empty, .int .i64 0], []⟩).memory :=
  laidMet_of_run' 8 (by kernel_rfl) (by kernel_rfl)
theorem reads (os : Os) {H : Type} (enc : TypeId × Value → H) : ∃ places, DataW.whole enc Tryz.prog ((Tt.laidOn (World.holding Tryz.prog os ⟨#[], #[], []⟩)).forCall (fun _ _ => 0) ⟨#[], #[.string .empty, .string .empty, .int .i64 0], []⟩).memory Tryz.f4.params.toList Rows.normalCutSpec.vars false #[Value.string .empty, Value.string .empty, Value.int .i64 0].toList 8 = some ([.lit (.string []), .lit (.string []), .lit (.int .i64 0)], [], places) :=
  ⟨[], by kernel_rfl⟩

set_option maxRecDepth 100000 in
theorem lifted (os : Os) (started : os.Started) (H : Type) (enc : TypeId × Value → H) (F : Stop.Interp) :
    ReturnsInHanded {} Tryz.checked os 4 .any ((Rows.OpenSpec.upto Rows.normalCutSpec).preRow enc Tryz.prog Tryz.f4 Rows.normalCutUptoRow.domain false Rows.normalCutUptoRow.laid) (((Rows.OpenSpec.upto Rows.normalCutSpec).at F).post enc Tryz.prog Tryz.f4 false true false false) := by
  obtain ⟨places, hx⟩ := reads os enc
  refine returnsInHanded_of_row (C := Tryz.checked) (s := Rows.OpenSpec.upto Rows.normalCutSpec) own started (by kernel_rfl) Tryz.func4
    (witness_row_at (enc := enc) (C := Tryz.checked) false (Tt.laidOn (World.holding Tryz.prog os ⟨#[], #[], []⟩)) #[.string .empty, .string .empty, .int .i64 0] rfl (by kernel_rfl) (by kernel_rfl) (by kernel_rfl)
      (OpenSpec.preRow_of_cond 8 hx (by kernel_rfl) (fun k hk => by cases hk; kernel_rfl) (by kernel_rfl) (laid_met os))) ?_
  intro W base args ds gs before hval hW _ hcond _ hL _ _
  exact contract H enc W base args ds gs before hval hW hL (hcond _ rfl)

set_option maxHeartbeats 4000000 in
theorem said : Rows.NormalCutUptoSaid :=
  OpenClaim.holds_of_cond 4 Tryz.f4 rfl rfl rfl rfl rfl rfl rfl ⟨rfl, rfl, rfl, rfl, rfl⟩ rfl rfl rfl rfl rfl (by kernel_rfl) Tryz.func4 (by simp only [joinedFacts, Bool.and_eq_true]; (repeat' apply And.intro) <;> as_aux_lemma => kernel_rfl)
    (of_decide_eq_true (by kernel_rfl)) (by unfold Func.isWrapper; first | (rw [if_pos (by decide +kernel)]; kernel_rfl) | (rw [if_neg (by decide +kernel)]; exact ⟨rfl, rfl⟩))
    (fun os started H enc _ F => by rw [OpenClaim.pre_eq_preRow]; exact lifted os started H enc F)

theorem plain (f : FuncId) (fn : Func) (hf : Tryz.pinned.checked.prog.funcNamed "redline/redlinelaw12.NormalCut" = some f) (hfn : Tryz.pinned.checked.prog.funcs[f]? = some fn) :
    true = Tryz.pinned.checked.prog.looks [] ∧ ∀ (j : Nat) t, fn.params[j]? = some t → Tryz.pinned.checked.prog.wantsStandIn t = false := by
  obtain rfl : f = 4 := Option.some.inj ((show Tryz.prog.funcNamed "redline/redlinelaw12.NormalCut" = some 4 by kernel_rfl).symm.trans hf) |>.symm
  obtain rfl : fn = Tryz.f4 := (Option.some.inj (Tryz.func4.symm.trans hfn)).symm
  refine ⟨by kernel_rfl, fun j t ht => ?_⟩
  rw [Tryz.params4] at ht
  have hm : t = 9 ∨ t = 9 ∨ t = 3 := by simpa using Array.mem_of_getElem? ht
  rcases hm with rfl | rfl | rfl
  · exact (show Tryz.prog.wantsStandIn 9 = false by kernel_rfl)
  · exact (show Tryz.prog.wantsStandIn 9 = false by kernel_rfl)
  · exact (show Tryz.prog.wantsStandIn 3 = false by kernel_rfl)

theorem card : Rows.NormalCutUptoCardSaid :=
  Claim7.holds_tied_plain_at .later [] _ _ _ _ said (fun _ h => by cases h) (by kernel_rfl) (fun _ h => by cases h) normalCutUpto_row_tie rfl ⟨rfl, rfl⟩ (by kernel_rfl) rfl plain (by kernel_rfl)
#print axioms card
end Go.Proofs.YtgiojkhmkeocfaaGreatDoor.normalCut
