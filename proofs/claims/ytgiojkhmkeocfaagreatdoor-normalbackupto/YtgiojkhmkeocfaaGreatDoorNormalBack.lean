/-
  For every number and every two texts of together at most 1048576 letters and values, the law NormalBack returns true and leaves its arguments as they were: what normal.Print writes of two texts, normal.Parse reads as their hunks without context, or refuses as too long; and these make the edit script again. The conditions are the statement's own bound and the card's: the library's tables hold what the program's text lays.
-/
import Derived.Test.YtgiojkhmkeocfaaGreatDoorCards
import Derived.Test.YtgiojkhmkeocfaaGreatDoorTie
import Derived.Test.YtgiojkhmkeocfaaGreatDoorNoalBA16
import Derived.Test.YtgiojkhmkeocfaaGreatDoorNoalBA18
import Derived.Test.YtgiojkhmkeocfaaGreatDoorNoalBA17
import Derived.Test.YtgiojkhmkeocfaaGreatDoorNoalBA4
import Derived.Test.YtgiojkhmkeocfaaGreatDoorNoalBA3
import Derived.Test.YtgiojkhmkeocfaaGreatDoorNoalBA12
import Derived.Test.YtgiojkhmkeocfaaGreatDoorNoalBA19
import Derived.Test.YtgiojkhmkeocfaaGreatDoorNoalBA8
import Derived.ProofKit
import Derived.OpenShut
import Derived.ShutString
import Derived.JoinedCond
import Derived.Deep.DeepHandedRow
import Derived.Lib.LaidTab
import Derived.LaidSub
set_option maxRecDepth 20000
namespace Go.Proofs.YtgiojkhmkeocfaaGreatDoor.normalBack
open Go.ChangeShapes Go.WideShapes Go.ChangeAt Go.RowKit
open Go.ChangeMaps (open_string shut_string)

set_option maxRecDepth 10000 in
set_option maxHeartbeats 16000000 in
theorem walk (k0 : Int) (s t : List UInt8) (w : World) (hl : s.length + t.length ≤ 1048576) (HTb0 : Tab10 w) (hE : ErrT w) :
    Calls Tryz.prog 3 #[.int .i64 k0, .string ⟨s.toArray⟩, .string ⟨t.toArray⟩] w fun e w' => e = .returned (.bool true) ∧ Below w.heap.size w w' := by
  have HTb : Hid (Tab10 w) := HTb0
  have HE : Hid (ErrT w) := hE
  clear HTb0 hE
  obtain ⟨x, hx⟩ : ∃ x, Ln.splitL s = x := ⟨_, rfl⟩
  obtain ⟨y, hy⟩ : ∃ y, Ln.splitL t = y := ⟨_, rfl⟩
  have HXs : Hid (Ln.splitL s = x) := hx
  have HYs : Hid (Ln.splitL t = y) := hy
  have HSx : Hid (∀ u ∈ x, u.length ≤ 1048576) := (by rw [← hx]; exact split_short (by omega))
  have HSy : Hid (∀ u ∈ y, u.length ≤ 1048576) := (by rw [← hy]; exact split_short (by omega))
  have hsx := fun w => nSplit_f s w (by omega)
  have hsy := fun w => nSplit_f t w (by omega)
  rw [hx] at hsx
  rw [hy] at hsy
  clear hx hy
  go_enter Tryz.func3, Tryz.ntmps3
  go_wp2_with fail
  refine (nworks_f w HTb).mono ?_
  rintro e w0 ⟨rfl, hB0⟩
  go_wp2_with fail
  refine (hsx w0).mono ?_
  rintro e w1 ⟨v1, rfl, hown1, hB1⟩
  have ha1 : HS w1 v1 x := holds_of hown1
  obtain ⟨ao, ac, rfl⟩ := Holds.form ha1
  clear hown1
  go_wp2_with fail
  refine (hsy w1).mono ?_
  rintro e w2 ⟨v2, rfl, hown2, hB2⟩
  have hb2 : HS w2 v2 y := holds_of hown2
  obtain ⟨bo, bc, rfl⟩ := Holds.form hb2
  have ha2 := HS.keep ha1 hB2 (Nat.le_refl _)
  have hB01 := hB0.trans (hB1.mono hB0.size)
  have hB02 := hB01.trans (hB2.mono hB01.size)
  clear hown2 hsx hsy ha1 hB0 hB1 hB2 hB01
  by_cases hsm : x.length ≤ 200 ∧ y.length ≤ 200
  · obtain ⟨hxl, hyl⟩ := hsm
    obtain ⟨K, hK, hkk⟩ := kind_of k0
    obtain ⟨L, hL⟩ : ∃ L, mkL (eng K (clx ig0 x y) (cly ig0 x y)) y.length = L := ⟨_, rfl⟩
    have HL : Hid (mkL (eng K (clx ig0 x y) (cly ig0 x y)) y.length = L) := hL
    have HBk : Hid (Bk s t L) := bk_of K s t (by rw [HXs.out]; exact hxl) (by rw [HYs.out]; exact hyl) (by rw [HXs.out, HYs.out]; exact hL)
    clear hL
    have i1 : ¬ (200 : Int) < (x.length : Int) := by omega
    have i2 : ¬ (200 : Int) < (y.length : Int) := by omega
    go_wp2_with fail
    rw [hK]
    clear hK
    refine (En_f K ig0 x y _ _ w2 ha2 hb2 hkk (by omega) (by omega) (fun u hu => Nat.le_trans (HSx.out u hu) (by omega)) (fun u hu => Nat.le_trans (HSy.out u hu) (by omega)) L HL).mono ?_
    rintro e w3 ⟨v3, rfl, hv3, hB3⟩
    obtain ⟨o3, c3, rfl⟩ := Holds.form hv3
    have hB03 := hB02.trans (hB3.mono hB02.size)
    have ha3 := HS.keep ha2 hB3 (Nat.le_refl _)
    have hb3 := HS.keep hb2 hB3 (Nat.le_refl _)
    have hbk := HBk.out
    obtain ⟨T, hT⟩ : ∃ T, prtT L x y = T := ⟨_, rfl⟩
    obtain ⟨M, hM⟩ : ∃ M, mkR L x y 0 = M := ⟨_, rfl⟩
    have hTl := hbk.len
    have hLl := hbk.few
    have hrd := hbk.rd
    have hord := hbk.ord
    have hchs := hbk.chs
    have htot := hbk.tot
    have hgrp := hbk.grp
    have hscr := hbk.scr
    rw [HXs.out, HYs.out] at hTl hrd hord hchs htot hgrp hscr
    rw [HXs.out] at hLl
    rw [hT] at hTl hrd
    rw [hM] at hord hchs htot hrd
    have HR : Hid (chk L x.length y.length = 0) := (by show _ = _; rw [← grpE_zero]; exact hgrp)
    have HT : Hid ((if (0 : Int) = 0 then prtT L x y else []) = T) := (by show _ = _; rw [if_pos rfl]; exact hT)
    have HM : Hid (mkR L x y 0 = M) := hM
    have HGP : Hid (grpE L x.length y.length 0 = 0) := hgrp
    have HOR : Hid (ordH M = 0) := hord
    have HCH : Hid (chR M = L) := hchs
    have HSC : Hid (Script L x.length y.length) := hscr
    have HRD : Hid (prsT T = if 1048576 < T.length then .error (0, 9) else .ok M) := hrd
    have HTT : Hid (tot M ≤ 1099511627776) := htot
    have HTb3 : Hid (Tab10 w3) := HTb.out.on hB03
    clear hbk hT hM hrd hord hchs htot hgrp hscr hB02 hB3 ha2 hb2 i1 i2
    go_wp2_with fail
    refine (nPrint_f L _ _ _ x y w3 hv3 ha3 hb3 (by omega) (by omega) (by omega) (fun u hu => Nat.le_trans (HSx.out u hu) (by omega)) (fun u hu => Nat.le_trans (HSy.out u hu) (by omega)) HTb3 0 HR T HT (by omega)).mono ?_
    rintro e w4 ⟨rfl, hB4⟩
    have hB04 := hB03.trans (hB4.mono hB03.size)
    have ha4 := HS.keep ha3 hB4 (Nat.le_refl _)
    have hb4 := HS.keep hb3 hB4 (Nat.le_refl _)
    have hv4 := HCh.keep hv3 hB4 (Nat.le_refl _)
    clear hv3 ha3 hb3 hB4 hB03 HTb3 HT HR
    by_cases hlong : 1048576 < T.length
    · have HX : Hid (prsT T = .error (0, 9)) := (by show _ = _; rw [HRD.out, if_pos hlong])
      have i1 : (1048576 : Int) < (T.length : Int) := by omega
      go_wp2_with fail
      refine (nPars_f T w4 (by omega) _ HX).mono ?_
      rintro e w5 ⟨g, rfl, hg5, hB5⟩
      have hB05 := hB04.trans (hB5.mono hB04.size)
      have ha5 := HS.keep ha4 hB5 (Nat.le_refl _)
      have hb5 := HS.keep hb4 hB5 (Nat.le_refl _)
      have hv5 := HCh.keep hv4 hB5 (Nat.le_refl _)
      clear ha4 hb4 hv4 hB5 hB04
      go_wp2_with fail
      refine (hMake_f L x y 0 _ _ _ w5 hv5 ha5 hb5 (by omega) (by omega) (by omega) 0 HGP M HM).mono ?_
      rintro e w6 ⟨v6, P, rfl, hP, hPm⟩
      obtain ⟨o6, c6, rfl⟩ := (holds_of hP.own).form
      have hB6 := hP.low
      have hB06 := hB05.trans (hB6.mono hB05.size)
      have hg6 := (hB6.block g (Array.getElem?_eq_some_iff.1 hg5).1).trans hg5
      have hE6 := HE.out.low hB06 (Nat.le_refl _)
      clear ha5 hb5 hv5 hP hPm hB6 hB05 hg5
      go_wp2_with fail
      refine (seen_flt g 0 9 w6 hE6 hg6).mono ?_
      rintro e w7 ⟨rfl, hB7⟩
      have hB07 := hB06.trans (hB7.mono hB06.size)
      clear hE6 hg6 hB7 hB06
      go_wp2
      go_ret
      exact ⟨ret_bool (by simp), hB07⟩
    · have HX : Hid (prsT T = .ok M) := (by show _ = _; rw [HRD.out, if_neg hlong])
      have i1 : ¬ (1048576 : Int) < (T.length : Int) := by omega
      go_wp2_with fail
      refine (nPars_f T w4 (by omega) _ HX).mono ?_
      rintro e w5 ⟨v5, P5, rfl, hP5, hPm5⟩
      obtain ⟨o5, c5, rfl⟩ := (holds_of hP5.own).form
      have hB5 := hP5.low
      have hh5 := hP5.holds
      have hB05 := hB04.trans (hB5.mono hB04.size)
      have ha5 := HS.keep ha4 hB5 (Nat.le_refl _)
      have hb5 := HS.keep hb4 hB5 (Nat.le_refl _)
      have hv5 := HCh.keep hv4 hB5 (Nat.le_refl _)
      have HP5 : Hid (P5.map (·.1) = M) := hPm5
      clear ha4 hb4 hv4 hB5 hB04 hP5 hPm5
      go_wp2_with fail
      refine (hMake_f L x y 0 _ _ _ w5 hv5 ha5 hb5 (by omega) (by omega) (by omega) 0 HGP M HM).mono ?_
      rintro e w6 ⟨v6, P, rfl, hP, hPm⟩
      obtain ⟨o6, c6, rfl⟩ := (holds_of hP.own).form
      have hB6 := hP.low
      have hB06 := hB05.trans (hB6.mono hB05.size)
      have hh6 := hP.holds
      have hh56 := hh5.keep hB6 (Nat.le_refl _)
      have HPM : Hid (P.map (·.1) = M) := hPm
      have hok : HOk P5 := made_ok (ctx := 0) HSC.out (by omega) (by omega) (by omega) (fun u hu => Nat.le_trans (HSx.out u hu) (by omega)) (fun u hu => Nat.le_trans (HSy.out u hu) (by omega)) (by rw [HP5.out, HM.out])
      have HOK : Hid (HOk P5) := hok
      clear ha5 hb5 hv5 hP hPm hB6 hB05 hh5 hok
      go_wp2_with fail
      refine (rSameHunks_f P5 P _ _ w6 hh56 hh6 (by rw [HP5.out, HPM.out]) HOK.out).mono ?_
      rintro e w7 ⟨rfl, hB7⟩
      have hB07 := hB06.trans (hB7.mono hB06.size)
      have hh7 := hh56.keep hB7 (Nat.le_refl _)
      clear hh6 hh56 hB7 hB06
      have HOR2 : Hid (ordH (P5.map (·.1)) = 0) := (by show _ = _; rw [HP5.out]; exact HOR.out)
      have HCH2 : Hid (chR (P5.map (·.1)) = L) := (by show _ = _; rw [HP5.out]; exact HCH.out)
      go_wp2_with fail
      refine (hChanges_f P5 _ w7 hh7 HOK.out (by rw [HP5.out]; exact HTT.out) 0 HOR2 L HCH2).mono ?_
      rintro e w8 ⟨v8, rfl, hv8, hB8⟩
      obtain ⟨o8, c8, rfl⟩ := Holds.form hv8
      have hB08 := hB07.trans (hB8.mono hB07.size)
      clear hh7 hB8 hB07 hv8
      have hN : ((L.length : Int) == 0) = (s == t) := (by
        rw [Bool.eq_iff_iff, beq_iff_eq, beq_iff_eq, ← HBk.out.nil]
        constructor
        · intro h
          exact List.eq_nil_of_length_eq_zero (by omega)
        · rintro rfl
          rfl)
      go_wp2
      go_ret
      exact ⟨ret_bool (by simp), hB08⟩
  · have i1 : (decide ((200 : Int) < (x.length : Int)) || decide ((200 : Int) < (y.length : Int))) = true := (by
      rw [Bool.or_eq_true, decide_eq_true_eq, decide_eq_true_eq]
      omega)
    by_cases h1 : (200 : Int) < (x.length : Int)
    · go_wp2
      go_ret
      exact ⟨rfl, hB02⟩
    · have h2 : (200 : Int) < (y.length : Int) := by omega
      go_wp2
      go_ret
      exact ⟨rfl, hB02⟩

set_option maxRecDepth 100000 in
theorem contract (H : Type) (enc : TypeId × Value → H) (W : World) (base : Nat) (args : Array Value) (ds gs : List (DataW H)) (before : List MemPlace)
    (hval : ∀ (j : Nat) t v, Tryz.f3.params[j]? = some t → args[j]? = some v → Value.okWide Tryz.prog W .any base t v)
    (hW : DataW.Whole enc Tryz.prog Tryz.f3.params.toList Rows.normalBackSpec.vars false W args.toList ds gs before) (hL : laidMetH Tryz.prog Rows.normalBackUptoRow.laid W) (hk : Rows.uptoSmall H (ds ++ gs) = true) :
    Calls Tryz.prog 3 args W fun e W' => ∃ v, e = .returned v ∧ Rows.normalBackSpec.post enc Tryz.prog Tryz.f3 false true false false W args v W' := by
  have hW' := hW
  obtain ⟨p, q, hA0, hV, rfl, hfz, hnd⟩ := hW
  have hA : DataW.TrodAll enc Tryz.prog W 0 (fun _ => true) true Tryz.f3.params.toList args.toList ds p := hA0
  rw [Tryz.params3] at hA hval
  obtain ⟨v0, vs0, d0, ds0, p0, q0, hargs, rfl, rfl, h0, r0⟩ := trodAll_cons hA
  obtain ⟨v1, vs1, d1, ds1, p1, q1, rfl, rfl, rfl, h1, r1⟩ := trodAll_cons r0
  obtain ⟨v2, vs2, d2, ds2, p2, q2, rfl, rfl, rfl, h2, r2⟩ := trodAll_cons r1
  obtain ⟨rfl, rfl, rfl⟩ := trodAll_nil r2
  obtain rfl : args = #[v0, v1, v2] := by cases args; simp_all
  obtain ⟨rfl, rfl⟩ := trodVars_none hV
  obtain ⟨n0, rfl, rfl, rfl, wn0⟩ := open_int Tryz.underlying3 (hval 0 3 v0 rfl rfl) h0
  obtain ⟨a1, rfl, rfl, rfl, wt1⟩ := open_string Tryz.underlying9 (hval 1 9 v1 rfl rfl) h1
  obtain ⟨a2, rfl, rfl, rfl, wt2⟩ := open_string Tryz.underlying9 (hval 2 9 v2 rfl rfl) h2
  clear hA0
  simp only [List.append_nil] at hk
  have hbk : Rows.uptoBulkAll [.lit (.int .i64 n0), .lit (.string a1.data.toList), .lit (.string a2.data.toList)] ≤ 1048576 := of_decide_eq_true hk
  simp only [Rows.uptoBulkAll] at hbk
  have ht := Tb.tab_of Rows.normalBackUptoRow.laid rfl hL
  have hw := walk n0 a1.data.toList a2.data.toList  W (by simp only [Rows.uptoBulk] at hbk; omega) (fun u hu => var?_below hu Tb.gTab (Tb.tab_lt ht) ht) (Et.met Rows.normalBackUptoRow.laid rfl hL)
  refine hw.mono fun e W' ⟨he, bel⟩ => ?_
  subst he
  exact ⟨_, rfl, _, _, _, [], _, [], hW', trodAll_mk1 (shut_bool Tryz.underlying4 _), trodAll_cons_mk (shut_int Tryz.underlying3 wn0) (trodAll_cons_mk (shut_string Tryz.underlying9 wt1) (trodAll_cons_mk (shut_string Tryz.underlying9 wt2) trodAll_mk0)), rfl, bel.frame _, fun h => by cases h⟩

theorem laid_met (os : Os) : laidMetH Tryz.prog Rows.normalBackUptoRow.laid ((Tt.laidOn (World.holding Tryz.prog os ⟨#[], #[], []⟩)).forCall (fun _ _ => 0) ⟨#[], #[.int .i64 0, .string .empty, .string .empty], []⟩).memory :=
  laidMetH_of_parts (laidMet_of_run' 8 (by kernel_rfl) (by kernel_rfl)) (by kernel_rfl)
theorem reads (os : Os) {H : Type} (enc : TypeId × Value → H) : ∃ places, DataW.whole enc Tryz.prog ((Tt.laidOn (World.holding Tryz.prog os ⟨#[], #[], []⟩)).forCall (fun _ _ => 0) ⟨#[], #[.int .i64 0, .string .empty, .string .empty], []⟩).memory Tryz.f3.params.toList Rows.normalBackSpec.vars false #[Value.int .i64 0, Value.string .empty, Value.string .empty].toList 8 = some ([.lit (.int .i64 0), .lit (.string []), .lit (.string [])], [], places) :=
  ⟨[], by kernel_rfl⟩

set_option maxRecDepth 100000 in
theorem lifted (os : Os) (started : os.Started) (H : Type) (enc : TypeId × Value → H) (F : Stop.Interp) :
    ReturnsInHanded {} Tryz.checked os 3 .any ((Rows.OpenSpec.upto Rows.normalBackSpec).preRow enc Tryz.prog Tryz.f3 Rows.normalBackUptoRow.domain false Rows.normalBackUptoRow.laid) (((Rows.OpenSpec.upto Rows.normalBackSpec).at F).post enc Tryz.prog Tryz.f3 false true false false) := by
  obtain ⟨places, hx⟩ := reads os enc
  refine returnsInHanded_of_row (C := Tryz.checked) (s := Rows.OpenSpec.upto Rows.normalBackSpec) own started (by kernel_rfl) Tryz.func3
    (witness_row_at (enc := enc) (C := Tryz.checked) false (Tt.laidOn (World.holding Tryz.prog os ⟨#[], #[], []⟩)) #[.int .i64 0, .string .empty, .string .empty] rfl (by kernel_rfl) (by kernel_rfl) (by kernel_rfl)
      (OpenSpec.preRow_of_cond 8 hx (by kernel_rfl) (fun k hk => by cases hk; kernel_rfl) (by kernel_rfl) (laid_met os))) ?_
  intro W base args ds gs before hval hW _ hcond _ hL _ _
  exact contract H enc W base args ds gs before hval hW hL (hcond _ rfl)

set_option maxHeartbeats 4000000 in
theorem said : Rows.NormalBackUptoSaid :=
  OpenClaim.holds_of_cond 3 Tryz.f3 rfl rfl rfl rfl rfl rfl rfl ⟨rfl, rfl, rfl, rfl, rfl⟩ rfl rfl rfl rfl rfl (by kernel_rfl) Tryz.func3 (by simp only [joinedFacts, Bool.and_eq_true]; (repeat' apply And.intro) <;> as_aux_lemma => kernel_rfl)
    (of_decide_eq_true (by kernel_rfl)) (by unfold Func.isWrapper; first | (rw [if_pos (by decide +kernel)]; kernel_rfl) | (rw [if_neg (by decide +kernel)]; exact ⟨rfl, rfl⟩))
    (fun os started H enc _ F => by rw [OpenClaim.pre_eq_preRow]; exact lifted os started H enc F)

theorem plain (f : FuncId) (fn : Func) (hf : Tryz.pinned.checked.prog.funcNamed "redline/redlinelaw12.NormalBack" = some f) (hfn : Tryz.pinned.checked.prog.funcs[f]? = some fn) :
    true = Tryz.pinned.checked.prog.looks [] ∧ ∀ (j : Nat) t, fn.params[j]? = some t → Tryz.pinned.checked.prog.wantsStandIn t = false := by
  obtain rfl : f = 3 := Option.some.inj ((show Tryz.prog.funcNamed "redline/redlinelaw12.NormalBack" = some 3 by kernel_rfl).symm.trans hf) |>.symm
  obtain rfl : fn = Tryz.f3 := (Option.some.inj (Tryz.func3.symm.trans hfn)).symm
  refine ⟨by kernel_rfl, fun j t ht => ?_⟩
  rw [Tryz.params3] at ht
  have hm : t = 3 ∨ t = 9 ∨ t = 9 := by simpa using Array.mem_of_getElem? ht
  rcases hm with rfl | rfl | rfl
  · exact (show Tryz.prog.wantsStandIn 3 = false by kernel_rfl)
  · exact (show Tryz.prog.wantsStandIn 9 = false by kernel_rfl)
  · exact (show Tryz.prog.wantsStandIn 9 = false by kernel_rfl)

theorem card : Rows.NormalBackUptoCardSaid :=
  Claim7.holds_tied_plain_at .later [] _ _ _ _ said (fun _ h => by cases h) (by kernel_rfl) (fun _ h => by cases h) normalBackUpto_row_tie rfl ⟨rfl, rfl⟩ (by kernel_rfl) rfl plain (by kernel_rfl)
#print axioms card
end Go.Proofs.YtgiojkhmkeocfaaGreatDoor.normalBack
