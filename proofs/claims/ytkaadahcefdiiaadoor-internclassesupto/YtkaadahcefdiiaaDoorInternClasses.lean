/-
  For all lists of lines a and b, and whatever is ignored, of together at most 1048576 letters and values, the law InternClasses returns true and leaves its arguments as they were: the lines of two texts get the numbers that the plain reference tells, and the lists stay as they are. The conditions are the statement's own: that bound, and the library's listed tables hold what the program's text lays.
-/
import Derived.Test.YtkaadahcefdiiaaDoorItRefAll
import Derived.Test.YtkaadahcefdiiaaDoorItOpen
namespace Go.Proofs.YtkaadahcefdiiaaDoor.internClasses
open Go.ChangeShapes Go.WideShapes Go.ChangeAt Go.RowKit
open Cn It
attribute [local go_sem] ba_at ByteArray.extract_mk ba_cat

set_option maxRecDepth 10000 in
set_option maxHeartbeats 2000000 in
theorem walk (la lb : List (List UInt8)) (o : Ig) (va vb : Value) (w : World) (hla : Hid (∀ a ∈ la, a.length ≤ 137438953472)) (hlb : Hid (∀ a ∈ lb, a.length ≤ 137438953472)) (ha : Holds w va (scells la)) (hb : Holds w vb (scells lb)) :
    Calls Tryd.prog 3 #[va, vb, igV o] w fun e w' => e = .returned (.bool true) ∧ Below w.heap.size w w' := by
  obtain ⟨ao, ca, hva⟩ := ha.form
  obtain ⟨bo, cb, hvb⟩ := hb.form
  rw [scells_length] at hva hvb
  subst hva hvb
  have hbx : Stay o w.heap.size w (w.alloc (.cells #[.bool o.sp, .bool o.wt, .bool o.bl, .bool o.cs, .bool o.tb, .bool o.tr] 24)) := ⟨Boxed.fresh o w, (Below.refl _ w).alloc (Nat.le_refl _) _⟩
  by_cases h1 : (300 : Int) < la.length
  · unfold igV
    go_enter Tryd.func3, Tryd.ntmps3
    go_wp2
    go_ret
    exact ⟨rfl, hbx.low⟩
  by_cases h2 : (300 : Int) < lb.length
  · unfold igV
    go_enter Tryd.func3, Tryd.ntmps3
    go_wp2
    go_ret
    exact ⟨rfl, hbx.low⟩
  unfold igV
  go_enter Tryd.func3, Tryd.ntmps3
  go_wp2_with (at_builtin; refine wpList_append_holds _ rfl (.tmp 23) (.tmp 24) 22 9 (.string ⟨#[]⟩) 16 Tryd.underlying22 infoStr rfl (by decide) rfl w.heap.size _ 0 [] rfl (nil_row_new _ _ _ (by simp) (by omega)) _ (scells la) rfl ?hold1 (scells_one la) ?len1 ?base1 ?_)
  case hold1 => exact ha.keep ((hbx.low.alloc hbx.low.size _).block)
  case len1 => rw [scells_length]; omega
  case base1 => omega
  intro v1 w1 hown1 hgrow1
  have hS1 : Stay o w.heap.size w w1 := by
    have hb1 : But (fun k => k = w.heap.size + 1) (w.alloc (.cells #[.bool o.sp, .bool o.wt, .bool o.bl, .bool o.cs, .bool o.tb, .bool o.tr] 24)) w1 := .of_grown ((World.grownBy_alloc _ _ _).trans hgrow1) (fun k e => by cases e; rfl)
    refine ⟨(hb1.block w.heap.size (by simp) (by omega)).trans hbx.box, hb1.below hbx.low hbx.low.size (fun k e => by omega)⟩
  rw [scells_length] at hown1
  have hsz1 := hS1.low.size
  clear hgrow1 hbx
  go_wp2_with (at_builtin; refine wpList_append_holds _ rfl (.tmp 26) (.tmp 27) 22 9 (.string ⟨#[]⟩) 16 Tryd.underlying22 infoStr rfl (by decide) rfl w1.heap.size _ 0 [] rfl (nil_row_new _ _ _ rfl (by omega)) _ (scells lb) rfl ?hold2 (scells_one lb) ?len2 ?base2 ?_)
  case hold2 => exact hb.keep ((hS1.low.alloc hsz1 _).block)
  case len2 => rw [scells_length]; omega
  case base2 => simp
  intro v2 w2 hown2 hgrow2
  have hB2 : Below w1.heap.size w1 w2 := (But.of_grown (S := fun k => k = w1.heap.size) ((World.grownBy_alloc _ _ _).trans hgrow2) (fun k e => by cases e; rfl)).below (Below.refl _ w1) (Nat.le_refl _) (fun k e => by omega)
  have hS2 := hS1.keep hB2
  rw [scells_length] at hown2
  have hc2 := (holds_of hown1).keep hB2.block
  have hd2 := holds_of hown2
  obtain ⟨co, n1, c1, rfl⟩ : ∃ a n c, v1 = .slice a n c := by
    obtain ⟨a, c, h⟩ := hc2.form
    exact ⟨a, _, c, h⟩
  obtain ⟨do_, n2, c2, rfl⟩ : ∃ a n c, v2 = .slice a n c := by
    obtain ⟨a, c, h⟩ := hd2.form
    exact ⟨a, _, c, h⟩
  have hsz2 := hS2.low.size
  clear hgrow2 hown1 hown2 hB2 hS1 hsz1
  obtain ⟨d0, d1, d2, d3, d4, d5⟩ := hS2.box.cells
  go_wp2_with fail
  refine (Classes_any la lb o _ _ w2 hla.out hlb.out (by omega) hc2 hd2).mono ?_
  rintro e w3 ⟨vx, vy, rfl, hx, hy, hB3⟩
  clear d0 d1 d2 d3 d4 d5
  have hS3 := hS2.keep hB3
  have hc3 := hc2.keep hB3.block
  have hd3 := hd2.keep hB3.block
  clear hc2 hd2 hS2 hB3
  obtain ⟨d0, d1, d2, d3, d4, d5⟩ := hS3.box.cells
  generalize hnn : (adds [] (la.map (canonL o) ++ lb.map (canonL o))).length = nn
  go_wp2_with fail
  refine (rClasses_any la lb o _ _ w3 hla.out hlb.out (by omega) (ha.keep hS3.low.block) (hb.keep hS3.low.block)).mono ?_
  rintro e w4 ⟨ux, uy, rfl, hu, hv, hB4⟩
  rw [hnn]
  clear d0 d1 d2 d3 d4 d5
  have hS4 := hS3.keep hB4
  have hc4 := hc3.keep hB4.block
  have hd4 := hd3.keep hB4.block
  have hx4 := hx.keep hB4.block
  have hy4 := hy.keep hB4.block
  have ha4 := ha.keep hS4.low.block
  have hb4 := hb.keep hS4.low.block
  clear hc3 hd3 hS3 hB4 hx hy hnn
  go_wp2_with fail
  refine (SameI_low vx ux _ w4 (by rw [nums_length, List.length_map]; omega) hx4 hu).mono ?_
  rintro e w5 ⟨rfl, hB5⟩
  have hS5 := hS4.keep hB5
  have hy5 := hy4.keep hB5.block
  have hv5 := hv.keep hB5.block
  go_wp2_with fail
  refine (SameI_low vy uy _ w5 (by rw [nums_length, List.length_map]; omega) hy5 hv5).mono ?_
  rintro e w6 ⟨rfl, hB6⟩
  have hS6 := hS5.keep hB6
  have hc6 := (hc4.keep hB5.block).keep hB6.block
  have ha6 := (ha4.keep hB5.block).keep hB6.block
  go_wp2_with fail
  refine (SameS_low _ _ la w6 (by omega) ha6 hc6).mono ?_
  rintro e w7 ⟨rfl, hB7⟩
  have hS7 := hS6.keep hB7
  have hd7 := ((hd4.keep hB5.block).keep hB6.block).keep hB7.block
  have hb7 := ((hb4.keep hB5.block).keep hB6.block).keep hB7.block
  go_wp2_with fail
  refine (SameS_low _ _ lb w7 (by omega) hb7 hd7).mono ?_
  rintro e w8 ⟨rfl, hB8⟩
  have hS8 := hS7.keep hB8
  go_wp2
  go_ret
  exact ⟨rfl, hS8.low⟩

theorem contract (H : Type) (enc : TypeId × Value → H) (W : World) (base : Nat) (args : Array Value) (ds gs : List (DataW H)) (before : List MemPlace)
    (hval : ∀ (j : Nat) t v, Tryd.f3.params[j]? = some t → args[j]? = some v → Value.okWide Tryd.prog W .any base t v)
    (hW : DataW.Whole enc Tryd.prog Tryd.f3.params.toList Rows.internClassesSpec.vars false W args.toList ds gs before) (hk : Rows.uptoSmall H (ds ++ gs) = true) :
    Calls Tryd.prog 3 args W fun e W' => ∃ v, e = .returned v ∧ Rows.internClassesSpec.post enc Tryd.prog Tryd.f3 false true false false W args v W' := by
  have hW' := hW
  obtain ⟨p, q, hA0, hV, rfl, hfz, hnd⟩ := hW
  have hA : DataW.TrodAll enc Tryd.prog W 0 (fun _ => true) true Tryd.f3.params.toList args.toList ds p := hA0
  rw [Tryd.params3] at hA hval
  obtain ⟨v0, vs0, d0, ds0, p0, q0, hargs, rfl, rfl, h0, r0⟩ := trodAll_cons hA
  obtain ⟨v1, vs1, d1, ds1, p1, q1, rfl, rfl, rfl, h1, r1⟩ := trodAll_cons r0
  obtain ⟨v2, vs2, d2, ds2, p2, q2, rfl, rfl, rfl, h2, r2⟩ := trodAll_cons r1
  obtain ⟨rfl, rfl, rfl⟩ := trodAll_nil r2
  obtain rfl : args = #[v0, v1, v2] := by cases args; simp_all
  obtain ⟨rfl, rfl⟩ := trodVars_none hV
  obtain ⟨a0, len0, cap0, rfl⟩ := okWide_slice Tryd.underlying22 (hval 0 22 v0 rfl rfl)
  have k0 := h0
  have lt0 : ∀ x ∈ p0, x.block < W.heap.size := by obtain ⟨m, hm⟩ := k0; exact DataW.trod_lt m _ _ _ hm
  obtain ⟨a1, len1, cap1, rfl⟩ := okWide_slice Tryd.underlying22 (hval 1 22 v1 rfl rfl)
  have k1 := h1
  have lt1 : ∀ x ∈ p1, x.block < W.heap.size := by obtain ⟨m, hm⟩ := k1; exact DataW.trod_lt m _ _ _ hm
  clear hA0
  simp only [List.append_nil] at hk
  have hbk : Rows.uptoBulkAll [d0, d1, d2] ≤ 1048576 := of_decide_eq_true hk
  simp only [Rows.uptoBulkAll] at hbk
  obtain ⟨f0, hf0⟩ := h0
  obtain ⟨ws0, hv0, hwl0⟩ := open_texts (by simpa [Value.cells] using hf0)
  have he0 : ∀ a ∈ ws0, a.length ≤ 137438953472 := fun a ha => by have := each_le a ha; omega
  obtain ⟨f1, hf1⟩ := h1
  obtain ⟨ws1, hv1, hwl1⟩ := open_texts (by simpa [Value.cells] using hf1)
  have he1 : ∀ a ∈ ws1, a.length ≤ 137438953472 := fun a ha => by have := each_le a ha; omega
  obtain ⟨o, rfl, rfl, rfl⟩ := open_ig (hval 2 24 v2 rfl rfl) h2
  have hw := walk ws0 ws1 o (.slice a0 len0 cap0) (.slice a1 len1 cap1) W he0 he1 hv0 hv1
  refine hw.mono fun e W' ⟨he, bel⟩ => ?_
  subst he
  exact ⟨_, rfl, _, _, _, [], _, [], hW', trodAll_mk1 (shut_bool Tryd.underlying4 _), trodAll_cons_mk (Below.trod laidOut (by kernel_rfl) (of_decide_eq_true (by kernel_rfl)) k0 bel lt0) (trodAll_cons_mk (Below.trod laidOut (by kernel_rfl) (of_decide_eq_true (by kernel_rfl)) k1 bel lt1) (trodAll_cons_mk (shut_ig o) trodAll_mk0)), rfl, bel.frame _, fun h => by cases h⟩

theorem laid_met (os : Os) : laidMet Tryd.prog Rows.internClassesUptoRow.laid ((laidOnU (World.holding Tryd.prog os ⟨#[], #[], []⟩)).forCall (fun _ _ => 0) ⟨#[], #[.slice none 0 0, .slice none 0 0, .agg #[.bool false, .bool false, .bool false, .bool false, .bool false, .bool false]], []⟩).memory :=
  laidMet_of_run' 8 (by kernel_rfl) (by kernel_rfl)
theorem reads (os : Os) {H : Type} (enc : TypeId × Value → H) : ∃ places, DataW.whole enc Tryd.prog ((laidOnU (World.holding Tryd.prog os ⟨#[], #[], []⟩)).forCall (fun _ _ => 0) ⟨#[], #[.slice none 0 0, .slice none 0 0, .agg #[.bool false, .bool false, .bool false, .bool false, .bool false, .bool false]], []⟩).memory Tryd.f3.params.toList Rows.internClassesSpec.vars false #[Value.slice none 0 0, Value.slice none 0 0, Value.agg #[.bool false, .bool false, .bool false, .bool false, .bool false, .bool false]].toList 8 = some ([.nil, .nil, .agg [.lit (.bool false), .lit (.bool false), .lit (.bool false), .lit (.bool false), .lit (.bool false), .lit (.bool false)]], [], places) :=
  ⟨[], by kernel_rfl⟩

set_option maxRecDepth 100000 in
theorem lifted (os : Os) (started : os.Started) (H : Type) (enc : TypeId × Value → H) (F : Stop.Interp) :
    ReturnsInHanded {} Tryd.checked os 3 .any ((Rows.OpenSpec.upto Rows.internClassesSpec).preRow enc Tryd.prog Tryd.f3 Rows.internClassesUptoRow.domain false Rows.internClassesUptoRow.laid) (((Rows.OpenSpec.upto Rows.internClassesSpec).at F).post enc Tryd.prog Tryd.f3 false true false false) := by
  obtain ⟨places, hx⟩ := reads os enc
  refine returnsInHanded_of_row (C := Tryd.checked) (s := Rows.OpenSpec.upto Rows.internClassesSpec) own started (by kernel_rfl) Tryd.func3
    (witness_row_at (enc := enc) (C := Tryd.checked) false (laidOnU (World.holding Tryd.prog os ⟨#[], #[], []⟩)) #[.slice none 0 0, .slice none 0 0, .agg #[.bool false, .bool false, .bool false, .bool false, .bool false, .bool false]] rfl (by kernel_rfl) (by kernel_rfl) (by kernel_rfl)
      (OpenSpec.preRow_of_cond 8 hx (by kernel_rfl) (fun k hk => by cases hk; kernel_rfl) (by kernel_rfl) (laid_met os))) ?_
  intro W base args ds gs before hval hW _ hcond _ _ _ _
  exact contract H enc W base args ds gs before hval hW (hcond _ rfl)

theorem said : Rows.InternClassesUptoSaid :=
  OpenClaim.holds_of_cond 3 Tryd.f3 rfl rfl rfl rfl rfl rfl rfl ⟨rfl, rfl, rfl, rfl, rfl⟩ rfl rfl rfl rfl rfl (by kernel_rfl) Tryd.func3 (by kernel_rfl)
    (of_decide_eq_true (by kernel_rfl)) (by unfold Func.isWrapper; first | (rw [if_pos (by decide +kernel)]; kernel_rfl) | (rw [if_neg (by decide +kernel)]; exact ⟨rfl, rfl⟩))
    (fun os started H enc _ F => by rw [OpenClaim.pre_eq_preRow]; exact lifted os started H enc F)

theorem plain (f : FuncId) (fn : Func) (hf : Tryd.pinned.checked.prog.funcNamed "redline/redlinelaw04.InternClasses" = some f) (hfn : Tryd.pinned.checked.prog.funcs[f]? = some fn) :
    false = Tryd.pinned.checked.prog.looks [] ∧ ∀ (j : Nat) t, fn.params[j]? = some t → Tryd.pinned.checked.prog.wantsStandIn t = false := by
  obtain rfl : f = 3 := Option.some.inj ((show Tryd.prog.funcNamed "redline/redlinelaw04.InternClasses" = some 3 by kernel_rfl).symm.trans hf) |>.symm
  obtain rfl : fn = Tryd.f3 := (Option.some.inj (Tryd.func3.symm.trans hfn)).symm
  refine ⟨by kernel_rfl, fun j t ht => ?_⟩
  rw [Tryd.params3] at ht
  have hm : t = 22 ∨ t = 22 ∨ t = 24 := by simpa using Array.mem_of_getElem? ht
  rcases hm with rfl | rfl | rfl
  · exact (show Tryd.prog.wantsStandIn 22 = false by kernel_rfl)
  · exact (show Tryd.prog.wantsStandIn 22 = false by kernel_rfl)
  · exact (show Tryd.prog.wantsStandIn 24 = false by kernel_rfl)

theorem card : Rows.InternClassesUptoCardSaid :=
  Claim7.holds_tied_plain_at .later [] _ _ _ _ said (fun _ h => by cases h) (by kernel_rfl) (fun _ h => by cases h) internClassesUpto_row_tie rfl ⟨rfl, rfl⟩ (by kernel_rfl) rfl plain (by kernel_rfl)
#print axioms card
end Go.Proofs.YtkaadahcefdiiaaDoor.internClasses
