/-
  For every text and whatever is ignored, of together at most 1048576 letters and values, the law CanonLines returns true and leaves its arguments as they were: a line is brought to its form, and tabs are replaced, as the plain reference does it. The conditions are the statement's own: that bound, and the library's listed tables hold what the program's text lays.
-/
import Derived.Test.YtdoennggmckldaaDoorCards
import Derived.Test.YtdoennggmckldaaDoorTie
import Derived.Test.YtdoennggmckldaaDoorCnEqual
import Derived.Test.YtdoennggmckldaaDoorCnOpen
import Derived.Test.YtdoennggmckldaaDoorCnTab
import Derived.Deep.DeepHandedRow
import Derived.Lib.LaidTab
import Derived.LaidSub
namespace Go.Proofs.YtdoennggmckldaaDoor.canonLines
open Go.ChangeShapes Go.WideShapes Go.ChangeAt Go.RowKit
open Go.ChangeMaps (open_string shut_string)
open Cn
attribute [local go_sem] ba_at ByteArray.extract_mk ba_cat
attribute [local simp] stay_drew

theorem short {H : Type} {s : ByteArray} {o : Ig} (hk : Rows.uptoSmall H [.lit (.string s.data.toList), igD o] = true) : s.data.toList.length ≤ 1048576 := by
  have h : Rows.uptoBulkAll [DataW.lit (H := H) (.string s.data.toList), igD o] ≤ 1048576 := of_decide_eq_true hk
  simp only [Rows.uptoBulkAll, Rows.uptoBulk] at h
  omega

set_option maxHeartbeats 1000000 in
theorem walk (l : List UInt8) (o : Ig) (w : World) (hl : l.length ≤ 1048576) :
    Calls Tryd.prog 3 #[.string ⟨l.toArray⟩, igV o] w fun e w' => e = .returned (.bool true) ∧ Below w.heap.size w w' := by
  have hl1 : l.length ≤ 137438953472 := by omega
  have hl2 : l.length ≤ 1099511627776 := by omega
  clear hl
  have hbx : Stay o w.heap.size w (w.alloc (.cells #[.bool o.sp, .bool o.wt, .bool o.bl, .bool o.cs, .bool o.tb, .bool o.tr] 23)) := ⟨Boxed.fresh o w, (Below.refl _ w).alloc (Nat.le_refl _) _⟩
  unfold igV
  go_enter Tryd.func3, Tryd.ntmps3
  go_wp2_with fail
  have hd := hbx.box.cells
  generalize w.alloc (.cells #[.bool o.sp, .bool o.wt, .bool o.bl, .bool o.cs, .bool o.tb, .bool o.tr] 23) = wb at hbx hd ⊢
  obtain ⟨d0, d1, d2, d3, d4, d5⟩ := hd
  go_region_held3 (fun w' => w'.cell? ⟨w.heap.size, 0, none⟩ = some (.bool o.sp) ∧ w'.cell? ⟨w.heap.size, 1, none⟩ = some (.bool o.wt) ∧ w'.cell? ⟨w.heap.size, 2, none⟩ = some (.bool o.bl) ∧ w'.cell? ⟨w.heap.size, 3, none⟩ = some (.bool o.cs) ∧ w'.cell? ⟨w.heap.size, 4, none⟩ = some (.bool o.tb) ∧ w'.cell? ⟨w.heap.size, 5, none⟩ = some (.bool o.tr) ∧ Stay o w.heap.size w w') (go_keep)
    (first
      | (go_at_call 7; refine (stayed (Canon_any l o _ hl1) o w.heap.size w (by first | assumption | (rw [stay_drew]; assumption))).mono ?_; rintro e w' ⟨rfl, e0, e1, e2, e3, e4, e5, hbS⟩)
      | (go_at_call 8; refine (stayed (refCanon_any l o _ hl1) o w.heap.size w (by first | assumption | (rw [stay_drew]; assumption))).mono ?_; rintro e w' ⟨rfl, e0, e1, e2, e3, e4, e5, hbS⟩)
      | (go_at_call 9; refine (stayed (Expand_any l _ hl2) o w.heap.size w (by first | assumption | (rw [stay_drew]; assumption))).mono ?_; rintro e w' ⟨rfl, e0, e1, e2, e3, e4, e5, hbS⟩)
      | (go_at_call 10; refine (stayed (refExpand_any l _ hl2) o w.heap.size w (by first | assumption | (rw [stay_drew]; assumption))).mono ?_; rintro e w' ⟨rfl, e0, e1, e2, e3, e4, e5, hbS⟩))
  all_goals go_wp2
  all_goals go_ret
  all_goals exact ⟨rfl, hbS.low⟩
theorem contract (H : Type) (enc : TypeId × Value → H) (W : World) (base : Nat) (args : Array Value) (ds gs : List (DataW H)) (before : List MemPlace)
    (hval : ∀ (j : Nat) t v, Tryd.f3.params[j]? = some t → args[j]? = some v → Value.okWide Tryd.prog W .any base t v)
    (hW : DataW.Whole enc Tryd.prog Tryd.f3.params.toList Rows.canonLinesSpec.vars false W args.toList ds gs before) (hk : Rows.uptoSmall H (ds ++ gs) = true) :
    Calls Tryd.prog 3 args W fun e W' => ∃ v, e = .returned v ∧ Rows.canonLinesSpec.post enc Tryd.prog Tryd.f3 false true false false W args v W' := by
  have hW' := hW
  obtain ⟨p, q, hA0, hV, rfl, hfz, hnd⟩ := hW
  have hA : DataW.TrodAll enc Tryd.prog W 0 (fun _ => true) true Tryd.f3.params.toList args.toList ds p := hA0
  rw [Tryd.params3] at hA hval
  obtain ⟨v0, vs0, d0, ds0, p0, q0, hargs, rfl, rfl, h0, r0⟩ := trodAll_cons hA
  obtain ⟨v1, vs1, d1, ds1, p1, q1, rfl, rfl, rfl, h1, r1⟩ := trodAll_cons r0
  obtain ⟨rfl, rfl, rfl⟩ := trodAll_nil r1
  obtain rfl : args = #[v0, v1] := by cases args; simp_all
  obtain ⟨rfl, rfl⟩ := trodVars_none hV
  obtain ⟨a0, rfl, rfl, rfl, w0⟩ := open_string Tryd.underlying9 (hval 0 9 v0 rfl rfl) h0
  obtain ⟨o, rfl, rfl, rfl⟩ := open_ig (hval 1 23 v1 rfl rfl) h1
  clear hA0
  simp only [List.append_nil] at hW' hk
  have s0 := short hk
  have hw := walk a0.data.toList o W s0
  refine hw.mono fun e W' ⟨he, hg⟩ => ?_
  subst he
  exact ⟨_, rfl, _, _, _, [], _, [], hW', trodAll_mk1 (shut_bool Tryd.underlying4 _), trodAll_cons_mk (shut_string Tryd.underlying9 w0) (trodAll_cons_mk (shut_ig o) trodAll_mk0), rfl, hg.frame _, fun h => by cases h⟩

theorem laid_met (os : Os) : laidMet Tryd.prog Rows.canonLinesUptoRow.laid ((laidOnU (World.holding Tryd.prog os ⟨#[], #[], []⟩)).forCall (fun _ _ => 0) ⟨#[], #[.string .empty, .agg #[.bool false, .bool false, .bool false, .bool false, .bool false, .bool false]], []⟩).memory :=
  laidMet_of_run' 8 (by kernel_rfl) (by kernel_rfl)
theorem reads (os : Os) {H : Type} (enc : TypeId × Value → H) : ∃ places, DataW.whole enc Tryd.prog ((laidOnU (World.holding Tryd.prog os ⟨#[], #[], []⟩)).forCall (fun _ _ => 0) ⟨#[], #[.string .empty, .agg #[.bool false, .bool false, .bool false, .bool false, .bool false, .bool false]], []⟩).memory Tryd.f3.params.toList Rows.canonLinesSpec.vars false #[Value.string .empty, Value.agg #[.bool false, .bool false, .bool false, .bool false, .bool false, .bool false]].toList 8 = some ([.lit (.string []), .agg [.lit (.bool false), .lit (.bool false), .lit (.bool false), .lit (.bool false), .lit (.bool false), .lit (.bool false)]], [], places) :=
  ⟨[], by kernel_rfl⟩

set_option maxRecDepth 100000 in
theorem lifted (os : Os) (started : os.Started) (H : Type) (enc : TypeId × Value → H) (F : Stop.Interp) :
    ReturnsInHanded {} Tryd.checked os 3 .any ((Rows.OpenSpec.upto Rows.canonLinesSpec).preRow enc Tryd.prog Tryd.f3 Rows.canonLinesUptoRow.domain false Rows.canonLinesUptoRow.laid) (((Rows.OpenSpec.upto Rows.canonLinesSpec).at F).post enc Tryd.prog Tryd.f3 false true false false) := by
  obtain ⟨places, hx⟩ := reads os enc
  refine returnsInHanded_of_row (C := Tryd.checked) (s := Rows.OpenSpec.upto Rows.canonLinesSpec) own started (by kernel_rfl) Tryd.func3
    (witness_row_at (enc := enc) (C := Tryd.checked) false (laidOnU (World.holding Tryd.prog os ⟨#[], #[], []⟩)) #[.string .empty, .agg #[.bool false, .bool false, .bool false, .bool false, .bool false, .bool false]] rfl (by kernel_rfl) (by kernel_rfl) (by kernel_rfl)
      (OpenSpec.preRow_of_cond 8 hx (by kernel_rfl) (fun k hk => by cases hk; kernel_rfl) (by kernel_rfl) (laid_met os))) ?_
  intro W base args ds gs before hval hW _ hcond _ _ _ _
  exact contract H enc W base args ds gs before hval hW (hcond _ rfl)

theorem said : Rows.CanonLinesUptoSaid :=
  OpenClaim.holds_of_cond 3 Tryd.f3 rfl rfl rfl rfl rfl rfl rfl ⟨rfl, rfl, rfl, rfl, rfl⟩ rfl rfl rfl rfl rfl (by kernel_rfl) Tryd.func3 (by kernel_rfl)
    (of_decide_eq_true (by kernel_rfl)) (by unfold Func.isWrapper; first | (rw [if_pos (by decide +kernel)]; kernel_rfl) | (rw [if_neg (by decide +kernel)]; exact ⟨rfl, rfl⟩))
    (fun os started H enc _ F => by rw [OpenClaim.pre_eq_preRow]; exact lifted os started H enc F)

theorem plain (f : FuncId) (fn : Func) (hf : Tryd.pinned.checked.prog.funcNamed "redline/redlinelaw03.CanonLines" = some f) (hfn : Tryd.pinned.checked.prog.funcs[f]? = some fn) :
    false = Tryd.pinned.checked.prog.looks [] ∧ ∀ (j : Nat) t, fn.params[j]? = some t → Tryd.pinned.checked.prog.wantsStandIn t = false := by
  obtain rfl : f = 3 := Option.some.inj ((show Tryd.prog.funcNamed "redline/redlinelaw03.CanonLines" = some 3 by kernel_rfl).symm.trans hf) |>.symm
  obtain rfl : fn = Tryd.f3 := (Option.some.inj (Tryd.func3.symm.trans hfn)).symm
  refine ⟨by kernel_rfl, fun j t ht => ?_⟩
  rw [Tryd.params3] at ht
  have hm : t = 9 ∨ t = 23 := by simpa using Array.mem_of_getElem? ht
  rcases hm with rfl | rfl
  · exact (show Tryd.prog.wantsStandIn 9 = false by kernel_rfl)
  · exact (show Tryd.prog.wantsStandIn 23 = false by kernel_rfl)

theorem card : Rows.CanonLinesUptoCardSaid :=
  Claim7.holds_tied_plain_at .later [] _ _ _ _ said (fun _ h => by cases h) (by kernel_rfl) (fun _ h => by cases h) canonLinesUpto_row_tie rfl ⟨rfl, rfl⟩ (by kernel_rfl) rfl plain (by kernel_rfl)
#print axioms card
end Go.Proofs.YtdoennggmckldaaDoor.canonLines
