/-
  For all lists of lines a and b, and whatever is ignored, of together at most 1048576 letters and values, the law InternGrows returns true and leaves its arguments as they were: the lines of two texts get the numbers that they get as one text; lines that are shown again change nothing. The conditions are the statement's own: that bound, and the library's listed tables hold what the program's text lays.
-/
import Derived.Test.YtkaadahcefdiiaaDoorItCat
namespace Go.Proofs.YtkaadahcefdiiaaDoor.internGrows
open Go.ChangeShapes Go.WideShapes Go.ChangeAt Go.RowKit
open Cn It
attribute [local go_sem] ba_at ByteArray.extract_mk ba_cat

set_option maxRecDepth 10000 in
set_option maxHeartbeats 4000000 in
theorem walk (la lb : List (List UInt8)) (o : Ig) (va vb : Value) (w : World) (hla : Hid (∀ a ∈ la, a.length ≤ 137438953472)) (hlb : Hid (∀ a ∈ lb, a.length ≤ 137438953472)) (ha : Holds w va (scells la)) (hb : Holds w vb (scells lb)) :
    Calls Tryd.prog 6 #[va, vb, igV o] w fun e w' => e = .returned (.bool true) ∧ Below w.heap.size w w' := by
  obtain ⟨ao, ca, hva⟩ := ha.form
  obtain ⟨bo, cb, hvb⟩ := hb.form
  rw [scells_length] at hva hvb
  subst hva hvb
  have hbx : Stay o w.heap.size w (w.alloc (.cells #[.bool o.sp, .bool o.wt, .bool o.bl, .bool o.cs, .bool o.tb, .bool o.tr] 24)) := ⟨Boxed.fresh o w, (Below.refl _ w).alloc (Nat.le_refl _) _⟩
  by_cases h1 : (100 : Int) < la.length
  · unfold igV
    go_enter Tryd.func6, Tryd.ntmps6
    go_wp2_with fail
    refine (works_any _).mono ?_
    rintro e w1 ⟨rfl, hb1⟩
    go_wp2
    go_ret
    exact ⟨rfl, (hbx.keep hb1).low⟩
  by_cases h2 : (100 : Int) < lb.length
  · unfold igV
    go_enter Tryd.func6, Tryd.ntmps6
    go_wp2_with fail
    refine (works_any _).mono ?_
    rintro e w1 ⟨rfl, hb1⟩
    go_wp2
    go_ret
    exact ⟨rfl, (hbx.keep hb1).low⟩
  unfold igV
  go_enter Tryd.func6, Tryd.ntmps6
  go_wp2_with fail
  refine (works_any _).mono ?_
  rintro e w1 ⟨rfl, hb1⟩
  have hS1 := hbx.keep hb1
  have hsz1 := hS1.low.size
  clear hbx hb1
  go_wp2_with (at_builtin; refine wpList_append_holds _ rfl (.tmp 27) (.tmp 28) 22 9 (.string ⟨#[]⟩) 16 Tryd.underlying22 infoStr rfl (by decide) rfl w1.heap.size _ 0 [] rfl (nil_row_new _ _ _ rfl (by omega)) _ (scells la) rfl ?hold1 (scells_one la) ?len1 ?base1 ?_)
  case hold1 => exact ha.keep ((hS1.low.alloc hsz1 _).block)
  case len1 => rw [scells_length]; omega
  case base1 => simp
  intro v1 w2 hown1 hgrow1
  have hB2 : Below w1.heap.size w1 w2 := (But.of_grown (S := fun k => k = w1.heap.size) ((World.grownBy_alloc _ _ _).trans hgrow1) (fun k e => by cases e; rfl)).below (Below.refl _ w1) (Nat.le_refl _) (fun k e => by omega)
  have hS2 := hS1.keep hB2
  have hsz2 := hS2.low.size
  have hle2 := hB2.size
  obtain ⟨co, n1, c1, rfl⟩ : ∃ a n c, v1 = .slice a n c := by
    obtain ⟨a, c, h⟩ := (holds_of hown1).form
    exact ⟨a, _, c, h⟩
  rw [scells_length] at hown1
  clear hgrow1
  go_wp2_with (at_builtin; refine wpList_append_holds _ rfl (.tmp 29) (.tmp 30) 22 9 (.string ⟨#[]⟩) 16 Tryd.underlying22 infoStr rfl (by decide) rfl w1.heap.size _ _ _ rfl hown1 _ (scells lb) rfl ?hold2 (scells_one lb) ?len2 ?base2 ?_)
  case hold2 => exact hb.keep hS2.low.block
  case len2 => rw [scells_length]; omega
  case base2 => omega
  intro v2 w3 hown2 hgrow2
  have hB3 : Below w1.heap.size w1 w3 := hB2.grown hgrow2 hle2 (fun j hj => owns_ge' hown1 hj)
  have hS3 := hS1.keep hB3
  have hsz3 := hS3.low.size
  rw [← scells_append] at hown2
  have hc3 := holds_of hown2
  obtain ⟨do_, n2, c2, rfl⟩ : ∃ a n c, v2 = .slice a n c := by
    obtain ⟨a, c, h⟩ := hc3.form
    exact ⟨a, _, c, h⟩
  clear hgrow2 hown1 hown2 hB2 hB3 hS1 hS2 hsz1 hsz2 hle2
  obtain ⟨d0, d1, d2, d3, d4, d5⟩ := hS3.box.cells
  have hlab : Hid (∀ a ∈ la ++ lb, a.length ≤ 137438953472) := by
    intro a h
    rcases List.mem_append.1 h with h | h
    · exact hla.out a h
    · exact hlb.out a h
  go_wp2_with fail
  refine (Classes_any la lb o _ _ w3 hla.out hlb.out (by omega) (ha.keep hS3.low.block) (hb.keep hS3.low.block)).mono ?_
  rintro e w4 ⟨vx, vy, rfl, hx, hy, hB4⟩
  clear d0 d1 d2 d3 d4 d5
  have hS4 := hS3.keep hB4
  have hc4 := hc3.keep hB4.block
  obtain ⟨d0, d1, d2, d3, d4, d5⟩ := hS4.box.cells
  generalize hnn : (adds [] (la.map (canonL o) ++ lb.map (canonL o))).length = nn
  go_wp2_with fail
  refine (Classes_any (la ++ lb) [] o _ _ w4 hlab.out (fun _ h => by cases h) (by simp; omega) hc4 (Holds.nil w4)).mono ?_
  rintro e w5 ⟨vz, vn, rfl, hz, hn, hB5⟩
  rw [List.map_append, List.map_nil, List.append_nil, hnn]
  rw [List.map_append] at hz
  rw [List.map_nil] at hn
  clear d0 d1 d2 d3 d4 d5
  have hS5 := hS4.keep hB5
  have hc5 := hc4.keep hB5.block
  have hx5 := hx.keep hB5.block
  have hy5 := hy.keep hB5.block
  obtain ⟨no, nc, hvn⟩ := hn.form
  simp only [nums, icells, List.map_nil, List.length_nil] at hvn
  subst hvn
  clear hn
  obtain ⟨d0, d1, d2, d3, d4, d5⟩ := hS5.box.cells
  go_wp2_with fail
  refine (Classes_any (la ++ lb) (la ++ lb) o _ _ w5 hlab.out hlab.out (by simp; omega) hc5 hc5).mono ?_
  rintro e w6 ⟨vu, vv, rfl, hu, hv, hB6⟩
  rw [List.map_append, adds_append, adds_again, hnn]
  rw [List.map_append] at hu hv
  rw [nums_again] at hv
  clear d0 d1 d2 d3 d4 d5
  have hS6 := hS5.keep hB6
  have hx6 := hx5.keep hB6.block
  have hy6 := hy5.keep hB6.block
  have hz6 := hz.keep hB6.block
  have hsz6 := hS6.low.size
  have hl1 : (nums [] (la.map (canonL o))).length = la.length := by rw [nums_length, List.length_map]
  have hl2 : (nums (adds [] (la.map (canonL o))) (lb.map (canonL o))).length = lb.length := by rw [nums_length, List.length_map]
  have hl3 : (nums [] (la.map (canonL o) ++ lb.map (canonL o))).length ≤ 1099511627776 := by rw [nums_length, List.length_append, List.length_map, List.length_map]; omega
  have hap : nums [] (la.map (canonL o)) ++ nums (adds [] (la.map (canonL o))) (lb.map (canonL o)) = nums [] (la.map (canonL o) ++ lb.map (canonL o)) := (nums_append _ _ _).symm
  generalize nums [] (la.map (canonL o)) = xa at *
  generalize nums (adds [] (la.map (canonL o))) (lb.map (canonL o)) = xb at *
  generalize nums [] (la.map (canonL o) ++ lb.map (canonL o)) = xz at *
  clear hS3 hS4 hS5 hB4 hB5 hB6 hx hy hx5 hy5 hz hc3 hc4 hc5 hnn
  obtain ⟨xo, xc, hvx⟩ := hx6.form
  obtain ⟨yo, yc, hvy⟩ := hy6.form
  subst hvx hvy
  go_wp2_with (at_builtin; refine wpList_append_want _ (by kernel_rfl) (.tmp 69) (.tmp 70) 25 3 (.int .i64 0) 8 Tryd.underlying25 infoInt rfl (by decide) rfl w6.heap.size _ 0 [] rfl (nil_row_new _ _ _ rfl (by omega)) _ (icells xa) rfl ?hold3 (icells_one xa) ?len3 ?base3 ?_)
  case hold3 => exact hx6.alloc _
  case len3 => rw [icells_length]; omega
  case base3 => simp
  intro v3 w7 hown3 hgrow3
  have hB7 : Below w6.heap.size w6 w7 := (But.of_grown (S := fun k => k = w6.heap.size) ((World.grownBy_alloc _ _ _).trans hgrow3) (fun k e => by cases e; rfl)).below (Below.refl _ w6) (Nat.le_refl _) (fun k e => by omega)
  have hS7 := hS6.keep hB7
  have hle7 := hB7.size
  obtain ⟨eo, n3, c3, rfl⟩ : ∃ a n c, v3 = .slice a n c := by
    obtain ⟨a, c, h⟩ := (holds_of hown3).form
    exact ⟨a, _, c, h⟩
  rw [icells_length] at hown3
  clear hgrow3
  go_wp2_with (at_builtin; refine wpList_append_want _ (by kernel_rfl) (.tmp 71) (.tmp 72) 25 3 (.int .i64 0) 8 Tryd.underlying25 infoInt rfl (by decide) rfl w6.heap.size _ _ _ rfl hown3 _ (icells xb) rfl ?hold4 (icells_one xb) ?len4 ?base4 ?_)
  case hold4 => exact hy6.keep hB7.block
  case len4 => rw [icells_length]; omega
  case base4 => omega
  intro v4 w8 hown4 hgrow4
  have hB8 : Below w6.heap.size w6 w8 := hB7.grown hgrow4 hle7 (fun j hj => owns_ge' hown3 hj)
  have hS8 := hS6.keep hB8
  rw [← icells_append, hap] at hown4
  have he8 := holds_of hown4
  have hz8 := hz6.keep hB8.block
  have hu8 := hu.keep hB8.block
  have hv8 := hv.keep hB8.block
  obtain ⟨fo, n4, c4, rfl⟩ : ∃ a n c, v4 = .slice a n c := by
    obtain ⟨a, c, h⟩ := he8.form
    exact ⟨a, _, c, h⟩
  clear hgrow4 hown3 hown4 hB7 hB8 hS7 hle7 hS6 hx6 hy6 hz6 hu hv hap hl1 hl2
  go_wp2_with fail
  refine (SameI_low _ _ xz w8 hl3 he8 hz8).mono ?_
  rintro e w9 ⟨rfl, hB9⟩
  have hS9 := hS8.keep hB9
  have hu9 := hu8.keep hB9.block
  have hz9 := hz8.keep hB9.block
  go_wp2_with fail
  refine (SameI_low _ _ xz w9 hl3 hu9 hz9).mono ?_
  rintro e w10 ⟨rfl, hB10⟩
  have hS10 := hS9.keep hB10
  have hv10 := (hv8.keep hB9.block).keep hB10.block
  have hz10 := hz9.keep hB10.block
  go_wp2_with fail
  refine (SameI_low _ _ xz w10 hl3 hv10 hz10).mono ?_
  rintro e w11 ⟨rfl, hB11⟩
  go_wp2
  go_ret
  exact ⟨rfl, (hS10.keep hB11).low⟩

theorem contract (H : Type) (enc : TypeId × Value → H) (W : World) (base : Nat) (args : Array Value) (ds gs : List (DataW H)) (before : List MemPlace)
    (hval : ∀ (j : Nat) t v, Tryd.f6.params[j]? = some t → args[j]? = some v → Value.okWide Tryd.prog W .any base t v)
    (hW : DataW.Whole enc Tryd.prog Tryd.f6.params.toList Rows.internGrowsSpec.vars false W args.toList ds gs before) (hk : Rows.uptoSmall H (ds ++ gs) = true) :
    Calls Tryd.prog 6 args W fun e W' => ∃ v, e = .returned v ∧ Rows.internGrowsSpec.post enc Tryd.prog Tryd.f6 false true false false W args v W' := by
  have hW' := hW
  obtain ⟨p, q, hA0, hV, rfl, hfz, hnd⟩ := hW
  have hA : DataW.TrodAll enc Tryd.prog W 0 (fun _ => true) true Tryd.f6.params.toList args.toList ds p := hA0
  rw [Tryd.params6] at hA hval
  obtain ⟨v0, vs0, d0, ds0, p0, q0, hargs, rfl, rfl, h0, r0⟩ := trodAll_cons hA
  obtain ⟨v1, vs1, d1, ds1, p1, q1, rfl, rfl, rfl, h1, r1⟩ := trodAll_cons r0
  obtain ⟨v2, vs2, d2, ds2, p2, q2, rfl, rfl, rfl, h2, r2⟩ := trodAll_cons r1
  obtain ⟨rfl, rfl, rfl⟩ := trodAll_nil r2
  obtain rfl : args = #[v0, v1, v2] := by cases args; simp_all
  obtain ⟨rfl, rfl⟩ := trodVars_none hV
  obtain ⟨a0, len0, cap0, rfl⟩ := okWide_slice Tryd.underlying22 (hval 0 22 v0 rfl rfl)
  have k0 := h0
  have lt0 : ∀ x ∈ p0, x.block < W.heap.size := by obtain ⟨m, hm⟩ := k0; exact DataW.trod_lt m _ _ _ hm
  obtain ⟨a1, len1, cap1, rfl⟩ := okWide_slice Tryd.underlying22 (hval 1 22 v1 rfl rfl)
  have k1 := h1
  have lt1 : ∀ x ∈ p1, x.block < W.heap.size := by obtain ⟨m, hm⟩ := k1; exact DataW.trod_lt m _ _ _ hm
  clear hA0
  simp only [List.append_nil] at hk
  have hbk : Rows.uptoBulkAll [d0, d1, d2] ≤ 1048576 := of_decide_eq_true hk
  simp only [Rows.uptoBulkAll] at hbk
  obtain ⟨f0, hf0⟩ := h0
  obtain ⟨ws0, hv0, hwl0⟩ := open_texts (by simpa [Value.cells] using hf0)
  have he0 : ∀ a ∈ ws0, a.length ≤ 137438953472 := fun a ha => by have := each_le a ha; omega
  obtain ⟨f1, hf1⟩ := h1
  obtain ⟨ws1, hv1, hwl1⟩ := open_texts (by simpa [Value.cells] using hf1)
  have he1 : ∀ a ∈ ws1, a.length ≤ 137438953472 := fun a ha => by have := each_le a ha; omega
  obtain ⟨o, rfl, rfl, rfl⟩ := open_ig (hval 2 24 v2 rfl rfl) h2
  have hw := walk ws0 ws1 o (.slice a0 len0 cap0) (.slice a1 len1 cap1) W he0 he1 hv0 hv1
  refine hw.mono fun e W' ⟨he, bel⟩ => ?_
  subst he
  exact ⟨_, rfl, _, _, _, [], _, [], hW', trodAll_mk1 (shut_bool Tryd.underlying4 _), trodAll_cons_mk (Below.trod laidOut (by kernel_rfl) (of_decide_eq_true (by kernel_rfl)) k0 bel lt0) (trodAll_cons_mk (Below.trod laidOut (by kernel_rfl) (of_decide_eq_true (by kernel_rfl)) k1 bel lt1) (trodAll_cons_mk (shut_ig o) trodAll_mk0)), rfl, bel.frame _, fun h => by cases h⟩

theorem laid_met (os : Os) : laidMet Tryd.prog Rows.internGrowsUptoRow.laid ((laidOnU (World.holding Tryd.prog os ⟨#[], #[], []⟩)).forCall (fun _ _ => 0) ⟨#[], #[.slice none 0 0, .slice none 0 0, .agg #[.bool false, .bool false, .bool false, .bool false, .bool false, .bool false]], []⟩).memory :=
  laidMet_of_run' 8 (by kernel_rfl) (by kernel_rfl)
theorem reads (os : Os) {H : Type} (enc : TypeId × Value → H) : ∃ places, DataW.whole enc Tryd.prog ((laidOnU (World.holding Tryd.prog os ⟨#[], #[], []⟩)).forCall (fun _ _ => 0) ⟨#[], #[.slice none 0 0, .slice none 0 0, .agg #[.bool false, .bool false, .bool false, .bool false, .bool false, .bool false]], []⟩).memory Tryd.f6.params.toList Rows.internGrowsSpec.vars false #[Value.slice none 0 0, Value.slice none 0 0, Value.agg #[.bool false, .bool false, .bool false, .bool false, .bool false, .bool false]].toList 8 = some ([.nil, .nil, .agg [.lit (.bool false), .lit (.bool false), .lit (.bool false), .lit (.bool false), .lit (.bool false), .lit (.bool false)]], [], places) :=
  ⟨[], by kernel_rfl⟩

set_option maxRecDepth 100000 in
theorem lifted (os : Os) (started : os.Started) (H : Type) (enc : TypeId × Value → H) (F : Stop.Interp) :
    ReturnsInHanded {} Tryd.checked os 6 .any ((Rows.OpenSpec.upto Rows.internGrowsSpec).preRow enc Tryd.prog Tryd.f6 Rows.internGrowsUptoRow.domain false Rows.internGrowsUptoRow.laid) (((Rows.OpenSpec.upto Rows.internGrowsSpec).at F).post enc Tryd.prog Tryd.f6 false true false false) := by
  obtain ⟨places, hx⟩ := reads os enc
  refine returnsInHanded_of_row (C := Tryd.checked) (s := Rows.OpenSpec.upto Rows.internGrowsSpec) own started (by kernel_rfl) Tryd.func6
    (witness_row_at (enc := enc) (C := Tryd.checked) false (laidOnU (World.holding Tryd.prog os ⟨#[], #[], []⟩)) #[.slice none 0 0, .slice none 0 0, .agg #[.bool false, .bool false, .bool false, .bool false, .bool false, .bool false]] rfl (by kernel_rfl) (by kernel_rfl) (by kernel_rfl)
      (OpenSpec.preRow_of_cond 8 hx (by kernel_rfl) (fun k hk => by cases hk; kernel_rfl) (by kernel_rfl) (laid_met os))) ?_
  intro W base args ds gs before hval hW _ hcond _ _ _ _
  exact contract H enc W base args ds gs before hval hW (hcond _ rfl)

theorem said : Rows.InternGrowsUptoSaid :=
  OpenClaim.holds_of_cond 6 Tryd.f6 rfl rfl rfl rfl rfl rfl rfl ⟨rfl, rfl, rfl, rfl, rfl⟩ rfl rfl rfl rfl rfl (by kernel_rfl) Tryd.func6 (by kernel_rfl)
    (of_decide_eq_true (by kernel_rfl)) (by unfold Func.isWrapper; first | (rw [if_pos (by decide +kernel)]; kernel_rfl) | (rw [if_neg (by decide +kernel)]; exact ⟨rfl, rfl⟩))
    (fun os started H enc _ F => by rw [OpenClaim.pre_eq_preRow]; exact lifted os started H enc F)

theorem plain (f : FuncId) (fn : Func) (hf : Tryd.pinned.checked.prog.funcNamed "redline/redlinelaw04.InternGrows" = some f) (hfn : Tryd.pinned.checked.prog.funcs[f]? = some fn) :
    false = Tryd.pinned.checked.prog.looks [] ∧ ∀ (j : Nat) t, fn.params[j]? = some t → Tryd.pinned.checked.prog.wantsStandIn t = false := by
  obtain rfl : f = 6 := Option.some.inj ((show Tryd.prog.funcNamed "redline/redlinelaw04.InternGrows" = some 6 by kernel_rfl).symm.trans hf) |>.symm
  obtain rfl : fn = Tryd.f6 := (Option.some.inj (Tryd.func6.symm.trans hfn)).symm
  refine ⟨by kernel_rfl, fun j t ht => ?_⟩
  rw [Tryd.params6] at ht
  have hm : t = 22 ∨ t = 22 ∨ t = 24 := by simpa using Array.mem_of_getElem? ht
  rcases hm with rfl | rfl | rfl
  · exact (show Tryd.prog.wantsStandIn 22 = false by kernel_rfl)
  · exact (show Tryd.prog.wantsStandIn 22 = false by kernel_rfl)
  · exact (show Tryd.prog.wantsStandIn 24 = false by kernel_rfl)

theorem card : Rows.InternGrowsUptoCardSaid :=
  Claim7.holds_tied_plain_at .later [] _ _ _ _ said (fun _ h => by cases h) (by kernel_rfl) (fun _ h => by cases h) internGrowsUpto_row_tie rfl ⟨rfl, rfl⟩ (by kernel_rfl) rfl plain (by kernel_rfl)
#print axioms card
end Go.Proofs.YtkaadahcefdiiaaDoor.internGrows
