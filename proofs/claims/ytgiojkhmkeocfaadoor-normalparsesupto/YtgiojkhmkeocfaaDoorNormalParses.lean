/-
  For every text of at most 1048576 letters and values, the law NormalParses returns true and leaves its argument as it was: normal.Parse reads what the plain reference reads, or refuses with the same line and the same reason, and what it reads are right hunks. The conditions are the statement's own bound and the card's: errors.errorType holds what the program's text lays.
-/
import Derived.Test.YtgiojkhmkeocfaaDoorCards
import Derived.Test.YtgiojkhmkeocfaaDoorTie
import Derived.Test.YtgiojkhmkeocfaaDoorNoParA9
import Derived.Test.YtgiojkhmkeocfaaDoorNoParA10
import Derived.Test.YtgiojkhmkeocfaaDoorNoParA2
import Derived.ProofKit
import Derived.OpenShut
import Derived.ShutString
import Derived.JoinedCond
import Derived.Deep.DeepHandedRow
import Derived.Lib.LaidTab
import Derived.LaidSub
namespace Go.Proofs.YtgiojkhmkeocfaaDoor.normalParses
open Go.ChangeShapes Go.WideShapes Go.ChangeAt Go.RowKit
open Go.ChangeMaps (open_string shut_string)

theorem load_fa {u : World} {F : Nat} {a z : Int} (h0 : u.cell? ⟨F, 0, none⟩ = some (.int .i64 a)) (h1 : u.cell? ⟨F, 1, none⟩ = some (.int .i64 z)) {op : Oper} (x : Operand) (ho : op.op = .load 35 x) {ev : Operand → Value} (hx : ev x = .pointer (some ⟨F, 0, none⟩)) :
    (execOp ev op).run Tryd.prog u = .ok (.value (.agg #[.int .i64 a, .int .i64 z])) u := by
  simp only [execOp, ho, hx]
  go_simp
theorem neq_fa {u : World} {a z : Int} {op : Oper} (x y : Operand) (ho : op.op = .binOp .neq 35 x y 35) {ev : Operand → Value} (hx : ev x = .agg #[.int .i64 a, .int .i64 z]) (hy : ev y = .agg #[.int .i64 a, .int .i64 z]) :
    (execOp ev op).run Tryd.prog u = .ok (.value (.bool false)) u := by
  simp only [execOp, ho, hx, hy]
  go_simp
set_option maxRecDepth 10000 in
set_option maxHeartbeats 8000000 in
theorem walk (t : List UInt8) (w : World) (hl : t.length ≤ 1048576) (hE : ErrT w) :
    Calls Tryd.prog 4 #[.string ⟨t.toArray⟩] w fun e w' => e = .returned (.bool true) ∧ Below w.heap.size w w' := by
  have HE : Hid (ErrT w) := hE
  clear hE
  obtain ⟨X, hX⟩ : ∃ X, prsT t = X := ⟨_, rfl⟩
  have HX : Hid (prsT t = X) := hX
  clear hX
  have hn := fun u => nPars_u t u (by omega) X HX
  have hr := fun u => rNPars_u t u (by omega) X HX
  obtain ⟨l, hl1⟩ : ∃ l, okL X = l := ⟨_, rfl⟩
  obtain ⟨fa, hfa⟩ : ∃ a, (faL X).1 = a := ⟨_, rfl⟩
  obtain ⟨fz, hfz⟩ : ∃ z, (faL X).2 = z := ⟨_, rfl⟩
  have HOKf : Hid (∀ P : List (Hk × Value), P.map (·.1) = l → HOk P ∧ ∀ x ∈ P, chkH x.1 = 0) := (by intro P hP; exact okL_facts HX.out (by rw [hP, hl1]))
  rw [hl1, hfa, hfz] at hn
  rw [hl1, hfa, hfz] at hr
  clear hl1 hfa hfz HX
  go_enter Tryd.func4, Tryd.ntmps4
  go_wp2_with fail
  refine (hn w).mono ?_
  rintro e w1 ⟨o1, c1, P1, ev, rfl, hP1, hm1, hsn⟩
  have HSN : Hid (∀ u : World, Below w1.heap.size w1 u → ErrT u → Calls Tryd.prog 13 #[ev] u fun e u' => e = .returned (.agg #[.int .i64 fa, .int .i64 fz]) ∧ Below u.heap.size u u') := hsn
  clear hsn hn
  go_wp2_with fail
  refine (hr w1).mono ?_
  rintro e w2 ⟨o2, c2, P2, rfl, hP2, hm2⟩
  have hB1 := hP1.low
  have hB12 := hP2.low
  have hB2 := hB1.trans (hB12.mono hB1.size)
  have hBa : Below w2.heap.size w2 (w2.alloc (.cells #[.int .i64 fa, .int .i64 fz] 35)) := (Below.refl _ w2).alloc (Nat.le_refl _) _
  have hh1 := (hP1.holds.keep hB12 (Nat.le_refl _)).keep hBa (Nat.le_refl _)
  have hh2 := hP2.holds.keep hBa (Nat.le_refl _)
  have hfb := heap_alloc_new w2 (.cells #[.int .i64 fa, .int .i64 fz] 35)
  have hB3 := hB2.trans (hBa.mono hB2.size)
  have HB13 : Hid (Below w1.heap.size w1 (w2.alloc (.cells #[.int .i64 fa, .int .i64 fz] 35))) := hB12.trans (hBa.mono hB12.size)
  obtain ⟨hok1, hck1⟩ := HOKf.out P1 hm1
  have HOK1 : Hid (HOk P1) := hok1
  have HCK1 : Hid (∀ x ∈ P1, chkH x.1 = 0) := hck1
  have HMM : Hid (P1.map (·.1) = P2.map (·.1)) := hm1.trans hm2.symm
  have hpl : P1.length ≤ 1099511627776 := hok1.1
  clear hr hP1 hP2 hm1 hm2 hB1 hB12 hB2 hBa hok1 hck1 HOKf
  go_upto_region 3 with fail
  generalize w2.alloc (.cells #[.int .i64 fa, .int .i64 fz] 35) = W at *
  generalize w2.heap.size = F at *
  have hF : ∀ u : World, Low W u → u.cell? ⟨F, 0, none⟩ = some (.int .i64 fa) ∧ u.cell? ⟨F, 1, none⟩ = some (.int .i64 fz) := (by
    intro u hu
    have h1 := (Below.block hu F (Array.getElem?_eq_some_iff.1 hfb).1).trans hfb
    exact ⟨by rw [Lib.cell_of_heap h1]; rfl, by rw [Lib.cell_of_heap h1]; rfl⟩)
  have hseen : ∀ u : World, Low W u → Calls Tryd.prog 13 (#[ev] ++ #[]) u fun e w' => ∃ x, e = .returned x ∧ Low W w' ∧ x = .agg #[.int .i64 fa, .int .i64 fz] := (by
    intro u hu
    refine (HSN.out u (HB13.out.trans (Below.mono hu HB13.out.size)) (HE.out.low (hB3.trans (Below.mono hu hB3.size)) (Nat.le_refl _))).mono ?_
    rintro e w' ⟨rfl, hb⟩
    exact ⟨_, rfl, hu.trans (hb.mono (Below.size hu)), rfl⟩)
  have hsame : ∀ u : World, Low W u → Calls Tryd.prog 14 (#[.slice o1 P1.length c1, .slice o2 P2.length c2] ++ #[]) u fun e w' => ∃ x, e = .returned x ∧ Low W w' ∧ x = .bool true := (by
    intro u hu
    refine (rSameHunks_f P1 P2 _ _ u (hh1.keep hu (Nat.le_refl _)) (hh2.keep hu (Nat.le_refl _)) HMM.out HOK1.out).mono ?_
    rintro e w' ⟨rfl, hb⟩
    exact ⟨_, rfl, hu.trans (hb.mono (Below.size hu)), rfl⟩)
  refine wp_region_noPanic ?_
  refine wp_region_held_drew (S := fun u => Low W u) (by kernel_rfl) (Below.dN (Below.refl _ W) 1) (fun hHeld => ?_)
  refine go_take 0 18 _ ev rfl (by kernel_rfl) (by kernel_rfl) (by kernel_rfl) (by kernel_rfl) (fun _ _ _ h => h) (Or.inl ⟨by kernel_rfl, fun u hu => by kernel_rfl⟩) hHeld ?_
  simp only [Act.put, List.setIfInBounds_toArray, List.set_cons_zero, List.set_cons_succ]
  refine go_take 2 20 _ (.agg #[.int .i64 fa, .int .i64 fz]) rfl (by kernel_rfl) (by kernel_rfl) (by kernel_rfl) (by kernel_rfl) (fun _ _ _ h => h) (Or.inl ⟨by kernel_rfl, fun u hu => load_fa (hF u hu).1 (hF u hu).2 (.tmp 6) (by kernel_rfl) (by kernel_rfl)⟩) hHeld ?_
  simp only [Act.put, List.setIfInBounds_toArray, List.set_cons_zero, List.set_cons_succ]
  refine go_callE 1 19 _ rfl (by kernel_rfl) (by kernel_rfl) (by kernel_rfl) 13 (.func 13) #[.tmp 18] #[31] (by kernel_rfl) #[] (by kernel_rfl) #[ev] (by kernel_rfl) (enters_of Tryd.func13 (by kernel_rfl) rfl) (fun x _ => x = .agg #[.int .i64 fa, .int .i64 fz]) ?_ ?_
  · exact hseen _ hHeld
  rintro _ u1 hHeld rfl
  simp only [Act.put, List.setIfInBounds_toArray, List.set_cons_zero, List.set_cons_succ]
  refine go_take 3 21 _ (.bool false) rfl (by kernel_rfl) (by kernel_rfl) (by kernel_rfl) (by kernel_rfl) (fun _ _ _ h => h) (Or.inl ⟨by kernel_rfl, fun u hu => neq_fa (a := fa) (z := fz) (.tmp 19) (.tmp 20) (by kernel_rfl) (by kernel_rfl) (by kernel_rfl)⟩) hHeld ?_
  simp only [Act.put, List.setIfInBounds_toArray, List.set_cons_zero, List.set_cons_succ]
  refine go_take 4 22 _ (.bool false) rfl (by kernel_rfl) (by kernel_rfl) (by kernel_rfl) (by kernel_rfl) (fun _ _ _ h => h) (Or.inl ⟨by kernel_rfl, fun u hu => by kernel_rfl⟩) hHeld ?_
  simp only [Act.put, List.setIfInBounds_toArray, List.set_cons_zero, List.set_cons_succ]
  refine go_take 5 23 _ (.slice o1 P1.length c1) rfl (by kernel_rfl) (by kernel_rfl) (by kernel_rfl) (by kernel_rfl) (fun _ _ _ h => h) (Or.inl ⟨by kernel_rfl, fun u hu => by kernel_rfl⟩) hHeld ?_
  simp only [Act.put, List.setIfInBounds_toArray, List.set_cons_zero, List.set_cons_succ]
  refine go_take 6 24 _ (.slice o2 P2.length c2) rfl (by kernel_rfl) (by kernel_rfl) (by kernel_rfl) (by kernel_rfl) (fun _ _ _ h => h) (Or.inl ⟨by kernel_rfl, fun u hu => by kernel_rfl⟩) hHeld ?_
  simp only [Act.put, List.setIfInBounds_toArray, List.set_cons_zero, List.set_cons_succ]
  refine go_callE 7 25 _ rfl (by kernel_rfl) (by kernel_rfl) (by kernel_rfl) 14 (.func 14) #[.tmp 23, .tmp 24] #[29, 29] (by kernel_rfl) #[] (by kernel_rfl) #[.slice o1 P1.length c1, .slice o2 P2.length c2] (by kernel_rfl) (enters_of Tryd.func14 (by kernel_rfl) rfl) (fun x _ => x = .bool true) ?_ ?_
  · exact hsame _ hHeld
  rintro _ u2 hHeld rfl
  simp only [Act.put, List.setIfInBounds_toArray, List.set_cons_zero, List.set_cons_succ]
  refine go_take 8 26 _ (.bool false) rfl (by kernel_rfl) (by kernel_rfl) (by kernel_rfl) (by kernel_rfl) (fun _ _ _ h => h) (Or.inl ⟨by kernel_rfl, fun u hu => by kernel_rfl⟩) hHeld ?_
  simp only [Act.put, List.setIfInBounds_toArray, List.set_cons_zero, List.set_cons_succ]
  refine go_take 9 27 _ (.bool false) rfl (by kernel_rfl) (by kernel_rfl) (by kernel_rfl) (by kernel_rfl) (fun _ _ _ h => h) (Or.inl ⟨by kernel_rfl, fun u hu => by kernel_rfl⟩) hHeld ?_
  simp only [Act.put, List.setIfInBounds_toArray, List.set_cons_zero, List.set_cons_succ]
  refine wpAnyH_done (by kernel_rfl) ?_ _
  refine NoPanic.normal ?_
  have hBu := hB3.trans (Below.mono hHeld hB3.size)
  have hh := hh1.keep hHeld (Nat.le_refl _)
  clear hF hseen hsame hh1 hh2 hfb hB3 HB13 HSN HMM hHeld
  generalize u2 = U at *
  go_wp2
  go_loopw [7] (fun iv wr => ∃ k : Nat, k ≤ P1.length ∧ iv = .int .i64 (k : Int) ∧ Below U.heap.size U wr) (fun iv _ => P1.length - (intOf iv).toNat)
  case atStart => exact ⟨0, Nat.zero_le _, by go_num, Below.refl _ _⟩
  case round =>
    obtain ⟨k, hk, rfl, hB⟩ := hrel
    by_cases hlt : k < P1.length
    · obtain ⟨b1, f1, rfl, _, _⟩ := hh.at (by omega)
      obtain ⟨x, y, hxy⟩ : ∃ x y, P1[k] = (x, y) := ⟨_, _, rfl⟩
      obtain ⟨⟨d0, d1, d2, d3, d4⟩, hm⟩ := hh.take hB k hlt hxy
      have hbd := HOK1.out.2 _ (List.getElem_mem hlt)
      have hck := HCK1.out _ (List.getElem_mem hlt)
      rw [hxy] at hbd hck
      dsimp only at hbd hck
      obtain ⟨yo, yc, rfl⟩ := hm.form
      have hc := hCheck_f x (.slice yo x.ls.length yc) wr hm hbd.1 hbd.2 0 hck
      unfold hkV at hc
      have i1 : 0 ≤ (k : Int) := by omega
      have i2 : (k : Int) < (P1.length : Int) := by omega
      have i3 : (k : Int).toNat = k := by omega
      clear hxy hbd hck hm
      go_wp2_with fail
      refine hc.mono ?_
      rintro e w3 ⟨rfl, hb3⟩
      have hB4 := hB.trans (hb3.mono hB.size)
      clear hc d0 d1 d2 d3 d4 hb3
      go_wp2
      exact ⟨⟨k + 1, by omega, by go_num, hB4⟩, by simp [intOf]; omega⟩
    · have hend : decide ((k : Int) < (P1.length : Int)) = false := decide_eq_false (by omega)
      go_wp2
      go_ret
      exact ⟨rfl, hBu.trans (hB.mono hBu.size)⟩

set_option maxRecDepth 100000 in
theorem contract (H : Type) (enc : TypeId × Value → H) (W : World) (base : Nat) (args : Array Value) (ds gs : List (DataW H)) (before : List MemPlace)
    (hval : ∀ (j : Nat) t v, Tryd.f4.params[j]? = some t → args[j]? = some v → Value.okWide Tryd.prog W .any base t v)
    (hW : DataW.Whole enc Tryd.prog Tryd.f4.params.toList Rows.normalParsesSpec.vars false W args.toList ds gs before) (hL : laidMetH Tryd.prog Rows.normalParsesUptoRow.laid W) (hk : Rows.uptoSmall H (ds ++ gs) = true) :
    Calls Tryd.prog 4 args W fun e W' => ∃ v, e = .returned v ∧ Rows.normalParsesSpec.post enc Tryd.prog Tryd.f4 false true false false W args v W' := by
  have hW' := hW
  obtain ⟨p, q, hA0, hV, rfl, hfz, hnd⟩ := hW
  have hA : DataW.TrodAll enc Tryd.prog W 0 (fun _ => true) true Tryd.f4.params.toList args.toList ds p := hA0
  rw [Tryd.params4] at hA hval
  obtain ⟨v0, vs0, d0, ds0, p0, q0, hargs, rfl, rfl, h0, r0⟩ := trodAll_cons hA
  obtain ⟨rfl, rfl, rfl⟩ := trodAll_nil r0
  obtain rfl : args = #[v0] := by cases args; simp_all
  obtain ⟨rfl, rfl⟩ := trodVars_none hV
  obtain ⟨a0, rfl, rfl, rfl, wt0⟩ := open_string Tryd.underlying9 (hval 0 9 v0 rfl rfl) h0
  clear hA0
  simp only [List.append_nil] at hk
  have hbk : Rows.uptoBulkAll [.lit (.string a0.data.toList)] ≤ 1048576 := of_decide_eq_true hk
  simp only [Rows.uptoBulkAll] at hbk
  have hw := walk a0.data.toList  W (by simp only [Rows.uptoBulk] at hbk; omega) (Et.met Rows.normalParsesUptoRow.laid rfl hL)
  refine hw.mono fun e W' ⟨he, bel⟩ => ?_
  subst he
  exact ⟨_, rfl, _, _, _, [], _, [], hW', trodAll_mk1 (shut_bool Tryd.underlying4 _), trodAll_cons_mk (shut_string Tryd.underlying9 wt0) trodAll_mk0, rfl, bel.frame _, fun h => by cases h⟩

theorem laid_met (os : Os) : laidMetH Tryd.prog Rows.normalParsesUptoRow.laid ((Et.laidOn (World.holding Tryd.prog os ⟨#[], #[], []⟩)).forCall (fun _ _ => 0) ⟨#[], #[.string .empty], []⟩).memory :=
  laidMetH_of_parts (laidMet_of_run' 8 (by kernel_rfl) (by kernel_rfl)) (by kernel_rfl)
theorem reads (os : Os) {H : Type} (enc : TypeId × Value → H) : ∃ places, DataW.whole enc Tryd.prog ((Et.laidOn (World.holding Tryd.prog os ⟨#[], #[], []⟩)).forCall (fun _ _ => 0) ⟨#[], #[.string .empty], []⟩).memory Tryd.f4.params.toList Rows.normalParsesSpec.vars false #[Value.string .empty].toList 8 = some ([.lit (.string [])], [], places) :=
  ⟨[], by kernel_rfl⟩

set_option maxRecDepth 100000 in
theorem lifted (os : Os) (started : os.Started) (H : Type) (enc : TypeId × Value → H) (F : Stop.Interp) :
    ReturnsInHanded {} Tryd.checked os 4 .any ((Rows.OpenSpec.upto Rows.normalParsesSpec).preRow enc Tryd.prog Tryd.f4 Rows.normalParsesUptoRow.domain false Rows.normalParsesUptoRow.laid) (((Rows.OpenSpec.upto Rows.normalParsesSpec).at F).post enc Tryd.prog Tryd.f4 false true false false) := by
  obtain ⟨places, hx⟩ := reads os enc
  refine returnsInHanded_of_row (C := Tryd.checked) (s := Rows.OpenSpec.upto Rows.normalParsesSpec) own started (by kernel_rfl) Tryd.func4
    (witness_row_at (enc := enc) (C := Tryd.checked) false (Et.laidOn (World.holding Tryd.prog os ⟨#[], #[], []⟩)) #[.string .empty] rfl (by kernel_rfl) (by kernel_rfl) (by kernel_rfl)
      (OpenSpec.preRow_of_cond 8 hx (by kernel_rfl) (fun k hk => by cases hk; kernel_rfl) (by kernel_rfl) (laid_met os))) ?_
  intro W base args ds gs before hval hW _ hcond _ hL _ _
  exact contract H enc W base args ds gs before hval hW hL (hcond _ rfl)

theorem said : Rows.NormalParsesUptoSaid :=
  OpenClaim.holds_of_cond 4 Tryd.f4 rfl rfl rfl rfl rfl rfl rfl ⟨rfl, rfl, rfl, rfl, rfl⟩ rfl rfl rfl rfl rfl (by kernel_rfl) Tryd.func4 (by kernel_rfl)
    (of_decide_eq_true (by kernel_rfl)) (by unfold Func.isWrapper; first | (rw [if_pos (by decide +kernel)]; kernel_rfl) | (rw [if_neg (by decide +kernel)]; exact ⟨rfl, rfl⟩))
    (fun os started H enc _ F => by rw [OpenClaim.pre_eq_preRow]; exact lifted os started H enc F)

theorem plain (f : FuncId) (fn : Func) (hf : Tryd.pinned.checked.prog.funcNamed "redline/redlinelaw12.NormalParses" = some f) (hfn : Tryd.pinned.checked.prog.funcs[f]? = some fn) :
    true = Tryd.pinned.checked.prog.looks [] ∧ ∀ (j : Nat) t, fn.params[j]? = some t → Tryd.pinned.checked.prog.wantsStandIn t = false := by
  obtain rfl : f = 4 := Option.some.inj ((show Tryd.prog.funcNamed "redline/redlinelaw12.NormalParses" = some 4 by kernel_rfl).symm.trans hf) |>.symm
  obtain rfl : fn = Tryd.f4 := (Option.some.inj (Tryd.func4.symm.trans hfn)).symm
  refine ⟨by kernel_rfl, fun j t ht => ?_⟩
  rw [Tryd.params4] at ht
  have hm : t = 9 := by simpa using Array.mem_of_getElem? ht
  rcases hm with rfl
  · exact (show Tryd.prog.wantsStandIn 9 = false by kernel_rfl)

theorem card : Rows.NormalParsesUptoCardSaid :=
  Claim7.holds_tied_plain_at .later [] _ _ _ _ said (fun _ h => by cases h) (by kernel_rfl) (fun _ h => by cases h) normalParsesUpto_row_tie rfl ⟨rfl, rfl⟩ (by kernel_rfl) rfl plain (by kernel_rfl)
#print axioms card
end Go.Proofs.YtgiojkhmkeocfaaDoor.normalParses
