/-
  For all lists of lines a and b of together at most 1048576 letters and values and every number, the law HunksFewer returns true and leaves its arguments as they were: with more lines kept around them there are never more hunks, and as many changed lines. The variables that the start lays are the listed ones.
-/
import Derived.Test.YtgckcbcdmmnkoaaGreatDoorPartA18
import Derived.Test.YtgckcbcdmmnkoaaGreatDoorPartA2
set_option maxRecDepth 20000
namespace Go.Proofs.YtgckcbcdmmnkoaaGreatDoor.hunksFewer
open Go.ChangeShapes Go.WideShapes Go.ChangeAt Go.RowKit

set_option maxRecDepth 10000 in
set_option maxHeartbeats 4000000 in
theorem walk (a b : List (List UInt8)) (k : Int) (va vb : Value) (w : World) (hla : ∀ l ∈ a, l.length ≤ 137438953472) (hlb : ∀ l ∈ b, l.length ≤ 137438953472) (ha : HS w va a) (hb : HS w vb b) :
    Calls Tryz.prog 5 #[va, vb, .int .i64 k] w fun e w' => e = .returned (.bool true) ∧ Below w.heap.size w w' := by
  obtain ⟨ao, ac, rfl⟩ := Holds.form ha
  obtain ⟨bo, bc, rfl⟩ := Holds.form hb
  have HLA : Hid (∀ l ∈ a, l.length ≤ 137438953472) := hla
  have HLB : Hid (∀ l ∈ b, l.length ≤ 137438953472) := hlb
  clear hla hlb
  go_enter Tryz.func5, Tryz.ntmps5
  go_wp2_with fail
  refine (hworks_f w).mono ?_
  rintro e w0 ⟨rfl, hB0⟩
  have ha0 := HS.keep ha hB0 (Nat.le_refl _)
  have hb0 := HS.keep hb hB0 (Nat.le_refl _)
  by_cases hsm : a.length ≤ 200 ∧ b.length ≤ 200
  · have HSM : Hid ((decide (a.length ≤ 200) && decide (b.length ≤ 200)) = true) := (by show _ = _; simp [hsm])
    go_wp2_with fail
    refine (lsmall_f a b _ _ w0 ha0 hb0 true HSM).mono ?_
    rintro e w1 ⟨rfl, rfl⟩
    obtain ⟨c, hc, hcb⟩ := ctx_of k 20 (by omega) (by omega)
    obtain ⟨L, hL⟩ : ∃ L, mkL (eng 1 (clx ig0 a b) (cly ig0 a b)) b.length = L := ⟨_, rfl⟩
    have HL : Hid (mkL (eng 1 (clx ig0 a b) (cly ig0 a b)) b.length = L) := hL
    obtain ⟨hS, _, hLl⟩ := eng_hun 1 a b (by omega) (by omega) hL
    obtain ⟨R1, hR1⟩ : ∃ R, mkR L a b c = R := ⟨_, rfl⟩
    obtain ⟨R2, hR2⟩ : ∃ R, mkR L a b (c + 1) = R := ⟨_, rfl⟩
    have HR1 : Hid (mkR L a b c = R1) := hR1
    have HR2 : Hid (mkR L a b (c + 1) = R2) := hR2
    have HE1 : Hid (grpE L a.length b.length c = 0) := (mkR_eq hS (by omega)).2
    have HE2 : Hid (grpE L a.length b.length (c + 1) = 0) := (mkR_eq hS (by omega)).2
    obtain ⟨f1, f2, f3⟩ := script_fewer (c1 := c) (c2 := c + 1) hS (by omega) (by omega) (by omega)
    have hm1 := made_len (ctx := c) hS (by omega)
    rw [hR1, hR2] at f1 f2 f3
    rw [hR1] at hm1
    obtain ⟨N, hN⟩ : ∃ N, cntHs R1 = N := ⟨_, rfl⟩
    have HN1 : Hid (cntHs R1 = N) := hN
    have HN2 : Hid (cntHs R2 = N) := (by show _ = _; rw [← f2]; exact hN)
    have hNb : N ≤ 1099511627776 := (by
      have h1 := cntHs_le (l := R1) (M := 400) (fun x hx => by have := (hm1.2 x hx).1; omega)
      have h2 : R1.length * 400 ≤ 201 * 400 := Nat.mul_le_mul_right _ (by have := hm1.1; omega)
      omega)
    have HF : Hid (R2.length ≤ R1.length ∧ (R1 = [] ↔ R2 = [])) := ⟨f1, f3⟩
    have HSC : Hid (Script L a.length b.length) := hS
    have hLb : L.length ≤ 1099511627776 := by omega
    clear hL hS hR1 hR2 f1 f2 f3 hN hm1
    go_wp2_with fail
    rw [hc]
    refine (En_f 1 ig0 a b _ _ w1 ha0 hb0 (by omega) (by omega) (by omega) HLA.out HLB.out L HL).mono ?_
    rintro e w2 ⟨v2, rfl, hv2, hB2⟩
    obtain ⟨o2, c2, rfl⟩ := Holds.form hv2
    have hB02 := hB0.trans (hB2.mono hB0.size)
    have ha2 := HS.keep ha hB02 (Nat.le_refl _)
    have hb2 := HS.keep hb hB02 (Nat.le_refl _)
    clear ha0 hb0 hB0 hB2 hc
    go_wp2_with fail
    refine (hMake_f L a b c _ _ _ w2 hv2 ha2 hb2 hLb (by omega) (by omega) 0 HE1 R1 HR1).mono ?_
    rintro e w3 ⟨v3, P, rfl, hP, hPm⟩
    obtain ⟨o3, c3, rfl⟩ := (holds_of hP.own).form
    have hB3 := hP.low
    have hB03 := hB02.trans (hB3.mono hB02.size)
    have hv23 := HCh.keep hv2 hB3 (Nat.le_refl _)
    have ha3 := HS.keep ha hB03 (Nat.le_refl _)
    have hb3 := HS.keep hb hB03 (Nat.le_refl _)
    have hPh := hP.holds
    have HPM : Hid (P.map (·.1) = R1) := hPm
    clear hv2 ha2 hb2 hB02 hB3 hP hPm
    go_wp2_with fail
    refine (hMake_f L a b (c + 1) _ _ _ w3 hv23 ha3 hb3 hLb (by omega) (by omega) 0 HE2 R2 HR2).mono ?_
    rintro e w4 ⟨v4, Q, rfl, hQ, hQm⟩
    obtain ⟨o4, c4, rfl⟩ := (holds_of hQ.own).form
    have hB4 := hQ.low
    have hB04 := hB03.trans (hB4.mono hB03.size)
    have hPh4 := hPh.keep hB4 (Nat.le_refl _)
    have hQh := hQ.holds
    have HQM : Hid (Q.map (·.1) = R2) := hQm
    have hokP : HOk P := made_ok (ctx := c) HSC.out (by omega) hLb (by omega) HLA.out HLB.out (by rw [HPM.out, HR1.out])
    have hokQ : HOk Q := made_ok (ctx := c + 1) HSC.out (by omega) hLb (by omega) HLA.out HLB.out (by rw [HQM.out, HR2.out])
    have hlenP : P.length = R1.length := by rw [← HPM.out]; simp
    have hlenQ : Q.length = R2.length := by rw [← HQM.out]; simp
    have e1 : decide ((Q.length : Int) ≤ (P.length : Int)) = true := decide_eq_true (by have := HF.out.1; omega)
    have e2 : decide (Q.length ≤ P.length) = true := decide_eq_true (by have := HF.out.1; omega)
    have e3 : Q.length ≤ P.length := of_decide_eq_true e2
    obtain ⟨r0, h0⟩ : ∃ r, ((P.length : Int) == 0) = r := ⟨_, rfl⟩
    have h1 : ((Q.length : Int) == 0) = r0 := (by
      rw [← h0, Bool.eq_iff_iff, beq_iff_eq, beq_iff_eq]
      have h := HF.out.2
      constructor
      · intro hq
        have : R1 = [] := h.2 (List.eq_nil_of_length_eq_zero (by omega))
        rw [this] at hlenP
        simp at hlenP
        simp [hlenP]
      · intro hq
        have : R2 = [] := h.1 (List.eq_nil_of_length_eq_zero (by omega))
        rw [this] at hlenQ
        simp at hlenQ
        simp [hlenQ])
    have HLP : Hid (P.length = R1.length ∧ Q.length = R2.length) := ⟨hlenP, hlenQ⟩
    clear hv23 ha3 hb3 hPh hB03 hB4 hQ hQm hlenP hlenQ
    go_wp2_with fail
    refine (lchanged_f P _ w4 hPh4 hokP N (by show _ = _; rw [HPM.out]; exact HN1.out) hNb).mono ?_
    rintro e w5 ⟨rfl, rfl⟩
    go_wp2_with fail
    refine (lchanged_f Q _ w5 hQh hokQ N (by show _ = _; rw [HQM.out]; exact HN2.out) hNb).mono ?_
    rintro e w6 ⟨rfl, rfl⟩
    go_wp2
    go_ret
    exact ⟨ret_bool (by simp), hB04⟩
  · have HSM : Hid ((decide (a.length ≤ 200) && decide (b.length ≤ 200)) = false) := (by show _ = _; simp only [Bool.and_eq_false_iff, decide_eq_false_iff_not]; omega)
    go_wp2_with fail
    refine (lsmall_f a b _ _ w0 ha0 hb0 false HSM).mono ?_
    rintro e w1 ⟨rfl, rfl⟩
    go_wp2
    go_ret
    exact ⟨rfl, hB0⟩

set_option maxRecDepth 100000 in
theorem contract (H : Type) (enc : TypeId × Value → H) (W : World) (base : Nat) (args : Array Value) (ds gs : List (DataW H)) (before : List MemPlace)
    (hval : ∀ (j : Nat) t v, Tryz.f5.params[j]? = some t → args[j]? = some v → Value.okWide Tryz.prog W .any base t v)
    (hW : DataW.Whole enc Tryz.prog Tryz.f5.params.toList Rows.hunksFewerSpec.vars false W args.toList ds gs before) (hk : Rows.uptoSmall H (ds ++ gs) = true) :
    Calls Tryz.prog 5 args W fun e W' => ∃ v, e = .returned v ∧ Rows.hunksFewerSpec.post enc Tryz.prog Tryz.f5 false true false false W args v W' := by
  have hW' := hW
  obtain ⟨p, q, hA0, hV, rfl, hfz, hnd⟩ := hW
  have hA : DataW.TrodAll enc Tryz.prog W 0 (fun _ => true) true Tryz.f5.params.toList args.toList ds p := hA0
  rw [Tryz.params5] at hA hval
  obtain ⟨v0, vs0, d0, ds0, p0, q0, hargs, rfl, rfl, h0, r0⟩ := trodAll_cons hA
  obtain ⟨v1, vs1, d1, ds1, p1, q1, rfl, rfl, rfl, h1, r1⟩ := trodAll_cons r0
  obtain ⟨v2, vs2, d2, ds2, p2, q2, rfl, rfl, rfl, h2, r2⟩ := trodAll_cons r1
  obtain ⟨rfl, rfl, rfl⟩ := trodAll_nil r2
  obtain rfl : args = #[v0, v1, v2] := by cases args; simp_all
  obtain ⟨rfl, rfl⟩ := trodVars_none hV
  obtain ⟨a0, len0, cap0, rfl⟩ := okWide_slice Tryz.underlying22 (hval 0 22 v0 rfl rfl)
  have k0 := h0
  have lt0 : ∀ x ∈ p0, x.block < W.heap.size := by obtain ⟨m, hm⟩ := k0; exact DataW.trod_lt m _ _ _ hm
  obtain ⟨a1, len1, cap1, rfl⟩ := okWide_slice Tryz.underlying22 (hval 1 22 v1 rfl rfl)
  have k1 := h1
  have lt1 : ∀ x ∈ p1, x.block < W.heap.size := by obtain ⟨m, hm⟩ := k1; exact DataW.trod_lt m _ _ _ hm
  obtain ⟨n2, rfl, rfl, rfl, wn2⟩ := open_int Tryz.underlying3 (hval 2 3 v2 rfl rfl) h2
  clear hA0
  simp only [List.append_nil] at hk
  have hbk : Rows.uptoBulkAll [d0, d1, .lit (.int .i64 n2)] ≤ 1048576 := of_decide_eq_true hk
  simp only [Rows.uptoBulkAll] at hbk
  obtain ⟨f0, hf0⟩ := h0
  obtain ⟨ws0, hv0, hwl0⟩ := Tx.open_texts (by simpa [Value.cells] using hf0)
  have he0 : ∀ a ∈ ws0, a.length ≤ 137438953472 := fun a ha => by have := Tx.each_le a ha; omega
  obtain ⟨f1, hf1⟩ := h1
  obtain ⟨ws1, hv1, hwl1⟩ := Tx.open_texts (by simpa [Value.cells] using hf1)
  have he1 : ∀ a ∈ ws1, a.length ≤ 137438953472 := fun a ha => by have := Tx.each_le a ha; omega
  have hw := walk ws0 ws1 n2 (.slice a0 len0 cap0) (.slice a1 len1 cap1) W he0 he1 (hs_of hv0) (hs_of hv1)
  refine hw.mono fun e W' ⟨he, bel⟩ => ?_
  subst he
  exact ⟨_, rfl, _, _, _, [], _, [], hW', trodAll_mk1 (shut_bool Tryz.underlying4 _), trodAll_cons_mk (Below.trod Tx.laidOut (by kernel_rfl) (of_decide_eq_true (by kernel_rfl)) k0 bel lt0) (trodAll_cons_mk (Below.trod Tx.laidOut (by kernel_rfl) (of_decide_eq_true (by kernel_rfl)) k1 bel lt1) (trodAll_cons_mk (shut_int Tryz.underlying3 wn2) trodAll_mk0)), rfl, bel.frame _, fun h => by cases h⟩

theorem laid_met (os : Os) : laidMet Tryz.prog Rows.hunksFewerUptoRow.laid ((Tx.laidOnU (World.holding Tryz.prog os ⟨#[], #[], []⟩)).forCall (fun _ _ => 0) ⟨#[], #[.slice none 0 0, .slice none 0 0, .int .i64 0], []⟩).memory :=
  laidMet_of_run' 8 (by kernel_rfl) (by kernel_rfl)
theorem reads (os : Os) {H : Type} (enc : TypeId × Value → H) : ∃ places, DataW.whole enc Tryz.prog ((Tx.laidOnU (World.holding Tryz.prog os ⟨#[], #[], []⟩)).forCall (fun _ _ => 0) ⟨#[], #[.slice none 0 0, .slice none 0 0, .int .i64 0], []⟩).memory Tryz.f5.params.toList Rows.hunksFewerSpec.vars false #[Value.slice none 0 0, Value.slice none 0 0, Value.int .i64 0].toList 8 = some ([.nil, .nil, .lit (.int .i64 0)], [], places) :=
  ⟨[], by kernel_rfl⟩

set_option maxRecDepth 100000 in
theorem lifted (os : Os) (started : os.Started) (H : Type) (enc : TypeId × Value → H) (F : Stop.Interp) :
    ReturnsInHanded {} Tryz.checked os 5 .any ((Rows.OpenSpec.upto Rows.hunksFewerSpec).preRow enc Tryz.prog Tryz.f5 Rows.hunksFewerUptoRow.domain false Rows.hunksFewerUptoRow.laid) (((Rows.OpenSpec.upto Rows.hunksFewerSpec).at F).post enc Tryz.prog Tryz.f5 false true false false) := by
  obtain ⟨places, hx⟩ := reads os enc
  refine returnsInHanded_of_row (C := Tryz.checked) (s := Rows.OpenSpec.upto Rows.hunksFewerSpec) Tx.own started (by kernel_rfl) Tryz.func5
    (witness_row_at (enc := enc) (C := Tryz.checked) false (Tx.laidOnU (World.holding Tryz.prog os ⟨#[], #[], []⟩)) #[.slice none 0 0, .slice none 0 0, .int .i64 0] rfl (by kernel_rfl) (by kernel_rfl) (by kernel_rfl)
      (OpenSpec.preRow_of_cond 8 hx (by kernel_rfl) (fun k hk => by cases hk; kernel_rfl) (by kernel_rfl) (laid_met os))) ?_
  intro W base args ds gs before hval hW _ hcond _ _ _ _
  exact contract H enc W base args ds gs before hval hW (hcond _ rfl)

theorem said : Rows.HunksFewerUptoSaid :=
  OpenClaim.holds_of_cond 5 Tryz.f5 rfl rfl rfl rfl rfl rfl rfl ⟨rfl, rfl, rfl, rfl, rfl⟩ rfl rfl rfl rfl rfl (by kernel_rfl) Tryz.func5 (by kernel_rfl)
    (of_decide_eq_true (by kernel_rfl)) (by unfold Func.isWrapper; first | (rw [if_pos (by decide +kernel)]; kernel_rfl) | (rw [if_neg (by decide +kernel)]; exact ⟨rfl, rfl⟩))
    (fun os started H enc _ F => by rw [OpenClaim.pre_eq_preRow]; exact lifted os started H enc F)

theorem plain (f : FuncId) (fn : Func) (hf : Tryz.pinned.checked.prog.funcNamed "redline/redlinelaw11.HunksFewer" = some f) (hfn : Tryz.pinned.checked.prog.funcs[f]? = some fn) :
    false = Tryz.pinned.checked.prog.looks [] ∧ ∀ (j : Nat) t, fn.params[j]? = some t → Tryz.pinned.checked.prog.wantsStandIn t = false := by
  obtain rfl : f = 5 := Option.some.inj ((show Tryz.prog.funcNamed "redline/redlinelaw11.HunksFewer" = some 5 by kernel_rfl).symm.trans hf) |>.symm
  obtain rfl : fn = Tryz.f5 := (Option.some.inj (Tryz.func5.symm.trans hfn)).symm
  refine ⟨by kernel_rfl, fun j t ht => ?_⟩
  rw [Tryz.params5] at ht
  have hm : t = 22 ∨ t = 22 ∨ t = 3 := by simpa using Array.mem_of_getElem? ht
  rcases hm with rfl | rfl | rfl
  · exact (show Tryz.prog.wantsStandIn 22 = false by kernel_rfl)
  · exact (show Tryz.prog.wantsStandIn 22 = false by kernel_rfl)
  · exact (show Tryz.prog.wantsStandIn 3 = false by kernel_rfl)

theorem card : Rows.HunksFewerUptoCardSaid :=
  Claim7.holds_tied_plain_at .later [] _ _ _ _ said (fun _ h => by cases h) (by kernel_rfl) (fun _ h => by cases h) hunksFewerUpto_row_tie rfl ⟨rfl, rfl⟩ (by kernel_rfl) rfl plain (by kernel_rfl)
#print axioms card
end Go.Proofs.YtgckcbcdmmnkoaaGreatDoor.hunksFewer
