/-
  For all lists of lines a and b of together at most 1048576 letters and values, the law HunksNone returns true and leaves its arguments as they were: there are no hunks just if nothing is changed; without lines around them no line of a hunk is kept; with all of them a hunk is both texts whole. The variables that the start lays are the listed ones.
-/
import Derived.Test.YtgckcbcdmmnkoaaGreatDoorPartA18
import Derived.Test.YtgckcbcdmmnkoaaGreatDoorPartA2
set_option maxRecDepth 20000
namespace Go.Proofs.YtgckcbcdmmnkoaaGreatDoor.hunksNone
open Go.ChangeShapes Go.WideShapes Go.ChangeAt Go.RowKit

set_option maxRecDepth 10000 in
set_option maxHeartbeats 8000000 in
theorem walk (a b : List (List UInt8)) (va vb : Value) (w : World) (hla : ∀ l ∈ a, l.length ≤ 137438953472) (hlb : ∀ l ∈ b, l.length ≤ 137438953472) (ha : HS w va a) (hb : HS w vb b) :
    Calls Tryz.prog 6 #[va, vb] w fun e w' => e = .returned (.bool true) ∧ Below w.heap.size w w' := by
  obtain ⟨ao, ac, rfl⟩ := Holds.form ha
  obtain ⟨bo, bc, rfl⟩ := Holds.form hb
  have HLA : Hid (∀ l ∈ a, l.length ≤ 137438953472) := hla
  have HLB : Hid (∀ l ∈ b, l.length ≤ 137438953472) := hlb
  clear hla hlb
  go_enter Tryz.func6, Tryz.ntmps6
  go_wp2_with fail
  refine (hworks_f w).mono ?_
  rintro e w0 ⟨rfl, hB0⟩
  by_cases h1 : 90 < a.length
  · have e1 : decide ((90 : Int) < (a.length : Int)) = true := decide_eq_true (by omega)
    go_wp2
    go_ret
    exact ⟨rfl, hB0⟩
  have e1 : decide ((90 : Int) < (a.length : Int)) = false := decide_eq_false (by omega)
  by_cases h2 : 90 < b.length
  · have e2 : decide ((90 : Int) < (b.length : Int)) = true := decide_eq_true (by omega)
    go_wp2
    go_ret
    exact ⟨rfl, hB0⟩
  have e2 : decide ((90 : Int) < (b.length : Int)) = false := decide_eq_false (by omega)
  have ha0 := HS.keep ha hB0 (Nat.le_refl _)
  have hb0 := HS.keep hb hB0 (Nat.le_refl _)
  obtain ⟨L, hL⟩ : ∃ L, mkL (eng 2 (clx ig0 a b) (cly ig0 a b)) b.length = L := ⟨_, rfl⟩
  have HL : Hid (mkL (eng 2 (clx ig0 a b) (cly ig0 a b)) b.length = L) := hL
  obtain ⟨hS, _, hLl⟩ := eng_hun 2 a b (by omega) (by omega) hL
  obtain ⟨R1, hR1⟩ : ∃ R, mkR L a b 0 = R := ⟨_, rfl⟩
  obtain ⟨R2, hR2⟩ : ∃ R, mkR L a b 100 = R := ⟨_, rfl⟩
  have HR1 : Hid (mkR L a b 0 = R1) := hR1
  have HR2 : Hid (mkR L a b 100 = R2) := hR2
  have HE1 : Hid (grpE L a.length b.length 0 = 0) := (mkR_eq hS (by omega)).2
  have HE2 : Hid (grpE L a.length b.length 100 = 0) := (mkR_eq hS (by omega)).2
  have f1 := script_bare hS
  have f2 := script_all hS (by omega) (by omega)
  rw [hR1] at f1
  rw [hR2] at f2
  have HF1 : Hid (R1.length = L.length ∧ ∀ x ∈ R1, ∀ m ∈ x.ls, m.sg ≠ 32) := f1
  have HF2 : Hid (R2.length = min 1 L.length ∧ ∀ x ∈ R2, x.AN = a.length ∧ x.BN = b.length ∧ (oldL x).length = a.length) := f2
  have HSC : Hid (Script L a.length b.length) := hS
  have hLb : L.length ≤ 1099511627776 := by omega
  clear hL hS hR1 hR2 f1 f2
  go_wp2_with fail
  refine (En_f 2 ig0 a b _ _ w0 ha0 hb0 (by omega) (by omega) (by omega) HLA.out HLB.out L HL).mono ?_
  rintro e w2 ⟨v2, rfl, hv2, hB2⟩
  obtain ⟨o2, c2, rfl⟩ := Holds.form hv2
  have hB02 := hB0.trans (hB2.mono hB0.size)
  have ha2 := HS.keep ha hB02 (Nat.le_refl _)
  have hb2 := HS.keep hb hB02 (Nat.le_refl _)
  clear ha0 hb0 hB0 hB2
  go_wp2_with fail
  refine (hMake_f L a b 0 _ _ _ w2 hv2 ha2 hb2 hLb (by omega) (by omega) 0 HE1 R1 HR1).mono ?_
  rintro e w3 ⟨v3, P, rfl, hP, hPm⟩
  have HPM : Hid (P.map (·.1) = R1) := hPm
  have hPl : P.length = L.length := by rw [← HF1.out.1, ← hPm]; simp
  obtain ⟨o3, c3, hv3⟩ := (holds_of hP.own).form
  rw [hPl] at hv3
  subst hv3
  have hB3 := hP.low
  have hB03 := hB02.trans (hB3.mono hB02.size)
  have hv23 := HCh.keep hv2 hB3 (Nat.le_refl _)
  have ha3 := HS.keep ha hB03 (Nat.le_refl _)
  have hb3 := HS.keep hb hB03 (Nat.le_refl _)
  have hPh := hP.holds
  have HPL : Hid (P.length = L.length) := hPl
  clear hv2 ha2 hb2 hB02 hB3 hP hPm hPl
  go_wp2_with fail
  refine (hMake_f L a b 100 _ _ _ w3 hv23 ha3 hb3 hLb (by omega) (by omega) 0 HE2 R2 HR2).mono ?_
  rintro e w4 ⟨v4, Q, rfl, hQ, hQm⟩
  have hB4 := hQ.low
  have hB04 := hB03.trans (hB4.mono hB03.size)
  have hPh4 := hPh.keep hB4 (Nat.le_refl _)
  have HQM : Hid (Q.map (·.1) = R2) := hQm
  have hQl : Q.length = min 1 L.length := by rw [← HF2.out.1, ← hQm]; simp
  have hokP : HOk P := made_ok (ctx := 0) HSC.out (by omega) hLb (by omega) HLA.out HLB.out (by rw [HPM.out, HR1.out])
  have hokQ : HOk Q := made_ok (ctx := 100) HSC.out (by omega) hLb (by omega) HLA.out HLB.out (by rw [HQM.out, HR2.out])
  obtain ⟨o4, c4, hv4⟩ := (holds_of hQ.own).form
  clear hv23 ha3 hb3 hPh hB03 hB4 hQm
  cases hL0 : L with
  | nil =>
    subst hL0
    have hQ0 : Q.length = 0 := by simpa using hQl
    rw [hQ0] at hv4
    subst hv4
    clear hQ0 hQl
    simp only [List.length_nil]
    go_wp2
    refine wp_loop_rounds 1 ?_
    rw [rounds_succ]
    go_wp2
    go_ret
    exact ⟨rfl, hB04⟩
  | cons c0 L0 =>
    have hQ1 : Q.length = 1 := by rw [hQl, hL0, List.length_cons]; omega
    obtain ⟨x, y, rfl⟩ : ∃ x y, Q = [(x, y)] := (by
      match Q, hQ1 with
      | [(x, y)], _ => exact ⟨x, y, rfl⟩)
    obtain ⟨n, hn⟩ : ∃ n, L.length = n := ⟨_, rfl⟩
    have hn1 : 1 ≤ n := by rw [← hn, hL0, List.length_cons]; omega
    subst hv4
    rw [← hL0, hn]
    clear hQl
    have hx := HF2.out.2 x (by rw [← HQM.out]; simp)
    have hQh := hQ.holds
    have hmy := hQh.ins (x, y) (by simp)
    have hokx := hokQ.2 (x, y) (by simp)
    have hownQ := hQ.own
    obtain ⟨gQ, rfl⟩ := hown_at hownQ
    obtain ⟨yo, yc, hyy⟩ := hmy.form
    dsimp only at hyy hmy hokx
    subst hyy
    have q0 : w4.cell? ⟨gQ, 0, none⟩ = some (.int .i64 x.A) := hownQ.cellAt 0 (by simp)
    have q1 : w4.cell? ⟨gQ, 1, none⟩ = some (.int .i64 x.AN) := hownQ.cellAt 1 (by simp)
    have q2 : w4.cell? ⟨gQ, 2, none⟩ = some (.int .i64 x.B) := hownQ.cellAt 2 (by simp)
    have q3 : w4.cell? ⟨gQ, 3, none⟩ = some (.int .i64 x.BN) := hownQ.cellAt 3 (by simp)
    have q4 : w4.cell? ⟨gQ, 4, none⟩ = some (.slice yo x.ls.length yc) := hownQ.cellAt 4 (by simp)
    have b0 : ((n : Int) == 0) = false := (by rw [beq_eq_false_iff_ne]; omega)
    have b1 : (if (n : Int) < 1 then (n : Int) else 1) = 1 := if_neg (by omega)
    have b2 : (if n < 1 then (n : Int) else 1) = 1 := if_neg (by omega)
    have b3 : decide ((n : Int) < 1) = false := decide_eq_false (by omega)
    have b4 : ¬ n < 1 := by omega
    have HXF : Hid (x.AN = a.length ∧ x.BN = b.length ∧ (oldL x).length = a.length) := hx
    have HNN : Hid (L.length = n) := hn
    have HPL2 : Hid (P.length = n) := (by show _ = _; rw [HPL.out]; exact hn)
    have hPh5 : HHp w4 (.slice o3 n c3) P := (by rw [hn] at hPh4; exact hPh4)
    clear hn hL0 hQ1 hx hPh4 hQ hQh
    have hnb : n ≤ 1099511627776 := by rw [← HNN.out]; exact hLb
    go_wp2
    go_loopw [11] (fun iv wr => ∃ i : Nat, i ≤ n ∧ iv = .int .i64 (i : Int) ∧ w4 = wr) (fun iv _ => n - (intOf iv).toNat)
    case atStart => exact ⟨0, Nat.zero_le _, by go_num, rfl⟩
    case round =>
      obtain ⟨i, hi, rfl, rfl⟩ := hrel
      by_cases hlt : i < n
      · have hltP : i < P.length := by rw [HPL2.out]; exact hlt
        obtain ⟨pb, pf, rfl, _, hpc⟩ := hPh5.at (by omega)
        obtain ⟨xx, yy, hxy⟩ : ∃ x y, P[i] = (x, y) := ⟨_, _, rfl⟩
        obtain ⟨_, _, _, _, p4⟩ := hpc i hltP
        have hmm := hPh5.ins P[i] (List.getElem_mem hltP)
        have hno := HF1.out.2 P[i].1 (by rw [← HPM.out]; exact List.mem_map_of_mem (List.getElem_mem hltP))
        have hbd := (hokP.2 _ (List.getElem_mem hltP)).1
        rw [hxy] at p4 hmm hno hbd
        dsimp only at p4 hmm hno hbd
        have HNO : Hid (∀ m ∈ xx.ls, m.sg ≠ 32) := hno
        obtain ⟨zo, zc, rfl⟩ := hmm.form
        have i1 : (0 : Int) ≤ (i : Int) := by omega
        have i2 : (i : Int) < (n : Int) := by omega
        clear hpc hno hxy
        go_wp2
        go_loopw [12] (fun kv wr => ∃ k : Nat, k ≤ xx.ls.length ∧ kv = .int .i64 (k : Int) ∧ w4 = wr) (fun kv _ => xx.ls.length - (intOf kv).toNat)
        case atStart => exact ⟨0, Nat.zero_le _, by go_num, rfl⟩
        case round =>
          obtain ⟨k, hk, rfl, rfl⟩ := hrel
          by_cases hkl : k < xx.ls.length
          · obtain ⟨mb, mf, rfl, _, hmc⟩ := HMk.at hmm (by omega)
            obtain ⟨m0, _⟩ := hmc k hkl
            have hne := HNO.out _ (List.getElem_mem hkl)
            have e32 : (xx.ls[k].sg == 32) = false := by simpa using hne
            have k1 : (0 : Int) ≤ (k : Int) := by omega
            have k2 : (k : Int) < (xx.ls.length : Int) := by omega
            generalize xx.ls[k].sg = sg at *
            clear hmc hne
            go_wp2
            exact ⟨⟨k + 1, by omega, by go_num, trivial⟩, by simp [intOf]; omega⟩
          · have hend : decide ((k : Int) < (xx.ls.length : Int)) = false := decide_eq_false (by omega)
            go_wp2
            exact ⟨⟨i + 1, by omega, by go_num, trivial⟩, by simp [intOf]; omega⟩
      · have hend : decide ((i : Int) < (n : Int)) = false := decide_eq_false (by omega)
        have hxf := HXF.out
        have a1 : (x.AN == (a.length : Int)) = true := by rw [beq_iff_eq]; exact hxf.1
        have a2 : (x.BN == (b.length : Int)) = true := by rw [beq_iff_eq]; exact hxf.2.1
        obtain ⟨RO, hRO⟩ : ∃ R, oldL x = R := ⟨_, rfl⟩
        have HRO : Hid (oldL x = RO) := hRO
        have a3 : ((RO.length : Int) == (a.length : Int)) = true := by rw [← hRO, beq_iff_eq, hxf.2.2]
        clear hRO hxf
        go_wp2_with fail
        refine (rOld_f x _ w4 hmy hokx.1 RO HRO).mono ?_
        rintro e w5 ⟨v5, rfl, hv5, hB5⟩
        obtain ⟨o5, c5, rfl⟩ := Holds.form hv5
        go_wp2
        go_ret
        exact ⟨ret_bool (by simp), hB04.trans (hB5.mono hB04.size)⟩

set_option maxRecDepth 100000 in
theorem contract (H : Type) (enc : TypeId × Value → H) (W : World) (base : Nat) (args : Array Value) (ds gs : List (DataW H)) (before : List MemPlace)
    (hval : ∀ (j : Nat) t v, Tryz.f6.params[j]? = some t → args[j]? = some v → Value.okWide Tryz.prog W .any base t v)
    (hW : DataW.Whole enc Tryz.prog Tryz.f6.params.toList Rows.hunksNoneSpec.vars false W args.toList ds gs before) (hk : Rows.uptoSmall H (ds ++ gs) = true) :
    Calls Tryz.prog 6 args W fun e W' => ∃ v, e = .returned v ∧ Rows.hunksNoneSpec.post enc Tryz.prog Tryz.f6 false true false false W args v W' := by
  have hW' := hW
  obtain ⟨p, q, hA0, hV, rfl, hfz, hnd⟩ := hW
  have hA : DataW.TrodAll enc Tryz.prog W 0 (fun _ => true) true Tryz.f6.params.toList args.toList ds p := hA0
  rw [Tryz.params6] at hA hval
  obtain ⟨v0, vs0, d0, ds0, p0, q0, hargs, rfl, rfl, h0, r0⟩ := trodAll_cons hA
  obtain ⟨v1, vs1, d1, ds1, p1, q1, rfl, rfl, rfl, h1, r1⟩ := trodAll_cons r0
  obtain ⟨rfl, rfl, rfl⟩ := trodAll_nil r1
  obtain rfl : args = #[v0, v1] := by cases args; simp_all
  obtain ⟨rfl, rfl⟩ := trodVars_none hV
  obtain ⟨a0, len0, cap0, rfl⟩ := okWide_slice Tryz.underlying22 (hval 0 22 v0 rfl rfl)
  have k0 := h0
  have lt0 : ∀ x ∈ p0, x.block < W.heap.size := by obtain ⟨m, hm⟩ := k0; exact DataW.trod_lt m _ _ _ hm
  obtain ⟨a1, len1, cap1, rfl⟩ := okWide_slice Tryz.underlying22 (hval 1 22 v1 rfl rfl)
  have k1 := h1
  have lt1 : ∀ x ∈ p1, x.block < W.heap.size := by obtain ⟨m, hm⟩ := k1; exact DataW.trod_lt m _ _ _ hm
  clear hA0
  simp only [List.append_nil] at hk
  have hbk : Rows.uptoBulkAll [d0, d1] ≤ 1048576 := of_decide_eq_true hk
  simp only [Rows.uptoBulkAll] at hbk
  obtain ⟨f0, hf0⟩ := h0
  obtain ⟨ws0, hv0, hwl0⟩ := Tx.open_texts (by simpa [Value.cells] using hf0)
  have he0 : ∀ a ∈ ws0, a.length ≤ 137438953472 := fun a ha => by have := Tx.each_le a ha; omega
  obtain ⟨f1, hf1⟩ := h1
  obtain ⟨ws1, hv1, hwl1⟩ := Tx.open_texts (by simpa [Value.cells] using hf1)
  have he1 : ∀ a ∈ ws1, a.length ≤ 137438953472 := fun a ha => by have := Tx.each_le a ha; omega
  have hw := walk ws0 ws1 (.slice a0 len0 cap0) (.slice a1 len1 cap1) W he0 he1 (hs_of hv0) (hs_of hv1)
  refine hw.mono fun e W' ⟨he, bel⟩ => ?_
  subst he
  exact ⟨_, rfl, _, _, _, [], _, [], hW', trodAll_mk1 (shut_bool Tryz.underlying4 _), trodAll_cons_mk (Below.trod Tx.laidOut (by kernel_rfl) (of_decide_eq_true (by kernel_rfl)) k0 bel lt0) (trodAll_cons_mk (Below.trod Tx.laidOut (by kernel_rfl) (of_decide_eq_true (by kernel_rfl)) k1 bel lt1) trodAll_mk0), rfl, bel.frame _, fun h => by cases h⟩

theorem laid_met (os : Os) : laidMet Tryz.prog Rows.hunksNoneUptoRow.laid ((Tx.laidOnU (World.holding Tryz.prog os ⟨#[], #[], []⟩)).forCall (fun _ _ => 0) ⟨#[], #[.slice none 0 0, .slice none 0 0], []⟩).memory :=
  laidMet_of_run' 8 (by kernel_rfl) (by kernel_rfl)
theorem reads (os : Os) {H : Type} (enc : TypeId × Value → H) : ∃ places, DataW.whole enc Tryz.prog ((Tx.laidOnU (World.holding Tryz.prog os ⟨#[], #[], []⟩)).forCall (fun _ _ => 0) ⟨#[], #[.slice none 0 0, .slice none 0 0], []⟩).memory Tryz.f6.params.toList Rows.hunksNoneSpec.vars false #[Value.slice none 0 0, Value.slice none 0 0].toList 8 = some ([.nil, .nil], [], places) :=
  ⟨[], by kernel_rfl⟩

set_option maxRecDepth 100000 in
theorem lifted (os : Os) (started : os.Started) (H : Type) (enc : TypeId × Value → H) (F : Stop.Interp) :
    ReturnsInHanded {} Tryz.checked os 6 .any ((Rows.OpenSpec.upto Rows.hunksNoneSpec).preRow enc Tryz.prog Tryz.f6 Rows.hunksNoneUptoRow.domain false Rows.hunksNoneUptoRow.laid) (((Rows.OpenSpec.upto Rows.hunksNoneSpec).at F).post enc Tryz.prog Tryz.f6 false true false false) := by
  obtain ⟨places, hx⟩ := reads os enc
  refine returnsInHanded_of_row (C := Tryz.checked) (s := Rows.OpenSpec.upto Rows.hunksNoneSpec) Tx.own started (by kernel_rfl) Tryz.func6
    (witness_row_at (enc := enc) (C := Tryz.checked) false (Tx.laidOnU (World.holding Tryz.prog os ⟨#[], #[], []⟩)) #[.slice none 0 0, .slice none 0 0] rfl (by kernel_rfl) (by kernel_rfl) (by kernel_rfl)
      (OpenSpec.preRow_of_cond 8 hx (by kernel_rfl) (fun k hk => by cases hk; kernel_rfl) (by kernel_rfl) (laid_met os))) ?_
  intro W base args ds gs before hval hW _ hcond _ _ _ _
  exact contract H enc W base args ds gs before hval hW (hcond _ rfl)

theorem said : Rows.HunksNoneUptoSaid :=
  OpenClaim.holds_of_cond 6 Tryz.f6 rfl rfl rfl rfl rfl rfl rfl ⟨rfl, rfl, rfl, rfl, rfl⟩ rfl rfl rfl rfl rfl (by kernel_rfl) Tryz.func6 (by kernel_rfl)
    (of_decide_eq_true (by kernel_rfl)) (by unfold Func.isWrapper; first | (rw [if_pos (by decide +kernel)]; kernel_rfl) | (rw [if_neg (by decide +kernel)]; exact ⟨rfl, rfl⟩))
    (fun os started H enc _ F => by rw [OpenClaim.pre_eq_preRow]; exact lifted os started H enc F)

theorem plain (f : FuncId) (fn : Func) (hf : Tryz.pinned.checked.prog.funcNamed "redline/redlinelaw11.HunksNone" = some f) (hfn : Tryz.pinned.checked.prog.funcs[f]? = some fn) :
    false = Tryz.pinned.checked.prog.looks [] ∧ ∀ (j : Nat) t, fn.params[j]? = some t → Tryz.pinned.checked.prog.wantsStandIn t = false := by
  obtain rfl : f = 6 := Option.some.inj ((show Tryz.prog.funcNamed "redline/redlinelaw11.HunksNone" = some 6 by kernel_rfl).symm.trans hf) |>.symm
  obtain rfl : fn = Tryz.f6 := (Option.some.inj (Tryz.func6.symm.trans hfn)).symm
  refine ⟨by kernel_rfl, fun j t ht => ?_⟩
  rw [Tryz.params6] at ht
  have hm : t = 22 ∨ t = 22 := by simpa using Array.mem_of_getElem? ht
  rcases hm with rfl | rfl
  · exact (show Tryz.prog.wantsStandIn 22 = false by kernel_rfl)
  · exact (show Tryz.prog.wantsStandIn 22 = false by kernel_rfl)

theorem card : Rows.HunksNoneUptoCardSaid :=
  Claim7.holds_tied_plain_at .later [] _ _ _ _ said (fun _ h => by cases h) (by kernel_rfl) (fun _ h => by cases h) hunksNoneUpto_row_tie rfl ⟨rfl, rfl⟩ (by kernel_rfl) rfl plain (by kernel_rfl)
#print axioms card
end Go.Proofs.YtgckcbcdmmnkoaaGreatDoor.hunksNone
