/-
  For every engine and all lists of lines a and b of together at most 1048576 letters and values, the law EngineReaches returns true and leaves its arguments as they were: with nothing ignored, what any engine finds makes the second text of the first one, and, gone back, the first one of the second. The variables that the start lays are the listed ones.
-/
import Derived.Test.YtjhanfiohfakoaaGreatDoorPartC2
import Derived.Test.YtjhanfiohfakoaaGreatDoorPartB1
import Derived.Test.YtjhanfiohfakoaaGreatDoorPartF1
import Derived.Test.YtjhanfiohfakoaaGreatDoorPartA3
import Derived.Deep.CutRange
set_option maxRecDepth 20000
namespace Go.Proofs.YtjhanfiohfakoaaGreatDoor.engineReaches
open Go.ChangeShapes Go.WideShapes Go.ChangeAt Go.RowKit

set_option maxRecDepth 10000 in
set_option maxHeartbeats 4000000 in
theorem walk (k : Int) (a b : List (List UInt8)) (va vb : Value) (w : World) (hla : ∀ l ∈ a, l.length ≤ 137438953472) (hlb : ∀ l ∈ b, l.length ≤ 137438953472) (ha : HS w va a) (hb : HS w vb b) :
    Calls Tryz.prog 5 #[.int .i64 k, va, vb] w fun e w' => e = .returned (.bool true) ∧ Below w.heap.size w w' := by
  obtain ⟨ao, ac, rfl⟩ := Holds.form ha
  obtain ⟨bo, bc, rfl⟩ := Holds.form hb
  have HLA : Hid (∀ l ∈ a, l.length ≤ 137438953472) := hla
  have HLB : Hid (∀ l ∈ b, l.length ≤ 137438953472) := hlb
  clear hla hlb
  go_enter Tryz.func5, Tryz.ntmps5
  go_wp2_with fail
  refine (enWorks_any w).mono ?_
  rintro e w0 ⟨rfl, hB0⟩
  by_cases h1 : 200 < a.length
  · have e1 : decide ((200 : Int) < (a.length : Int)) = true := decide_eq_true (by omega)
    go_wp2
    go_ret
    exact ⟨rfl, hB0⟩
  have e1 : decide ((200 : Int) < (a.length : Int)) = false := decide_eq_false (by omega)
  by_cases h2 : 200 < b.length
  · have e2 : decide ((200 : Int) < (b.length : Int)) = true := decide_eq_true (by omega)
    go_wp2
    go_ret
    exact ⟨rfl, hB0⟩
  have e2 : decide ((200 : Int) < (b.length : Int)) = false := decide_eq_false (by omega)
  obtain ⟨K, hK, hk⟩ := kind_of k
  obtain ⟨L, hL⟩ : ∃ L, mkL (eng K (clx ig0 a b) (cly ig0 a b)) b.length = L := ⟨_, rfl⟩
  obtain ⟨hS, hr1, hr2⟩ := eng_reach K a b (by omega) (by omega) canon0
  have hLl := mk_many (eng K (clx ig0 a b) (cly ig0 a b)) b.length
  rw [(eng_kpt K (clx ig0 a b) (cly ig0 a b)).len, clx_length, hL] at hLl
  rw [hL] at hS hr1 hr2
  obtain ⟨M, hM⟩ : ∃ M, invL L = M := ⟨_, rfl⟩
  have hMl : M.length ≤ 1048576 := by rw [← hM, invL, List.length_map]; omega
  have hS2 := hS.inv
  rw [hM] at hS2 hr2
  have HS1 : Hid (Script L a.length b.length) := hS
  have HS2 : Hid (Script M b.length a.length) := hS2
  have HR1 : Hid (applyL L a b = b) := hr1
  have HR2 : Hid (applyL M b a = a) := hr2
  have HL : Hid (mkL (eng K (clx ig0 a b) (cly ig0 a b)) b.length = L) := hL
  have HM : Hid (invL L = M) := hM
  have hLl2 : L.length ≤ 1048576 := by omega
  have ha0 := HS.keep ha hB0 (Nat.le_refl _)
  have hb0 := HS.keep hb hB0 (Nat.le_refl _)
  clear hL hM hS hS2 hr1 hr2 hLl
  go_wp2_with fail
  rw [hK]
  clear hK
  refine (En_f K ig0 a b _ _ w0 ha0 hb0 hk (by omega) (by omega) HLA.out HLB.out L HL).mono ?_
  rintro e w1 ⟨v1, rfl, hv1, hB1⟩
  obtain ⟨o1, c1, rfl⟩ := Holds.form hv1
  have hB01 := hB0.trans (hB1.mono hB0.size)
  have ha1 := HS.keep ha hB01 (Nat.le_refl _)
  have hb1 := HS.keep hb hB01 (Nat.le_refl _)
  clear ha0 hb0 hB0 hB1
  go_wp2_with fail
  refine (Apply_ok L a b _ _ _ w1 hv1 ha1 hb1 HS1.out (by omega) (by omega) hLl2).mono ?_
  rintro e w2 ⟨v2, rfl, hv2, hB2⟩
  rw [HR1.out] at hv2
  have hx2 : HS w2 v2 b := holds_of hv2
  obtain ⟨o2, c2, rfl⟩ := Holds.form hx2
  have hB02 := hB01.trans (hB2.mono hB01.size)
  have hv12 := HCh.keep hv1 hB2 (Nat.le_refl _)
  clear ha1 hb1 hB01 hB2 hv1 hv2
  go_wp2_with fail
  refine (Invert_f L M _ w2 hv12 hLl2 HM).mono ?_
  rintro e w3 ⟨v3, rfl, hv3, hB3⟩
  obtain ⟨o3, c3, rfl⟩ := Holds.form hv3
  have hB03 := hB02.trans (hB3.mono hB02.size)
  have hx3 := HS.keep hx2 hB3 (Nat.le_refl _)
  have ha3 := HS.keep ha hB03 (Nat.le_refl _)
  have hb3 := HS.keep hb hB03 (Nat.le_refl _)
  clear hx2 hB02 hB3 hv12
  go_wp2_with fail
  refine (Apply_ok M b a _ _ _ w3 hv3 hb3 ha3 HS2.out (by omega) (by omega) hMl).mono ?_
  rintro e w4 ⟨v4, rfl, hv4, hB4⟩
  rw [HR2.out] at hv4
  have hy4 : HS w4 v4 a := holds_of hv4
  obtain ⟨o4, c4, rfl⟩ := Holds.form hy4
  have hB04 := hB03.trans (hB4.mono hB03.size)
  have hx4 := HS.keep hx3 hB4 (Nat.le_refl _)
  have ha4 := HS.keep ha hB04 (Nat.le_refl _)
  have hb4 := HS.keep hb hB04 (Nat.le_refl _)
  clear hx3 ha3 hb3 hB03 hB4 hv3 hv4
  go_wp2_with fail
  refine (SameS_any _ _ b w4 (by omega) hx4 hb4).mono ?_
  rintro e w5 ⟨rfl, hB5⟩
  have hB05 := hB04.trans (hB5.mono hB04.size)
  have hy5 := HS.keep hy4 hB5 (Nat.le_refl _)
  have ha5 := HS.keep ha4 hB5 (Nat.le_refl _)
  clear hx4 ha4 hb4 hB04 hB5 hy4
  go_wp2_with fail
  refine (SameS_any _ _ a w5 (by omega) hy5 ha5).mono ?_
  rintro e w6 ⟨rfl, hB6⟩
  have hB06 := hB05.trans (hB6.mono hB05.size)
  go_wp2
  go_ret
  exact ⟨ret_bool (by simp), hB06⟩
set_option maxRecDepth 100000 in
theorem contract (H : Type) (enc : TypeId × Value → H) (W : World) (base : Nat) (args : Array Value) (ds gs : List (DataW H)) (before : List MemPlace)
    (hval : ∀ (j : Nat) t v, Tryz.f5.params[j]? = some t → args[j]? = some v → Value.okWide Tryz.prog W .any base t v)
    (hW : DataW.Whole enc Tryz.prog Tryz.f5.params.toList Rows.engineReachesSpec.vars false W args.toList ds gs before) (hk : Rows.uptoSmall H (ds ++ gs) = true) :
    Calls Tryz.prog 5 args W fun e W' => ∃ v, e = .returned v ∧ Rows.engineReachesSpec.post enc Tryz.prog Tryz.f5 false true false false W args v W' := by
  have hW' := hW
  obtain ⟨p, q, hA0, hV, rfl, hfz, hnd⟩ := hW
  have hA : DataW.TrodAll enc Tryz.prog W 0 (fun _ => true) true Tryz.f5.params.toList args.toList ds p := hA0
  rw [Tryz.params5] at hA hval
  obtain ⟨v0, vs0, d0, ds0, p0, q0, hargs, rfl, rfl, h0, r0⟩ := trodAll_cons hA
  obtain ⟨v1, vs1, d1, ds1, p1, q1, rfl, rfl, rfl, h1, r1⟩ := trodAll_cons r0
  obtain ⟨v2, vs2, d2, ds2, p2, q2, rfl, rfl, rfl, h2, r2⟩ := trodAll_cons r1
  obtain ⟨rfl, rfl, rfl⟩ := trodAll_nil r2
  obtain rfl : args = #[v0, v1, v2] := by cases args; simp_all
  obtain ⟨rfl, rfl⟩ := trodVars_none hV
  obtain ⟨a1, len1, cap1, rfl⟩ := okWide_slice Tryz.underlying22 (hval 1 22 v1 rfl rfl)
  have k1 := h1
  have lt1 : ∀ x ∈ p1, x.block < W.heap.size := by obtain ⟨m, hm⟩ := k1; exact DataW.trod_lt m _ _ _ hm
  obtain ⟨a2, len2, cap2, rfl⟩ := okWide_slice Tryz.underlying22 (hval 2 22 v2 rfl rfl)
  have k2 := h2
  have lt2 : ∀ x ∈ p2, x.block < W.heap.size := by obtain ⟨m, hm⟩ := k2; exact DataW.trod_lt m _ _ _ hm
  obtain ⟨n0, rfl, rfl, rfl, wn0⟩ := open_int Tryz.underlying3 (hval 0 3 v0 rfl rfl) h0
  clear hA0
  simp only [List.append_nil] at hk
  have hbk : Rows.uptoBulkAll [.lit (.int .i64 n0), d1, d2] ≤ 1048576 := of_decide_eq_true hk
  simp only [Rows.uptoBulkAll] at hbk
  obtain ⟨f1, hf1⟩ := h1
  obtain ⟨ws1, hv1, hwl1⟩ := Tx.open_texts (by simpa [Value.cells] using hf1)
  have he1 : ∀ a ∈ ws1, a.length ≤ 137438953472 := fun a ha => by have := Tx.each_le a ha; omega
  obtain ⟨f2, hf2⟩ := h2
  obtain ⟨ws2, hv2, hwl2⟩ := Tx.open_texts (by simpa [Value.cells] using hf2)
  have he2 : ∀ a ∈ ws2, a.length ≤ 137438953472 := fun a ha => by have := Tx.each_le a ha; omega
  have hw := walk n0 ws1 ws2 (.slice a1 len1 cap1) (.slice a2 len2 cap2) W he1 he2 (hs_of hv1) (hs_of hv2)
  refine hw.mono fun e W' ⟨he, bel⟩ => ?_
  subst he
  exact ⟨_, rfl, _, _, _, [], _, [], hW', trodAll_mk1 (shut_bool Tryz.underlying4 _), trodAll_cons_mk (shut_int Tryz.underlying3 wn0) (trodAll_cons_mk (Below.trod Tx.laidOut (by kernel_rfl) (of_decide_eq_true (by kernel_rfl)) k1 bel lt1) (trodAll_cons_mk (Below.trod Tx.laidOut (by kernel_rfl) (of_decide_eq_true (by kernel_rfl)) k2 bel lt2) trodAll_mk0)), rfl, bel.frame _, fun h => by cases h⟩

theorem laid_met (os : Os) : laidMet Tryz.prog Rows.engineReachesUptoRow.laid ((Tx.laidOnU (World.holding Tryz.prog os ⟨#[], #[], []⟩)).forCall (fun _ _ => 0) ⟨#[], #[.int .i64 0, .slice none 0 0, .slice none 0 0], []⟩).memory :=
  laidMet_of_run' 8 (by kernel_rfl) (by kernel_rfl)
theorem reads (os : Os) {H : Type} (enc : TypeId × Value → H) : ∃ places, DataW.whole enc Tryz.prog ((Tx.laidOnU (World.holding Tryz.prog os ⟨#[], #[], []⟩)).forCall (fun _ _ => 0) ⟨#[], #[.int .i64 0, .slice none 0 0, .slice none 0 0], []⟩).memory Tryz.f5.params.toList Rows.engineReachesSpec.vars false #[Value.int .i64 0, Value.slice none 0 0, Value.slice none 0 0].toList 8 = some ([.lit (.int .i64 0), .nil, .nil], [], places) :=
  ⟨[], by kernel_rfl⟩

set_option maxRecDepth 100000 in
theorem lifted (os : Os) (started : os.Started) (H : Type) (enc : TypeId × Value → H) (F : Stop.Interp) :
    ReturnsInHanded {} Tryz.checked os 5 .any ((Rows.OpenSpec.upto Rows.engineReachesSpec).preRow enc Tryz.prog Tryz.f5 Rows.engineReachesUptoRow.domain false Rows.engineReachesUptoRow.laid) (((Rows.OpenSpec.upto Rows.engineReachesSpec).at F).post enc Tryz.prog Tryz.f5 false true false false) := by
  obtain ⟨places, hx⟩ := reads os enc
  refine returnsInHanded_of_row (C := Tryz.checked) (s := Rows.OpenSpec.upto Rows.engineReachesSpec) Tx.own started (by kernel_rfl) Tryz.func5
    (witness_row_at (enc := enc) (C := Tryz.checked) false (Tx.laidOnU (World.holding Tryz.prog os ⟨#[], #[], []⟩)) #[.int .i64 0, .slice none 0 0, .slice none 0 0] rfl (by kernel_rfl) (by kernel_rfl) (by kernel_rfl)
      (OpenSpec.preRow_of_cond 8 hx (by kernel_rfl) (fun k hk => by cases hk; kernel_rfl) (by kernel_rfl) (laid_met os))) ?_
  intro W base args ds gs before hval hW _ hcond _ _ _ _
  exact contract H enc W base args ds gs before hval hW (hcond _ rfl)

theorem said : Rows.EngineReachesUptoSaid :=
  OpenClaim.holds_of_cond 5 Tryz.f5 rfl rfl rfl rfl rfl rfl rfl ⟨rfl, rfl, rfl, rfl, rfl⟩ rfl rfl rfl rfl rfl (by kernel_rfl) Tryz.func5 (by kernel_rfl)
    (of_decide_eq_true (by kernel_rfl)) (by unfold Func.isWrapper; first | (rw [if_pos (by decide +kernel)]; kernel_rfl) | (rw [if_neg (by decide +kernel)]; exact ⟨rfl, rfl⟩))
    (fun os started H enc _ F => by rw [OpenClaim.pre_eq_preRow]; exact lifted os started H enc F)

theorem plain (f : FuncId) (fn : Func) (hf : Tryz.pinned.checked.prog.funcNamed "redline/redlinelaw10.EngineReaches" = some f) (hfn : Tryz.pinned.checked.prog.funcs[f]? = some fn) :
    false = Tryz.pinned.checked.prog.looks [] ∧ ∀ (j : Nat) t, fn.params[j]? = some t → Tryz.pinned.checked.prog.wantsStandIn t = false := by
  obtain rfl : f = 5 := Option.some.inj ((show Tryz.prog.funcNamed "redline/redlinelaw10.EngineReaches" = some 5 by kernel_rfl).symm.trans hf) |>.symm
  obtain rfl : fn = Tryz.f5 := (Option.some.inj (Tryz.func5.symm.trans hfn)).symm
  refine ⟨by kernel_rfl, fun j t ht => ?_⟩
  rw [Tryz.params5] at ht
  have hm : t = 3 ∨ t = 22 ∨ t = 22 := by simpa using Array.mem_of_getElem? ht
  rcases hm with rfl | rfl | rfl
  · exact (show Tryz.prog.wantsStandIn 3 = false by kernel_rfl)
  · exact (show Tryz.prog.wantsStandIn 22 = false by kernel_rfl)
  · exact (show Tryz.prog.wantsStandIn 22 = false by kernel_rfl)

theorem card : Rows.EngineReachesUptoCardSaid :=
  Claim7.holds_tied_plain_at .later [] _ _ _ _ said (fun _ h => by cases h) (by kernel_rfl) (fun _ h => by cases h) engineReachesUpto_row_tie rfl ⟨rfl, rfl⟩ (by kernel_rfl) rfl plain (by kernel_rfl)
#print axioms card
end Go.Proofs.YtjhanfiohfakoaaGreatDoor.engineReaches
