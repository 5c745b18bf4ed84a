/-
  For every patch of together at most 1048576 letters and values, the law CtxfmtPrints returns true and leaves its argument as it was: ctxfmt.Print writes what the plain reference writes, or refuses as it does, and what it was handed stays as it was. The condition: the bound of the statement's own '..Upto' form.
-/
import Derived.Test.YtgiojkhmkeocfaaDoorCards
import Derived.Test.YtgiojkhmkeocfaaDoorTie
import Derived.Test.YtgiojkhmkeocfaaDoorCtPriA7
import Derived.Test.YtgiojkhmkeocfaaDoorCtPriA8
import Derived.ProofKit
import Derived.OpenShut
import Derived.Deep.DeepHandedRow
import Derived.Lib.LaidTab
import Derived.LaidSub
namespace Go.Proofs.YtgiojkhmkeocfaaDoor
open Go.RowKit

set_option maxRecDepth 10000 in
set_option maxHeartbeats 16000000 in
theorem CtxfmtPrints_any (old new : List UInt8) (q : List (Hk × Value)) (y : Value) (w : World) (hb : old.length + new.length + hbk (q.map (·.1)) ≤ 1048576) (hv : HHp w y q) (HT : Hid (Tab10 w)) :
    Calls Tryd.prog 5 #[.agg #[.string ⟨old.toArray⟩, .string ⟨new.toArray⟩, y]] w fun e w' => e = .returned (.bool true) ∧ Below w.heap.size w w' := by
  have hok : HOk q := hok_bulk (n := 1048576) (by omega) (by decide)
  obtain ⟨hs, hhs⟩ : ∃ hs, q.map (·.1) = hs := ⟨_, rfl⟩
  have HQ : Hid (q.map (·.1) = hs) := hhs
  obtain ⟨r, hr⟩ : ∃ r, wrgP ⟨old, new, hs⟩ = r := ⟨_, rfl⟩
  obtain ⟨Z, hZd⟩ : ∃ Z, ptT ⟨old, new, hs⟩ = Z := ⟨_, rfl⟩
  have HR : Hid (wrgP ⟨old, new, hs⟩ = r) := hr
  have HZ : Hid (ptT ⟨old, new, hs⟩ = Z) := hZd
  have hZ : Z.length ≤ 70368744177664 := (by
    have h1 := pt_len ⟨old, new, hs⟩
    rw [hZd] at h1
    have h2 := hsS_hbk hs
    rw [← hhs] at h2
    dsimp only at h1
    rw [← hhs] at h1
    omega)
  have HX : Hid (∀ x ∈ hs, ∀ sg, (sidL sg false false x.ls).flatten.length ≤ 70368744177664) := (by
    intro x hx sg
    have h := sid_bulk (l := hs) (n := 1048576) (by rw [← hhs]; omega) x hx sg
    omega)
  have ho : old.length ≤ 1099511627776 := by omega
  have hn : new.length ≤ 1099511627776 := by omega
  clear hr hZd hhs hb
  obtain ⟨lo, lc, rfl⟩ := Holds.form hv.row
  have hBa : Below w.heap.size w (w.alloc (.cells #[.string ⟨old.toArray⟩, .string ⟨new.toArray⟩, .slice lo q.length lc] 46)) := (Below.refl _ w).alloc (Nat.le_refl _) _
  have hPa : Px (w.alloc (.cells #[.string ⟨old.toArray⟩, .string ⟨new.toArray⟩, .slice lo q.length lc] 46)) w.heap.size ⟨old, new, hs⟩ (.slice lo q.length lc) := heap_alloc_new w _
  have hBab : Below (w.alloc (.cells #[.string ⟨old.toArray⟩, .string ⟨new.toArray⟩, .slice lo q.length lc] 46)).heap.size (w.alloc (.cells #[.string ⟨old.toArray⟩, .string ⟨new.toArray⟩, .slice lo q.length lc] 46)) ((w.alloc (.cells #[.string ⟨old.toArray⟩, .string ⟨new.toArray⟩, .slice lo q.length lc] 46)).alloc (.cells #[.string ⟨old.toArray⟩, .string ⟨new.toArray⟩, .slice lo q.length lc] 46)) := (Below.refl _ _).alloc (Nat.le_refl _) _
  have hPb0 := heap_alloc_new (w.alloc (.cells #[.string ⟨old.toArray⟩, .string ⟨new.toArray⟩, .slice lo q.length lc] 46)) (.cells #[.string ⟨old.toArray⟩, .string ⟨new.toArray⟩, .slice lo q.length lc] 46)
  rw [show (w.alloc (.cells #[.string ⟨old.toArray⟩, .string ⟨new.toArray⟩, .slice lo q.length lc] 46)).heap.size = w.heap.size + 1 by simp] at hPb0
  have hPb : Px ((w.alloc (.cells #[.string ⟨old.toArray⟩, .string ⟨new.toArray⟩, .slice lo q.length lc] 46)).alloc (.cells #[.string ⟨old.toArray⟩, .string ⟨new.toArray⟩, .slice lo q.length lc] 46)) (w.heap.size + 1) ⟨old, new, hs⟩ (.slice lo q.length lc) := hPb0
  clear hPb0
  have hPa2 := hPa.low hBab
  have hBb := hBa.trans (hBab.mono hBa.size)
  have hvb := hv.keep hBb (Nat.le_refl _)
  have hc := rCopyPt_f ⟨old, new, hs⟩ q (.slice lo q.length lc) (w.heap.size + 1) _ hPb hvb hok
  obtain ⟨a0, a1, a2⟩ := hPa.cells
  clear hBab hPa hvb hPb hBa
  go_enter Tryd.func5, Tryd.ntmps5
  go_wp2_with fail
  refine hc.mono ?_
  generalize (w.alloc (.cells #[.string ⟨old.toArray⟩, .string ⟨new.toArray⟩, .slice lo q.length lc] 46)).alloc (.cells #[.string ⟨old.toArray⟩, .string ⟨new.toArray⟩, .slice lo q.length lc] 46) = Wb at hBb hPa2 ⊢
  rintro e w2 ⟨g, c, v', P, rfl, k0, k1, k2, hH2, hPm, hB2⟩
  have hBw2 := hBb.trans (hB2.mono hBb.size)
  have hP2 := hPa2.low hB2
  have HQ2 : Hid (P.map (·.1) = hs) := hPm.trans HQ.out
  have hokP : HOk P := (by
    refine ⟨?_, fun x hx => ?_⟩
    · have h := congrArg List.length hPm
      rw [List.length_map, List.length_map] at h
      rw [h]
      exact hok.1
    · have h : x.1 ∈ q.map (·.1) := (by rw [← hPm]; exact List.mem_map_of_mem hx)
      obtain ⟨z, hz, hzx⟩ := List.mem_map.1 h
      rw [← hzx]
      exact hok.2 z hz)
  obtain ⟨o', c', rfl⟩ := Holds.form hH2.row
  have hBc : Below w2.heap.size w2 (w2.alloc (.cells #[.string ⟨old.toArray⟩, .string ⟨new.toArray⟩, .slice o' P.length c'] 46)) := (Below.refl _ _).alloc (Nat.le_refl _) _
  have hPo : Px (w2.alloc (.cells #[.string ⟨old.toArray⟩, .string ⟨new.toArray⟩, .slice o' P.length c'] 46)) w2.heap.size ⟨old, new, hs⟩ (.slice o' P.length c') := heap_alloc_new w2 _
  have hBw3 := hBw2.trans (hBc.mono hBw2.size)
  have hH3 := hH2.keep hBc (Nat.le_refl _)
  have hP3 := hP2.low hBc
  have hpr := cPrint_f ⟨old, new, hs⟩ P HQ2 (.slice o' P.length c') _ hH3 hokP ho hn (HT.out.on hBw3) Z r HR HZ hZ
  have e1 : ptV ⟨old, new, hs⟩ (.slice o' P.length c') = .agg #[.string ⟨old.toArray⟩, .string ⟨new.toArray⟩, .slice o' P.length c'] := rfl
  have e2 : ptV ⟨old, new, hs⟩ (.slice lo q.length lc) = .agg #[.string ⟨old.toArray⟩, .string ⟨new.toArray⟩, .slice lo q.length lc] := rfl
  rw [e1] at hpr
  clear a0 a1 a2 hc hPa2 hBb hB2 hP2 hH2 hBw2 hBc hPm
  go_wp2_with fail
  refine hpr.mono ?_
  generalize w2.alloc (.cells #[.string ⟨old.toArray⟩, .string ⟨new.toArray⟩, .slice o' P.length c'] 46) = W3 at hPo hBw3 hH3 hP3 ⊢
  generalize w2.heap.size = G at hPo ⊢
  rintro e w4 ⟨rfl, hB4⟩
  have hP4 := hP3.low hB4
  have hPo4 := hPo.low hB4
  have hH4 := hH3.keep hB4 (Nat.le_refl _)
  have hBw4 := hBw3.trans (hB4.mono hBw3.size)
  have hrf := rPrint15_f ⟨old, new, hs⟩ q HQ (.slice lo q.length lc) w4 (hv.keep hBw4 (Nat.le_refl _)) hok ho hn Z r HR HZ hZ HX
  rw [e2] at hrf
  obtain ⟨a0, a1, a2⟩ := hP4.cells
  clear k0 k1 k2 hpr hBw3 hB4 hP3 hPo hH3
  go_wp2_with fail
  refine hrf.mono ?_
  rintro e w5 ⟨rfl, hB5⟩
  have hP5 := hP4.low hB5
  have hPo5 := hPo4.low hB5
  have hH5 := hH4.keep hB5 (Nat.le_refl _)
  have hBw5 := hBw4.trans (hB5.mono hBw4.size)
  have hsm := rSamePt_f ⟨old, new, hs⟩ ⟨old, new, hs⟩ P q HQ2 HQ (.slice o' P.length c') (.slice lo q.length lc) w5 hH5 (hv.keep hBw5 (Nat.le_refl _)) (how_ok hokP) true ⟨fun _ => rfl, fun _ => rfl⟩
  rw [e1, e2] at hsm
  clear a0 a1 a2 hrf e1 e2 hB5
  obtain ⟨a0, a1, a2⟩ := hP5.cells
  obtain ⟨b0, b1, b2⟩ := hPo5.cells
  go_wp2_with fail
  refine hsm.mono ?_
  rintro e w6 ⟨rfl, hB6⟩
  go_wp2
  go_ret
  exact ⟨rfl, hBw5.trans (hB6.mono hBw5.size)⟩
end Go.Proofs.YtgiojkhmkeocfaaDoor
namespace Go.Proofs.YtgiojkhmkeocfaaDoor.ctxfmtPrints
open Go.ChangeShapes Go.WideShapes Go.ChangeAt Go.RowKit

theorem walk (old new : List UInt8) (q : List (Hk × Value)) (y : Value) (w : World) (hb : old.length + new.length + hbk (q.map (·.1)) ≤ 1048576) (hv : HHp w y q) (HT : Tab10 w) :
    Calls Tryd.prog 5 #[.agg #[.string ⟨old.toArray⟩, .string ⟨new.toArray⟩, y]] w fun e w' => e = .returned (.bool true) ∧ Below w.heap.size w w' := CtxfmtPrints_any old new q y w hb hv HT

set_option maxRecDepth 100000 in
theorem contract (H : Type) (enc : TypeId × Value → H) (W : World) (base : Nat) (args : Array Value) (ds gs : List (DataW H)) (before : List MemPlace)
    (hval : ∀ (j : Nat) t v, Tryd.f5.params[j]? = some t → args[j]? = some v → Value.okWide Tryd.prog W .any base t v)
    (hW : DataW.Whole enc Tryd.prog Tryd.f5.params.toList Rows.ctxfmtPrintsSpec.vars false W args.toList ds gs before) (hL : laidMetH Tryd.prog Rows.ctxfmtPrintsUptoRow.laid W) (hk : Rows.uptoSmall H (ds ++ gs) = true) :
    Calls Tryd.prog 5 args W fun e W' => ∃ v, e = .returned v ∧ Rows.ctxfmtPrintsSpec.post enc Tryd.prog Tryd.f5 false true false false W args v W' := by
  have hW' := hW
  obtain ⟨p, q, hA0, hV, rfl, hfz, hnd⟩ := hW
  have hA : DataW.TrodAll enc Tryd.prog W 0 (fun _ => true) true Tryd.f5.params.toList args.toList ds p := hA0
  rw [Tryd.params5] at hA hval
  obtain ⟨v0, vs0, d0, ds0, p0, q0, hargs, rfl, rfl, h0, r0⟩ := trodAll_cons hA
  obtain ⟨rfl, rfl, rfl⟩ := trodAll_nil r0
  obtain rfl : args = #[v0] := by cases args; simp_all
  obtain ⟨rfl, rfl⟩ := trodVars_none hV
  obtain ⟨cs0, rfl, _⟩ := okWide_struct Tryd.underlying46 (hval 0 46 v0 rfl rfl)
  have k0 := h0
  have lt0 : ∀ x ∈ p0, x.block < W.heap.size := by obtain ⟨m, hm⟩ := k0; exact DataW.trod_lt m _ _ _ hm
  clear hA0
  simp only [List.append_nil] at hk
  have hbk : Rows.uptoBulkAll [d0] ≤ 1048576 := of_decide_eq_true hk
  simp only [Rows.uptoBulkAll] at hbk
  obtain ⟨f0, hf0⟩ := h0
  obtain ⟨old0, new0, ws0, y0, hcs0, hv0, hwl0⟩ := open_ptc hf0
  have hvv0 : Value.agg cs0 = .agg #[.string ⟨old0.toArray⟩, .string ⟨new0.toArray⟩, y0] := by cases cs0; simp [Value.cells] at hcs0; subst hcs0; rfl
  rw [hvv0] at k0 hW' ⊢
  have ht := Tb.tab_of Rows.ctxfmtPrintsUptoRow.laid rfl hL
  have hw := walk old0 new0 ws0 y0 W (by omega) hv0 (fun u hu => var?_below hu Tb.gTab (Tb.tab_lt ht) ht)
  refine hw.mono fun e W' ⟨he, bel⟩ => ?_
  subst he
  exact ⟨_, rfl, _, _, _, [], _, [], hW', trodAll_mk1 (shut_bool Tryd.underlying4 _), trodAll_cons_mk (Below.trod laidOut (by kernel_rfl) (of_decide_eq_true (by kernel_rfl)) k0 bel lt0) trodAll_mk0, rfl, bel.frame _, fun h => by cases h⟩

theorem laid_met (os : Os) : laidMet Tryd.prog Rows.ctxfmtPrintsUptoRow.laid ((Tb.laidOn (World.holding Tryd.prog os ⟨#[], #[], []⟩)).forCall (fun _ _ => 0) ⟨#[], #[.agg #[.string .empty, .string .empty, .slice none 0 0]], []⟩).memory :=
  laidMet_of_run' 8 (by kernel_rfl) (by kernel_rfl)
theorem reads (os : Os) {H : Type} (enc : TypeId × Value → H) : ∃ places, DataW.whole enc Tryd.prog ((Tb.laidOn (World.holding Tryd.prog os ⟨#[], #[], []⟩)).forCall (fun _ _ => 0) ⟨#[], #[.agg #[.string .empty, .string .empty, .slice none 0 0]], []⟩).memory Tryd.f5.params.toList Rows.ctxfmtPrintsSpec.vars false #[Value.agg #[.string .empty, .string .empty, .slice none 0 0]].toList 8 = some ([.agg [.lit (.string []), .lit (.string []), .nil]], [], places) :=
  ⟨[], by kernel_rfl⟩

set_option maxRecDepth 100000 in
theorem lifted (os : Os) (started : os.Started) (H : Type) (enc : TypeId × Value → H) (F : Stop.Interp) :
    ReturnsInHanded {} Tryd.checked os 5 .any ((Rows.OpenSpec.upto Rows.ctxfmtPrintsSpec).preRow enc Tryd.prog Tryd.f5 Rows.ctxfmtPrintsUptoRow.domain false Rows.ctxfmtPrintsUptoRow.laid) (((Rows.OpenSpec.upto Rows.ctxfmtPrintsSpec).at F).post enc Tryd.prog Tryd.f5 false true false false) := by
  obtain ⟨places, hx⟩ := reads os enc
  refine returnsInHanded_of_row (C := Tryd.checked) (s := Rows.OpenSpec.upto Rows.ctxfmtPrintsSpec) own started (by kernel_rfl) Tryd.func5
    (witness_row_at (enc := enc) (C := Tryd.checked) false (Tb.laidOn (World.holding Tryd.prog os ⟨#[], #[], []⟩)) #[.agg #[.string .empty, .string .empty, .slice none 0 0]] rfl (by kernel_rfl) (by kernel_rfl) (by kernel_rfl)
      (OpenSpec.preRow_of_cond 8 hx (by kernel_rfl) (fun k hk => by cases hk; kernel_rfl) (by kernel_rfl) (laid_met os))) ?_
  intro W base args ds gs before hval hW _ hcond _ hL _ _
  exact contract H enc W base args ds gs before hval hW hL (hcond _ rfl)

theorem said : Rows.CtxfmtPrintsUptoSaid :=
  OpenClaim.holds_of_cond 5 Tryd.f5 rfl rfl rfl rfl rfl rfl rfl ⟨rfl, rfl, rfl, rfl, rfl⟩ rfl rfl rfl rfl rfl (by kernel_rfl) Tryd.func5 (by kernel_rfl)
    (of_decide_eq_true (by kernel_rfl)) (by unfold Func.isWrapper; first | (rw [if_pos (by decide +kernel)]; kernel_rfl) | (rw [if_neg (by decide +kernel)]; exact ⟨rfl, rfl⟩))
    (fun os started H enc _ F => by rw [OpenClaim.pre_eq_preRow]; exact lifted os started H enc F)

theorem plain (f : FuncId) (fn : Func) (hf : Tryd.pinned.checked.prog.funcNamed "redline/redlinelaw15.CtxfmtPrints" = some f) (hfn : Tryd.pinned.checked.prog.funcs[f]? = some fn) :
    true = Tryd.pinned.checked.prog.looks [] ∧ ∀ (j : Nat) t, fn.params[j]? = some t → Tryd.pinned.checked.prog.wantsStandIn t = false := by
  obtain rfl : f = 5 := Option.some.inj ((show Tryd.prog.funcNamed "redline/redlinelaw15.CtxfmtPrints" = some 5 by kernel_rfl).symm.trans hf) |>.symm
  obtain rfl : fn = Tryd.f5 := (Option.some.inj (Tryd.func5.symm.trans hfn)).symm
  refine ⟨by kernel_rfl, fun j t ht => ?_⟩
  rw [Tryd.params5] at ht
  have hm : t = 46 := by simpa using Array.mem_of_getElem? ht
  rcases hm with rfl
  · exact (show Tryd.prog.wantsStandIn 46 = false by kernel_rfl)

theorem card : Rows.CtxfmtPrintsUptoCardSaid :=
  Claim7.holds_tied_plain_at .later [] _ _ _ _ said (fun _ h => by cases h) (by kernel_rfl) (fun _ h => by cases h) ctxfmtPrintsUpto_row_tie rfl ⟨rfl, rfl⟩ (by kernel_rfl) rfl plain (by kernel_rfl)
#print axioms card
end Go.Proofs.YtgiojkhmkeocfaaDoor.ctxfmtPrints
