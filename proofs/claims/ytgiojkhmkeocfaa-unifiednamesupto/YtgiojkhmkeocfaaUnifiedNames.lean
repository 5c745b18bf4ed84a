/-
  For every two texts of together at most 1048576 letters and values, the law UnifiedNames returns true and leaves its arguments as they were: names are written in patches, and read from them, as the plain reference does it, and a short name is read back. The condition is the statement's own bound on what comes in; nothing else is asked.
-/
import Derived.Test.YtgiojkhmkeocfaaRows
import Derived.Test.YtgiojkhmkeocfaaPartA8
import Derived.Test.YtgiojkhmkeocfaaPartA9
import Derived.ProofKit
import Derived.OpenShut
import Derived.JoinedCond
namespace Go.Proofs.Ytgiojkhmkeocfaa.unifiedNames
open Go.ChangeShapes Go.WideShapes Go.ChangeAt Go.RowKit
open Go.ChangeMaps (open_string shut_string)

theorem own : ownKnob Try.prog.godebug = none := by kernel_rfl

theorem short2 {H : Type} {s q : ByteArray} (hk : Rows.uptoSmall H [.lit (.string s.data.toList), .lit (.string q.data.toList)] = true) : s.data.toList.length ≤ 1048576 ∧ q.data.toList.length ≤ 1048576 := by
  have h : Rows.uptoBulkAll [DataW.lit (H := H) (.string s.data.toList), .lit (.string q.data.toList)] ≤ 1048576 := of_decide_eq_true hk
  simp only [Rows.uptoBulkAll, Rows.uptoBulk] at h
  omega

theorem name_long {n : List UInt8} (h : 64 < n.length) : namedP (nameT n) = none := by
  unfold namedP
  rw [name_un]
  dsimp only
  rw [if_neg (by omega)]
theorem pn_named (s : List UInt8) : pnV (nokC s) (unC s) = .tuple #[.string ⟨(nmV (namedP s)).toArray⟩, .int .i64 (nmE (namedP s))] := by
  rw [named_code]
  cases nokC s <;> rfl
theorem rName6_f (l : List UInt8) (w : World) (hl : l.length ≤ 1099511627776) (t : List UInt8) (HT : Hid (nameT l = t)) :
    Calls Try.prog 7 #[.string ⟨l.toArray⟩] w fun e w' => e = .returned (.string ⟨t.toArray⟩) ∧ Below w.heap.size w w' := by
  have hc := rName_f l w hl t HT
  go_enter Try.func7, Try.ntmps7
  go_wp2_with fail
  refine hc.mono ?_
  rintro e w1 ⟨rfl, hB1⟩
  go_wp2
  go_ret
  exact ⟨rfl, hB1⟩
theorem named_at (s : List UInt8) (w : World) (hl : s.length ≤ 1099511627776) (v : List UInt8) (z : Int) (HV : Hid (nmV (namedP s) = v ∧ nmE (namedP s) = z)) :
    Calls Try.prog 4 #[.string ⟨s.toArray⟩] w fun e w' => e = .returned (.tuple #[.string ⟨v.toArray⟩, .int .i64 z]) ∧ Below w.heap.size w w' := by
  have hc := uNamed_f s w hl _ _ (show Hid (unC s = unC s) from rfl) (show Hid (nokC s = nokC s) from rfl)
  rw [pn_named, HV.out.1, HV.out.2] at hc
  exact hc
theorem rnamed_at (s : List UInt8) (w : World) (hl : s.length ≤ 1099511627776) (v : List UInt8) (z : Int) (HV : Hid (nmV (namedP s) = v ∧ nmE (namedP s) = z)) :
    Calls Try.prog 5 #[.string ⟨s.toArray⟩] w fun e w' => e = .returned (.tuple #[.string ⟨v.toArray⟩, .int .i64 z]) ∧ Below w.heap.size w w' := by
  have hc := rNamed6_f s hl w _ (show Hid (namedP s = namedP s) from rfl)
  rw [HV.out.1, HV.out.2] at hc
  exact hc
set_option maxHeartbeats 4000000 in
theorem walk (nm s : List UInt8) (w : World) (h0 : nm.length ≤ 1048576) (h1 : s.length ≤ 1048576) :
    Calls Try.prog 3 #[.string ⟨nm.toArray⟩, .string ⟨s.toArray⟩] w fun e w' => e = .returned (.bool true) ∧ Below w.heap.size w w' := by
  obtain ⟨v, hv⟩ : ∃ v, nmV (namedP s) = v := ⟨_, rfl⟩
  obtain ⟨z, hz⟩ : ∃ z, nmE (namedP s) = z := ⟨_, rfl⟩
  have HV : Hid (nmV (namedP s) = v ∧ nmE (namedP s) = z) := ⟨hv, hz⟩
  obtain ⟨T, hT⟩ : ∃ T, nameT nm = T := ⟨_, rfl⟩
  have hTl := name_len nm
  rw [hT] at hTl
  have HT : Hid (nameT nm = T) := hT
  obtain ⟨v2, hv2⟩ : ∃ v2, nmV (namedP T) = v2 := ⟨_, rfl⟩
  obtain ⟨z2, hz2⟩ : ∃ z2, nmE (namedP T) = z2 := ⟨_, rfl⟩
  have HV2 : Hid (nmV (namedP T) = v2 ∧ nmE (namedP T) = z2) := ⟨hv2, hz2⟩
  have HS : Hid (64 < nm.length → z2 = 253) := fun h => by rw [← hz2, ← hT, name_long h]; rfl
  have HL : Hid (nm.length ≤ 64 → z2 = 0 ∧ v2 = nm) := fun h => by rw [← hz2, ← hv2, ← hT, (named_iff (nameT nm) nm).2 ⟨rfl, h⟩]; exact ⟨rfl, rfl⟩
  clear hv hz hT hv2 hz2
  go_enter Try.func3, Try.ntmps3
  go_wp2_with fail
  refine (named_at s w (by omega) v z HV).mono ?_
  rintro e w1 ⟨rfl, hB1⟩
  go_wp2_with fail
  refine (rnamed_at s w1 (by omega) v z HV).mono ?_
  rintro e w2 ⟨rfl, hB2⟩
  have hB02 := hB1.trans (hB2.mono hB1.size)
  clear hB1 hB2
  go_wp2_with fail
  refine (uname_f nm w2 (by omega) T HT).mono ?_
  rintro e w3 ⟨rfl, hB3⟩
  have hB03 := hB02.trans (hB3.mono hB02.size)
  clear hB02 hB3
  go_wp2_with fail
  refine (rName6_f nm w3 (by omega) T HT).mono ?_
  rintro e w4 ⟨rfl, hB4⟩
  have hB04 := hB03.trans (hB4.mono hB03.size)
  clear hB03 hB4
  go_wp2_with fail
  refine (uname_f nm w4 (by omega) T HT).mono ?_
  rintro e w5 ⟨rfl, hB5⟩
  have hB05 := hB04.trans (hB5.mono hB04.size)
  clear hB04 hB5
  go_wp2_with fail
  refine (named_at T w5 (by omega) v2 z2 HV2).mono ?_
  rintro e w6 ⟨rfl, hB6⟩
  have hB06 := hB05.trans (hB6.mono hB05.size)
  clear hB05 hB6
  by_cases hlong : 64 < nm.length
  · have hz2 := HS.out hlong
    subst hz2
    have i1 : (64 : Int) < (nm.length : Int) := by omega
    go_wp2
    go_ret
    exact ⟨ret_bool (by simp), hB06⟩
  · obtain ⟨hz2, hv2⟩ := HL.out (by omega)
    subst hz2
    subst hv2
    have i1 : ¬ (64 : Int) < (v2.length : Int) := by omega
    have i2 : (v2.length : Int) ≤ 64 := by omega
    go_wp2
    go_ret
    exact ⟨ret_bool (by simp), hB06⟩

theorem contract (H : Type) (enc : TypeId × Value → H) (W : World) (base : Nat) (args : Array Value) (ds gs : List (DataW H)) (before : List MemPlace)
    (hval : ∀ (j : Nat) t v, Try.f3.params[j]? = some t → args[j]? = some v → Value.okWide Try.prog W .any base t v)
    (hW : DataW.Whole enc Try.prog Try.f3.params.toList Rows.unifiedNamesSpec.vars false W args.toList ds gs before) (hk : Rows.uptoSmall H (ds ++ gs) = true) :
    Calls Try.prog 3 args W fun e W' => ∃ v, e = .returned v ∧ Rows.unifiedNamesSpec.post enc Try.prog Try.f3 false true false false W args v W' := by
  have hW' := hW
  obtain ⟨p, q, hA0, hV, rfl, hfz, hnd⟩ := hW
  have hA : DataW.TrodAll enc Try.prog W 0 (fun _ => true) true Try.f3.params.toList args.toList ds p := hA0
  rw [Try.params3] at hA hval
  obtain ⟨v0, vs0, d0, ds0, p0, q0, hargs, rfl, rfl, h0, r0⟩ := trodAll_cons hA
  obtain ⟨v1, vs1, d1, ds1, p1, q1, rfl, rfl, rfl, h1, r1⟩ := trodAll_cons r0
  obtain ⟨rfl, rfl, rfl⟩ := trodAll_nil r1
  obtain rfl : args = #[v0, v1] := by cases args; simp_all
  obtain ⟨rfl, rfl⟩ := trodVars_none hV
  obtain ⟨a0, rfl, rfl, rfl, w0⟩ := open_string Try.underlying9 (hval 0 9 v0 rfl rfl) h0
  obtain ⟨a1, rfl, rfl, rfl, w1⟩ := open_string Try.underlying9 (hval 1 9 v1 rfl rfl) h1
  clear hA0
  simp only [List.append_nil] at hW' hk
  obtain ⟨s0, s1⟩ := short2 hk
  have hw := walk a0.data.toList a1.data.toList W s0 s1
  refine hw.mono fun e W' ⟨he, hg⟩ => ?_
  subst he
  exact ⟨_, rfl, _, _, _, [], _, [], hW', trodAll_mk1 (shut_bool Try.underlying4 _), trodAll_cons_mk (shut_string Try.underlying9 w0) (trodAll_cons_mk (shut_string Try.underlying9 w1) trodAll_mk0), rfl, hg.frame _, fun h => by cases h⟩

set_option maxRecDepth 100000 in
theorem lifted (os : Os) (started : os.Started) (H : Type) (enc : TypeId × Value → H) (F : Stop.Interp) :
    ReturnsInHanded {} Try.checked os 3 .any ((Rows.OpenSpec.upto Rows.unifiedNamesSpec).pre6 enc Try.prog Try.f3 Rows.unifiedNamesUptoRow.domain false) (((Rows.OpenSpec.upto Rows.unifiedNamesSpec).at F).post enc Try.prog Try.f3 false true false false) := by
  refine returnsInHanded_of_cond (C := Try.checked) (s := Rows.OpenSpec.upto Rows.unifiedNamesSpec) (k := Rows.uptoSmall) rfl own started (by kernel_rfl) Try.func3
    (OpenSpec.witness (enc := enc) (C := Try.checked) (s := Rows.OpenSpec.upto Rows.unifiedNamesSpec) (k := Rows.uptoSmall) rfl false ⟨#[], #[.string .empty, .string .empty], []⟩ 8 (by kernel_rfl) (by kernel_rfl) (by kernel_rfl)
      (x := ([.lit (.string []), .lit (.string [])], [], [])) (by kernel_rfl) rfl (by kernel_rfl)) ?_
  intro W base args ds gs before hval hW _ hk _
  exact contract H enc W base args ds gs before hval hW hk

theorem proved : Rows.UnifiedNamesUptoSaid :=
  OpenClaim.holds_of_cond 3 Try.f3 rfl rfl rfl rfl rfl rfl rfl ⟨rfl, rfl, rfl, rfl, rfl⟩ rfl rfl rfl rfl rfl (by kernel_rfl) Try.func3 (by kernel_rfl)
    (of_decide_eq_true (by kernel_rfl)) (by unfold Func.isWrapper; first | (rw [if_pos (by decide +kernel)]; kernel_rfl) | (rw [if_neg (by decide +kernel)]; exact ⟨rfl, rfl⟩))
    (fun os started H enc _ F => lifted os started H enc F)
#print axioms proved
end Go.Proofs.Ytgiojkhmkeocfaa.unifiedNames
