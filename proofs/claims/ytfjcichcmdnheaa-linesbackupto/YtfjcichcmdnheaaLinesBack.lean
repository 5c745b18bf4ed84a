/-
  For every text and every list of texts of together at most 1048576 letters and values, the law LinesBack returns true and leaves its arguments as they were: the lines of a text are right and make it again, and right lines are the lines of the text that they make. The condition is the statement's own bound on what comes in; nothing else is asked.
-/
import Derived.Test.YtfjcichcmdnheaaLnOpen
import Derived.Test.YtfjcichcmdnheaaLnWorks
namespace Go.Proofs.Ytfjcichcmdnheaa.linesBack
open Go.ChangeShapes Go.WideShapes Go.ChangeAt Go.RowKit
open Go.ChangeMaps (open_string shut_string)
open Ln

theorem check_split (l : List UInt8) : checkE (splitL l) = 0 := by rw [checkE, split_right]; rfl
theorem split_each (l : List UInt8) : ∀ a ∈ splitL l, a.length ≤ l.length := by
  intro a ha
  have := each_le (ws := splitL l) a ha
  rw [split_join] at this
  exact this

set_option maxHeartbeats 1000000 in
theorem walk (s : List UInt8) (v : Value) (ws : List (List UInt8)) (w : World) (hs : s.length ≤ 1048576) (hws : ws.length + ws.flatten.length ≤ 1048576) (hv : Argv w v ws) :
    Calls Try.prog 7 #[.string ⟨s.toArray⟩, v] w fun e w' => e = .returned (.bool true) ∧ Below w.heap.size w w' := by
  have hS := hv.srow
  have hcv := hv.cap
  have hsl := split_len s
  have HX : Hid (∀ a ∈ splitL s, a.length ≤ 1099511627776) := fun a ha => by have := split_each s a ha; omega
  have HE : Hid (∀ a ∈ ws, a.length ≤ 1099511627776) := fun a ha => by have := each_le (ws := ws) a ha; omega
  have HF : Hid (ws.flatten.length ≤ 1048576) := Nat.le_trans (Nat.le_add_left _ _) hws
  have hwl : ws.length ≤ 1048576 := by omega
  have HJ : Hid ((splitL s).flatten = s) := split_join s
  have HK : Hid (checkE (splitL s) = 0) := check_split s
  clear hws hv
  go_enter Try.func7, Try.ntmps7
  go_wp2_with fail
  refine (works_any _).mono ?_
  rintro e w1 ⟨rfl, hb1⟩
  have hS1 := hS.keep hb1.block
  go_wp2_with fail
  refine (Split_any s _ (by omega)).mono ?_
  rintro e w2 ⟨vx, rfl, hown, hb2⟩
  have hso := srow_of hown
  have hco := ownsRow_cap hown
  have hS2 := hS1.keep hb2.block
  have hbb2 := hb1.trans (hb2.mono hb1.size)
  clear hown hS hS1
  generalize splitL s = xs at *
  go_wp2_with fail
  refine (Join_any vx xs _ (by omega) (by rw [HJ.out]; omega) hco hso).mono ?_
  rintro e w3 ⟨rfl, hb3⟩
  rw [HJ.out]
  have hso3 := hso.keep hb3.block
  have hS3 := hS2.keep hb3.block
  have hbb3 := hbb2.trans (hb3.mono hbb2.size)
  clear hso hS2 hco
  go_wp2_with fail
  refine (Check_any vx xs _ (by omega) HX.out hso3).mono ?_
  rintro e w4 ⟨rfl, rfl⟩
  rw [HK.out]
  go_wp2_with fail
  refine (Check_any v ws _ (by omega) HE.out hS3).mono ?_
  rintro e w4 ⟨rfl, rfl⟩
  cases hc : checkB ws with
  | false =>
    have h6 : checkE ws = 6 := by rw [checkE, hc]; rfl
    rw [h6]
    go_wp2
    go_ret
    exact ⟨rfl, hbb3⟩
  | true =>
    have h0 : checkE ws = 0 := by rw [checkE, hc]; rfl
    have HR : Hid (splitL ws.flatten = ws) := right_split ws hc
    rw [h0]
    clear h0 hc
    go_wp2_with fail
    refine (Join_any v ws _ (by omega) (Nat.le_trans HF.out (by omega)) hcv hS3).mono ?_
    rintro e w5 ⟨rfl, hb5⟩
    have hS5 := hS3.keep hb5.block
    have hbb5 := hbb3.trans (hb5.mono hbb3.size)
    go_wp2_with fail
    refine (Split_any ws.flatten _ (Nat.le_trans HF.out (by omega))).mono ?_
    rintro e w6 ⟨vy, rfl, hown6, hb6⟩
    rw [HR.out] at hown6
    have hS6 := hS5.keep hb6.block
    have hbb6 := hbb5.trans (hb6.mono hbb5.size)
    go_wp2_with fail
    refine (Same_any vy v ws _ (by omega) (srow_of hown6) hS6).mono ?_
    rintro e w7 ⟨rfl, n7, rfl⟩
    go_wp2
    go_ret
    exact ⟨rfl, below_drewN hbb6 _⟩

theorem contract (H : Type) (enc : TypeId × Value → H) (W : World) (base : Nat) (args : Array Value) (ds gs : List (DataW H)) (before : List MemPlace)
    (hval : ∀ (j : Nat) t v, Try.f7.params[j]? = some t → args[j]? = some v → Value.okWide Try.prog W .any base t v)
    (hW : DataW.Whole enc Try.prog Try.f7.params.toList Rows.linesBackSpec.vars false W args.toList ds gs before) (hk : Rows.uptoSmall H (ds ++ gs) = true) :
    Calls Try.prog 7 args W fun e W' => ∃ v, e = .returned v ∧ Rows.linesBackSpec.post enc Try.prog Try.f7 false true false false W args v W' := by
  have hW' := hW
  obtain ⟨p, q, hA0, hV, rfl, hfz, hnd⟩ := hW
  have hA : DataW.TrodAll enc Try.prog W 0 (fun _ => true) true Try.f7.params.toList args.toList ds p := hA0
  rw [Try.params7] at hA hval
  obtain ⟨v0, vs0, d0, ds0, p0, q0, hargs, rfl, rfl, h0, r0⟩ := trodAll_cons hA
  obtain ⟨v1, vs1, d1, ds1, p1, q1, rfl, rfl, rfl, h1, r1⟩ := trodAll_cons r0
  obtain ⟨rfl, rfl, rfl⟩ := trodAll_nil r1
  obtain rfl : args = #[v0, v1] := by cases args; simp_all
  obtain ⟨rfl, rfl⟩ := trodVars_none hV
  obtain ⟨a0, rfl, rfl, rfl, w0⟩ := open_string Try.underlying9 (hval 0 9 v0 rfl rfl) h0
  obtain ⟨a1, len1, cap1, rfl⟩ := okWide_slice Try.underlying22 (hval 1 22 v1 rfl rfl)
  have k1 := h1
  have lt1 : ∀ x ∈ p1, x.block < W.heap.size := by obtain ⟨m, hm⟩ := k1; exact DataW.trod_lt m _ _ _ hm
  clear hA0
  simp only [List.append_nil] at hk
  have hbk : Rows.uptoBulkAll [DataW.lit (H := H) (.string a0.data.toList), d1] ≤ 1048576 := of_decide_eq_true hk
  simp only [Rows.uptoBulkAll, Rows.uptoBulk] at hbk
  obtain ⟨f1, hf1⟩ := h1
  obtain ⟨ws, hv, hwl⟩ := open_texts (by simpa [Value.cells] using hf1)
  have hw := walk a0.data.toList (.slice a1 len1 cap1) ws W (by omega) (by omega) hv
  refine hw.mono fun e W' ⟨he, bel⟩ => ?_
  subst he
  exact ⟨_, rfl, _, _, _, [], _, [], hW', trodAll_mk1 (shut_bool Try.underlying4 _), trodAll_cons_mk (shut_string Try.underlying9 w0) (trodAll_cons_mk (Below.trod laidOut (by kernel_rfl) (of_decide_eq_true (by kernel_rfl)) k1 bel lt1) trodAll_mk0), rfl, bel.frame _, fun h => by cases h⟩

set_option maxRecDepth 100000 in
theorem lifted (os : Os) (started : os.Started) (H : Type) (enc : TypeId × Value → H) (F : Stop.Interp) :
    ReturnsInHanded {} Try.checked os 7 .any ((Rows.OpenSpec.upto Rows.linesBackSpec).pre6 enc Try.prog Try.f7 Rows.linesBackUptoRow.domain false) (((Rows.OpenSpec.upto Rows.linesBackSpec).at F).post enc Try.prog Try.f7 false true false false) := by
  refine returnsInHanded_of_cond (C := Try.checked) (s := Rows.OpenSpec.upto Rows.linesBackSpec) (k := Rows.uptoSmall) rfl own started (by kernel_rfl) Try.func7
    (OpenSpec.witness (enc := enc) (C := Try.checked) (s := Rows.OpenSpec.upto Rows.linesBackSpec) (k := Rows.uptoSmall) rfl false ⟨#[], #[.string .empty, .slice none 0 0], []⟩ 8 (by kernel_rfl) (by kernel_rfl) (by kernel_rfl)
      (x := ([.lit (.string []), .nil], [], [])) (by kernel_rfl) rfl (by kernel_rfl)) ?_
  intro W base args ds gs before hval hW _ hk _
  exact contract H enc W base args ds gs before hval hW hk

theorem proved : Rows.LinesBackUptoSaid :=
  OpenClaim.holds_of_cond 7 Try.f7 rfl rfl rfl rfl rfl rfl rfl ⟨rfl, rfl, rfl, rfl, rfl⟩ rfl rfl rfl rfl rfl (by kernel_rfl) Try.func7 (by kernel_rfl)
    (of_decide_eq_true (by kernel_rfl)) (by unfold Func.isWrapper; first | (rw [if_pos (by decide +kernel)]; kernel_rfl) | (rw [if_neg (by decide +kernel)]; exact ⟨rfl, rfl⟩))
    (fun os started H enc _ F => lifted os started H enc F)
#print axioms proved
end Go.Proofs.Ytfjcichcmdnheaa.linesBack
