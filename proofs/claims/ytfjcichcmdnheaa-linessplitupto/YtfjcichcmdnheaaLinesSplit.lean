/-
  For every text of at most 1048576 letters, the law LinesSplit returns true and leaves its argument as it was: lines.Split answers as the plain reference does, and its lines are new memory. The condition is the statement's own bound on what comes in; nothing else is asked.
-/
import Derived.Test.YtfjcichcmdnheaaRows
import Derived.Test.YtfjcichcmdnheaaLnRefSplit
import Derived.ProofKit
import Derived.OpenShut
import Derived.JoinedCond
namespace Go.Proofs.Ytfjcichcmdnheaa.linesSplit
open Go.ChangeShapes Go.WideShapes Go.ChangeAt Go.RowKit
open Go.ChangeMaps (open_string shut_string)
open Ln

theorem own : ownKnob Try.prog.godebug = none := by kernel_rfl

theorem short1 {H : Type} {s : ByteArray} (hk : Rows.uptoSmall H [.lit (.string s.data.toList)] = true) : s.data.toList.length ≤ 1048576 := by
  have h : Rows.uptoBulkAll [DataW.lit (H := H) (.string s.data.toList)] ≤ 1048576 := of_decide_eq_true hk
  simp only [Rows.uptoBulkAll, Rows.uptoBulk] at h
  omega

set_option maxHeartbeats 1000000 in
theorem walk (s : List UInt8) (w : World) (hs : s.length ≤ 1048576) :
    Calls Try.prog 3 #[.string ⟨s.toArray⟩] w fun e w' => e = .returned (.bool true) ∧ Below w.heap.size w w' := by
  have hsl := split_len s
  go_enter Try.func3, Try.ntmps3
  go_wp2_with fail
  refine (Split_any s _ (by omega)).mono ?_
  rintro e w1 ⟨v, rfl, hown1, hb1⟩
  go_wp2_with fail
  refine (refSplit_any s _ (by omega)).mono ?_
  rintro e w2 ⟨v2, rfl, hown2, hb2⟩
  have hown1' := ownsRow_keep hown1 hb2.block
  go_wp2_with fail
  refine (Same_any v v2 (splitL s) w2 (by omega) (srow_of hown1') (srow_of hown2)).mono ?_
  rintro e w3 ⟨rfl, n, rfl⟩
  have hbb : Below w.heap.size w (w2.drewN n) := below_drewN (hb1.trans (hb2.mono hb1.size)) n
  have hown : (w2.drewN n).ownsRow w.heap.size 9 1 v (splitL s).length (scells (splitL s)) := hown1'
  clear hown1' hown2 hown1 hb2 hb1
  generalize w2.drewN n = w4 at *
  generalize hxs : splitL s = xs at *
  rcases hown.2 with ⟨rfl, h0⟩ | ⟨g, cap, cur, rfl, hBg, hg, hnc, hcm, hcs, htk⟩
  · go_wp2
    refine wp_loop_rounds 1 ?_
    rw [rounds_succ]
    go_wp2_with fail
    refine (Split_any s _ (by omega)).mono ?_
    rintro e w5 ⟨v5, rfl, hown5, hb5⟩
    go_wp2_with fail
    refine (refSplit_any s _ (by omega)).mono ?_
    rintro e w6 ⟨v6, rfl, hown6, hb6⟩
    go_wp2_with fail
    refine (Same_any v5 v6 (splitL s) w6 (by rw [hxs]; omega) (srow_of (ownsRow_keep hown5 hb6.block)) (srow_of hown6)).mono ?_
    rintro e w7 ⟨rfl, n7, rfl⟩
    go_wp2
    go_ret
    have h65 := hb5.size
    have h4 := hbb.size
    exact ⟨rfl, below_drewN ((hbb.trans (hb5.mono h4)).trans (hb6.mono (by omega))) _⟩
  · have hn : xs.length ≤ cur.size := by omega
    go_wp2
    go_loopw [4] (fun i wr => ∃ (k : Nat) (C : Array Value), k ≤ xs.length ∧ i = .int .i64 k ∧ wr.heap[g]? = some (.cells C 9 (0, 0)) ∧ xs.length ≤ C.size ∧ Below w.heap.size w wr) (fun i _ => xs.length - (intOf i).toNat)
    case atStart => exact ⟨0, cur, Nat.zero_le _, rfl, hg, hn, hbb⟩
    case round =>
      obtain ⟨k, C, hk, rfl, hgC, hC, hbr⟩ := hrel
      by_cases hlt : k < xs.length
      · have i1 : 0 ≤ (k : Int) := by omega
        have i2 : (k : Int) < (xs.length : Int) := by omega
        have c0 : wr.cell? ⟨g, k, none⟩ = some C[k] := by rw [Lib.cell_of_heap hgC]; simp
        have f0 : wr.frozen? ⟨g, k, none⟩ = false := Lib.frozen_of_heap hgC k
        go_wp2
        go_roundw
        case rel =>
          refine ⟨k + 1, C.setIfInBounds k (.string ⟨#[63]⟩), by omega, by go_num, ?_, by simpa using hC, hbr.setCell (p := ⟨g, k, none⟩) hBg _⟩
          simp only [World.setCell, Array.getElem?_modify, hgC]
          simp
        case measure => simp [intOf]; omega
      · go_wp2_with fail
        refine (Split_any s _ (by omega)).mono ?_
        rintro e w5 ⟨v5, rfl, hown5, hb5⟩
        go_wp2_with fail
        refine (refSplit_any s _ (by omega)).mono ?_
        rintro e w6 ⟨v6, rfl, hown6, hb6⟩
        go_wp2_with fail
        refine (Same_any v5 v6 (splitL s) w6 (by rw [hxs]; omega) (srow_of (ownsRow_keep hown5 hb6.block)) (srow_of hown6)).mono ?_
        rintro e w7 ⟨rfl, n7, rfl⟩
        go_wp2
        go_ret
        have h65 := hb5.size
        have h4 := hbr.size
        exact ⟨rfl, below_drewN ((hbr.trans (hb5.mono h4)).trans (hb6.mono (by omega))) _⟩

theorem contract (H : Type) (enc : TypeId × Value → H) (W : World) (base : Nat) (args : Array Value) (ds gs : List (DataW H)) (before : List MemPlace)
    (hval : ∀ (j : Nat) t v, Try.f3.params[j]? = some t → args[j]? = some v → Value.okWide Try.prog W .any base t v)
    (hW : DataW.Whole enc Try.prog Try.f3.params.toList Rows.linesSplitSpec.vars false W args.toList ds gs before) (hk : Rows.uptoSmall H (ds ++ gs) = true) :
    Calls Try.prog 3 args W fun e W' => ∃ v, e = .returned v ∧ Rows.linesSplitSpec.post enc Try.prog Try.f3 false true false false W args v W' := by
  have hW' := hW
  obtain ⟨p, q, hA0, hV, rfl, hfz, hnd⟩ := hW
  have hA : DataW.TrodAll enc Try.prog W 0 (fun _ => true) true Try.f3.params.toList args.toList ds p := hA0
  rw [Try.params3] at hA hval
  obtain ⟨v0, vs0, d0, ds0, p0, q0, hargs, rfl, rfl, h0, r0⟩ := trodAll_cons hA
  obtain ⟨rfl, rfl, rfl⟩ := trodAll_nil r0
  obtain rfl : args = #[v0] := by cases args; simp_all
  obtain ⟨rfl, rfl⟩ := trodVars_none hV
  obtain ⟨a0, rfl, rfl, rfl, w0⟩ := open_string Try.underlying9 (hval 0 9 v0 rfl rfl) h0
  clear hA0
  simp only [List.append_nil] at hW' hk
  have hw := walk a0.data.toList W (short1 hk)
  refine hw.mono fun e W' ⟨he, hg⟩ => ?_
  subst he
  exact ⟨_, rfl, _, _, _, [], _, [], hW', trodAll_mk1 (shut_bool Try.underlying4 _), trodAll_cons_mk (shut_string Try.underlying9 w0) trodAll_mk0, rfl, hg.frame _, fun h => by cases h⟩

set_option maxRecDepth 100000 in
theorem lifted (os : Os) (started : os.Started) (H : Type) (enc : TypeId × Value → H) (F : Stop.Interp) :
    ReturnsInHanded {} Try.checked os 3 .any ((Rows.OpenSpec.upto Rows.linesSplitSpec).pre6 enc Try.prog Try.f3 Rows.linesSplitUptoRow.domain false) (((Rows.OpenSpec.upto Rows.linesSplitSpec).at F).post enc Try.prog Try.f3 false true false false) := by
  refine returnsInHanded_of_cond (C := Try.checked) (s := Rows.OpenSpec.upto Rows.linesSplitSpec) (k := Rows.uptoSmall) rfl own started (by kernel_rfl) Try.func3
    (OpenSpec.witness (enc := enc) (C := Try.checked) (s := Rows.OpenSpec.upto Rows.linesSplitSpec) (k := Rows.uptoSmall) rfl false ⟨#[], #[.string .empty], []⟩ 8 (by kernel_rfl) (by kernel_rfl) (by kernel_rfl)
      (x := ([.lit (.string [])], [], [])) (by kernel_rfl) rfl (by kernel_rfl)) ?_
  intro W base args ds gs before hval hW _ hk _
  exact contract H enc W base args ds gs before hval hW hk

theorem proved : Rows.LinesSplitUptoSaid :=
  OpenClaim.holds_of_cond 3 Try.f3 rfl rfl rfl rfl rfl rfl rfl ⟨rfl, rfl, rfl, rfl, rfl⟩ rfl rfl rfl rfl rfl (by kernel_rfl) Try.func3 (by kernel_rfl)
    (of_decide_eq_true (by kernel_rfl)) (by unfold Func.isWrapper; first | (rw [if_pos (by decide +kernel)]; kernel_rfl) | (rw [if_neg (by decide +kernel)]; exact ⟨rfl, rfl⟩))
    (fun os started H enc _ F => lifted os started H enc F)
#print axioms proved
end Go.Proofs.Ytfjcichcmdnheaa.linesSplit
