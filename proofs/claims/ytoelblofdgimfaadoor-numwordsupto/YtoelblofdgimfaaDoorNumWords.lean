/-
  For every text of at most 1048576 letters and values (with the library's tables that the row lists), the law NumWords returns true and leaves its argument as it was: num.Words takes a line apart as the plain reference does, and what it hands out is not shared. The conditions are the statement's own bound and the card's: the listed tables hold what the program's text lays.
-/
import Derived.Test.YtoelblofdgimfaaDoorCards
import Derived.Test.YtoelblofdgimfaaDoorTie
import Derived.Test.YtoelblofdgimfaaDoorRefWords
import Derived.Test.YtoelblofdgimfaaDoorSame
import Derived.Test.YtoelblofdgimfaaDoorTabU
import Derived.ProofKit
import Derived.OpenShut
import Derived.Deep.DeepHandedRow
namespace Go.Proofs.YtoelblofdgimfaaDoor.numWords
open Go.ChangeShapes Go.WideShapes Go.ChangeAt Go.RowKit
open Go.ChangeMaps (open_string shut_string)
open Q

set_option maxHeartbeats 2000000 in
set_option maxRecDepth 100000 in
theorem walk (s : List UInt8) (w : World) (hs : s.length ≤ 1048576) :
    Calls Tryd.prog 4 #[.string ⟨s.toArray⟩] w fun e w' => e = .returned (.bool true) ∧ Below w.heap.size w w' := by
  have hwl : (wordsL s).length ≤ 1099511627776 := Nat.le_trans (wordsL_len s) (by omega)
  go_enter Tryd.func4, Tryd.ntmps4
  go_wp2_with fail
  refine (Words_any s _ (by omega)).mono ?_
  rintro e w1 ⟨va, rfl, ha1, hb1⟩
  go_wp2_with fail
  refine (refWords_any s _ (by omega)).mono ?_
  rintro e w2 ⟨vb, rfl, hB2, hb2⟩
  have ha2 := ownsRow_keep ha1 hb2.block
  have hbw2 := hb1.trans (hb2.mono hb1.size)
  go_wp2_with fail
  refine (Same_any va vb (wordsL s) _ hwl (srow_of ha2) (srow_of hB2)).mono ?_
  rintro e w3 ⟨rfl, n3, rfl⟩
  have hsb3 : Srow (w2.drewN n3) vb (wordsL s) := (srow_of hB2).keep (fun _ _ => rfl)
  have ha3 : (w2.drewN n3).ownsRow w.heap.size 9 1 va (wordsL s).length (scells (wordsL s)) := ownsRow_keep ha2 (fun _ _ => rfl)
  have hbw3 : Below w.heap.size w (w2.drewN n3) := below_drewN hbw2 n3
  have hsep : ∀ g, va.ownBlock = some g → ∀ b off n cap, vb = .slice (some ⟨b, off, none⟩) n cap → b ≠ g := by
    intro g hg b off n cap hv e
    have h1 := (ha1.lt g hg).2
    have h2 := (hB2.lt b (by rw [hv]; rfl)).1
    omega
  generalize w2.drewN n3 = w3 at *
  rcases ha3.2 with ⟨rfl, h0⟩ | ⟨g, cap, cur, rfl, hgb, hg, hnc, _, hcs, _⟩
  · have HN : Hid ((wordsL s).length = 0) := h0
    clear h0
    go_wp2
    refine wp_loop_rounds 1 ?_
    rw [rounds_succ]
    go_wp2_with fail
    refine (Words_any s _ (by omega)).mono ?_
    rintro e w4 ⟨vc, rfl, hc4, hb4⟩
    go_wp2_with fail
    refine (Same_any vc vb (wordsL s) _ hwl (srow_of hc4) (hsb3.keep hb4.block)).mono ?_
    rintro e w5 ⟨rfl, n5, rfl⟩
    go_wp2
    go_ret
    exact ⟨rfl, below_drewN (hbw3.trans (hb4.mono hbw3.size)) n5⟩
  · have hsep' := hsep g rfl
    clear hsep
    go_wp2
    go_loopw [7] (fun i wr => ∃ (k : Nat) (C : Array Value), k ≤ (wordsL s).length ∧ i = .int .i64 k ∧ Below w.heap.size w wr ∧ wr.heap[g]? = some (.cells C 9 (0, 0)) ∧ (wordsL s).length ≤ C.size ∧ Srow wr vb (wordsL s)) (fun i _ => (wordsL s).length - (intOf i).toNat)
    case atStart => exact ⟨0, cur, Nat.zero_le _, rfl, hbw3, hg, by omega, hsb3⟩
    case round =>
      obtain ⟨k, C, hk, rfl, hbr, hgr, hCs, hsr⟩ := hrel
      by_cases hlt : k < (wordsL s).length
      · have hkC : k < C.size := by omega
        have c1 : wr.cell? ⟨g, k, none⟩ = some C[k] := by rw [Lib.cell_of_heap hgr]; simp [hkC]
        have f1 : wr.frozen? ⟨g, k, none⟩ = false := Lib.frozen_of_heap hgr k
        go_wp2
        refine ⟨⟨k + 1, C.setIfInBounds k (.string ⟨#[115, 112, 111, 105, 108, 116]⟩), by omega, by go_num, hbr.setCell (p := ⟨g, k, none⟩) hgb _, ?_, by simpa using hCs, ?_⟩, by simp [intOf]; omega⟩
        · simp only [World.setCell, Array.getElem?_modify, hgr]
          simp
        · rcases hsr with h | ⟨b, off, cp, hv, hc⟩
          · exact .inl h
          · refine .inr ⟨b, off, cp, hv, fun j hj => ?_⟩
            rw [World.cell?_of_block (w := wr) (Below.heap_setCell wr ⟨g, k, none⟩ _ b (hsep' b off _ cp hv))]
            exact hc j hj
      · go_wp2_with fail
        refine (Words_any s _ (by omega)).mono ?_
        rintro e w4 ⟨vc, rfl, hc4, hb4⟩
        go_wp2_with fail
        refine (Same_any vc vb (wordsL s) _ hwl (srow_of hc4) (hsr.keep hb4.block)).mono ?_
        rintro e w5 ⟨rfl, n5, rfl⟩
        go_wp2
        go_ret
        exact ⟨rfl, below_drewN (hbr.trans (hb4.mono hbr.size)) n5⟩

theorem short1 {H : Type} {s : ByteArray} (hk : Rows.uptoSmall H [.lit (.string s.data.toList)] = true) : s.data.toList.length ≤ 1048576 := by
  have h : Rows.uptoBulkAll [DataW.lit (H := H) (.string s.data.toList)] ≤ 1048576 := of_decide_eq_true hk
  simp only [Rows.uptoBulkAll, Rows.uptoBulk] at h
  omega

theorem contract (H : Type) (enc : TypeId × Value → H) (W : World) (base : Nat) (args : Array Value) (ds gs : List (DataW H)) (before : List MemPlace)
    (hval : ∀ (j : Nat) t v, Tryd.f4.params[j]? = some t → args[j]? = some v → Value.okWide Tryd.prog W .any base t v)
    (hW : DataW.Whole enc Tryd.prog Tryd.f4.params.toList Rows.numWordsSpec.vars false W args.toList ds gs before) (hk : Rows.uptoSmall H (ds ++ gs) = true) :
    Calls Tryd.prog 4 args W fun e W' => ∃ v, e = .returned v ∧ Rows.numWordsSpec.post enc Tryd.prog Tryd.f4 false true false false W args v W' := by
  have hW' := hW
  obtain ⟨p, q, hA0, hV, rfl, hfz, hnd⟩ := hW
  have hA : DataW.TrodAll enc Tryd.prog W 0 (fun _ => true) true Tryd.f4.params.toList args.toList ds p := hA0
  rw [Tryd.params4] at hA hval
  obtain ⟨v0, vs0, d0, ds0, p0, q0, hargs, rfl, rfl, h0, r0⟩ := trodAll_cons hA
  obtain ⟨rfl, rfl, rfl⟩ := trodAll_nil r0
  obtain rfl : args = #[v0] := by cases args; simp_all
  obtain ⟨rfl, rfl⟩ := trodVars_none hV
  obtain ⟨a0, rfl, rfl, rfl, w0⟩ := open_string Tryd.underlying9 (hval 0 9 v0 rfl rfl) h0
  clear hA0
  simp only [List.append_nil] at hW' hk
  have hw := walk a0.data.toList W (short1 hk)
  refine hw.mono fun e W' ⟨he, hg⟩ => ?_
  subst he
  exact ⟨_, rfl, _, _, _, [], _, [], hW', trodAll_mk1 (shut_bool Tryd.underlying4 _), trodAll_cons_mk (shut_string Tryd.underlying9 w0) trodAll_mk0, rfl, hg.frame _, fun h => by cases h⟩

theorem laid_met (os : Os) : laidMet Tryd.prog Rows.numWordsUptoRow.laid ((laidOnU (World.holding Tryd.prog os ⟨#[], #[], []⟩)).forCall (fun _ _ => 0) ⟨#[], #[.string .empty], []⟩).memory :=
  laidMet_of_run' 8 (by kernel_rfl) (by kernel_rfl)
theorem reads (os : Os) {H : Type} (enc : TypeId × Value → H) : ∃ places, DataW.whole enc Tryd.prog ((laidOnU (World.holding Tryd.prog os ⟨#[], #[], []⟩)).forCall (fun _ _ => 0) ⟨#[], #[.string .empty], []⟩).memory Tryd.f4.params.toList Rows.numWordsSpec.vars false #[Value.string .empty].toList 8 = some ([.lit (.string [])], [], places) :=
  ⟨[], by kernel_rfl⟩

set_option maxRecDepth 100000 in
theorem lifted (os : Os) (started : os.Started) (H : Type) (enc : TypeId × Value → H) (F : Stop.Interp) :
    ReturnsInHanded {} Tryd.checked os 4 .any ((Rows.OpenSpec.upto Rows.numWordsSpec).preRow enc Tryd.prog Tryd.f4 Rows.numWordsUptoRow.domain false Rows.numWordsUptoRow.laid) (((Rows.OpenSpec.upto Rows.numWordsSpec).at F).post enc Tryd.prog Tryd.f4 false true false false) := by
  obtain ⟨places, hx⟩ := reads os enc
  refine returnsInHanded_of_row (C := Tryd.checked) (s := Rows.OpenSpec.upto Rows.numWordsSpec) own started (by kernel_rfl) Tryd.func4
    (witness_row_at (enc := enc) (C := Tryd.checked) false (laidOnU (World.holding Tryd.prog os ⟨#[], #[], []⟩)) #[.string .empty] rfl (by kernel_rfl) (by kernel_rfl) (by kernel_rfl)
      (OpenSpec.preRow_of_cond 8 hx (by kernel_rfl) (fun k hk => by cases hk; kernel_rfl) (by kernel_rfl) (laid_met os))) ?_
  intro W base args ds gs before hval hW _ hcond _ _ _ _
  exact contract H enc W base args ds gs before hval hW (hcond _ rfl)

theorem said : Rows.NumWordsUptoSaid :=
  OpenClaim.holds_of_cond 4 Tryd.f4 rfl rfl rfl rfl rfl rfl rfl ⟨rfl, rfl, rfl, rfl, rfl⟩ rfl rfl rfl rfl rfl (by kernel_rfl) Tryd.func4 (by kernel_rfl)
    (of_decide_eq_true (by kernel_rfl)) (by unfold Func.isWrapper; first | (rw [if_pos (by decide +kernel)]; kernel_rfl) | (rw [if_neg (by decide +kernel)]; exact ⟨rfl, rfl⟩))
    (fun os started H enc _ F => by rw [OpenClaim.pre_eq_preRow]; exact lifted os started H enc F)

theorem plain (f : FuncId) (fn : Func) (hf : Tryd.pinned.checked.prog.funcNamed "redline/redlinelaw01.NumWords" = some f) (hfn : Tryd.pinned.checked.prog.funcs[f]? = some fn) :
    false = Tryd.pinned.checked.prog.looks [] ∧ ∀ (j : Nat) t, fn.params[j]? = some t → Tryd.pinned.checked.prog.wantsStandIn t = false := by
  obtain rfl : f = 4 := Option.some.inj ((show Tryd.prog.funcNamed "redline/redlinelaw01.NumWords" = some 4 by kernel_rfl).symm.trans hf) |>.symm
  obtain rfl : fn = Tryd.f4 := (Option.some.inj (Tryd.func4.symm.trans hfn)).symm
  refine ⟨by kernel_rfl, fun j t ht => ?_⟩
  rw [Tryd.params4] at ht
  obtain rfl : t = 9 := by simpa using Array.mem_of_getElem? ht
  exact (show Tryd.prog.wantsStandIn 9 = false by kernel_rfl)

theorem card : Rows.NumWordsUptoCardSaid :=
  Claim7.holds_tied_plain_at .later [] _ _ _ _ said (fun _ h => by cases h) (by kernel_rfl) (fun _ h => by cases h) numWordsUpto_row_tie rfl ⟨rfl, rfl⟩ (by kernel_rfl) rfl plain (by kernel_rfl)
#print axioms card
end Go.Proofs.YtoelblofdgimfaaDoor.numWords
