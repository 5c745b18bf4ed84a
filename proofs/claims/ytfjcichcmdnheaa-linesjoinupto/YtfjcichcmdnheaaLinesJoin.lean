/-
  For every list of texts of together at most 1048576 letters and values, the law LinesJoin returns true and leaves its argument as it was: lines.Join and lines.Check answer as the plain reference does, and leave the list as it was. The condition is the statement's own bound on what comes in; nothing else is asked.
-/
import Derived.Test.YtfjcichcmdnheaaLnOpen
namespace Go.Proofs.Ytfjcichcmdnheaa.linesJoin
open Go.ChangeShapes Go.WideShapes Go.ChangeAt Go.RowKit
open Ln

set_option maxHeartbeats 1000000 in
theorem walk (v : Value) (ws : List (List UInt8)) (w : World) (hs : ws.length + ws.flatten.length ≤ 1048576) (hv : Argv w v ws) :
    Calls Try.prog 4 #[v] w fun e w' => e = .returned (.bool true) ∧ Below w.heap.size w w' := by
  obtain ⟨i0, hi, hz0, hz1, hz2⟩ := info_parts infoStr
  have hS := hv.srow
  have hone : ∀ u ∈ scells ws, u.oneCell' = true := by
    intro u hu
    simp only [scells, List.mem_map] at hu
    obtain ⟨a, _, rfl⟩ := hu
    rfl
  have hnil : (w.alloc (.cells #[] 9)).ownsRow w.heap.size 9 1 (.slice (some ⟨w.heap.size, 0, none⟩) 0 0) 0 [] := World.ownsRow_lit w #[] 0 (Nat.le_refl _) (by decide) rfl
  have hE := each_le (ws := ws)
  have HF : Hid (ws.flatten.length ≤ 1048576) := Nat.le_trans (Nat.le_add_left _ _) hs
  have hwl : ws.length ≤ 1048576 := by omega
  clear hs
  have HE : Hid (∀ a ∈ ws, a.length ≤ 1099511627776) := fun a ha => by have := hE a ha; have := HF.out; omega
  clear hE
  rcases hv with ⟨rfl, rfl⟩ | ⟨ad, cap, rfl, hcap, hcell⟩
  · go_enter Try.func4, Try.ntmps4
    go_wp2_with (at_builtin; refine wpList_append_own_none rfl _ _ 22 rfl w.heap.size 9 i0 1 Try.underlying22 hi _ _ _ rfl hnil rfl ?_)
    have hb0 : Below w.heap.size w (w.alloc (.cells #[] 9)) := (Below.refl _ w).alloc (Nat.le_refl _) _
    generalize w.alloc (.cells #[] 9) = w1 at *
    have hown : w1.ownsRow w.heap.size 9 1 (.slice (some ⟨w.heap.size, 0, none⟩) 0 0) ([] : List (List UInt8)).length (scells []) := hnil
    have hS1 := hS.keep hb0.block
    have hso := srow_of hown
    have hco := ownsRow_cap hown
    go_wp2_with fail
    refine (Join_any (.slice (some ⟨w.heap.size, 0, none⟩) 0 0) [] _ (by omega) (Nat.le_trans HF.out (by omega)) hco hso).mono ?_
    rintro e w2 ⟨rfl, hb2⟩
    have hso2 := hso.keep hb2.block
    have hS2 := hS1.keep hb2.block
    have hbb2 := hb0.trans (hb2.mono hb0.size)
    clear hso hS1 hown hco
    go_wp2_with fail
    refine (refJoin_any (.slice none 0 0) [] _ (by omega) (Nat.le_trans HF.out (by omega)) hS2).mono ?_
    rintro e w3 ⟨rfl, hb3⟩
    have hso3 := hso2.keep hb3.block
    have hS3 := hS2.keep hb3.block
    have hbb3 := hbb2.trans (hb3.mono hbb2.size)
    clear hso2 hS2
    go_wp2_with fail
    refine (Check_any (.slice (some ⟨w.heap.size, 0, none⟩) 0 0) [] _ (by omega) HE.out hso3).mono ?_
    rintro e w4 ⟨rfl, rfl⟩
    go_wp2_with fail
    refine (refCheck_any (.slice none 0 0) [] _ (by omega) HE.out hS3).mono ?_
    rintro e w4 ⟨rfl, n4, rfl⟩
    go_wp2_with fail
    refine (Same_any (.slice (some ⟨w.heap.size, 0, none⟩) 0 0) (.slice none 0 0) [] (w3.drewN n4) (by omega) (hso3.keep fun _ _ => rfl) (hS3.keep fun _ _ => rfl)).mono ?_
    rintro e w5 ⟨rfl, n5, rfl⟩
    go_wp2
    go_ret
    exact ⟨rfl, below_drewN hbb3 _⟩
  · have hcell1 : ∀ j u, (scells ws)[j]? = some u → (w.alloc (.cells #[] 9)).cell? (ad.add j) = some u := by
      intro j u hj
      have h1 := hcell j u hj
      have hlt := World.block_lt_of_cell? w _ h1
      rw [World.cell?_of_block (w := w) (Below.heap_alloc w _ _ hlt)]
      exact h1
    clear hcell
    go_enter Try.func4, Try.ntmps4
    go_wp2_with (at_builtin; refine wpList_append_own _ rfl _ _ 22 rfl w.heap.size 9 i0 (.string ⟨#[]⟩) 1 16 Try.underlying22 hi hz0 hz1 hz2 rfl (by decide) _ _ _ rfl hnil ad ws.length cap (scells ws) rfl ?c2 hcell1 hone ?c3 ?c4 ?c5 ?_)
    case c2 => rw [scells_length]; omega
    case c3 => unfold maxLen; omega
    case c4 => omega
    case c5 => simp
    intro vo w1 hown1 hgrow hfr
    have hb0 : Below w.heap.size w w1 := ((Below.refl _ w).alloc (Nat.le_refl _) (.cells #[] 9)).grown hgrow (by simp) (fun j hj => (hnil.lt j hj).1)
    have hown : w1.ownsRow w.heap.size 9 1 vo ws.length (scells ws) := by simpa using hown1
    clear hown1 hgrow hfr hcell1
    have hS1 := hS.keep hb0.block
    have hso := srow_of hown
    have hco := ownsRow_cap hown
    go_wp2_with fail
    refine (Join_any (vo) ws _ (by omega) (Nat.le_trans HF.out (by omega)) hco hso).mono ?_
    rintro e w2 ⟨rfl, hb2⟩
    have hso2 := hso.keep hb2.block
    have hS2 := hS1.keep hb2.block
    have hbb2 := hb0.trans (hb2.mono hb0.size)
    clear hso hS1 hown hco
    go_wp2_with fail
    refine (refJoin_any (.slice (some ad) ws.length cap) ws _ (by omega) (Nat.le_trans HF.out (by omega)) hS2).mono ?_
    rintro e w3 ⟨rfl, hb3⟩
    have hso3 := hso2.keep hb3.block
    have hS3 := hS2.keep hb3.block
    have hbb3 := hbb2.trans (hb3.mono hbb2.size)
    clear hso2 hS2
    go_wp2_with fail
    refine (Check_any (vo) ws _ (by omega) HE.out hso3).mono ?_
    rintro e w4 ⟨rfl, rfl⟩
    go_wp2_with fail
    refine (refCheck_any (.slice (some ad) ws.length cap) ws _ (by omega) HE.out hS3).mono ?_
    rintro e w4 ⟨rfl, n4, rfl⟩
    go_wp2_with fail
    refine (Same_any (vo) (.slice (some ad) ws.length cap) ws (w3.drewN n4) (by omega) (hso3.keep fun _ _ => rfl) (hS3.keep fun _ _ => rfl)).mono ?_
    rintro e w5 ⟨rfl, n5, rfl⟩
    go_wp2
    go_ret
    exact ⟨rfl, below_drewN hbb3 _⟩

theorem contract (H : Type) (enc : TypeId × Value → H) (W : World) (base : Nat) (args : Array Value) (ds gs : List (DataW H)) (before : List MemPlace)
    (hval : ∀ (j : Nat) t v, Try.f4.params[j]? = some t → args[j]? = some v → Value.okWide Try.prog W .any base t v)
    (hW : DataW.Whole enc Try.prog Try.f4.params.toList Rows.linesJoinSpec.vars false W args.toList ds gs before) (hk : Rows.uptoSmall H (ds ++ gs) = true) :
    Calls Try.prog 4 args W fun e W' => ∃ v, e = .returned v ∧ Rows.linesJoinSpec.post enc Try.prog Try.f4 false true false false W args v W' := by
  have hW' := hW
  obtain ⟨p, q, hA0, hV, rfl, hfz, hnd⟩ := hW
  have hA : DataW.TrodAll enc Try.prog W 0 (fun _ => true) true Try.f4.params.toList args.toList ds p := hA0
  rw [Try.params4] at hA hval
  obtain ⟨v0, vs0, d0, ds0, p0, q0, hargs, rfl, rfl, h0, r0⟩ := trodAll_cons hA
  obtain ⟨rfl, rfl, rfl⟩ := trodAll_nil r0
  obtain rfl : args = #[v0] := by cases args; simp_all
  obtain ⟨rfl, rfl⟩ := trodVars_none hV
  obtain ⟨a0, len0, cap0, rfl⟩ := okWide_slice Try.underlying22 (hval 0 22 v0 rfl rfl)
  have k0 := h0
  have lt0 : ∀ x ∈ p0, x.block < W.heap.size := by obtain ⟨m, hm⟩ := k0; exact DataW.trod_lt m _ _ _ hm
  clear hA0
  simp only [List.append_nil] at hk
  have hbk : Rows.uptoBulkAll [d0] ≤ 1048576 := of_decide_eq_true hk
  simp only [Rows.uptoBulkAll] at hbk
  obtain ⟨f0, hf0⟩ := h0
  obtain ⟨ws, hv, hwl⟩ := open_texts (by simpa [Value.cells] using hf0)
  have hw := walk (.slice a0 len0 cap0) ws W (by omega) hv
  refine hw.mono fun e W' ⟨he, bel⟩ => ?_
  subst he
  exact ⟨_, rfl, _, _, _, [], _, [], hW', trodAll_mk1 (shut_bool Try.underlying4 _), trodAll_cons_mk (Below.trod laidOut (by kernel_rfl) (of_decide_eq_true (by kernel_rfl)) k0 bel lt0) trodAll_mk0, rfl, bel.frame _, fun h => by cases h⟩

set_option maxRecDepth 100000 in
theorem lifted (os : Os) (started : os.Started) (H : Type) (enc : TypeId × Value → H) (F : Stop.Interp) :
    ReturnsInHanded {} Try.checked os 4 .any ((Rows.OpenSpec.upto Rows.linesJoinSpec).pre6 enc Try.prog Try.f4 Rows.linesJoinUptoRow.domain false) (((Rows.OpenSpec.upto Rows.linesJoinSpec).at F).post enc Try.prog Try.f4 false true false false) := by
  refine returnsInHanded_of_cond (C := Try.checked) (s := Rows.OpenSpec.upto Rows.linesJoinSpec) (k := Rows.uptoSmall) rfl own started (by kernel_rfl) Try.func4
    (OpenSpec.witness (enc := enc) (C := Try.checked) (s := Rows.OpenSpec.upto Rows.linesJoinSpec) (k := Rows.uptoSmall) rfl false ⟨#[], #[.slice none 0 0], []⟩ 8 (by kernel_rfl) (by kernel_rfl) (by kernel_rfl)
      (x := ([.nil], [], [])) (by kernel_rfl) rfl (by kernel_rfl)) ?_
  intro W base args ds gs before hval hW _ hk _
  exact contract H enc W base args ds gs before hval hW hk

theorem proved : Rows.LinesJoinUptoSaid :=
  OpenClaim.holds_of_cond 4 Try.f4 rfl rfl rfl rfl rfl rfl rfl ⟨rfl, rfl, rfl, rfl, rfl⟩ rfl rfl rfl rfl rfl (by kernel_rfl) Try.func4 (by kernel_rfl)
    (of_decide_eq_true (by kernel_rfl)) (by unfold Func.isWrapper; first | (rw [if_pos (by decide +kernel)]; kernel_rfl) | (rw [if_neg (by decide +kernel)]; exact ⟨rfl, rfl⟩))
    (fun os started H enc _ F => lifted os started H enc F)
#print axioms proved
end Go.Proofs.Ytfjcichcmdnheaa.linesJoin
