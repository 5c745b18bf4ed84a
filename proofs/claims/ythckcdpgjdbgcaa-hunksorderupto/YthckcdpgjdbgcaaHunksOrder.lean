/-
  HunksOrder, walked: which rows of hunks are in order, and what script they are.
-/
import Derived.Test.YthckcdpgjdbgcaaPartC2
import Derived.Test.YthckcdpgjdbgcaaPartA6
namespace Go.Proofs.Ythckcdpgjdbgcaa
open Go.RowKit

theorem bm_len (r : List Ch) : (bmA r).length = r.length ∧ (bmB r).length = r.length := by cases r <;> exact ⟨rfl, rfl⟩
theorem opn_len (a b : Int) (r : List Ch) : (opn a b r).length ≤ r.length + 1 := by unfold opn; split <;> simp
theorem chLs_len (l : List Mk) : ∀ (a b : Int) (r : List Ch), (chLs a b r l).length ≤ r.length + l.length := by
  induction l with
  | nil => intro a b r; simp [chLs]
  | cons m l ih =>
    intro a b r
    have ho := opn_len a b r
    simp only [chLs, List.length_cons]
    split
    · have := ih (a + 1) (b + 1) r
      omega
    · split
      · have := ih (a + 1) b (bmA (opn a b r))
        rw [(bm_len _).1] at this
        omega
      · have := ih a (b + 1) (bmB (opn a b r))
        rw [(bm_len _).2] at this
        omega
theorem chHs_len (l : List Hk) : ∀ r : List Ch, (chHs r l).length ≤ r.length + tot l := by
  induction l with
  | nil => intro r; simp [chHs]
  | cons h l ih =>
    intro r
    have h1 := ih (chLs (atA h) (atB h) r h.ls)
    have h2 := chLs_len h.ls (atA h) (atB h) r
    simp only [chHs, tot]
    omega
theorem chR_len (l : List Hk) : (chR l).length ≤ tot l := by
  unfold chR
  split
  · have := chHs_len l []
    simpa using this
  · simp
theorem HOk.of_map {p P : List (Hk × Value)} (h : HOk p) (e : P.map (·.1) = p.map (·.1)) : HOk P := by
  refine ⟨?_, fun x hx => ?_⟩
  · have := congrArg List.length e
    simp at this
    have := h.1
    omega
  · have hm : x.1 ∈ p.map (·.1) := by rw [← e]; exact List.mem_map_of_mem hx
    obtain ⟨y, hy, hyx⟩ := List.mem_map.1 hm
    have := h.2 y hy
    rw [hyx] at this
    exact this

set_option maxRecDepth 10000 in
set_option maxHeartbeats 8000000 in
theorem HunksOrder_any (p : List (Hk × Value)) (v : Value) (w : World) (hv : HHp w v p) (hok : HOk p) (ht : tot (p.map (·.1)) ≤ 1099511627776) : Calls Try.prog 5 #[v] w fun e w' => e = .returned (.bool true) ∧ Below w.heap.size w w' := by
  obtain ⟨vo, vc, rfl⟩ := Holds.form hv.row
  obtain ⟨z, hz⟩ : ∃ z, ordH (p.map (·.1)) = z := ⟨_, rfl⟩
  obtain ⟨R, hR⟩ : ∃ R, chR (p.map (·.1)) = R := ⟨_, rfl⟩
  have HZ : Hid (ordH (p.map (·.1)) = z) := hz
  have HR : Hid (chR (p.map (·.1)) = R) := hR
  clear hz hR
  go_enter Try.func5, Try.ntmps5
  go_wp2_with fail
  refine (rCopy_f p _ w hv hok).mono ?_
  rintro e w1 ⟨v1, P, rfl, hS1, hPm⟩
  obtain ⟨o1, c1, rfl⟩ := (holds_of hS1.own).form
  have hokP := hok.of_map hPm
  have hP1 := hS1.holds
  have HPM : Hid (P.map (·.1) = p.map (·.1)) := hPm
  clear hPm
  go_wp2_with fail
  refine (hChanges_f P _ w1 hP1 hokP (by rw [HPM.out]; exact ht) z (by show _ = _; rw [HPM.out]; exact HZ.out) R (by show _ = _; rw [HPM.out]; exact HR.out)).mono ?_
  rintro e w2 ⟨v2, rfl, hv2, hB2⟩
  obtain ⟨o2, c2, rfl⟩ := Holds.form hv2
  have hB02 := hS1.low.trans (hB2.mono hS1.low.size)
  have hP2 := hP1.keep hB2 (Nat.le_refl _)
  have hp2 := hv.keep hB02 (Nat.le_refl _)
  clear hP1 hB2
  go_wp2_with fail
  refine (rChanges_f p _ w2 hp2 hok ht z HZ R HR).mono ?_
  rintro e w3 ⟨v3, rfl, hv3, hB3⟩
  obtain ⟨o3, c3, rfl⟩ := Holds.form hv3
  have hB03 := hB02.trans (hB3.mono hB02.size)
  have hP3 := hP2.keep hB3 (Nat.le_refl _)
  have hp3 := hp2.keep hB3 (Nat.le_refl _)
  have hv23 := HCh.keep hv2 hB3 (Nat.le_refl _)
  clear hP2 hp2 hv2 hB3 hB02
  go_wp2_with fail
  refine (hOrder_f P _ w3 hP3 hokP z (by show _ = _; rw [HPM.out]; exact HZ.out)).mono ?_
  rintro e w4 ⟨rfl, hB4⟩
  have hB04 := hB03.trans (hB4.mono hB03.size)
  have hP4 := hP3.keep hB4 (Nat.le_refl _)
  have hp4 := hp3.keep hB4 (Nat.le_refl _)
  have hv24 := HCh.keep hv23 hB4 (Nat.le_refl _)
  have hv34 := HCh.keep hv3 hB4 (Nat.le_refl _)
  clear hP3 hp3 hv23 hv3 hB4 hB03
  go_wp2_with fail
  refine (rOrder_f p _ w4 hp4 hok z HZ).mono ?_
  rintro e w5 ⟨rfl, hB5⟩
  have hB05 := hB04.trans (hB5.mono hB04.size)
  have hP5 := hP4.keep hB5 (Nat.le_refl _)
  have hp5 := hp4.keep hB5 (Nat.le_refl _)
  have hv25 := HCh.keep hv24 hB5 (Nat.le_refl _)
  have hv35 := HCh.keep hv34 hB5 (Nat.le_refl _)
  clear hP4 hp4 hv24 hv34 hB5 hB04
  go_wp2_with fail
  refine (SameC_any _ _ R _ (by rw [← HR.out]; exact Nat.le_trans (chR_len _) ht) hv25 hv35).mono ?_
  rintro e w6 ⟨rfl, hB6⟩
  have hB06 := hB05.trans (hB6.mono hB05.size)
  have hP6 := hP5.keep hB6 (Nat.le_refl _)
  have hp6 := hp5.keep hB6 (Nat.le_refl _)
  clear hP5 hp5 hv25 hv35 hB6 hB05
  go_wp2_with fail
  refine (rSameHunks_f P p _ _ w6 hP6 hp6 HPM.out hokP).mono ?_
  rintro e w7 ⟨rfl, hB7⟩
  have hB07 := hB06.trans (hB7.mono hB06.size)
  go_wp2
  go_ret
  exact ⟨rfl, hB07⟩
theorem tot_hbk (l : List Hk) : tot l ≤ hbk l := by
  induction l with
  | nil => simp [tot]
  | cons h l ih =>
    have := mb_len h.ls
    simp only [tot, hbk]
    omega
theorem hok_of {p : List (Hk × Value)} {n : Nat} (h : hbk (p.map (·.1)) ≤ n) (hn : n ≤ 1099511627776) : HOk p := by
  have h1 := hb_len (p.map (·.1))
  refine ⟨by simp at h1; omega, fun x hx => ?_⟩
  have h2 := hb_mem (p.map (·.1)) x.1 (List.mem_map_of_mem hx)
  have h3 := mb_len x.1.ls
  exact ⟨by omega, fun m hm => by have := mb_mem x.1.ls m hm; omega⟩
end Go.Proofs.Ythckcdpgjdbgcaa
namespace Go.Proofs.Ythckcdpgjdbgcaa.hunksOrder
open Go.ChangeShapes Go.WideShapes Go.ChangeAt Go.RowKit
theorem walk (p : List (Hk × Value)) (v : Value) (w : World) (hb : hbk (p.map (·.1)) ≤ 1048576) (hv : HHp w v p) : Calls Try.prog 5 #[v] w fun e w' => e = .returned (.bool true) ∧ Below w.heap.size w w' :=
  HunksOrder_any p v w hv (hok_of hb (by omega)) (by have := tot_hbk (p.map (·.1)); omega)

set_option maxRecDepth 20000 in
theorem contract (H : Type) (enc : TypeId × Value → H) (W : World) (base : Nat) (args : Array Value) (ds gs : List (DataW H)) (before : List MemPlace)
    (hval : ∀ (j : Nat) t v, Try.f5.params[j]? = some t → args[j]? = some v → Value.okWide Try.prog W .any base t v)
    (hW : DataW.Whole enc Try.prog Try.f5.params.toList Rows.hunksOrderSpec.vars false W args.toList ds gs before) (hk : Rows.uptoSmall H (ds ++ gs) = true) :
    Calls Try.prog 5 args W fun e W' => ∃ v, e = .returned v ∧ Rows.hunksOrderSpec.post enc Try.prog Try.f5 false true false false W args v W' := by
  have hW' := hW
  obtain ⟨p, q, hA0, hV, rfl, hfz, hnd⟩ := hW
  have hA : DataW.TrodAll enc Try.prog W 0 (fun _ => true) true Try.f5.params.toList args.toList ds p := hA0
  rw [Try.params5] at hA hval
  obtain ⟨v0, vs0, d0, ds0, p0, q0, hargs, rfl, rfl, h0, r0⟩ := trodAll_cons hA
  obtain ⟨rfl, rfl, rfl⟩ := trodAll_nil r0
  obtain rfl : args = #[v0] := by cases args; simp_all
  obtain ⟨rfl, rfl⟩ := trodVars_none hV
  obtain ⟨a0, len0, cap0, rfl⟩ := okWide_slice Try.underlying24 (hval 0 24 v0 rfl rfl)
  have k0 := h0
  have lt0 : ∀ x ∈ p0, x.block < W.heap.size := by obtain ⟨m, hm⟩ := k0; exact DataW.trod_lt m _ _ _ hm
  clear hA0
  simp only [List.append_nil] at hk
  have hbk : Rows.uptoBulkAll [d0] ≤ 1048576 := of_decide_eq_true hk
  simp only [Rows.uptoBulkAll] at hbk
  obtain ⟨f0, hf0⟩ := h0
  obtain ⟨ws0, hv0, hwl0, hwf0⟩ := open_hks (by simpa [Value.cells] using hf0)
  have hw := walk ws0 (.slice a0 len0 cap0) W (by omega) hv0
  refine hw.mono fun e W' ⟨he, bel⟩ => ?_
  subst he
  exact ⟨_, rfl, _, _, _, [], _, [], hW', trodAll_mk1 (shut_bool Try.underlying4 _), trodAll_cons_mk (Below.trod laidOut (by kernel_rfl) (of_decide_eq_true (by kernel_rfl)) k0 bel lt0) trodAll_mk0, rfl, bel.frame _, fun h => by cases h⟩

set_option maxRecDepth 100000 in
theorem lifted (os : Os) (started : os.Started) (H : Type) (enc : TypeId × Value → H) (F : Stop.Interp) :
    ReturnsInHanded {} Try.checked os 5 .any ((Rows.OpenSpec.upto Rows.hunksOrderSpec).pre6 enc Try.prog Try.f5 Rows.hunksOrderUptoRow.domain false) (((Rows.OpenSpec.upto Rows.hunksOrderSpec).at F).post enc Try.prog Try.f5 false true false false) := by
  refine returnsInHanded_of_cond (C := Try.checked) (s := Rows.OpenSpec.upto Rows.hunksOrderSpec) (k := Rows.uptoSmall) rfl own started (by kernel_rfl) Try.func5
    (OpenSpec.witness (enc := enc) (C := Try.checked) (s := Rows.OpenSpec.upto Rows.hunksOrderSpec) (k := Rows.uptoSmall) rfl false ⟨#[], #[.slice none 0 0], []⟩ 8 (by kernel_rfl) (by kernel_rfl) (by kernel_rfl)
      (x := ([.nil], [], [])) (by kernel_rfl) rfl (by kernel_rfl)) ?_
  intro W base args ds gs before hval hW _ hk _
  exact contract H enc W base args ds gs before hval hW hk

theorem proved : Rows.HunksOrderUptoSaid :=
  OpenClaim.holds_of_cond 5 Try.f5 rfl rfl rfl rfl rfl rfl rfl ⟨rfl, rfl, rfl, rfl, rfl⟩ rfl rfl rfl rfl rfl (by kernel_rfl) Try.func5 (by kernel_rfl)
    (of_decide_eq_true (by kernel_rfl)) (by unfold Func.isWrapper; first | (rw [if_pos (by decide +kernel)]; kernel_rfl) | (rw [if_neg (by decide +kernel)]; exact ⟨rfl, rfl⟩))
    (fun os started H enc _ F => lifted os started H enc F)
#print axioms proved
end Go.Proofs.Ythckcdpgjdbgcaa.hunksOrder
