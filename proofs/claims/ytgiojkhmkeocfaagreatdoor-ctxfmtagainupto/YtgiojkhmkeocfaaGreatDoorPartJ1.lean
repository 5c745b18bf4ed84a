/-
  Texts that belong together, joined: CpZ.
-/
import Derived.Test.YtgiojkhmkeocfaaGreatDoorPartF8

/- The walk of the law CtxfmtAgain. -/
set_option maxRecDepth 20000
namespace Go.Proofs.YtgiojkhmkeocfaaGreatDoor
open Go.RowKit

theorem ag_step {F : List Pfd} {k : Nat} (hk : k < F.length) : (F.take (k + 1)).flatMap (fun f => ptT f.x) = (F.take k).flatMap (fun f => ptT f.x) ++ ptT F[k].x := by
  rw [List.take_succ_eq_append_getElem hk, List.flatMap_append]
  simp
theorem ag_len (F : List Pfd) (k : Nat) : ((F.take k).flatMap (fun f => ptT f.x)).length ≤ ptM (F.map (·.x)) := by
  have h := pts_len ((F.take k).map (·.x))
  rw [List.flatMap_map] at h
  refine Nat.le_trans h ?_
  induction F generalizing k with
  | nil => simp
  | cons f F ih =>
    cases k with
    | zero => simp [ptM]
    | succ k =>
      rw [List.take_succ_cons, List.map_cons, List.map_cons, ptM, ptM]
      have := ih k
      have h2 := pts_len ((F.take k).map (·.x))
      rw [List.flatMap_map] at h2
      have := ih k h2
      omega
set_option maxRecDepth 10000 in
set_option maxHeartbeats 8000000 in
theorem again_f (t : List UInt8) (w : World) (hl : t.length ≤ 1048576) (HTb : Hid (Tab10 w)) :
    Calls Tryz.prog 7 #[.string ⟨t.toArray⟩] w fun e w' => e = .returned (.bool true) ∧ Below w.heap.size w w' := by
  obtain ⟨X, hX⟩ : ∃ X, cxT t = X := ⟨_, rfl⟩
  have HX : Hid (cxT t = X) := hX
  clear hX
  go_enter Tryz.func7, Tryz.ntmps7
  go_wp2_with fail
  refine (cworks_f w HTb).mono ?_
  rintro e w0 ⟨rfl, hB0⟩
  go_wp2_with fail
  refine (cParse_f t w0 X HX (by omega)).mono ?_
  cases X with
  | error z =>
    obtain ⟨a, z⟩ := z
    rintro e w1 ⟨g, rfl, hg, hB1⟩
    go_wp2
    go_ret
    exact ⟨rfl, hB0.trans (hB1.mono hB0.size)⟩
  | ok L =>
    rintro e w1 ⟨v, F, rfl, hP, hFm⟩
    have hv := hP.holds
    have hB1 := hB0.trans (hP.low.mono hB0.size)
    obtain ⟨vo, vc, rfl⟩ := Holds.form hv.row
    have HF : Hid (F.map (·.x) = L) := hFm
    have HG : Hid (∀ f ∈ F, Gp f.x ∧ HOk f.hs) := (by
      intro f hf
      have hm : f.x ∈ L := by rw [← hFm]; exact List.mem_map_of_mem hf
      refine ⟨(cx_right HX.out).1 _ hm, hok_size ?_⟩
      have h1 := ptM_mem hm
      have h2 := cx_size HX.out
      rw [(hv.ins f hf).1]
      omega)
    have hFl : F.length ≤ 64 := (by have h := (cx_right HX.out).2; rw [← hFm, List.length_map] at h; exact h)
    have HSz : Hid (ptM (F.map (·.x)) ≤ 436207616) := (by show _ ≤ _; rw [hFm]; exact cx_size HX.out)
    clear hP hFm hB0
    go_wp2
    go_loopw [5, 6, 7, 8] (fun s i _ _ wr => ∃ (k : Nat) (S : List UInt8), k ≤ F.length ∧ i = .int .i64 k ∧ s = .string ⟨S.toArray⟩ ∧ Hid ((F.take k).flatMap (fun f => ptT f.x) = S) ∧ Below w1.heap.size w1 wr) (fun _ i _ _ _ => F.length - (intOf i).toNat)
    case atStart => exact ⟨0, [], Nat.zero_le _, by go_num, rfl, rfl, Below.refl _ _⟩
    case round =>
    obtain ⟨k, S, hk, rfl, rfl, HS, hB⟩ := hrel
    have hSl : S.length ≤ 436207616 := (by have h1 := ag_len F k; rw [HS.out] at h1; exact Nat.le_trans h1 HSz.out)
    by_cases hlt : k < F.length
    · have hak := hv.keep hB
      obtain ⟨b1, o1, rfl, hb1, hc1⟩ := HPp.at hak (by omega)
      obtain ⟨x0, x1, x2⟩ := hc1 k hlt
      have HS2 := ag_step hlt
      rw [HS.out] at HS2
      have hZl := ag_len F (k + 1)
      rw [HS2, List.length_append] at hZl
      obtain ⟨f, hf⟩ : ∃ f, F[k] = f := ⟨_, rfl⟩
      rw [hf] at x0 x1 x2 HS2 hZl
      have hfm : f ∈ F := (by rw [← hf]; exact List.getElem_mem _)
      obtain ⟨hG, hOk⟩ := HG.out f hfm
      obtain ⟨Z, hZ⟩ : ∃ Z, ptT f.x = Z := ⟨_, rfl⟩
      rw [hZ] at HS2 hZl
      have hZ2 := Nat.le_trans hZl HSz.out
      have h64 : f.x.old.length ≤ 64 := hG.old
      have h65 : f.x.new.length ≤ 64 := hG.new
      have HTr : Hid (Tab10 wr) := HTb.out.on (hB1.trans (hB.mono hB1.size))
      have hcall := cPrint_f f.x f.hs (hv.ins f hfm).1 f.v wr ((hv.ins f hfm).2.keep hB (Nat.le_refl _)) hOk (by omega) (by omega) HTr Z 0 (wrg_ok hG) hZ (by omega)
      obtain ⟨fo, fc, hfv⟩ := Holds.form ((hv.ins f hfm).2).row
      unfold ptV at hcall
      rw [hfv] at x2 hcall
      have HS3 : Hid ((F.take (k + 1)).flatMap (fun f => ptT f.x) = S ++ Z) := HS2
      have i1 : (0 : Int) ≤ (k : Int) := by omega
      have i2 : (k : Int) < (F.length : Int) := by omega
      have i4 : (k : Int).toNat = k := by omega
      clear hc1 hak hf hfm hfv HS2 hZ hG hOk HTr hZl
      go_wp2_with fail
      refine hcall.mono ?_
      rintro e w2 ⟨rfl, hB2⟩
      have hB3 := hB.trans (hB2.mono hB.size)
      clear hcall x0 x1 x2
      go_wp2
      exact ⟨⟨k + 1, S ++ Z, by omega, by go_num, by rw [ba_join], HS3, hB3⟩, by simp [intOf]; omega⟩
    · have hend : decide ((k : Int) < (F.length : Int)) = false := decide_eq_false (by omega)
      have HSF : Hid (L.flatMap ptT = S) := (by
        have h := HS.out
        rw [List.take_of_length_le (by omega)] at h
        show _ = _
        rw [← h, ← HF.out, List.flatMap_map])
      have hBr := hB1.trans (hB.mono hB1.size)
      by_cases hlong : 1048576 < S.length
      · have i1 : (1048576 : Int) < (S.length : Int) := by omega
        go_wp2
        go_ret
        exact ⟨rfl, hBr⟩
      · have i1 : ¬ (1048576 : Int) < (S.length : Int) := by omega
        have HX2 : Hid (cxT S = .ok L) := (by
          have h := cx_again HX.out (by rw [HSF.out]; omega)
          rw [HSF.out] at h
          exact h)
        go_wp2_with fail
        refine (cParse_f S wr _ HX2 (by omega)).mono ?_
        rintro e w3 ⟨v3, F3, rfl, hP3, hFm3⟩
        have hB3 := hBr.trans (hP3.low.mono hBr.size)
        have hv3 := hP3.holds
        have hvk := (hv.keep hB).keep hP3.low
        have HE : Hid (F3.map (·.x) = F.map (·.x)) := (by show _ = _; rw [hFm3, HF.out])
        have HO : Hid (∀ f ∈ F3, HOw f.hs) := (by
          intro f hf
          have hm : f.x ∈ L := by rw [← hFm3]; exact List.mem_map_of_mem hf
          have h1 := ptM_mem hm
          have h2 := cx_size HX.out
          have h3 : HOk f.hs := hok_size (by rw [(hv3.ins f hf).1]; omega)
          exact ⟨h3.1, fun x hx => (h3.2 x hx).1⟩)
        have hl3 : F3.length ≤ 64 := (by have h := congrArg List.length HE.out; simp at h; omega)
        obtain ⟨vo3, vc3, rfl⟩ := Holds.form hv3.row
        have hcall := fun u (hu : Below w3.heap.size w3 u) => rSameAll_t F3 F _ _ u (hv3.keep hu) (hvk.keep hu) HE HO (by omega)
        clear hP3 hFm3 hv3 hvk HX2
        go_wp2_with fail
        refine (hcall _ (Below.refl _ _)).mono ?_
        rintro e w4 ⟨rfl, hB4⟩
        go_wp2
        go_ret
        exact ⟨rfl, hB3.trans (hB4.mono hB3.size)⟩
end Go.Proofs.YtgiojkhmkeocfaaGreatDoor
