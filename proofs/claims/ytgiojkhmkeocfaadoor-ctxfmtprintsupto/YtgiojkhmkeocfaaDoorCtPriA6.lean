/-
  Texts that belong together, joined: HuC2, CwH, CwI, CrA, CxR2, CrB, CrC.
-/
import Derived.Test.YtgiojkhmkeocfaaDoorCtPriA4
import Derived.Test.YtgiojkhmkeocfaaDoorCtPriA3
import Derived.Test.YtgiojkhmkeocfaaDoorCtPriA5

/- The code's Check of layer 11, walked. -/
namespace Go.Proofs.YtgiojkhmkeocfaaDoor
open Ln Go.RowKit

theorem rng_nm (h : Hk) : rngB h = (nmB h.A h.AN && nmB h.B h.BN) := by
  unfold rngB nmB
  cases nat31 h.A <;> cases nat31 h.AN <;> cases nat31 h.B <;> cases nat31 h.BN <;> cases decide (h.A = 0) <;> cases decide (0 < h.AN) <;> cases decide (h.B = 0) <;> cases decide (0 < h.BN) <;> rfl
theorem pk_mem {no : Int} {l : List Mk} {a : List UInt8} (h : a ∈ pkL no l) : ∃ m ∈ l, m.tx = a := by
  induction l with
  | nil => cases h
  | cons m l ih =>
    simp only [pkL] at h
    split at h
    · rcases List.mem_cons.1 h with rfl | h
      · exact ⟨m, by simp, rfl⟩
      · obtain ⟨x, hx, e⟩ := ih h
        exact ⟨x, by simp [hx], e⟩
    · obtain ⟨x, hx, e⟩ := ih h
      exact ⟨x, by simp [hx], e⟩
theorem chk_rng {h : Hk} (hq : rngB h = false) : chkH h = 2 := by
  unfold chkH
  rw [if_pos hq]
theorem chk_fld {h : Hk} (h1 : rngB h = true) (hq : fldB h.ls = false) : chkH h = 6 := by
  unfold chkH
  rw [if_neg (by rw [h1]; decide), if_pos hq]
theorem chk_cnt {h : Hk} (h1 : rngB h = true) (h2 : fldB h.ls = true) (hq : h.AN ≠ (oldL h).length ∨ h.BN ≠ (newL h).length) : chkH h = 120 := by
  unfold chkH
  rw [if_neg (by rw [h1]; decide), if_neg (by rw [h2]; decide), if_pos hq]
theorem all_chg {l : List Mk} (ha : allB l = true) : l.all (fun m => decide (m.sg = 32)) = !l.any chgB := by
  induction l with
  | nil => rfl
  | cons m l ih =>
    simp only [allB, List.all_cons, Bool.and_eq_true] at ha
    simp only [List.all_cons, List.any_cons]
    rw [ih ha.2]
    have hm := ha.1
    simp only [okS, Bool.or_eq_true, decide_eq_true_eq] at hm
    unfold chgB
    rcases hm with (hm | hm) | hm <;> rw [hm] <;> simp
theorem chk_end {h : Hk} (h1 : rngB h = true) (h2 : fldB h.ls = true) (h3 : h.AN = (oldL h).length) (h4 : h.BN = (newL h).length) {q : Bool} (hq : h.ls.any chgB = q) : chkH h = if q = true then 0 else 50 := by
  unfold chkH
  rw [if_neg (by rw [h1]; decide), if_neg (by rw [h2]; decide), if_neg (fun k => by rcases k with k | k <;> contradiction)]
  have ha : allB h.ls = true := by
    have := fld_code h.ls
    rw [h2] at this
    simp only [Bool.true_eq, Bool.and_eq_true] at this
    exact this.1.1
  rw [all_chg ha, hq]
  cases q <;> rfl
theorem any_strange (l : List Mk) : l.any (fun m => !okS m.sg) = !allB l := by
  induction l with
  | nil => rfl
  | cons m l ih =>
    simp only [List.any_cons, allB, List.all_cons, Bool.not_and] at ih ⊢
    rw [ih]
theorem hold_held {h : Hk} {v : Value} {W u : World} (hv : HMk W v h.ls) (hl : h.ls.length ≤ 1099511627776) {R : List (List UInt8)} (HR : Hid (oldL h = R)) (hL : Low W u) : Calls Tryd.prog 32 (#[hkV h v] ++ #[]) u fun e w' => ∃ x, e = .returned x ∧ Low W w' ∧ (HS w' x R ∧ Below u.heap.size u w') := by
  refine (hOld_f h v u (HMk.keep hv hL (Nat.le_refl _)) hl R HR).mono ?_
  rintro e w' ⟨x, rfl, hx, hB⟩
  exact ⟨_, rfl, hL.trans (hB.mono hL.size), hx, hB⟩
theorem hnew_held {h : Hk} {v : Value} {W u : World} (hv : HMk W v h.ls) (hl : h.ls.length ≤ 1099511627776) {R : List (List UInt8)} (HR : Hid (newL h = R)) (hL : Low W u) : Calls Tryd.prog 34 (#[hkV h v] ++ #[]) u fun e w' => ∃ x, e = .returned x ∧ Low W w' ∧ (HS w' x R ∧ Below u.heap.size u w') := by
  refine (hNew_f h v u (HMk.keep hv hL (Nat.le_refl _)) hl R HR).mono ?_
  rintro e w' ⟨x, rfl, hx, hB⟩
  exact ⟨_, rfl, hL.trans (hB.mono hL.size), hx, hB⟩

set_option maxRecDepth 10000 in
set_option maxHeartbeats 4000000 in
theorem hCheck_f (h : Hk) (v : Value) (w : World) (hv : HMk w v h.ls) (hl : h.ls.length ≤ 1099511627776) (htx : ∀ m ∈ h.ls, m.tx.length ≤ 1099511627776) (r : Int) (HR : Hid (chkH h = r)) : Calls Tryd.prog 15 #[hkV h v] w fun e w' => e = .returned (.int .i64 r) ∧ Below w.heap.size w w' := by
  obtain ⟨A, AN, B, BN, ls⟩ := h
  dsimp only at hv hl htx
  obtain ⟨lo, lc, rfl⟩ := HMk.form hv
  have hx := Hx.new w ⟨A, AN, B, BN, ls⟩ (.slice lo ls.length lc)
  have hBl : Below w.heap.size w (w.alloc (hkO ⟨A, AN, B, BN, ls⟩ (.slice lo ls.length lc))) := (Below.refl _ w).alloc (Nat.le_refl _) _
  have hv1 := HMk.keep hv hBl (Nat.le_refl _)
  have HTX : Hid (∀ m ∈ ls, m.tx.length ≤ 1099511627776) := htx
  clear htx hv
  obtain ⟨x0, x1, x2, x3, x4⟩ := hx.cells
  unfold hkV
  dsimp only at x0 x1 x2 x3 x4 ⊢
  have hW0 : w.alloc (hkO ⟨A, AN, B, BN, ls⟩ (.slice lo ls.length lc)) = w.alloc (Obj.cells #[Value.int IntKind.i64 A, Value.int IntKind.i64 AN, Value.int IntKind.i64 B, Value.int IntKind.i64 BN, .slice lo ls.length lc] 43) := rfl
  generalize w.alloc (hkO ⟨A, AN, B, BN, ls⟩ (.slice lo ls.length lc)) = W at *
  have hW := hW0.symm
  clear hW0
  obtain ⟨p1, hp1⟩ : ∃ p, nmB A AN = p := ⟨_, rfl⟩
  obtain ⟨p2, hp2⟩ : ∃ p, nmB B BN = p := ⟨_, rfl⟩
  have HG : Hid (rngB ⟨A, AN, B, BN, ls⟩ = (p1 && p2)) := (by show _ = _; rw [rng_nm, ← hp1, ← hp2])
  have HP1 : Hid (nmB A AN = p1) := hp1
  have HP2 : Hid (nmB B BN = p2) := hp2
  clear hp1 hp2
  go_enter Tryd.func15, Tryd.ntmps15
  go_wp2_with fail
  refine (hnumbered_f A AN W p1 HP1).mono ?_
  rintro e w1 ⟨rfl, rfl⟩
  clear hW HP1
  cases p1 with
  | false =>
    have HE : Hid (2 = r) := (by show _ = _; rw [← HR.out, chk_rng (by rw [HG.out]; rfl)])
    clear HR HG
    go_wp2
    go_ret
    exact ⟨by rw [← HE.out]; rfl, hBl⟩
  | true =>
  go_wp2_with fail
  refine (hnumbered_f B BN w1 p2 HP2).mono ?_
  rintro e W ⟨rfl, rfl⟩
  clear HP2
  cases p2 with
  | false =>
    have HE : Hid (2 = r) := (by show _ = _; rw [← HR.out, chk_rng (by rw [HG.out]; rfl)])
    clear HR HG
    go_wp2
    go_ret
    exact ⟨by rw [← HE.out]; rfl, hBl⟩
  | true =>
    obtain ⟨RO, hRO⟩ : ∃ r, oldL ⟨A, AN, B, BN, ls⟩ = r := ⟨_, rfl⟩
    obtain ⟨RN, hRN⟩ : ∃ r, newL ⟨A, AN, B, BN, ls⟩ = r := ⟨_, rfl⟩
    have HO : Hid (oldL ⟨A, AN, B, BN, ls⟩ = RO) := hRO
    have HN : Hid (newL ⟨A, AN, B, BN, ls⟩ = RN) := hRN
    have HF : Hid (fldB ls = (allB ls && checkB RO && checkB RN)) := (by show _ = _; rw [← hRO, ← hRN]; exact fld_code ls)
    have hROl : RO.length ≤ 1099511627776 := by rw [← hRO]; have := pkL_length 43 ls; simp only [oldL]; omega
    have hRNl : RN.length ≤ 1099511627776 := by rw [← hRN]; have := pkL_length 45 ls; simp only [newL]; omega
    have HROm : Hid (∀ a ∈ RO, a.length ≤ 1099511627776) := (by
      intro a ha
      rw [← hRO] at ha
      obtain ⟨m, hm, rfl⟩ := pk_mem ha
      exact HTX.out m hm)
    have HRNm : Hid (∀ a ∈ RN, a.length ≤ 1099511627776) := (by
      intro a ha
      rw [← hRN] at ha
      obtain ⟨m, hm, rfl⟩ := pk_mem ha
      exact HTX.out m hm)
    clear hRO hRN HTX
    have hxx : ∀ u : World, Low W u → Hx u w.heap.size ⟨A, AN, B, BN, ls⟩ (.slice lo ls.length lc) := fun u hu => hx.low hu
    go_upto_region 3 with fail
    go_cut [3, 4] from 5 to 51 (fun a b wz => ∃ oo oc no nc, a = .slice oo RO.length oc ∧ b = .slice no RN.length nc ∧ HS wz a RO ∧ HS wz b RN ∧ Below W.heap.size W wz)
    case first =>
      have hlow : Low W (W.drewN 1) := Below.dN (Below.refl _ W) 1
      refine wp_region_noPanic ?_
      refine wp_region_held_drew (S := fun u => Low W u) (by kernel_rfl) hlow (fun hHeld => ?_)
      refine go_take 0 19 _ (hkV ⟨A, AN, B, BN, ls⟩ (.slice lo ls.length lc)) rfl (by kernel_rfl) (by kernel_rfl) (by kernel_rfl) (by kernel_rfl) (fun _ _ _ h => h) (Or.inl ⟨by kernel_rfl, fun u hu => load_hk (hxx u hu) (.tmp 1) (by kernel_rfl) (by kernel_rfl)⟩) hHeld ?_
      simp only [Act.put, List.setIfInBounds_toArray, List.set_cons_zero, List.set_cons_succ]
      refine go_take 2 21 _ (hkV ⟨A, AN, B, BN, ls⟩ (.slice lo ls.length lc)) rfl (by kernel_rfl) (by kernel_rfl) (by kernel_rfl) (by kernel_rfl) (fun _ _ _ h => h) (Or.inl ⟨by kernel_rfl, fun u hu => load_hk (hxx u hu) (.tmp 1) (by kernel_rfl) (by kernel_rfl)⟩) hHeld ?_
      simp only [Act.put, List.setIfInBounds_toArray, List.set_cons_zero, List.set_cons_succ]
      refine go_callE 1 20 _ rfl (by kernel_rfl) (by kernel_rfl) (by kernel_rfl) 32 (.func 32) #[.tmp 19] #[43] (by kernel_rfl) #[] (by kernel_rfl) #[hkV ⟨A, AN, B, BN, ls⟩ (.slice lo ls.length lc)] (by kernel_rfl) (enters_of Tryd.func32 (by kernel_rfl) rfl) _ (hold_held hv1 hl HO hHeld) ?_
      rintro vo w1 hHeld1 ⟨hvo, hBo⟩
      obtain ⟨oo, oc, rfl⟩ := Holds.form hvo
      simp only [Act.put, List.setIfInBounds_toArray, List.set_cons_zero, List.set_cons_succ]
      refine go_callE 3 22 _ rfl (by kernel_rfl) (by kernel_rfl) (by kernel_rfl) 34 (.func 34) #[.tmp 21] #[43] (by kernel_rfl) #[] (by kernel_rfl) #[hkV ⟨A, AN, B, BN, ls⟩ (.slice lo ls.length lc)] (by kernel_rfl) (enters_of Tryd.func34 (by kernel_rfl) rfl) _ (hnew_held hv1 hl HN hHeld1) ?_
      rintro vn w2 hHeld ⟨hvn, hBn⟩
      obtain ⟨no, nc, rfl⟩ := Holds.form hvn
      simp only [Act.put, List.setIfInBounds_toArray, List.set_cons_zero, List.set_cons_succ]
      refine go_take 4 3 _ (.slice oo RO.length oc) rfl (by kernel_rfl) (by kernel_rfl) (by kernel_rfl) (by kernel_rfl) (fun _ _ _ h => h) (Or.inl ⟨by kernel_rfl, fun u hu => by kernel_rfl⟩) hHeld ?_
      simp only [Act.put, List.setIfInBounds_toArray, List.set_cons_zero, List.set_cons_succ]
      refine go_take 5 4 _ (.slice no RN.length nc) rfl (by kernel_rfl) (by kernel_rfl) (by kernel_rfl) (by kernel_rfl) (fun _ _ _ h => h) (Or.inl ⟨by kernel_rfl, fun u hu => by kernel_rfl⟩) hHeld ?_
      simp only [Act.put, List.setIfInBounds_toArray, List.set_cons_zero, List.set_cons_succ]
      refine wpAnyH_done (by kernel_rfl) ?_ _
      refine NoPanic.normal ?_
      go_wp2_with fail
      go_meet
      case rel => exact ⟨_, _, _, _, rfl, rfl, HS.keep hvo hBn (Nat.le_refl _), hvn, hHeld⟩
    case rest =>
      obtain ⟨oo, oc, no, nc, rfl, rfl, hvo, hvn, hBz⟩ := hcut
      have hB2 := hBl.trans (hBz.mono hBl.size)
      obtain ⟨y0, y1, y2, y3, y4⟩ := (hxx _ hBz).cells
      dsimp only at y0 y1 y2 y3 y4
      have hv2 := HMk.keep hv1 hBz (Nat.le_refl _)
      generalize wc = w2 at *
      clear x0 x1 x2 x3 x4
      obtain ⟨s, hs⟩ : ∃ s, allB ls = s := ⟨_, rfl⟩
      have HS1 : Hid (ls.any (fun m => !okS m.sg) = !s) := (by show _ = _; rw [any_strange, hs])
      have HF2 : Hid (fldB ls = (s && checkB RO && checkB RN)) := (by have h := HF.out; rw [hs] at h; exact h)
      clear HF hs
      go_wp2_with fail
      refine (hContains_f 47 ls (fun m => !okS m.sg) _ w2 hv2 hl (enters_of Tryd.func47 (by kernel_rfl) rfl) (fun m _ u => hstrange_f m u) (!s) HS1).mono ?_
      rintro e w3 ⟨rfl, hB3⟩
      have hx3 := (hxx _ hBz).low hB3
      have hvo3 := HS.keep hvo hB3 (Nat.le_refl _)
      have hvn3 := HS.keep hvn hB3 (Nat.le_refl _)
      have hv3 := HMk.keep hv2 hB3 (Nat.le_refl _)
      have hB4 := hB2.trans (hB3.mono hB2.size)
      obtain ⟨z0, z1, z2, z3, z4⟩ := hx3.cells
      dsimp only at z0 z1 z2 z3 z4
      clear y0 y1 y2 y3 y4 HS1
      cases s with
      | false =>
        have HE : Hid (6 = r) := (by show _ = _; rw [← HR.out, chk_fld HG.out (by rw [HF2.out]; rfl)])
        clear HR HG HF2
        go_wp2
        go_ret
        exact ⟨by rw [← HE.out]; rfl, hB4⟩
      | true =>
      obtain ⟨q1, hq1⟩ : ∃ q, checkB RO = q := ⟨_, rfl⟩
      obtain ⟨q2, hq2⟩ : ∃ q, checkB RN = q := ⟨_, rfl⟩
      have HQ1 : Hid (checkB RO = q1) := hq1
      have HQ2 : Hid (checkB RN = q2) := hq2
      have HF3 : Hid (fldB ls = (q1 && q2)) := (by have h := HF2.out; rw [hq1, hq2, Bool.true_and] at h; exact h)
      clear HF2 hq1 hq2
      cases q1 with
      | false =>
        have HE : Hid (6 = r) := (by show _ = _; rw [← HR.out, chk_fld HG.out (by rw [HF3.out]; rfl)])
        clear HR HG HF3
        go_wp2_with fail
        refine (hlCheck_f _ RO w3 hROl HROm.out hvo3 false HQ1 6 rfl).mono ?_
        rintro e w4 ⟨rfl, rfl⟩
        go_wp2
        go_ret
        exact ⟨by rw [← HE.out]; rfl, hB4⟩
      | true =>
      go_wp2_with fail
      refine (hlCheck_f _ RO w3 hROl HROm.out hvo3 true HQ1 0 rfl).mono ?_
      rintro e w4 ⟨rfl, rfl⟩
      cases q2 with
      | false =>
        have HE : Hid (6 = r) := (by show _ = _; rw [← HR.out, chk_fld HG.out (by rw [HF3.out]; rfl)])
        clear HR HG HF3
        go_wp2_with fail
        refine (hlCheck_f _ RN w3 hRNl HRNm.out hvn3 false HQ2 6 rfl).mono ?_
        rintro e w4 ⟨rfl, rfl⟩
        go_wp2
        go_ret
        exact ⟨by rw [← HE.out]; rfl, hB4⟩
      | true =>
      go_wp2_with fail
      refine (hlCheck_f _ RN w3 hRNl HRNm.out hvn3 true HQ2 0 rfl).mono ?_
      rintro e w4 ⟨rfl, rfl⟩
      have HFT : Hid (fldB ls = true) := (by have h := HF3.out; exact h)
      clear HF3 HQ1 HQ2
      by_cases ha : (RO.length : Int) = AN
      · have ea : ((RO.length : Int) != AN) = false := by simpa using ha
        by_cases hb : (RN.length : Int) = BN
        · have eb : ((RN.length : Int) != BN) = false := by simpa using hb
          obtain ⟨q, hq⟩ : ∃ q, ls.any chgB = q := ⟨_, rfl⟩
          have HQ : Hid (ls.any chgB = q) := hq
          have HE : Hid ((if q = true then 0 else 50) = r) := (by
            show _ = _
            rw [← HR.out, chk_end (h := ⟨A, AN, B, BN, ls⟩) HG.out HFT.out (by rw [HO.out, ha]) (by rw [HN.out, hb]) hq])
          clear HR HG HFT hq ha hb
          go_wp2_with fail
          refine (hContains_f 49 ls chgB _ w3 hv3 hl (enters_of Tryd.func49 (by kernel_rfl) rfl) (fun m _ u => hchanged_f m u) q HQ).mono ?_
          rintro e w5 ⟨rfl, hB5⟩
          have hB6 := hB4.trans (hB5.mono hB4.size)
          cases q with
          | false =>
            go_wp2
            go_ret
            exact ⟨by rw [← HE.out]; rfl, hB6⟩
          | true =>
            go_wp2
            go_ret
            exact ⟨by rw [← HE.out]; rfl, hB6⟩
        · have eb : ((RN.length : Int) != BN) = true := by simpa using hb
          have HE : Hid (120 = r) := (by
            show _ = _
            rw [← HR.out, chk_cnt (h := ⟨A, AN, B, BN, ls⟩) HG.out HFT.out (.inr (by rw [HN.out]; exact fun k => hb k.symm))])
          clear HR HG HFT ha hb
          go_wp2
          go_ret
          exact ⟨by rw [← HE.out]; rfl, hB4⟩
      · have ea : ((RO.length : Int) != AN) = true := by simpa using ha
        have HE : Hid (120 = r) := (by
          show _ = _
          rw [← HR.out, chk_cnt (h := ⟨A, AN, B, BN, ls⟩) HG.out HFT.out (.inl (by rw [HO.out]; exact fun k => ha k.symm))])
        clear HR HG HFT ha
        go_wp2
        go_ret
        exact ⟨by rw [← HE.out]; rfl, hB4⟩
end Go.Proofs.YtgiojkhmkeocfaaDoor

/- The code's text of a hunk, check and Print of layer 15, walked. -/
namespace Go.Proofs.YtgiojkhmkeocfaaDoor
open Go.RowKit Go.Proofs.YtgiojkhmkeocfaaDoor

theorem Hx.wr {B b : Nat} {v v' : Value} {w w' : World} {M : Nat} {h : Hk} {y : Value} (q : Hx w M h y) (hw : Wr B b v v' w w') (ho : Off M b v) : Hx w' M h y ∧ Off M b v' := hw.block q ho
theorem shown_keep {B b base : Nat} {v : Value} {w : World} {sv : Value} {n : Nat} {xs : List Value} (h : w.ownsRow base 5 1 sv n xs) (hb : b < base) (hv : ∀ g, v.ownBlock = some g → g < base) : ∀ (v' : Value) (u : World), Wr B b v v' w u → Holds u sv n xs := by
  intro v' u hw
  rcases h.2 with ⟨rfl, h0⟩ | ⟨g, cap, cur, rfl, hg, hgb, hnc, _⟩
  · exact .inl ⟨rfl, h0, List.eq_nil_of_length_eq_zero (by rw [h.1, h0, Nat.zero_mul])⟩
  · refine .inr ⟨⟨g, 0, none⟩, cap, rfl, hnc, fun j x hj => ?_⟩
    have h1 := h.cells (g := g) rfl j x hj
    obtain ⟨h2, _⟩ := hw.block hgb ⟨by omega, fun e => by have := hv g e; omega⟩
    rw [add_none] at h1 ⊢
    rw [World.cell?_of_block (w := w) (by show u.heap[g]? = w.heap[g]?; rw [h2, hgb])]
    exact h1
theorem shw_signs (l : List Mk) (h : ∀ m ∈ l, okS m.sg = true) : ∀ r a, ∀ x ∈ shwL r a l, 0 ≤ x ∧ x < 256 := by
  induction l with
  | nil => intro r a x hx; cases hx
  | cons m l ih =>
    intro r a x hx
    have hi := ih fun y hy => h y (by simp [hy])
    have hm := h m (by simp)
    have hc : m.sg = 32 ∨ m.sg = 45 ∨ m.sg = 43 := by simp [okS] at hm; omega
    simp only [shwL] at hx
    split at hx
    · rcases List.mem_cons.1 hx with rfl | hx
      · omega
      · exact hi _ _ x hx
    · rcases List.mem_cons.1 hx with rfl | hx
      · split <;> omega
      · exact hi _ _ x hx
theorem side_code0 (sg : Int) (l : List Mk) : (if hasM sg l = true then sidZ sg l (shwL false false l) else []) = sideL sg l := by
  unfold sideL
  rw [sid_shw]
  rfl
theorem chk_signs {h : Hk} (hc : chkH h = 0) : ∀ m ∈ h.ls, okS m.sg = true := by
  obtain ⟨_, hf, _⟩ := chk_out hc
  exact fun m hm => (((fld_iff _).1 hf).1 m hm).2
set_option maxHeartbeats 8000000 in
set_option maxRecDepth 100000 in
theorem chunk_f (B b : Nat) (v : Value) (h : Hk) (y : Value) (acc Z : List UInt8) (w : World) (hP : Pg B b v acc w) (hBw : B ≤ w.heap.size) (hll : h.ls.length ≤ 1099511627776) (HTx : Hid (∀ m ∈ h.ls, m.tx.length ≤ 1099511627776)) (HC : Hid (chkH h = 0))
    (HL : Hid (∀ u, Below B w u → HMk u y h.ls)) (HT : Hid (∀ u, Below B w u → Tab10 u)) (HZ : Hid (acc ++ (hkL h).flatten = Z)) (hZ : Z.length ≤ 70368744177664) :
    Calls Tryd.prog 54 #[.pointer (some ⟨b, 0, none⟩), hkV h y] w fun e w' => e = .returned (.tuple #[]) ∧ ∃ v', Pg B b v' Z w' ∧ Wr B b v v' w w' := by
  obtain ⟨lo, lc, rfl⟩ := HMk.form (HL.out w (Below.refl _ _))
  have HSg : Hid (∀ x ∈ shwL false false h.ls, 0 ≤ x ∧ x < 256) := shw_signs _ (chk_signs HC.out) _ _
  have hr := (chk_out HC.out).1
  obtain ⟨r1, r2, r3, r4, r5, r6, rx⟩ := rng_out hr
  clear rx
  obtain ⟨r7, r8⟩ := chk_hi hr
  have hSl := shw_len h.ls false false
  have HS45 := side_code0 45 h.ls
  have HS43 := side_code0 43 h.ls
  obtain ⟨A, AN, Bn, BN, ls⟩ := h
  dsimp only at hll r1 r2 r3 r4 r5 r6 r7 r8 hSl HS45 HS43
  obtain ⟨R, hR⟩ : ∃ R, shwL false false ls = R := ⟨_, rfl⟩
  obtain ⟨T1, hT1⟩ : ∃ T, spanT A AN = T := ⟨_, rfl⟩
  obtain ⟨T2, hT2⟩ : ∃ T, spanT Bn BN = T := ⟨_, rfl⟩
  have t1 := span_len (p := A) (n := AN) r1 r2 r7
  have t2 := span_len (p := Bn) (n := BN) r4 r5 r8
  rw [hT1] at t1
  rw [hT2] at t2
  obtain ⟨X1, hX1⟩ : ∃ X, (if hasM 45 ls = true then sidZ 45 ls R else []).flatten = X := ⟨_, rfl⟩
  obtain ⟨X2, hX2⟩ : ∃ X, (if hasM 43 ls = true then sidZ 43 ls R else []).flatten = X := ⟨_, rfl⟩
  obtain ⟨Z1, hZ1⟩ : ∃ Y, acc ++ starsT ++ [10] = Y := ⟨_, rfl⟩
  obtain ⟨U1, hU1⟩ : ∃ Y, [42, 42, 42, 32] ++ T1 = Y := ⟨_, rfl⟩
  obtain ⟨U2, hU2⟩ : ∃ Y, [45, 45, 45, 32] ++ T2 = Y := ⟨_, rfl⟩
  obtain ⟨V1, hV1⟩ : ∃ Y, U1 ++ [32, 42, 42, 42, 42] = Y := ⟨_, rfl⟩
  obtain ⟨V2, hV2⟩ : ∃ Y, U2 ++ [32, 45, 45, 45, 45] = Y := ⟨_, rfl⟩
  obtain ⟨Z2, hZ2⟩ : ∃ Y, Z1 ++ V1 ++ [10] = Y := ⟨_, rfl⟩
  obtain ⟨Z3, hZ3⟩ : ∃ Y, Z2 ++ X1 = Y := ⟨_, rfl⟩
  obtain ⟨Z4, hZ4⟩ : ∃ Y, Z3 ++ V2 ++ [10] = Y := ⟨_, rfl⟩
  have HE : Hid (Z4 ++ X2 = Z) := (by
    show _ = _
    rw [← HZ.out, ← hZ4, ← hZ3, ← hZ2, ← hZ1, ← hV1, ← hV2, ← hU1, ← hU2, ← hX1, ← hX2, ← hR, HS45, HS43, ← hT1, ← hT2]
    simp [hkL, rlT])
  have hE := congrArg List.length HE.out
  have l4 := congrArg List.length hZ4
  have l3 := congrArg List.length hZ3
  have l2 := congrArg List.length hZ2
  have l1 := congrArg List.length hZ1
  simp only [List.length_append] at hE l4 l3 l2 l1
  have b4 : Z4.length ≤ 70368744177664 := by omega
  have b3 : Z3.length ≤ 70368744177664 := by omega
  have b2 : Z2.length ≤ 70368744177664 := by omega
  have b1 : Z1.length ≤ 70368744177664 := by omega
  have u1 := congrArg List.length hU1
  have u2 := congrArg List.length hU2
  simp only [List.length_append, List.length_cons, List.length_nil] at u1 u2
  have q1 := add_fits (x := [42, 42, 42, 32]) (y := T1) (by unfold Fits; simp only [List.length_cons, List.length_nil]; omega) Tryd.prog
  have q2 := add_fits (x := U1) (y := [32, 42, 42, 42, 42]) (by unfold Fits; simp only [List.length_cons, List.length_nil]; omega) Tryd.prog
  have q3 := add_fits (x := [45, 45, 45, 32]) (y := T2) (by unfold Fits; simp only [List.length_cons, List.length_nil]; omega) Tryd.prog
  have q4 := add_fits (x := U2) (y := [32, 45, 45, 45, 45]) (by unfold Fits; simp only [List.length_cons, List.length_nil]; omega) Tryd.prog
  rw [hU1] at q1
  rw [hU2] at q3
  rw [hV1] at q2
  rw [hV2] at q4
  have HRl : Hid (ls.length = R.length) := (by show _ = _; rw [← hR, hSl])
  rw [hR] at HSg
  have HR : Hid (shwL false false ls = R) := hR
  have HT1 : Hid (spanT A AN = T1) := hT1
  have HT2 : Hid (spanT Bn BN = T2) := hT2
  have HX1 : Hid (Z2 ++ (if hasM 45 ls = true then sidZ 45 ls R else []).flatten = Z3) := (by show _ = _; rw [hX1]; exact hZ3)
  have HX2 : Hid (Z4 ++ (if hasM 43 ls = true then sidZ 43 ls R else []).flatten = Z) := (by show _ = _; rw [hX2]; exact HE.out)
  have HZ1 : Hid (acc ++ starsT ++ [10] = Z1) := hZ1
  have HZ2 : Hid (Z1 ++ V1 ++ [10] = Z2) := hZ2
  have HZ4 : Hid (Z3 ++ V2 ++ [10] = Z4) := hZ4
  have hBm : Below w.heap.size w (w.alloc (.cells #[.int .i64 A, .int .i64 AN, .int .i64 Bn, .int .i64 BN, .slice lo ls.length lc] 43)) := (Below.refl _ w).alloc (Nat.le_refl _) _
  have hMx : Hx (w.alloc (.cells #[.int .i64 A, .int .i64 AN, .int .i64 Bn, .int .i64 BN, .slice lo ls.length lc] 43)) w.heap.size ⟨A, AN, Bn, BN, ls⟩ (.slice lo ls.length lc) := heap_alloc_new w _
  have hOff : Off w.heap.size b v := ⟨by have := Bld.lt hP; omega, fun e => by have := (hP.2.2.1.lt _ e).2; omega⟩
  have hvl : Hid (∀ g, v.ownBlock = some g → g < w.heap.size) := fun g e => (hP.2.2.1.lt _ e).2
  have hbl := Bld.lt hP
  have hsm : Hid (w.heap.size < (w.alloc (.cells #[.int .i64 A, .int .i64 AN, .int .i64 Bn, .int .i64 BN, .slice lo ls.length lc] 43)).heap.size) := (by show _ < _; simp)
  have hPm := hP.low hBm
  have hWm : Wr B b v v w (w.alloc (.cells #[.int .i64 A, .int .i64 AN, .int .i64 Bn, .int .i64 BN, .slice lo ls.length lc] 43)) := Wr.low hBm hBw
  clear hE l1 l2 l3 l4 hX1 hX2 hZ1 hZ2 hZ3 hZ4 hT1 hT2 hR hV1 hV2 hU1 hU2 u1 u2 HS45 HS43 HZ HE hSl hr hP
  have e : hkV ⟨A, AN, Bn, BN, ls⟩ (.slice lo ls.length lc) = .agg #[.int .i64 A, .int .i64 AN, .int .i64 Bn, .int .i64 BN, .slice lo ls.length lc] := rfl
  rw [e]
  clear e
  go_enter Tryd.func54, Tryd.ntmps54
  go_wp2_with fail
  refine (cshown_f ls (.slice lo ls.length lc) _ (HL.out _ hWm.below) hll R HR).mono ?_
  generalize w.alloc (.cells #[.int .i64 A, .int .i64 AN, .int .i64 Bn, .int .i64 BN, .slice lo ls.length lc] 43) = Wm at hPm hWm hMx hsm hBm ⊢
  rintro e w1 ⟨sv, rfl, hown, hB1⟩
  have hW1 := hWm.trans (Wr.low hB1 (by have := hWm.size; omega))
  have hP1 := hPm.low hB1
  have hM1 := hMx.low hB1
  have hSK : ∀ (v' : Value) (u : World), Wr B b v v' w1 u → Holds u sv R.length (ucells R) := shown_keep hown (by have := hsm.out; omega) (fun g e => by have := hvl.out g e; have := hsm.out; omega)
  obtain ⟨so, sc, rfl⟩ := (holds_of hown).form
  clear hBm hPm hWm hMx hB1 hown hvl hbl hsm
  generalize w.heap.size = M at hM1 hOff
  obtain ⟨c0, c1, c2, c3, c4⟩ := hM1.cells
  have hz1 := hW1.size
  go_wp2_with fail
  refine (crow_f B b v acc starsT Z1 w1 hP1 (by omega) HZ1 b1).mono ?_
  rintro e w2 ⟨rfl, v2, hP2, hW2⟩
  obtain ⟨hM2, hO2⟩ := hM1.wr hW2 hOff
  have hW12 := hW1.trans hW2
  have hz2 := hW12.size
  clear c0 c1 c2 c3 c4
  obtain ⟨c0, c1, c2, c3, c4⟩ := hM2.cells
  go_wp2_with fail
  refine (crange_f A AN r1 (by omega) r3 (by omega) w2 (HT.out w2 hW12.below) T1 HT1).mono ?_
  rintro e w3 ⟨rfl, hB3⟩
  have hM3 := hM2.low hB3
  have hP3 := hP2.low hB3
  have hW13 := hW12.trans (Wr.low hB3 (by omega))
  have hW23 : Wr B b v2 v2 w2 w3 := Wr.low hB3 (by omega)
  have hz3 := hW13.size
  clear c0 c1 c2 c3 c4
  go_wp2_with fail
  refine (crow_f B b v2 Z1 V1 Z2 w3 hP3 (by omega) HZ2 b2).mono ?_
  rintro e w4 ⟨rfl, v4, hP4, hW4⟩
  obtain ⟨hM4, hO4⟩ := hM3.wr hW4 hO2
  have hW14 := hW13.trans hW4
  have hWs4 := (hW2.trans hW23).trans hW4
  have hz4 := hW14.size
  obtain ⟨c0, c1, c2, c3, c4⟩ := hM4.cells
  go_wp2_with fail
  refine (cside_f B b v4 45 ls R (.slice lo ls.length lc) (.slice so R.length sc) Z2 Z3 w4 hP4 (by omega) hll HRl HSg HTx (HL.out _ hW14.below) (fun v' u hu => HL.out u (hW14.trans hu).below) (fun v' u hu => hSK v' u (hWs4.trans hu)) HX1 b3).mono ?_
  rintro e w5 ⟨rfl, v5, hP5, hW5⟩
  obtain ⟨hM5, hO5⟩ := hM4.wr hW5 hO4
  have hW15 := hW14.trans hW5
  have hWs5 := hWs4.trans hW5
  have hz5 := hW15.size
  clear c0 c1 c2 c3 c4
  obtain ⟨c0, c1, c2, c3, c4⟩ := hM5.cells
  go_wp2_with fail
  refine (crange_f Bn BN r4 (by omega) r6 (by omega) w5 (HT.out w5 hW15.below) T2 HT2).mono ?_
  rintro e w6 ⟨rfl, hB6⟩
  have hM6 := hM5.low hB6
  have hP6 := hP5.low hB6
  have hW56 : Wr B b v5 v5 w5 w6 := Wr.low hB6 (by omega)
  have hW16 := hW15.trans hW56
  have hz6 := hW16.size
  clear c0 c1 c2 c3 c4
  go_wp2_with fail
  refine (crow_f B b v5 Z3 V2 Z4 w6 hP6 (by omega) HZ4 b4).mono ?_
  rintro e w7 ⟨rfl, v7, hP7, hW7⟩
  obtain ⟨hM7, hO7⟩ := hM6.wr hW7 hO5
  have hW17 := hW16.trans hW7
  have hWs7 := (hWs5.trans hW56).trans hW7
  have hz7 := hW17.size
  obtain ⟨c0, c1, c2, c3, c4⟩ := hM7.cells
  go_wp2_with fail
  refine (cside_f B b v7 43 ls R (.slice lo ls.length lc) (.slice so R.length sc) Z4 Z w7 hP7 (by omega) hll HRl HSg HTx (HL.out _ hW17.below) (fun v' u hu => HL.out u (hW17.trans hu).below) (fun v' u hu => hSK v' u (hWs7.trans hu)) HX2 hZ).mono ?_
  rintro e w8 ⟨rfl, v8, hP8, hW8⟩
  go_wp2
  first
    | go_end0
    | refine bodyPost_ret (results_none rfl _ _ _) rfl ?_
    | refine bodyPost_end (results_none rfl _ _ _) rfl ?_
  exact ⟨rfl, v8, hP8, hW17.trans hW8⟩
end Go.Proofs.YtgiojkhmkeocfaaDoor

/- The code's check and Print of layer 15, walked. -/
namespace Go.Proofs.YtgiojkhmkeocfaaDoor
open Go.RowKit Go.Proofs.YtgiojkhmkeocfaaDoor

/-- a patch as a value, as a variable -/
def ptV (p : Pth) (v : Value) : Value := .agg #[.string ⟨p.old.toArray⟩, .string ⟨p.new.toArray⟩, v]
def ptO (p : Pth) (v : Value) : Obj := .cells #[.string ⟨p.old.toArray⟩, .string ⟨p.new.toArray⟩, v] 46
def Px (u : World) (b : Nat) (p : Pth) (v : Value) : Prop := u.heap[b]? = some (ptO p v)
theorem Px.cells {u : World} {b : Nat} {p : Pth} {v : Value} (q : Px u b p v) : u.cell? ⟨b, 0, none⟩ = some (.string ⟨p.old.toArray⟩) ∧ u.cell? ⟨b, 1, none⟩ = some (.string ⟨p.new.toArray⟩) ∧ u.cell? ⟨b, 2, none⟩ = some v := by
  unfold Px ptO at q
  refine ⟨?_, ?_, ?_⟩ <;> rw [Lib.cell_of_heap q] <;> rfl
theorem Px.lt {u : World} {b : Nat} {p : Pth} {v : Value} (q : Px u b p v) : b < u.heap.size := (Array.getElem?_eq_some_iff.1 q).1
theorem Px.low {u u' : World} {b : Nat} {p : Pth} {v : Value} (q : Px u b p v) (hg : Below u.heap.size u u') : Px u' b p v := (hg.block b q.lt).trans q
theorem Px.wr {B b : Nat} {v v' : Value} {w w' : World} {M : Nat} {p : Pth} {y : Value} (q : Px w M p y) (hw : Wr B b v v' w w') (ho : Off M b v) : Px w' M p y ∧ Off M b v' := hw.block q ho
set_option maxHeartbeats 8000000 in
set_option maxRecDepth 10000 in
theorem ccheckP_f (p : Pth) (q : List (Hk × Value)) (HQ : Hid (q.map (·.1) = p.hs)) (v : Value) (w : World) (hv : HHp w v q) (hok : HOk q) (ho : p.old.length ≤ 1099511627776) (hn : p.new.length ≤ 1099511627776) (r : Int) (HR : Hid (wrgP p = r)) :
    Calls Tryd.prog 51 #[ptV p v] w fun e w' => e = .returned (.int .i64 r) ∧ Below w.heap.size w w' := by
  obtain ⟨lo, lc, rfl⟩ := Holds.form hv.row
  obtain ⟨old, new, hs⟩ := p
  dsimp only at HQ ho hn
  have hql : hs.length = q.length := (by rw [← HQ.out, List.length_map])
  have HRR := HR.out
  unfold wrgP at HRR
  dsimp only at HRR
  have hBm : Below w.heap.size w (w.alloc (.cells #[.string ⟨old.toArray⟩, .string ⟨new.toArray⟩, .slice lo q.length lc] 46)) := (Below.refl _ w).alloc (Nat.le_refl _) _
  have e : ptV ⟨old, new, hs⟩ (.slice lo q.length lc) = .agg #[.string ⟨old.toArray⟩, .string ⟨new.toArray⟩, .slice lo q.length lc] := rfl
  rw [e]
  clear e HR
  by_cases h1 : 64 < old.length ∨ 64 < new.length
  · rw [if_pos h1] at HRR
    have HE : Hid (253 = r) := HRR
    clear HRR hql
    by_cases h2 : 64 < old.length
    · have i1 : (64 : Int) < (old.length : Int) := by omega
      go_enter Tryd.func51, Tryd.ntmps51
      go_wp2
      go_ret
      exact ⟨by rw [← HE.out]; rfl, hBm⟩
    · have i1 : ¬ (64 : Int) < (old.length : Int) := by omega
      have i2 : (64 : Int) < (new.length : Int) := by omega
      go_enter Tryd.func51, Tryd.ntmps51
      go_wp2
      go_ret
      exact ⟨by rw [← HE.out]; rfl, hBm⟩
  · rw [if_neg h1] at HRR
    have i1 : ¬ (64 : Int) < (old.length : Int) := by omega
    have i2 : ¬ (64 : Int) < (new.length : Int) := by omega
    by_cases h2 : 4096 < hs.length
    · rw [if_pos h2] at HRR
      have HE : Hid (9 = r) := HRR
      have i3 : (4096 : Int) < (q.length : Int) := by omega
      clear HRR hql
      go_enter Tryd.func51, Tryd.ntmps51
      go_wp2
      go_ret
      exact ⟨by rw [← HE.out]; rfl, hBm⟩
    · rw [if_neg h2] at HRR
      have HE : Hid (errs ((q.map (·.1)).drop 0) = r) := (by show _ = _; rw [HQ.out, List.drop_zero]; exact HRR)
      have i3 : ¬ (4096 : Int) < (q.length : Int) := by omega
      have hq4 : q.length ≤ 4096 := by omega
      clear HRR hql h1 h2
      go_enter Tryd.func51, Tryd.ntmps51
      go_wp2
      go_loopw [23] (fun i wr => ∃ k : Nat, k ≤ q.length ∧ i = .int .i64 k ∧ Below w.heap.size w wr ∧ Hid (errs ((q.map (·.1)).drop k) = r)) (fun i _ => q.length - (intOf i).toNat)
      case atStart => exact ⟨0, Nat.zero_le _, by go_num, hBm, HE⟩
      case round =>
      clear HE hBm
      obtain ⟨k, hk, rfl, hB, HI⟩ := hrel
      by_cases hlt : k < q.length
      · obtain ⟨bk, off, rfl, hbk, _⟩ := hv.at (by omega)
        obtain ⟨h, y, hx⟩ : ∃ h y, q[k] = (h, y) := ⟨_, _, rfl⟩
        obtain ⟨⟨c0, c1, c2, c3, c4⟩, hm⟩ := HHp.take hv hB k hlt hx
        obtain ⟨o1, o2⟩ := hok.2 q[k] (List.getElem_mem hlt)
        rw [hx] at o1 o2
        dsimp only at o1 o2
        have HI2 := HI.out
        rw [errs_drop (by rw [List.length_map]; exact hlt), List.getElem_map, hx] at HI2
        dsimp only at HI2
        have i4 : (0 : Int) ≤ (k : Int) := by omega
        have i5 : (k : Int) < (q.length : Int) := by omega
        obtain ⟨z, hz⟩ : ∃ z, chkH h = z := ⟨_, rfl⟩
        rw [hz] at HI2
        have hBm := hB.alloc hB.size (.cells #[.int .i64 h.A, .int .i64 h.AN, .int .i64 h.B, .int .i64 h.BN, y] 43)
        have hmm := hm.keep ((Below.refl _ wr).alloc (Nat.le_refl _) (.cells #[.int .i64 h.A, .int .i64 h.AN, .int .i64 h.B, .int .i64 h.BN, y] 43)) (Nat.le_refl _)
        have hc := hCheck_f h y _ hmm o1 o2 z hz
        obtain ⟨yo, yc, rfl⟩ := HMk.form hm
        have e : hkV h (.slice yo h.ls.length yc) = .agg #[.int .i64 h.A, .int .i64 h.AN, .int .i64 h.B, .int .i64 h.BN, .slice yo h.ls.length yc] := rfl
        rw [e] at hc
        clear e hz HI hx hm hmm
        by_cases hz0 : z = 0
        · subst hz0
          rw [if_neg (by decide)] at HI2
          have HI3 : Hid (errs ((q.map (·.1)).drop (k + 1)) = r) := HI2
          clear HI2
          go_wp2_with fail
          refine hc.mono ?_
          rintro e w1 ⟨rfl, hB1⟩
          go_wp2
          exact ⟨⟨k + 1, by omega, by go_num, hBm.trans (hB1.mono hBm.size), HI3⟩, by simp [intOf]; omega⟩
        · rw [if_pos hz0] at HI2
          have HI3 : Hid (z = r) := HI2
          have e1 : (z != 0) = true := bne_iff_ne.2 hz0
          clear HI2 hz0
          go_wp2_with fail
          refine hc.mono ?_
          rintro e w1 ⟨rfl, hB1⟩
          go_wp2
          go_ret
          exact ⟨by rw [← HI3.out]; rfl, hBm.trans (hB1.mono hBm.size)⟩
      · have hend : decide ((k : Int) < (q.length : Int)) = false := decide_eq_false (by omega)
        have HE : Hid (0 = r) := (by
          have h := HI.out
          rw [List.drop_of_length_le (by rw [List.length_map]; omega)] at h
          exact h)
        clear HI
        go_wp2
        go_ret
        exact ⟨by rw [← HE.out]; rfl, hB⟩
set_option maxHeartbeats 8000000 in
set_option maxRecDepth 100000 in
theorem cPrint_f (p : Pth) (q : List (Hk × Value)) (HQ : Hid (q.map (·.1) = p.hs)) (v : Value) (w : World) (hv : HHp w v q) (hok : HOk q) (ho : p.old.length ≤ 1099511627776) (hn : p.new.length ≤ 1099511627776) (HT : Hid (Tab10 w)) (Z : List UInt8) (r : Int) (HR : Hid (wrgP p = r)) (HZ : Hid (ptT p = Z)) (hZ : Z.length ≤ 70368744177664) :
    Calls Tryd.prog 17 #[ptV p v] w fun e w' => e = .returned (.tuple #[.string ⟨Z.toArray⟩, .int .i64 r]) ∧ Below w.heap.size w w' := by
  obtain ⟨lo, lc, rfl⟩ := Holds.form hv.row
  have HO := fun h => (wrg_out (p := p) h)
  obtain ⟨old, new, hs⟩ := p
  dsimp only at HQ ho hn
  have hql : hs.length = q.length := (by rw [← HQ.out, List.length_map])
  have hZZ := HZ.out
  unfold ptT at hZZ
  rw [HR.out] at hZZ
  have hBm : Below w.heap.size w (w.alloc (.cells #[.string ⟨old.toArray⟩, .string ⟨new.toArray⟩, .slice lo q.length lc] 46)) := (Below.refl _ w).alloc (Nat.le_refl _) _
  have hMx : Px (w.alloc (.cells #[.string ⟨old.toArray⟩, .string ⟨new.toArray⟩, .slice lo q.length lc] 46)) w.heap.size ⟨old, new, hs⟩ (.slice lo q.length lc) := heap_alloc_new w _
  have hvm := hv.keep hBm (Nat.le_refl _)
  have hc := ccheckP_f ⟨old, new, hs⟩ q HQ (.slice lo q.length lc) _ hvm hok ho hn r HR
  have e : ptV ⟨old, new, hs⟩ (.slice lo q.length lc) = .agg #[.string ⟨old.toArray⟩, .string ⟨new.toArray⟩, .slice lo q.length lc] := rfl
  rw [e] at hc ⊢
  obtain ⟨d0, d1, d2⟩ := hMx.cells
  clear e hvm
  by_cases hr0 : r = 0
  · subst hr0
    rw [if_pos rfl] at hZZ
    obtain ⟨o1, o2, o3, o4⟩ := HO HR.out
    dsimp only at o1 o2 o3 o4
    have HCh : Hid (∀ x ∈ hs, chkH x = 0) := o4
    clear o4 HO
    by_cases hq0 : q.length = 0
    · have HE : Hid ([] = Z) := (by
        show _ = _
        rw [← hZZ]
        have : hs = [] := List.eq_nil_of_length_eq_zero (by omega)
        rw [this]
        rfl)
      have i1 : ((q.length : Int) == 0) = true := (by rw [hq0]; rfl)
      clear hZZ HZ hq0 hql
      go_enter Tryd.func17, Tryd.ntmps17
      go_wp2_with fail
      refine hc.mono ?_
      rintro e w1 ⟨rfl, hB1⟩
      have hM1 := hMx.low hB1
      clear d0 d1 d2
      obtain ⟨d0, d1, d2⟩ := hM1.cells
      go_wp2
      go_ret2
      exact ⟨by rw [← HE.out]; rfl, hBm.trans (hB1.mono hBm.size)⟩
    · have hne : hs ≠ [] := (by intro e; rw [e] at hql; simp at hql; omega)
      rw [pt_lines (p := ⟨old, new, hs⟩) hne] at hZZ
      dsimp only at hZZ
      obtain ⟨N1, hN1⟩ : ∃ Y, nameT old = Y := ⟨_, rfl⟩
      obtain ⟨N2, hN2⟩ : ∃ Y, nameT new = Y := ⟨_, rfl⟩
      obtain ⟨U1, hU1⟩ : ∃ Y, [42, 42, 42, 32] ++ N1 = Y := ⟨_, rfl⟩
      obtain ⟨U2, hU2⟩ : ∃ Y, [45, 45, 45, 32] ++ N2 = Y := ⟨_, rfl⟩
      obtain ⟨Z1, hZ1⟩ : ∃ Y, [] ++ U1 ++ [10] = Y := ⟨_, rfl⟩
      obtain ⟨Z2, hZ2⟩ : ∃ Y, Z1 ++ U2 ++ [10] = Y := ⟨_, rfl⟩
      have HE : Hid (Z2 ++ (((q.map (·.1)).drop 0).flatMap hkL).flatten = Z) := (by
        show _ = _
        rw [← hZZ, ← hZ2, ← hZ1, ← hU1, ← hU2, hN1, hN2, HQ.out, List.drop_zero]
        simp)
      have hE := congrArg List.length HE.out
      have l2 := congrArg List.length hZ2
      have l1 := congrArg List.length hZ1
      simp only [List.length_append] at hE l2 l1
      have b2 : Z2.length ≤ 70368744177664 := by omega
      have b1 : Z1.length ≤ 70368744177664 := by omega
      have n1 := name_len old
      have n2 := name_len new
      rw [hN1] at n1
      rw [hN2] at n2
      have q1 := add_fits (x := [42, 42, 42, 32]) (y := N1) (by unfold Fits; simp only [List.length_cons, List.length_nil]; omega) Tryd.prog
      have q2 := add_fits (x := [45, 45, 45, 32]) (y := N2) (by unfold Fits; simp only [List.length_cons, List.length_nil]; omega) Tryd.prog
      rw [hU1] at q1
      rw [hU2] at q2
      have HN1 : Hid (nameT old = N1) := hN1
      have HN2 : Hid (nameT new = N2) := hN2
      have HZ1 : Hid ([] ++ U1 ++ [10] = Z1) := hZ1
      have HZ2 : Hid (Z1 ++ U2 ++ [10] = Z2) := hZ2
      have HZne : Hid (Z ≠ []) := (by
        intro e
        have h := congrArg List.length e
        have h2 := congrArg List.length hU1
        simp only [List.length_append, List.length_cons, List.length_nil] at h h2
        omega)
      have i1 : ((q.length : Int) == 0) = false := beq_eq_false_iff_ne.2 (by omega)
      have hq4 : q.length ≤ 4096 := by omega
      clear hZZ HZ hq0 hql hE l1 l2 n1 n2 hN1 hN2 hU1 hU2 hZ1 hZ2 hne o3
      go_enter Tryd.func17, Tryd.ntmps17
      go_wp2_with fail
      refine hc.mono ?_
      rintro e w1 ⟨rfl, hB1⟩
      have hM1 := hMx.low hB1
      have hBw1 := hBm.trans (hB1.mono hBm.size)
      clear d0 d1 d2 hBm hMx hB1 hc
      have hM2 := hM1.low ((Below.refl _ w1).alloc (Nat.le_refl _) (.cells #[.pointer none, .slice none 0 0] 97))
      have hBw2 := hBw1.alloc hBw1.size (.cells #[.pointer none, .slice none 0 0] 97)
      have hP2 : Pg w.heap.size w1.heap.size (.slice none 0 0) [] (w1.alloc (.cells #[.pointer none, .slice none 0 0] 97)) := ⟨hBw1.size, ⟨_, .inl rfl, heap_alloc_new w1 _⟩, World.ownsRowF_nil _ _ _ _, by simp [Value.ownBlock]⟩
      have hO2 : Off w.heap.size w1.heap.size (.slice none 0 0) := ⟨by have := hM1.lt; omega, by simp [Value.ownBlock]⟩
      obtain ⟨f0, f1, f2⟩ := hM1.cells
      obtain ⟨d0, d1, d2⟩ := hM2.cells
      go_wp2_with fail
      refine (cname_f old _ ho N1 HN1).mono ?_
      generalize w1.alloc (.cells #[.pointer none, .slice none 0 0] 97) = W2 at hM2 hBw2 hP2 d0 d1 d2 ⊢
      generalize w1.heap.size = b at hP2 hO2 ⊢
      rintro e w3 ⟨rfl, hB3⟩
      have hM3 := hM2.low hB3
      have hP3 := hP2.low hB3
      have hBw3 := hBw2.trans (hB3.mono hBw2.size)
      clear d0 d1 d2 f0 f1 f2 hM2 hP2 hBw2 hB3 hM1 hBw1
      go_wp2_with fail
      refine (crow_f w.heap.size b (.slice none 0 0) [] U1 Z1 w3 hP3 hBw3.size HZ1 b1).mono ?_
      rintro e w4 ⟨rfl, v4, hP4, hW4⟩
      obtain ⟨hM4, hO4⟩ := hM3.wr hW4 hO2
      have hBw4 := hBw3.trans hW4.below
      obtain ⟨d0, d1, d2⟩ := hM4.cells
      clear hM3 hP3 hBw3 hO2 hW4
      go_wp2_with fail
      refine (cname_f new _ hn N2 HN2).mono ?_
      rintro e w5 ⟨rfl, hB5⟩
      have hM5 := hM4.low hB5
      have hP5 := hP4.low hB5
      have hBw5 := hBw4.trans (hB5.mono hBw4.size)
      clear d0 d1 d2 hM4 hP4 hBw4 hB5
      go_wp2_with fail
      refine (crow_f w.heap.size b v4 Z1 U2 Z2 w5 hP5 hBw5.size HZ2 b2).mono ?_
      rintro e w6 ⟨rfl, v6, hP6, hW6⟩
      obtain ⟨hM6, hO6⟩ := hM5.wr hW6 hO4
      have hBw6 := hBw5.trans hW6.below
      obtain ⟨d0, d1, d2⟩ := hM6.cells
      clear hM5 hP5 hBw5 hO4 hW6 q1 q2 HZ1 HZ2 HN1 HN2
      go_wp2
      go_loopw [30] (fun i wr => ∃ (k : Nat) (v1 : Value) (ac : List UInt8), k ≤ q.length ∧ i = .int .i64 k ∧ Pg w.heap.size b v1 ac wr ∧ Below w.heap.size w wr ∧ Hid (ac ++ (((q.map (·.1)).drop k).flatMap hkL).flatten = Z)) (fun i _ => q.length - (intOf i).toNat)
      case atStart => exact ⟨0, v6, Z2, Nat.zero_le _, by go_num, hP6, hBw6, HE⟩
      case round =>
      clear HE hP6 hBw6 hM6 hO6 d0 d1 d2
      obtain ⟨k, v1, ac, hk, rfl, hP, hB, HI⟩ := hrel
      by_cases hlt : k < q.length
      · obtain ⟨bk, off, rfl, hbk, _⟩ := hv.at (by omega)
        obtain ⟨h, y, hx⟩ : ∃ h y, q[k] = (h, y) := ⟨_, _, rfl⟩
        obtain ⟨⟨c0, c1, c2, c3, c4⟩, hm⟩ := HHp.take hv hB k hlt hx
        obtain ⟨x1, x2⟩ := hok.2 q[k] (List.getElem_mem hlt)
        have hins := hv.ins q[k] (List.getElem_mem hlt)
        have hch := HCh.out q[k].1 (by rw [← HQ.out]; exact List.mem_map_of_mem (List.getElem_mem hlt))
        rw [hx] at x1 x2 hins hch
        dsimp only at x1 x2 hins hch
        have HI2 := HI.out
        rw [List.drop_eq_getElem_cons (show k < (q.map (·.1)).length by rw [List.length_map]; exact hlt), List.getElem_map, hx, List.flatMap_cons, List.flatten_append, ← List.append_assoc] at HI2
        dsimp only at HI2
        obtain ⟨A2, hA2⟩ : ∃ Y, ac ++ (hkL h).flatten = Y := ⟨_, rfl⟩
        rw [hA2] at HI2
        have HI3 : Hid (A2 ++ (((q.map (·.1)).drop (k + 1)).flatMap hkL).flatten = Z) := HI2
        have hAl : A2.length ≤ 70368744177664 := (by have := congrArg List.length HI2; rw [List.length_append] at this; omega)
        have i4 : (0 : Int) ≤ (k : Int) := by omega
        have i5 : (k : Int) < (q.length : Int) := by omega
        have hBn : Below wr.heap.size wr (wr.alloc (.cells #[.int .i64 h.A, .int .i64 h.AN, .int .i64 h.B, .int .i64 h.BN, y] 43)) := (Below.refl _ wr).alloc (Nat.le_refl _) _
        have hBm := hB.trans (hBn.mono hB.size)
        have hPm := hP.low hBn
        have hc := chunk_f w.heap.size b v1 h y ac A2 _ hPm hBm.size x1 x2 hch (fun u hu => hins.keep (hBm.trans hu) (Nat.le_refl _)) (fun u hu => HT.out.on (hBm.trans hu)) hA2 hAl
        obtain ⟨yo, yc, rfl⟩ := HMk.form hm
        have e : hkV h (.slice yo h.ls.length yc) = .agg #[.int .i64 h.A, .int .i64 h.AN, .int .i64 h.B, .int .i64 h.BN, .slice yo h.ls.length yc] := rfl
        rw [e] at hc
        clear e HI HI2 hx hm hins hch hA2
        go_wp2_with fail
        refine hc.mono ?_
        rintro e w7 ⟨rfl, v7, hP7, hW7⟩
        go_wp2
        exact ⟨⟨k + 1, v7, A2, by omega, by go_num, hP7, hBm.trans hW7.below, HI3⟩, by simp [intOf]; omega⟩
      · have hend : decide ((k : Int) < (q.length : Int)) = false := decide_eq_false (by omega)
        have hE : ac = Z := (by
          have h := HI.out
          rw [List.drop_of_length_le (by rw [List.length_map]; omega)] at h
          simpa using h)
        subst hE
        clear HI
        go_wp2_with fail
        refine (cString_f w.heap.size b v1 ac HZne.out wr hP).mono ?_
        rintro e w7 ⟨rfl, hB7⟩
        go_wp2
        go_ret2
        exact ⟨rfl, hB.trans hB7⟩
  · rw [if_neg hr0] at hZZ
    have HE : Hid ([] = Z) := hZZ
    have e1 : (r != 0) = true := bne_iff_ne.2 hr0
    clear hZZ HZ HO hr0
    go_enter Tryd.func17, Tryd.ntmps17
    go_wp2_with fail
    refine hc.mono ?_
    rintro e w1 ⟨rfl, hB1⟩
    go_wp2
    go_ret2
    exact ⟨by rw [← HE.out]; rfl, hBm.trans (hB1.mono hBm.size)⟩
end Go.Proofs.YtgiojkhmkeocfaaDoor

/- The reference's Name, Wrong and span of layer 15, walked. -/
namespace Go.Proofs.YtgiojkhmkeocfaaDoor
open Go.RowKit Go.Proofs.YtgiojkhmkeocfaaDoor
attribute [local go_sem] no_at

theorem all_drop1 {l : List UInt8} {k : Nat} (hk : k < l.length) : (l.drop k).all nameC = (nameC l[k] && (l.drop (k + 1)).all nameC) := by
  rw [List.drop_eq_getElem_cons hk, List.all_cons]
set_option maxHeartbeats 4000000 in
set_option maxRecDepth 10000 in
theorem rName_f (l : List UInt8) (w : World) (hl : l.length ≤ 1099511627776) (t : List UInt8) (HT : Hid (nameT l = t)) :
    Calls Tryd.prog 56 #[.string ⟨l.toArray⟩] w fun e w' => e = .returned (.string ⟨t.toArray⟩) ∧ Below w.heap.size w w' := by
  by_cases h0 : l = []
  · have HE : Hid (devN = t) := (by have h := HT.out; unfold nameT at h; rw [if_pos h0] at h; exact h)
    subst h0
    go_enter Tryd.func56, Tryd.ntmps56
    go_wp2
    go_ret
    exact ⟨by rw [← HE.out]; rfl, Below.refl _ _⟩
  · have e0 : l.isEmpty = false := (by cases l with | nil => exact absurd rfl h0 | cons _ _ => rfl)
    have hq := refQuote_any l
    obtain ⟨q, hq2⟩ : ∃ q, l.all nameC = q := ⟨_, rfl⟩
    have HA0 : Hid ((l.drop 0).all nameC = q) := hq2
    have HQ : Hid (l.all nameC = q) := hq2
    clear hq2
    go_enter Tryd.func56, Tryd.ntmps56
    go_wp2
    go_loopw [3] (fun i wr => ∃ k : Nat, k ≤ l.length ∧ i = .int .i64 k ∧ wr = w ∧ Hid ((l.drop k).all nameC = q)) (fun i _ => l.length - (intOf i).toNat)
    case atStart => exact ⟨0, Nat.zero_le _, by go_num, rfl, HA0⟩
    case round =>
    obtain ⟨k, hk, rfl, rfl, HI⟩ := hrel
    clear HA0
    by_cases hlt : k < l.length
    · have HI2 := HI.out
      rw [all_drop1 hlt] at HI2
      have i1 : (0 : Int) ≤ (k : Int) := by omega
      have i2 : (k : Int) < (l.length : Int) := by omega
      obtain ⟨c, hc⟩ : ∃ c, l[k] = c := ⟨_, rfl⟩
      rw [hc] at HI2
      have hcn := c.toNat_lt
      clear HI
      cases hn : nameC c with
      | true =>
        rw [hn, Bool.true_and] at HI2
        have HI3 : Hid ((l.drop (k + 1)).all nameC = q) := HI2
        have hx := of_decide_eq_true hn
        have j1 : ¬ (c.toNat : Int) < 33 := by omega
        have j2 : ¬ (126 : Int) < (c.toNat : Int) := by omega
        have j3 : ((c.toNat : Int) == 34) = false := beq_eq_false_iff_ne.2 (by omega)
        clear HI2 hn hx
        go_wp2
        exact ⟨⟨k + 1, by omega, by go_num, by first | rfl | trivial, HI3⟩, by simp [intOf]; omega⟩
      | false =>
        rw [hn, Bool.false_and] at HI2
        have HE : Hid (Q.quote l = t) := (by have h := HT.out; unfold nameT at h; rw [if_neg h0, if_neg (fun z => by rw [HQ.out, ← HI2] at z; cases z.1)] at h; exact h)
        have hx := of_decide_eq_false hn
        clear HI2 hn
        by_cases j1 : (c.toNat : Int) < 33
        · clear hx
          go_wp2_with fail
          refine (hq _ hl).mono ?_
          rintro e w1 ⟨rfl, hB⟩
          go_wp2
          go_ret
          exact ⟨by rw [← HE.out]; rfl, hB⟩
        · by_cases j2 : (126 : Int) < (c.toNat : Int)
          · clear hx
            go_wp2_with fail
            refine (hq _ hl).mono ?_
            rintro e w1 ⟨rfl, hB⟩
            go_wp2
            go_ret
            exact ⟨by rw [← HE.out]; rfl, hB⟩
          · have j3 : ((c.toNat : Int) == 34) = true := beq_iff_eq.2 (by omega)
            clear hx
            go_wp2_with fail
            refine (hq _ hl).mono ?_
            rintro e w1 ⟨rfl, hB⟩
            go_wp2
            go_ret
            exact ⟨by rw [← HE.out]; rfl, hB⟩
    · have hqt : q = true := (by
        have h := HI.out
        rw [List.drop_of_length_le (by omega)] at h
        exact h.symm)
      have hend : ¬ (k : Int) < (l.length : Int) := by omega
      clear HI
      by_cases h1 : l = devN
      · have HE : Hid (Q.quote l = t) := (by have h := HT.out; unfold nameT at h; rw [if_neg h0, if_neg (fun z => z.2 h1)] at h; exact h)
        have e1 : (l == [47, 100, 101, 118, 47, 110, 117, 108, 108]) = true := (by rw [beq_iff_eq]; exact h1)
        clear h1
        go_wp2_with fail
        refine (hq _ hl).mono ?_
        rintro e w1 ⟨rfl, hB⟩
        go_wp2
        go_ret
        exact ⟨by rw [← HE.out]; rfl, hB⟩
      · have HE : Hid (l = t) := (by have h := HT.out; unfold nameT at h; rw [if_neg h0, if_pos ⟨by rw [HQ.out, hqt], h1⟩] at h; exact h)
        have e1 : (l == [47, 100, 101, 118, 47, 110, 117, 108, 108]) = false := beq_eq_false_iff_ne.2 h1
        clear h1
        go_wp2
        go_ret
        exact ⟨by rw [← HE.out]; rfl, Below.refl _ _⟩
set_option maxHeartbeats 1000000 in
theorem rspan_f (A N : Int) (h0 : 0 ≤ A) (h1 : A ≤ 4611686018427387904) (h2 : 0 ≤ N) (h3 : N ≤ 4611686018427387900) (w : World) (T : List UInt8) (HR : Hid (spanT A N = T)) :
    Calls Tryd.prog 57 #[.int .i64 A, .int .i64 N] w fun e w' => e = .returned (.string ⟨T.toArray⟩) ∧ Below w.heap.size w w' := by
  have l1 := itoa_short A (by omega) (by omega)
  have l2 := itoa_short (A + N - 1) (by omega) (by omega)
  by_cases hN : N ≤ 1
  · have HE1 : Hid (Lib.itoa A = T) := (by have h := HR.out; unfold spanT at h; rw [if_pos hN] at h; exact h)
    clear HR
    go_enter Tryd.func57, Tryd.ntmps57
    go_wp2_with fail
    refine (rText_f A (by omega) (by omega) _).mono ?_
    rintro e w1 ⟨rfl, hb1⟩
    go_wp2
    go_ret
    exact ⟨by rw [← HE1.out]; rfl, hb1⟩
  · have HE : Hid (Lib.itoa A ++ 44 :: Lib.itoa (A + N - 1) = T) := (by have h := HR.out; unfold spanT at h; rw [if_neg hN] at h; exact h)
    clear HR
    have q1 := add_fits (x := Lib.itoa A) (y := [44]) (by unfold Fits; simp only [List.length_cons, List.length_nil]; omega) Tryd.prog
    have q2 := add_fits (x := Lib.itoa A ++ [44]) (y := Lib.itoa (A + N - 1)) (by unfold Fits; simp only [List.length_append, List.length_cons, List.length_nil]; omega) Tryd.prog
    go_enter Tryd.func57, Tryd.ntmps57
    go_wp2_with fail
    refine (rText_f A (by omega) (by omega) _).mono ?_
    rintro e w1 ⟨rfl, hb1⟩
    go_wp2_with fail
    refine (rText_f (A + N - 1) (by omega) (by omega) _).mono ?_
    rintro e w2 ⟨rfl, hb2⟩
    go_wp2
    go_ret
    exact ⟨by rw [← HE.out]; rfl, hb1.trans (hb2.mono hb1.size)⟩
set_option maxHeartbeats 8000000 in
set_option maxRecDepth 10000 in
theorem rWrong_f (p : Pth) (q : List (Hk × Value)) (HQ : Hid (q.map (·.1) = p.hs)) (v : Value) (w : World) (hv : HHp w v q) (hok : HOk q) (ho : p.old.length ≤ 1099511627776) (hn : p.new.length ≤ 1099511627776) (r : Int) (HR : Hid (wrgP p = r)) :
    Calls Tryd.prog 55 #[ptV p v] w fun e w' => e = .returned (.int .i64 r) ∧ Below w.heap.size w w' := by
  obtain ⟨lo, lc, rfl⟩ := Holds.form hv.row
  obtain ⟨old, new, hs⟩ := p
  dsimp only at HQ ho hn
  have hql : hs.length = q.length := (by rw [← HQ.out, List.length_map])
  have HRR := HR.out
  unfold wrgP at HRR
  dsimp only at HRR
  have hBm : Below w.heap.size w (w.alloc (.cells #[.string ⟨old.toArray⟩, .string ⟨new.toArray⟩, .slice lo q.length lc] 46)) := (Below.refl _ w).alloc (Nat.le_refl _) _
  have e : ptV ⟨old, new, hs⟩ (.slice lo q.length lc) = .agg #[.string ⟨old.toArray⟩, .string ⟨new.toArray⟩, .slice lo q.length lc] := rfl
  rw [e]
  clear e HR
  by_cases h1 : 64 < old.length ∨ 64 < new.length
  · rw [if_pos h1] at HRR
    have HE : Hid (253 = r) := HRR
    clear HRR hql
    by_cases h2 : 64 < old.length
    · have i1 : (64 : Int) < (old.length : Int) := by omega
      go_enter Tryd.func55, Tryd.ntmps55
      go_wp2
      go_ret
      exact ⟨by rw [← HE.out]; rfl, hBm⟩
    · have i1 : ¬ (64 : Int) < (old.length : Int) := by omega
      have i2 : (64 : Int) < (new.length : Int) := by omega
      go_enter Tryd.func55, Tryd.ntmps55
      go_wp2
      go_ret
      exact ⟨by rw [← HE.out]; rfl, hBm⟩
  · rw [if_neg h1] at HRR
    have i1 : ¬ (64 : Int) < (old.length : Int) := by omega
    have i2 : ¬ (64 : Int) < (new.length : Int) := by omega
    by_cases h2 : 4096 < hs.length
    · rw [if_pos h2] at HRR
      have HE : Hid (9 = r) := HRR
      have i3 : (4096 : Int) < (q.length : Int) := by omega
      clear HRR hql
      go_enter Tryd.func55, Tryd.ntmps55
      go_wp2
      go_ret
      exact ⟨by rw [← HE.out]; rfl, hBm⟩
    · rw [if_neg h2] at HRR
      have HE : Hid (errs ((q.map (·.1)).drop 0) = r) := (by show _ = _; rw [HQ.out, List.drop_zero]; exact HRR)
      have i3 : ¬ (4096 : Int) < (q.length : Int) := by omega
      have hq4 : q.length ≤ 4096 := by omega
      clear HRR hql h1 h2
      go_enter Tryd.func55, Tryd.ntmps55
      have hPx : Px (w.alloc (.cells #[.string ⟨old.toArray⟩, .string ⟨new.toArray⟩, .slice lo q.length lc] 46)) w.heap.size ⟨old, new, hs⟩ (.slice lo q.length lc) := heap_alloc_new w _
      go_wp2
      generalize w.alloc (.cells #[.string ⟨old.toArray⟩, .string ⟨new.toArray⟩, .slice lo q.length lc] 46) = W at hBm hPx ⊢
      have hv2 := hv.keep hBm (Nat.le_refl _)
      generalize w.heap.size = M at hPx ⊢
      go_loopw [3] (fun i wr => ∃ k : Nat, k ≤ q.length ∧ i = .int .i64 k ∧ Below W.heap.size W wr ∧ Hid (errs ((q.map (·.1)).drop k) = r)) (fun i _ => q.length - (intOf i).toNat)
      case atStart => exact ⟨0, Nat.zero_le _, by go_num, Below.refl _ _, HE⟩
      case round =>
      clear HE
      obtain ⟨k, hk, rfl, hB, HI⟩ := hrel
      obtain ⟨p0, p1, p2⟩ := (hPx.low hB).cells
      by_cases hlt : k < q.length
      · obtain ⟨bk, off, rfl, hbk, _⟩ := hv2.at (by omega)
        obtain ⟨h, y, hx⟩ : ∃ h y, q[k] = (h, y) := ⟨_, _, rfl⟩
        obtain ⟨⟨c0, c1, c2, c3, c4⟩, hm⟩ := HHp.take hv2 hB k hlt hx
        obtain ⟨o1, o2⟩ := hok.2 q[k] (List.getElem_mem hlt)
        rw [hx] at o1 o2
        dsimp only at o1 o2
        have HI2 := HI.out
        rw [errs_drop (by rw [List.length_map]; exact hlt), List.getElem_map, hx] at HI2
        dsimp only at HI2
        have i4 : (0 : Int) ≤ (k : Int) := by omega
        have i5 : (k : Int) < (q.length : Int) := by omega
        obtain ⟨z, hz⟩ : ∃ z, chkH h = z := ⟨_, rfl⟩
        rw [hz] at HI2
        have hc := rhCheck_f h y wr hm o1 o2 z hz
        obtain ⟨yo, yc, rfl⟩ := HMk.form hm
        have e : hkV h (.slice yo h.ls.length yc) = .agg #[.int .i64 h.A, .int .i64 h.AN, .int .i64 h.B, .int .i64 h.BN, .slice yo h.ls.length yc] := rfl
        rw [e] at hc
        clear e hz HI hx hm
        by_cases hz0 : z = 0
        · subst hz0
          rw [if_neg (by decide)] at HI2
          have HI3 : Hid (errs ((q.map (·.1)).drop (k + 1)) = r) := HI2
          clear HI2
          go_wp2_with fail
          refine hc.mono ?_
          rintro e w1 ⟨rfl, hB1⟩
          go_wp2
          exact ⟨⟨k + 1, by omega, by go_num, hB.trans (hB1.mono hB.size), HI3⟩, by simp [intOf]; omega⟩
        · rw [if_pos hz0] at HI2
          have HI3 : Hid (z = r) := HI2
          have e1 : (z != 0) = true := bne_iff_ne.2 hz0
          clear HI2 hz0
          go_wp2_with fail
          refine hc.mono ?_
          rintro e w1 ⟨rfl, hB1⟩
          go_wp2
          go_ret
          exact ⟨by rw [← HI3.out]; rfl, hBm.trans ((hB.trans (hB1.mono hB.size)).mono hBm.size)⟩
      · have hend : decide ((k : Int) < (q.length : Int)) = false := decide_eq_false (by omega)
        have HE : Hid (0 = r) := (by
          have h := HI.out
          rw [List.drop_of_length_le (by rw [List.length_map]; omega)] at h
          exact h)
        clear HI
        go_wp2
        go_ret
        exact ⟨by rw [← HE.out]; rfl, hBm.trans (hB.mono hBm.size)⟩
end Go.Proofs.YtgiojkhmkeocfaaDoor

/- The context form: pieces around a place, as the reference goes; plain mathematics. -/
namespace Go.Proofs.YtgiojkhmkeocfaaDoor
open Ln

def segM (l : List Mk) (i j : Nat) : List Mk := (l.take j).drop i
theorem hasM_app (k : Int) (a b : List Mk) : hasM k (a ++ b) = (hasM k a || hasM k b) := by simp [hasM, List.any_append]
theorem hasM_cons (k : Int) (m : Mk) (a : List Mk) : hasM k (m :: a) = ((m.sg == k) || hasM k a) := rfl
theorem seg_step {l : List Mk} {i j : Nat} (h : i < j) (hj : j ≤ l.length) : segM l i j = (l[i]'(by omega)) :: segM l (i + 1) j := by
  unfold segM
  have hl : i < (l.take j).length := by rw [List.length_take]; omega
  rw [List.drop_eq_getElem_cons hl]
  simp
theorem seg_nil (l : List Mk) {i j : Nat} (h : j ≤ i) : segM l i j = [] := by
  unfold segM
  exact List.drop_of_length_le (by rw [List.length_take]; omega)
theorem seg_cat (l : List Mk) {i k j : Nat} (h1 : i ≤ k) (h2 : k ≤ j) (_h3 : j ≤ l.length) : segM l i k ++ segM l k j = segM l i j := by
  unfold segM
  have e : l.take k = (l.take j).take k := by rw [List.take_take]; congr 1; omega
  rw [e, List.drop_take]
  have h := List.take_append_drop (k - i) ((l.take j).drop i)
  rw [List.drop_drop] at h
  have e2 : i + (k - i) = k := by omega
  rw [e2] at h
  exact h
theorem seg_last {l : List Mk} {i j : Nat} (h : i ≤ j) (hj : j < l.length) : segM l i (j + 1) = segM l i j ++ [l[j]] := by
  have h1 := seg_cat l h (Nat.le_succ j) (by omega)
  rw [seg_step (Nat.lt_succ_self j) (by omega), seg_nil l (Nat.le_refl (j + 1))] at h1
  exact h1.symm
/-- going back from a place -/
theorem back_step {l : List Mk} {k a : Nat} {sg : Int} (hk : k < a) (ha : a ≤ l.length) (hs : (l[k]'(by omega)).sg ≠ 32) (h : endS sg (l.take a) = (hasM sg (segM l (k + 1) a) || endS sg (l.take (k + 1)))) : endS sg (l.take a) = (hasM sg (segM l k a) || endS sg (l.take k)) := by
  rw [h, seg_step hk ha, hasM_cons, List.take_succ_eq_append_getElem (by omega), ends_snoc, if_neg hs]
  have : (l[k].sg == sg) = decide (l[k].sg = sg) := rfl
  rw [this]
  cases hasM sg (segM l (k + 1) a) <;> cases endS sg (l.take k) <;> cases decide (l[k].sg = sg) <;> rfl
theorem back_end {l : List Mk} {k a : Nat} {sg : Int} (hk : k ≤ l.length) (hs : k = 0 ∨ ∃ h : k - 1 < l.length, 0 < k ∧ l[k - 1].sg = 32) (h : endS sg (l.take a) = (hasM sg (segM l k a) || endS sg (l.take k))) : endS sg (l.take a) = hasM sg (segM l k a) := by
  rw [h]
  have : endS sg (l.take k) = false := by
    rcases hs with rfl | ⟨h1, h2, h3⟩
    · rfl
    · obtain ⟨j, rfl⟩ : ∃ j, k = j + 1 := ⟨k - 1, by omega⟩
      rw [List.take_succ_eq_append_getElem (by omega), ends_snoc, if_pos (by simpa using h3)]
  rw [this, Bool.or_false]
/-- going on from a place -/
theorem on_step {l : List Mk} {a t : Nat} {sg : Int} (ha : a ≤ t) (ht : t < l.length) (hs : l[t].sg ≠ 32) (h : anyS sg (l.drop a) = (hasM sg (segM l a t) || anyS sg (l.drop t))) : anyS sg (l.drop a) = (hasM sg (segM l a (t + 1)) || anyS sg (l.drop (t + 1))) := by
  rw [h, List.drop_eq_getElem_cons ht, seg_last ha ht, hasM_app]
  simp only [anyS]
  rw [if_neg hs]
  have : hasM sg [l[t]] = decide (l[t].sg = sg) := by simp [hasM]; rfl
  rw [this, Bool.or_assoc]
theorem on_end {l : List Mk} {a t : Nat} {sg : Int} (hs : l.length ≤ t ∨ ∃ h : t < l.length, l[t].sg = 32) (h : anyS sg (l.drop a) = (hasM sg (segM l a t) || anyS sg (l.drop t))) : anyS sg (l.drop a) = hasM sg (segM l a t) := by
  rw [h]
  have : anyS sg (l.drop t) = false := by
    rcases hs with h1 | ⟨h1, h2⟩
    · rw [List.drop_of_length_le h1]; rfl
    · rw [List.drop_eq_getElem_cons h1]
      simp only [anyS]
      rw [if_pos h2]
  rw [this, Bool.or_false]
/-- is a piece around a place mixed? -/
theorem both_seg {l : List Mk} {f a t : Nat} (h1 : f ≤ a) (h2 : a ≤ t) (h3 : t ≤ l.length) (e1 : endS 45 (l.take a) = hasM 45 (segM l f a)) (e2 : endS 43 (l.take a) = hasM 43 (segM l f a)) (e3 : anyS 45 (l.drop a) = hasM 45 (segM l a t)) (e4 : anyS 43 (l.drop a) = hasM 43 (segM l a t)) : bothM (l.take a) (l.drop a) = (hasM 45 (segM l f t) && hasM 43 (segM l f t)) := by
  unfold bothM
  rw [e1, e2, e3, e4, ← hasM_app, ← hasM_app, seg_cat l h1 h2 h3]
end Go.Proofs.YtgiojkhmkeocfaaDoor

/- The reference's both and side of layer 15, walked. -/
namespace Go.Proofs.YtgiojkhmkeocfaaDoor
open Go.RowKit

set_option maxHeartbeats 8000000 in
set_option maxRecDepth 10000 in
theorem rboth_f (h : Hk) (v : Value) (a : Nat) (ha : a < h.ls.length) (w : World) (hv : HMk w v h.ls) (hl : h.ls.length ≤ 1099511627776) (r : Bool) (HR : Hid (bothM (h.ls.take a) (h.ls.drop a) = r)) :
    Calls Tryd.prog 99 #[hkV h v, .int .i64 (a : Int)] w fun e w' => e = .returned (.bool r) ∧ Below w.heap.size w w' := by
  obtain ⟨A, AN, B, BN, ls⟩ := h
  dsimp only at ha hv hl HR
  obtain ⟨lo, lc, rfl⟩ := HMk.form hv
  have hBl : Below w.heap.size w (w.alloc (.cells #[.int .i64 A, .int .i64 AN, .int .i64 B, .int .i64 BN, .slice lo ls.length lc] 43)) := (Below.refl _ w).alloc (Nat.le_refl _) _
  have hx : Hx (w.alloc (.cells #[.int .i64 A, .int .i64 AN, .int .i64 B, .int .i64 BN, .slice lo ls.length lc] 43)) w.heap.size ⟨A, AN, B, BN, ls⟩ (.slice lo ls.length lc) := heap_alloc_new w _
  have hv2 := hv.keep hBl (Nat.le_refl _)
  have e : hkV ⟨A, AN, B, BN, ls⟩ (.slice lo ls.length lc) = .agg #[.int .i64 A, .int .i64 AN, .int .i64 B, .int .i64 BN, .slice lo ls.length lc] := rfl
  rw [e]
  clear e
  obtain ⟨bk, off, rfl, hbk, hcl⟩ := HMk.at hv2 (by omega)
  have HCL : Hid (∀ k (hk : k < ls.length), (w.alloc (.cells #[.int .i64 A, .int .i64 AN, .int .i64 B, .int .i64 BN, .slice (some ⟨bk, off, none⟩) ls.length lc] 43)).cell? ⟨bk, off + k * 2, none⟩ = some (.int .u8 ls[k].sg)) := fun k hk => (hcl k hk).1
  clear hcl hv hv2
  obtain ⟨d0, d1, d2, d3, d4⟩ := hx.cells
  clear d0 d1 d2 d3 hx
  have HA0 : Hid (∀ sg, endS sg (ls.take a) = (hasM sg (segM ls a a) || endS sg (ls.take a))) := (by
    intro sg
    rw [seg_nil ls (Nat.le_refl a)]
    rfl)
  have HB0 : Hid (∀ sg, anyS sg (ls.drop a) = (hasM sg (segM ls a a) || anyS sg (ls.drop a))) := (by
    intro sg
    rw [seg_nil ls (Nat.le_refl a)]
    rfl)
  go_enter Tryd.func99, Tryd.ntmps99
  go_wp2
  generalize w.alloc (.cells #[.int .i64 A, .int .i64 AN, .int .i64 B, .int .i64 BN, .slice (some ⟨bk, off, none⟩) ls.length lc] 43) = W at hBl HCL d4 hbk ⊢
  generalize hM : w.heap.size = M at d4 ⊢
  have HM : Hid (w.heap.size = M) := hM
  clear hM
  go_loopw [5] (fun i wr => ∃ k : Nat, k ≤ a ∧ i = .int .i64 k ∧ W = wr ∧ Hid (∀ sg, endS sg (ls.take a) = (hasM sg (segM ls k a) || endS sg (ls.take k)))) (fun i _ => (intOf i).toNat)
  case atStart => exact ⟨a, Nat.le_refl _, rfl, rfl, HA0⟩
  case round =>
  clear HA0
  obtain ⟨k, hk, rfl, rfl, HI⟩ := hrel
  by_cases hgo : ∃ j, ∃ hj : j < ls.length, k = j + 1 ∧ ls[j].sg ≠ 32
  · obtain ⟨j, hj, rfl, hs⟩ := hgo
    have c0 := HCL.out j hj
    have HI2 : Hid (∀ sg, endS sg (ls.take a) = (hasM sg (segM ls j a) || endS sg (ls.take j))) := fun sg => back_step (by omega) (by omega) hs (HI.out sg)
    obtain ⟨z, hz⟩ : ∃ z, ls[j].sg = z := ⟨_, rfl⟩
    rw [hz] at c0 hs
    have e1 : (z != 32) = true := bne_iff_ne.2 hs
    have i1 : (0 : Int) ≤ (j : Int) := by omega
    have i2 : (j : Int) < (ls.length : Int) := by omega
    have i3 : (0 : Int) < (j : Int) + 1 := by omega
    clear HI hs hz
    go_wp2
    exact ⟨⟨j, by omega, by go_num, by first | rfl | trivial, HI2⟩, by simp [intOf]⟩
  · have hend : k = 0 ∨ ∃ h : k - 1 < ls.length, 0 < k ∧ ls[k - 1].sg = 32 := (by
      rcases Nat.eq_zero_or_pos k with h | h
      · exact .inl h
      · refine .inr ⟨by omega, h, ?_⟩
        have h2 : ¬ ls[k - 1].sg ≠ 32 := fun q => hgo ⟨k - 1, by omega, by omega, q⟩
        simpa using h2)
    have HF : Hid (∀ sg, endS sg (ls.take a) = hasM sg (segM ls k a)) := fun sg => back_end (by omega) hend (HI.out sg)
    clear hgo HI
    have HL : Hid (∀ Q : Prop, ((k = 0 → Q) → (∀ j (hj : j < ls.length), k = j + 1 → ls[j].sg = 32 → Q) → Q)) := (by
      intro Q h1 h2
      rcases hend with h | ⟨h3, h4, h5⟩
      · exact h1 h
      · exact h2 (k - 1) h3 (by omega) h5)
    go_upto_region 2 with fail
    go_cut [23] from 12 to 25 (fun cv wz => cv = .bool false ∧ W = wz)
    case first =>
      rcases hend with h0 | ⟨h3, h4, h5⟩
      · subst h0
        go_wp2
        go_meet
        case rel => exact ⟨rfl, rfl⟩
      · obtain ⟨j, rfl⟩ : ∃ j, k = j + 1 := ⟨k - 1, by omega⟩
        have c0 := HCL.out j (by omega)
        have h6 : (ls[j]'(by omega)).sg = 32 := by simpa using h5
        rw [h6] at c0
        have i1 : (0 : Int) ≤ (j : Int) := by omega
        have i2 : (j : Int) < (ls.length : Int) := by omega
        have i3 : (0 : Int) < (j : Int) + 1 := by omega
        clear h5 h6
        go_wp2
        go_meet
        case rel => exact ⟨rfl, rfl⟩
    case rest =>
    obtain ⟨rfl, rfl⟩ := hcut
    clear hend HL
    go_wp2
    go_loopw [6] (fun i wr => ∃ t : Nat, a ≤ t ∧ t ≤ ls.length ∧ i = .int .i64 t ∧ W = wr ∧ Hid (∀ sg, anyS sg (ls.drop a) = (hasM sg (segM ls a t) || anyS sg (ls.drop t)))) (fun i _ => ls.length - (intOf i).toNat)
    case atStart => exact ⟨a, Nat.le_refl _, by omega, rfl, rfl, HB0⟩
    case round =>
    clear HB0
    obtain ⟨t, hat, ht, rfl, rfl, HJ⟩ := hrel
    by_cases hgo : ∃ hj : t < ls.length, ls[t].sg ≠ 32
    · obtain ⟨hj, hs⟩ := hgo
      have c0 := HCL.out t hj
      have HJ2 : Hid (∀ sg, anyS sg (ls.drop a) = (hasM sg (segM ls a (t + 1)) || anyS sg (ls.drop (t + 1)))) := fun sg => on_step hat hj hs (HJ.out sg)
      obtain ⟨z, hz⟩ : ∃ z, ls[t].sg = z := ⟨_, rfl⟩
      rw [hz] at c0 hs
      have e1 : (z != 32) = true := bne_iff_ne.2 hs
      have i1 : (0 : Int) ≤ (t : Int) := by omega
      have i2 : (t : Int) < (ls.length : Int) := by omega
      clear HJ hs hz
      go_wp2
      exact ⟨⟨t + 1, by omega, by omega, by go_num, by first | rfl | trivial, HJ2⟩, by simp [intOf]; omega⟩
    · have hend : ls.length ≤ t ∨ ∃ h : t < ls.length, ls[t].sg = 32 := (by
        by_cases h : t < ls.length
        · refine .inr ⟨h, ?_⟩
          have h2 : ¬ ls[t].sg ≠ 32 := fun q => hgo ⟨h, q⟩
          simpa using h2
        · exact .inl (by omega))
      have HG : Hid (∀ sg, anyS sg (ls.drop a) = hasM sg (segM ls a t)) := fun sg => on_end hend (HJ.out sg)
      obtain ⟨x45, hx45⟩ : ∃ x, hasM 45 (segM ls k t) = x := ⟨_, rfl⟩
      obtain ⟨x43, hx43⟩ : ∃ x, hasM 43 (segM ls k t) = x := ⟨_, rfl⟩
      have HX : Hid ((x45 && x43) = r) := (by
        show _ = _
        rw [← HR.out, both_seg hk hat ht (HF.out 45) (HF.out 43) (HG.out 45) (HG.out 43), hx45, hx43])
      have HS0 : Hid ((false || hasM 45 (segM ls k t)) = x45 ∧ (false || hasM 43 (segM ls k t)) = x43) := ⟨by rw [Bool.false_or]; exact hx45, by rw [Bool.false_or]; exact hx43⟩
      clear hgo HJ hx45 hx43 HF HG HR
      go_upto_region 4 with fail
      go_cut [39] from 26 to 41 (fun cv wz => cv = .bool false ∧ W = wz)
      case first =>
        by_cases h : t < ls.length
        · have c0 := HCL.out t h
          have h6 : ls[t].sg = 32 := (by
            rcases hend with h1 | ⟨_, h2⟩
            · omega
            · exact h2)
          rw [h6] at c0
          have i1 : (0 : Int) ≤ (t : Int) := by omega
          have i2 : (t : Int) < (ls.length : Int) := by omega
          clear h6 hend
          go_wp2
          go_meet
          case rel => exact ⟨rfl, rfl⟩
        · have i2 : ¬ (t : Int) < (ls.length : Int) := by omega
          clear hend
          go_wp2
          go_meet
          case rel => exact ⟨rfl, rfl⟩
      case rest =>
      obtain ⟨rfl, rfl⟩ := hcut
      clear hend
      go_wp2
      go_loopw [7, 8, 9] (fun rv av i wr => ∃ (j : Nat) (x y : Bool), k ≤ j ∧ (j ≤ t ∨ j = k) ∧ i = .int .i64 j ∧ rv = .bool x ∧ av = .bool y ∧ W = wr ∧ Hid ((x || hasM 45 (segM ls j t)) = x45 ∧ (y || hasM 43 (segM ls j t)) = x43)) (fun _ _ i _ => t - (intOf i).toNat)
      case atStart => exact ⟨k, false, false, Nat.le_refl _, .inr rfl, rfl, rfl, rfl, rfl, HS0⟩
      case round =>
      clear HS0
      obtain ⟨j, x, y, hkj, hjt, rfl, rfl, rfl, rfl, HK⟩ := hrel
      by_cases hlt : j < t
      · have c0 := HCL.out j (by omega)
        have HK2 := HK.out
        rw [seg_step hlt ht, hasM_cons, hasM_cons] at HK2
        obtain ⟨z, hz⟩ : ∃ z, (ls[j]'(by omega)).sg = z := ⟨_, rfl⟩
        rw [hz] at c0 HK2
        have i1 : (0 : Int) ≤ (j : Int) := by omega
        have i2 : (j : Int) < (ls.length : Int) := by omega
        have i3 : (j : Int) < (t : Int) := by omega
        have HK3 : Hid (((x || (z == 45)) || hasM 45 (segM ls (j + 1) t)) = x45 ∧ ((y || (z == 43)) || hasM 43 (segM ls (j + 1) t)) = x43) := (by
          rw [Bool.or_assoc, Bool.or_assoc]
          exact HK2)
        clear HK HK2 hz
        go_upto_region 10 with fail
        go_cut [7] from 43 to 67 (fun cv wz => cv = .bool (x || (z == 45)) ∧ W = wz)
        case first =>
          cases x with
          | true =>
            go_wp2
            go_meet
            case rel => exact ⟨rfl, rfl⟩
          | false =>
            go_wp2
            go_meet
            case rel => exact ⟨rfl, rfl⟩
        case rest =>
        obtain ⟨rfl, rfl⟩ := hcut
        generalize (x || (z == 45)) = x2 at HK3 ⊢
        cases y with
        | true =>
          have HK4 : Hid ((x2 || hasM 45 (segM ls (j + 1) t)) = x45 ∧ (true || hasM 43 (segM ls (j + 1) t)) = x43) := ⟨HK3.out.1, by have h := HK3.out.2; rw [Bool.true_or] at h; exact h⟩
          clear HK3
          go_wp2
          exact ⟨⟨j + 1, x2, true, by omega, .inl (by omega), by go_num, rfl, rfl, by first | rfl | trivial, HK4⟩, by simp [intOf]; omega⟩
        | false =>
          have HK4 : Hid ((x2 || hasM 45 (segM ls (j + 1) t)) = x45 ∧ ((z == 43) || hasM 43 (segM ls (j + 1) t)) = x43) := ⟨HK3.out.1, by have h := HK3.out.2; rw [Bool.false_or] at h; exact h⟩
          clear HK3
          go_wp2
          exact ⟨⟨j + 1, x2, (z == 43), by omega, .inl (by omega), by go_num, rfl, rfl, by first | rfl | trivial, HK4⟩, by simp [intOf]; omega⟩
      · have hend : ¬ (j : Int) < (t : Int) := by omega
        have HE : Hid ((x && y) = r) := (by
          show _ = _
          have h := HK.out
          rw [seg_nil ls (by omega)] at h
          have h1 : x = x45 := by rw [← h.1]; simp [hasM]
          have h2 : y = x43 := by rw [← h.2]; simp [hasM]
          rw [h1, h2]
          exact HX.out)
        clear HK HX
        cases x with
        | true =>
          have HE2 : Hid (y = r) := (by have h := HE.out; rw [Bool.true_and] at h; exact h)
          go_wp2
          go_ret
          exact ⟨by rw [← HE2.out]; rfl, hBl⟩
        | false =>
          have HE2 : Hid (false = r) := (by have h := HE.out; rw [Bool.false_and] at h; exact h)
          go_wp2
          go_ret
          exact ⟨by rw [← HE2.out]; rfl, hBl⟩
end Go.Proofs.YtgiojkhmkeocfaaDoor

/- The reference's side of layer 15, walked. -/
namespace Go.Proofs.YtgiojkhmkeocfaaDoor
open Go.RowKit

theorem two_conv (w : World) (x : Int) (h0 : 0 ≤ x) (h1 : x < 256) :
    (convert 59 9 (.slice (some ⟨w.heap.size, 0, none⟩) 2 2)).run Tryd.prog (w.alloc (.cells #[.int .u8 x, .int .u8 32] 5)) = .ok (.string ⟨#[UInt8.ofNat x.toNat, 32]⟩) (w.alloc (.cells #[.int .u8 x, .int .u8 32] 5)) := by
  have hx : ((UInt8.ofNat x.toNat).toNat : Int) = x := by simp only [UInt8.toNat_ofNat']; omega
  refine run_convert_bytes_back (w.alloc (.cells #[.int .u8 x, .int .u8 32] 5)) 59 9 5 ⟨w.heap.size, 0, none⟩ 2 [UInt8.ofNat x.toNat, 32] Tryd.underlying59 Tryd.underlying5 Tryd.underlying9 ?_
  intro j hj
  have hb := heap_alloc_new w (.cells #[.int .u8 x, .int .u8 32] 5)
  match j, hj with
  | 0, _ =>
    show (w.alloc (.cells #[.int .u8 x, .int .u8 32] 5)).cell? ⟨w.heap.size, 0 + 0, none⟩ = some (.int .u8 ((UInt8.ofNat x.toNat).toNat : Int))
    rw [hx, Lib.cell_of_heap hb]
    rfl
  | 1, _ =>
    show (w.alloc (.cells #[.int .u8 x, .int .u8 32] 5)).cell? ⟨w.heap.size, 0 + 1, none⟩ = some (.int .u8 32)
    rw [Lib.cell_of_heap hb]
    rfl
theorem hasM_snoc (k : Int) (l : List Mk) (j : Nat) (hj : j < l.length) : hasM k (l.take (j + 1)) = (hasM k (l.take j) || (l[j].sg == k)) := by
  rw [List.take_succ_eq_append_getElem hj, hasM_app]
  simp [hasM]
set_option maxHeartbeats 8000000 in
set_option maxRecDepth 10000 in
theorem rside_f (h : Hk) (v : Value) (sg : Int) (hsg : sg = 45 ∨ sg = 43) (w : World) (hv : HMk w v h.ls) (hl : h.ls.length ≤ 1099511627776) (HTx : Hid (∀ m ∈ h.ls, m.tx.length ≤ 1099511627776)) (Z : List UInt8) (HZ : Hid ((sideL sg h.ls).flatten = Z)) (Z2 : List UInt8) (HZ2 : Hid ((sidL sg false false h.ls).flatten = Z2)) (hZ : Z2.length ≤ 1152921504606846976) :
    Calls Tryd.prog 58 #[hkV h v, .int .u8 sg] w fun e w' => e = .returned (.string ⟨Z.toArray⟩) ∧ Below w.heap.size w w' := by
  obtain ⟨A, AN, B, BN, ls⟩ := h
  dsimp only at hv hl HTx HZ HZ2
  obtain ⟨lo, lc, rfl⟩ := HMk.form hv
  have hBl : Below w.heap.size w (w.alloc (.cells #[.int .i64 A, .int .i64 AN, .int .i64 B, .int .i64 BN, .slice lo ls.length lc] 43)) := (Below.refl _ w).alloc (Nat.le_refl _) _
  have hx : Hx (w.alloc (.cells #[.int .i64 A, .int .i64 AN, .int .i64 B, .int .i64 BN, .slice lo ls.length lc] 43)) w.heap.size ⟨A, AN, B, BN, ls⟩ (.slice lo ls.length lc) := heap_alloc_new w _
  have hv2 := hv.keep hBl (Nat.le_refl _)
  have hkv : hkV ⟨A, AN, B, BN, ls⟩ (.slice lo ls.length lc) = .agg #[.int .i64 A, .int .i64 AN, .int .i64 B, .int .i64 BN, .slice lo ls.length lc] := rfl
  have HB := fun (a : Nat) (ha : a < ls.length) (u : World) (hu : HMk u (.slice lo ls.length lc) ls) (r : Bool) (HR : Hid (bothM (ls.take a) (ls.drop a) = r)) => rboth_f ⟨A, AN, B, BN, ls⟩ (.slice lo ls.length lc) a ha u hu hl r HR
  rw [hkv] at HB ⊢
  clear hkv hv
  have HI0 : Hid ([] ++ (fromS sg (ls.take 0) (ls.drop 0)).flatten = Z2) := (by show _ = _; rw [List.take_zero, List.drop_zero, from_all, List.nil_append]; exact HZ2.out)
  have HC0 : Hid (hasM sg (ls.take 0) = false) := rfl
  obtain ⟨g0, hg0⟩ : ∃ g, hasM sg ls = g := ⟨_, rfl⟩
  have HFin : Hid (hasM sg ls = g0 ∧ (if g0 = true then Z2 else []) = Z) := (by
    refine ⟨hg0, ?_⟩
    rw [← HZ.out, ← HZ2.out, ← hg0]
    unfold sideL
    have : (ls.any fun m => decide (m.sg = sg)) = hasM sg ls := rfl
    rw [this]
    split <;> rfl)
  clear hg0 HZ HZ2
  go_enter Tryd.func58, Tryd.ntmps58
  go_wp2
  generalize w.alloc (.cells #[.int .i64 A, .int .i64 AN, .int .i64 B, .int .i64 BN, .slice lo ls.length lc] 43) = W at hBl hx hv2 ⊢
  generalize w.heap.size = M at hx ⊢
  go_loopw [5, 6, 7] (fun s cv i wr => ∃ (k : Nat) (ac : List UInt8) (c : Bool), k ≤ ls.length ∧ i = .int .i64 k ∧ s = .string ⟨ac.toArray⟩ ∧ cv = .bool c ∧ Below W.heap.size W wr ∧ Hid (hasM sg (ls.take k) = c) ∧ Hid (ac ++ (fromS sg (ls.take k) (ls.drop k)).flatten = Z2)) (fun _ _ i _ => ls.length - (intOf i).toNat)
  case atStart => exact ⟨0, [], false, Nat.zero_le _, rfl, rfl, rfl, Below.refl _ _, HC0, HI0⟩
  case round =>
  clear HI0 HC0
  obtain ⟨k, ac, c, hk, rfl, rfl, rfl, hB, HCk, HI⟩ := hrel
  obtain ⟨d0, d1, d2, d3, d4⟩ := (hx.low hB).cells
  by_cases hlt : k < ls.length
  · obtain ⟨bk, off, rfl, hbk, _⟩ := HMk.at hv2 (by omega)
    obtain ⟨m, hm⟩ : ∃ m, ls[k] = m := ⟨_, rfl⟩
    obtain ⟨c0, c1⟩ := Low.mk hB hv2 k hlt hm
    have htx := HTx.out m (by rw [← hm]; exact List.getElem_mem hlt)
    have i1 : (0 : Int) ≤ (k : Int) := by omega
    have i2 : (k : Int) < (ls.length : Int) := by omega
    have HI2 := HI.out
    have hdr : ls.drop k = m :: ls.drop (k + 1) := (by rw [List.drop_eq_getElem_cons hlt, hm])
    have hta : ls.take k ++ [m] = ls.take (k + 1) := (by rw [List.take_succ_eq_append_getElem hlt, hm])
    rw [hdr, from_cons, hta, List.flatten_append, ← List.append_assoc] at HI2
    obtain ⟨A2, hA2⟩ : ∃ Y, ac ++ (lineS sg (ls.take k) m (ls.drop (k + 1))).flatten = Y := ⟨_, rfl⟩
    rw [hA2] at HI2
    have HI3 : Hid (A2 ++ (fromS sg (ls.take (k + 1)) (ls.drop (k + 1))).flatten = Z2) := HI2
    have hAl : A2.length ≤ 1152921504606846976 := (by have := congrArg List.length HI2; rw [List.length_append] at this; omega)
    have HCn : Hid (hasM sg (ls.take (k + 1)) = (c || (m.sg == sg))) := (by show _ = _; rw [hasM_snoc sg ls k hlt, HCk.out, hm])
    obtain ⟨br, hbr⟩ : ∃ b, bothM (ls.take k) (ls.drop k) = b := ⟨_, rfl⟩
    have hbc := fun u hu => HB k hlt u hu br hbr
    have HLs : Hid (ac ++ (if m.sg = 32 then lnL [32, 32] m.tx else if m.sg = sg then lnL (if br = true then [33, 32] else [UInt8.ofNat sg.toNat, 32]) m.tx else []).flatten = A2) := (by
      show _ = _
      rw [← hA2]
      unfold lineS
      rw [← hdr, hbr])
    have hBm := hB.alloc hB.size (.cells #[.int .u8 m.sg, .string ⟨m.tx.toArray⟩] 91)
    clear HI HI2 hA2 hbr hdr hta HCk HB hm
    obtain ⟨z, tx⟩ := m
    dsimp only at c0 c1 htx HCn HLs hBm
    by_cases h1 : z = 32
    · have e1 : (z != 32) = false := by simp [h1]
      have e2 : (z == sg) = false := beq_eq_false_iff_ne.2 (by omega)
      have HC2 : Hid (hasM sg (ls.take (k + 1)) = c) := (by show _ = _; rw [HCn.out, e2, Bool.or_false])
      obtain ⟨Y, hY⟩ : ∃ Y, (lnL [32, 32] tx).flatten = Y := ⟨_, rfl⟩
      have hAY : ac ++ Y = A2 := (by rw [← hY]; have h := HLs.out; rw [if_pos h1] at h; exact h)
      have hlY := congrArg List.length hAY
      rw [List.length_append] at hlY
      have q1 := add_fits (x := ac) (y := Y) (by unfold Fits; omega) Tryd.prog
      rw [hAY] at q1
      have HY : Hid ((lnL [32, 32] tx).flatten = Y) := hY
      clear hY hAY hlY HLs
      clear HCn hbc h1
      go_wp2_with fail
      refine (rLine_f [32, 32] tx _ (by decide) (by omega)).mono ?_
      rintro e wl ⟨rfl, rfl⟩
      rw [HY.out]
      go_wp2
      exact ⟨⟨k + 1, A2, c, by omega, by go_num, rfl, rfl, hBm, HC2, HI3⟩, by simp [intOf]; omega⟩
    · have e1 : (z != 32) = true := by simp [h1]
      by_cases h2 : z = sg
      · subst h2
        have e2 : (z != z) = false := by simp
        have e3 : (z == z) = true := by simp
        have hz0 : 0 ≤ z ∧ z < 256 := by omega
        have hcv := two_conv (wr.alloc (.cells #[.int .u8 z, .string ⟨tx.toArray⟩] 91)) z hz0.1 hz0.2
        have hBt := hBm.alloc hBm.size (.cells #[.int .u8 z, .int .u8 32] 5)
        have hxt := hx.low hBt
        have hvt := hv2.keep hBt (Nat.le_refl _)
        have HC2 : Hid (hasM z (ls.take (k + 1)) = true) := (by show _ = _; rw [HCn.out, e3, Bool.or_true])
        have hz1 : (wr.alloc (.cells #[.int .u8 z, .string ⟨tx.toArray⟩] 91)).heap.size = wr.heap.size + 1 := by simp
        rw [hz1] at hcv
        clear hz1
        cases br with
        | true =>
          obtain ⟨Y, hY⟩ : ∃ Y, (lnL [33, 32] tx).flatten = Y := ⟨_, rfl⟩
          have hAY : ac ++ Y = A2 := (by rw [← hY]; have h := HLs.out; rw [if_neg h1, if_pos rfl, if_pos rfl] at h; exact h)
          have hlY := congrArg List.length hAY
          rw [List.length_append] at hlY
          have q1 := add_fits (x := ac) (y := Y) (by unfold Fits; omega) Tryd.prog
          rw [hAY] at q1
          have HY : Hid ((lnL [33, 32] tx).flatten = Y) := hY
          clear hY hAY hlY HLs
          clear HCn h1 e2 hz0
          go_upto_region 12 with fail
          have hmb : ((wr.alloc (.cells #[.int .u8 z, .string ⟨tx.toArray⟩] 91)).alloc (.cells #[.int .u8 z, .int .u8 32] 5)).heap[wr.heap.size]? = some (.cells #[.int .u8 z, .string ⟨tx.toArray⟩] 91) := (Lib.alloc_old _ _ _ (by simp)).trans (heap_alloc_new wr _)
          have hml : wr.heap.size < ((wr.alloc (.cells #[.int .u8 z, .string ⟨tx.toArray⟩] 91)).alloc (.cells #[.int .u8 z, .int .u8 32] 5)).heap.size := by simp; omega
          have hbc2 := hbc _ hvt
          generalize (wr.alloc (.cells #[.int .u8 z, .string ⟨tx.toArray⟩] 91)).alloc (.cells #[.int .u8 z, .int .u8 32] 5) = Wt at hBt hxt hvt hmb hml hbc2 ⊢
          generalize wr.heap.size = Mb at hmb hml ⊢
          obtain ⟨t0, t1, t2, t3, t4⟩ := hxt.cells
          go_wp2_with fail
          refine hbc2.mono ?_
          rintro e w2 ⟨rfl, hB2⟩
          have hm2 := (hB2.block Mb hml).trans hmb
          have m0 : w2.cell? ⟨Mb, 0, none⟩ = some (.int .u8 z) := (by rw [Lib.cell_of_heap hm2]; rfl)
          have m1 : w2.cell? ⟨Mb, 1, none⟩ = some (.string ⟨tx.toArray⟩) := (by rw [Lib.cell_of_heap hm2]; rfl)
          clear t0 t1 t2 t3 t4 hm2 c0 c1
          go_wp2_with fail
          refine (rLine_f [33, 32] tx _ (by decide) (by omega)).mono ?_
          rintro e wl ⟨rfl, rfl⟩
          rw [HY.out]
          go_wp2
          exact ⟨⟨k + 1, A2, true, by omega, by go_num, rfl, rfl, hBt.trans (hB2.mono hBt.size), HC2, HI3⟩, by simp [intOf]; omega⟩
        | false =>
          obtain ⟨Y, hY⟩ : ∃ Y, (lnL [UInt8.ofNat z.toNat, 32] tx).flatten = Y := ⟨_, rfl⟩
          have hAY : ac ++ Y = A2 := (by rw [← hY]; have h := HLs.out; rw [if_neg h1, if_pos rfl, if_neg (by decide)] at h; exact h)
          have hlY := congrArg List.length hAY
          rw [List.length_append] at hlY
          have q1 := add_fits (x := ac) (y := Y) (by unfold Fits; omega) Tryd.prog
          rw [hAY] at q1
          have HY : Hid ((lnL [UInt8.ofNat z.toNat, 32] tx).flatten = Y) := hY
          clear hY hAY hlY HLs
          clear HCn h1 e2 hz0
          go_upto_region 12 with fail
          have hmb : ((wr.alloc (.cells #[.int .u8 z, .string ⟨tx.toArray⟩] 91)).alloc (.cells #[.int .u8 z, .int .u8 32] 5)).heap[wr.heap.size]? = some (.cells #[.int .u8 z, .string ⟨tx.toArray⟩] 91) := (Lib.alloc_old _ _ _ (by simp)).trans (heap_alloc_new wr _)
          have hml : wr.heap.size < ((wr.alloc (.cells #[.int .u8 z, .string ⟨tx.toArray⟩] 91)).alloc (.cells #[.int .u8 z, .int .u8 32] 5)).heap.size := by simp; omega
          have hbc2 := hbc _ hvt
          generalize (wr.alloc (.cells #[.int .u8 z, .string ⟨tx.toArray⟩] 91)).alloc (.cells #[.int .u8 z, .int .u8 32] 5) = Wt at hBt hxt hvt hmb hml hbc2 ⊢
          generalize wr.heap.size = Mb at hmb hml ⊢
          obtain ⟨t0, t1, t2, t3, t4⟩ := hxt.cells
          go_wp2_with fail
          refine hbc2.mono ?_
          rintro e w2 ⟨rfl, hB2⟩
          have hm2 := (hB2.block Mb hml).trans hmb
          have m0 : w2.cell? ⟨Mb, 0, none⟩ = some (.int .u8 z) := (by rw [Lib.cell_of_heap hm2]; rfl)
          have m1 : w2.cell? ⟨Mb, 1, none⟩ = some (.string ⟨tx.toArray⟩) := (by rw [Lib.cell_of_heap hm2]; rfl)
          clear t0 t1 t2 t3 t4 hm2 c0 c1
          go_wp2_with fail
          refine (rLine_f [UInt8.ofNat z.toNat, 32] tx _ (by simp) (by omega)).mono ?_
          rintro e wl ⟨rfl, rfl⟩
          rw [HY.out]
          go_wp2
          exact ⟨⟨k + 1, A2, true, by omega, by go_num, rfl, rfl, hBt.trans (hB2.mono hBt.size), HC2, HI3⟩, by simp [intOf]; omega⟩
      · have e2 : (z != sg) = true := by simp [h2]
        have e3 : (z == sg) = false := beq_eq_false_iff_ne.2 h2
        have hAA : ac = A2 := (by have h := HLs.out; rw [if_neg h1, if_neg h2] at h; simpa using h)
        have HC2 : Hid (hasM sg (ls.take (k + 1)) = c) := (by show _ = _; rw [HCn.out, e3, Bool.or_false])
        subst hAA
        clear HCn hbc h1 h2 HLs
        go_wp2
        exact ⟨⟨k + 1, ac, c, by omega, by go_num, rfl, rfl, hBm, HC2, HI3⟩, by simp [intOf]; omega⟩
  · have hend : ¬ (k : Int) < (ls.length : Int) := by omega
    have HE : Hid ((if c = true then ac else []) = Z) := (by
      show _ = _
      have h := HI.out
      rw [List.drop_of_length_le (by omega)] at h
      have h1 : ac = Z2 := by rw [← h]; simp [fromS, sidL]
      have h2 := HCk.out
      rw [List.take_of_length_le (by omega), HFin.out.1] at h2
      rw [h1, ← h2]
      exact HFin.out.2)
    clear HI HCk HFin
    cases c with
    | true =>
      have HE2 : Hid (ac = Z) := (by have h := HE.out; rw [if_pos rfl] at h; exact h)
      go_wp2
      go_ret
      exact ⟨by rw [← HE2.out]; rfl, hBl.trans (hB.mono hBl.size)⟩
    | false =>
      have HE2 : Hid ([] = Z) := (by have h := HE.out; rw [if_neg (by decide)] at h; exact h)
      go_wp2
      go_ret
      exact ⟨by rw [← HE2.out]; rfl, hBl.trans (hB.mono hBl.size)⟩
end Go.Proofs.YtgiojkhmkeocfaaDoor
