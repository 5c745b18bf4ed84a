/-
  Texts that belong together, joined: HuC6.
-/
import Derived.Test.YtgiojkhmkeocfaaGreatDoorPartB13
import Derived.Test.YtgiojkhmkeocfaaGreatDoorPartG1

/- The code's Changes of layer 11, walked. -/
set_option maxRecDepth 20000
namespace Go.Proofs.YtgiojkhmkeocfaaGreatDoor
open Go.RowKit

theorem al_add {a b n : Int} {r : List Ch} (h : Afar a b r) : Afar (a + n) (b + n) r := by
  cases r with
  | nil => trivial
  | cons c r => simp only [Afar] at h ⊢; omega
theorem al_move {u v X Y : Int} {r : List Ch} (h : Afar u v r) (hx : X - u = Y - v) : Afar X Y r := by
  cases r with
  | nil => trivial
  | cons c r => simp only [Afar] at h ⊢; omega
theorem chk_lines {h : Hk} (hc : chkH h = 0) : allB h.ls = true ∧ ((pkL 43 h.ls).length : Int) = h.AN ∧ ((pkL 45 h.ls).length : Int) = h.BN := by
  have hr : rngB h = true := by
    cases hq : rngB h with
    | true => rfl
    | false => rw [chk_rng hq] at hc; cases hc
  have hf : fldB h.ls = true := by
    cases hq : fldB h.ls with
    | true => rfl
    | false => rw [chk_fld hr hq] at hc; cases hc
  refine ⟨?_, ?_, ?_⟩
  · have := fld_code h.ls
    rw [hf] at this
    simp only [Bool.true_eq, Bool.and_eq_true] at this
    exact this.1.1
  · by_cases hq : h.AN ≠ (oldL h).length
    · rw [chk_cnt hr hf (.inl hq)] at hc; cases hc
    · simp only [ne_eq, Decidable.not_not] at hq; exact hq.symm
  · by_cases hq : h.BN ≠ (newL h).length
    · rw [chk_cnt hr hf (.inr hq)] at hc; cases hc
    · simp only [ne_eq, Decidable.not_not] at hq; exact hq.symm
theorem pk_step {l : List Mk} {j : Nat} (hj : j < l.length) {sg : Int} {tx : List UInt8} (hm : l[j] = ⟨sg, tx⟩) (no : Int) : ((pkL no (l.drop j)).length : Int) = (if sg ≠ no ∧ okS sg = true then 1 else 0) + ((pkL no (l.drop (j + 1))).length : Int) := by
  rw [List.drop_eq_getElem_cons hj, hm]
  simp only [pkL]
  split <;> simp <;> omega
theorem all_at {l : List Mk} (h : allB l = true) {j : Nat} (hj : j < l.length) {sg : Int} {tx : List UInt8} (hm : l[j] = ⟨sg, tx⟩) : sg = 32 ∨ sg = 45 ∨ sg = 43 := by
  have := List.all_eq_true.1 h l[j] (List.getElem_mem hj)
  rw [hm] at this
  simp only [okS, Bool.or_eq_true, decide_eq_true_eq] at this
  omega

set_option maxRecDepth 10000 in
set_option maxHeartbeats 8000000 in
theorem hChanges_f (p : List (Hk × Value)) (v : Value) (w : World) (hv : HHp w v p) (hok : HOk p) (ht : tot (p.map (·.1)) ≤ 1099511627776) (z : Int) (HZ : Hid (ordH (p.map (·.1)) = z)) (R : List Ch) (HR : Hid (chR (p.map (·.1)) = R)) : Calls Tryz.prog 19 #[v] w fun e w' => ∃ v', e = .returned (.tuple #[v', .int .i64 z]) ∧ HCh w' v' R ∧ Below w.heap.size w w' := by
  obtain ⟨vo, vc, rfl⟩ := Holds.form hv.row
  have hpl : p.length ≤ 1099511627776 := hok.1
  have HOK : Hid (HOk p) := hok
  obtain ⟨l, hl⟩ : ∃ l, p.map (·.1) = l := ⟨_, rfl⟩
  have hll : p.length = l.length := by rw [← hl]; simp
  have HL : Hid (p.map (·.1) = l) := hl
  have HLL : Hid (p.length = l.length) := hll
  have hZ2 : Hid (ordH (p.map (·.1)) = z) := HZ
  rw [hl] at HR HZ ht
  clear hl hll hok
  go_enter Tryz.func19, Tryz.ntmps19
  go_wp2_with fail
  refine (hOrder_f p _ w hv HOK.out z hZ2).mono ?_
  rintro e W ⟨rfl, hBW⟩
  by_cases hz : z = 0
  · subst hz
    have HR2 : Hid ((chHs [] l).reverse = R) := (by
      show _ = _
      rw [← HR.out]
      unfold chR
      rw [if_pos HZ.out])
    have he0 : errs l = 0 := (by
      have h := HZ.out
      unfold ordH at h
      by_cases hq : errs l = 0
      · exact hq
      · rw [if_pos hq] at h
        exact h)
    have HCK : Hid (∀ x ∈ l, chkH x = 0) := errs_ok he0
    have HOB : Hid (ordB 0 0 l = true ∧ Afar 0 0 []) := (by
      have h := HZ.out
      rw [ord_ok he0] at h
      refine ⟨?_, trivial⟩
      by_cases hq : ordB 0 0 l = true
      · exact hq
      · rw [if_neg hq] at h
        cases h)
    have hS0 : Sc W (.slice none 0 0) [] (W.alloc (.cells #[.slice none 0 0] 25)) := ⟨(Below.refl _ W).alloc (Nat.le_refl _) _, _root_.Go.heap_alloc_new W _, hnil_row _ _ _ _⟩
    clear HR HZ hZ2 he0
    go_wp2
    generalize W.alloc (Obj.cells #[.slice none 0 0] 25) = W1 at *
    go_loopw [21] (fun iv wr => ∃ (k : Nat) (r : List Ch) (u v : Int) (ov : Value), k ≤ p.length ∧ iv = .int .i64 (k : Int) ∧ r.length + tot (l.drop k) ≤ 1099511627776 ∧ Hid (Hhd r) ∧ Sc W ov r wr ∧ Hid (ordB u v (l.drop k) = true ∧ Afar u v r) ∧ Hid ((chHs r (l.drop k)).reverse = R)) (fun iv _ => p.length - (intOf iv).toNat)
    case atStart => exact ⟨0, [], 0, 0, _, Nat.zero_le _, by go_num, by simpa using ht, trivial, hS0, HOB, HR2⟩
    case round =>
      obtain ⟨k, r, u, v, ov, hk, rfl, hrt, HHD, hS, HUV, HI⟩ := hrel
      clear HR2 HOB hS0
      have hB := hBW.trans (hS.low.mono hBW.size)
      by_cases hlt : k < p.length
      · obtain ⟨b, off, rfl, hb, _⟩ := hv.at (by omega)
        obtain ⟨x, y, hxy⟩ : ∃ x y, p[k] = (x, y) := ⟨_, _, rfl⟩
        obtain ⟨⟨c0, c1, c2, c3, c4⟩, hm⟩ := hv.take hB k hlt hxy
        have hbd := (HOK.out.2 _ (List.getElem_mem hlt)).1
        rw [hxy] at hbd
        have hlk : l[k]'(by have := HLL.out; omega) = x := by
          have hz : l[k]? = some x := by rw [← HL.out]; simp [hlt, hxy]
          exact (List.getElem?_eq_some_iff.1 hz).2
        have hck : chkH x = 0 := HCK.out x (by rw [← hlk]; exact List.getElem_mem _)
        have hdr : l.drop k = x :: l.drop (k + 1) := by rw [List.drop_eq_getElem_cons (l := l) (i := k) (by have := HLL.out; omega), hlk]
        have hn := chk_num hck
        have HCL : Hid (allB x.ls = true ∧ ((pkL 43 x.ls).length : Int) = x.AN ∧ ((pkL 45 x.ls).length : Int) = x.BN) := chk_lines hck
        obtain ⟨X, hX⟩ : ∃ X, atA x = X := ⟨_, rfl⟩
        obtain ⟨Y, hY⟩ : ∃ Y, atB x = Y := ⟨_, rfl⟩
        have ha := at_num hck
        rw [hX, hY] at ha
        have HX : Hid ((if 0 < x.AN then x.A - 1 else x.A) = X) := hX
        have HY : Hid ((if 0 < x.BN then x.B - 1 else x.B) = Y) := hY
        have HUV2 : Hid (ordB (X + x.AN) (Y + x.BN) (l.drop (k + 1)) = true ∧ Afar X Y r) := (by
          obtain ⟨h1, h2⟩ := HUV.out
          rw [hdr] at h1
          simp only [ordB, Bool.and_eq_true, decide_eq_true_eq] at h1
          rw [hX, hY] at h1
          exact ⟨h1.2, al_move h2 h1.1.2⟩)
        have HI2 : Hid ((chHs (chLs X Y r x.ls) (l.drop (k + 1))).reverse = R) := (by
          show _ = _
          rw [← HI.out, hdr]
          simp only [chHs]
          rw [hX, hY])
        have hrt2 : r.length + x.ls.length + tot (l.drop (k + 1)) ≤ 1099511627776 := by
          rw [hdr] at hrt
          simp only [tot] at hrt
          omega
        obtain ⟨yo, yc, rfl⟩ := hm.form
        have i1 : 0 ≤ (k : Int) := by omega
        have i2 : (k : Int) < (p.length : Int) := by omega
        obtain ⟨T, hT⟩ : ∃ T, tot (l.drop (k + 1)) = T := ⟨_, rfl⟩
        rw [hT] at hrt2
        have HT : Hid (tot (l.drop (k + 1)) = T) := hT
        dsimp only at hbd
        have hBx : Below wr.heap.size wr (wr.alloc (hkO x (.slice yo x.ls.length yc))) := (Below.refl _ wr).alloc (Nat.le_refl _) _
        have hx1 := Hx.new wr x (.slice yo x.ls.length yc)
        have hS1 := hS.alloc (hkO x (.slice yo x.ls.length yc))
        have hW : wr.alloc (Obj.cells #[Value.int IntKind.i64 x.A, Value.int IntKind.i64 x.AN, Value.int IntKind.i64 x.B, Value.int IntKind.i64 x.BN, .slice yo x.ls.length yc] 59) = wr.alloc (hkO x (.slice yo x.ls.length yc)) := rfl
        clear HI hlk hck hX hY hdr hrt hT HUV hS hm
        generalize wr.alloc (hkO x (.slice yo x.ls.length yc)) = w1 at *
        go_upto_region 9 with fail
        clear hW c0 c1 c2 c3 c4
        generalize hBX : wr.heap.size = BX at *
        have hxx : ∀ u : World, Low w1 u → Hx u BX x (.slice yo x.ls.length yc) := fun u hu => hx1.low hu
        have hlow : Low w1 (w1.drewN 1) := Below.dN (Below.refl _ w1) 1
        refine wp_region_noPanic ?_
        refine wp_region_held_drew (S := fun u => Low w1 u) (by kernel_rfl) hlow (fun hHeld => ?_)
        refine go_take 0 25 _ (.pointer (some ⟨BX, 0, none⟩)) rfl (by kernel_rfl) (by kernel_rfl) (by kernel_rfl) (by kernel_rfl) (fun _ _ _ h => h) (Or.inl ⟨by kernel_rfl, fun u hu => by kernel_rfl⟩) hHeld ?_
        simp only [Act.put, List.setIfInBounds_toArray, List.set_cons_zero, List.set_cons_succ]
        refine go_take 1 26 _ (.int .i64 x.A) rfl (by kernel_rfl) (by kernel_rfl) (by kernel_rfl) (by kernel_rfl) (fun _ _ _ h => h) (Or.inl ⟨by kernel_rfl, fun u hu => load_int (hxx u hu).cells.1 (.tmp 25) (by kernel_rfl) (by kernel_rfl)⟩) hHeld ?_
        simp only [Act.put, List.setIfInBounds_toArray, List.set_cons_zero, List.set_cons_succ]
        refine go_take 2 27 _ (.pointer (some ⟨BX, 1, none⟩)) rfl (by kernel_rfl) (by kernel_rfl) (by kernel_rfl) (by kernel_rfl) (fun _ _ _ h => h) (Or.inl ⟨by kernel_rfl, fun u hu => by kernel_rfl⟩) hHeld ?_
        simp only [Act.put, List.setIfInBounds_toArray, List.set_cons_zero, List.set_cons_succ]
        refine go_take 3 28 _ (.int .i64 x.AN) rfl (by kernel_rfl) (by kernel_rfl) (by kernel_rfl) (by kernel_rfl) (fun _ _ _ h => h) (Or.inl ⟨by kernel_rfl, fun u hu => load_int (hxx u hu).cells.2.1 (.tmp 27) (by kernel_rfl) (by kernel_rfl)⟩) hHeld ?_
        simp only [Act.put, List.setIfInBounds_toArray, List.set_cons_zero, List.set_cons_succ]
        refine go_take 5 30 _ (.pointer (some ⟨BX, 2, none⟩)) rfl (by kernel_rfl) (by kernel_rfl) (by kernel_rfl) (by kernel_rfl) (fun _ _ _ h => h) (Or.inl ⟨by kernel_rfl, fun u hu => by kernel_rfl⟩) hHeld ?_
        simp only [Act.put, List.setIfInBounds_toArray, List.set_cons_zero, List.set_cons_succ]
        refine go_take 6 31 _ (.int .i64 x.B) rfl (by kernel_rfl) (by kernel_rfl) (by kernel_rfl) (by kernel_rfl) (fun _ _ _ h => h) (Or.inl ⟨by kernel_rfl, fun u hu => load_int (hxx u hu).cells.2.2.1 (.tmp 30) (by kernel_rfl) (by kernel_rfl)⟩) hHeld ?_
        simp only [Act.put, List.setIfInBounds_toArray, List.set_cons_zero, List.set_cons_succ]
        refine go_take 7 32 _ (.pointer (some ⟨BX, 3, none⟩)) rfl (by kernel_rfl) (by kernel_rfl) (by kernel_rfl) (by kernel_rfl) (fun _ _ _ h => h) (Or.inl ⟨by kernel_rfl, fun u hu => by kernel_rfl⟩) hHeld ?_
        simp only [Act.put, List.setIfInBounds_toArray, List.set_cons_zero, List.set_cons_succ]
        refine go_take 8 33 _ (.int .i64 x.BN) rfl (by kernel_rfl) (by kernel_rfl) (by kernel_rfl) (by kernel_rfl) (fun _ _ _ h => h) (Or.inl ⟨by kernel_rfl, fun u hu => load_int (hxx u hu).cells.2.2.2.1 (.tmp 32) (by kernel_rfl) (by kernel_rfl)⟩) hHeld ?_
        simp only [Act.put, List.setIfInBounds_toArray, List.set_cons_zero, List.set_cons_succ]
        refine go_callH 4 29 _ rfl (by kernel_rfl) (by kernel_rfl) (by kernel_rfl) 49 #[.tmp 26, .tmp 28] #[3, 3] (by kernel_rfl) #[.int .i64 x.A, .int .i64 x.AN] (by kernel_rfl) (enters_of Tryz.func49 (by kernel_rfl) rfl) (.int .i64 X) ((hplaceOf_f x.A x.AN _ (by omega) (by omega) X HX).mono (fun _ _ h => ⟨h.1, by rw [h.2]; exact hHeld⟩)) ?_
        intro w1 hHeld
        simp only [Act.put, List.setIfInBounds_toArray, List.set_cons_zero, List.set_cons_succ]
        refine go_callH 9 34 _ rfl (by kernel_rfl) (by kernel_rfl) (by kernel_rfl) 49 #[.tmp 31, .tmp 33] #[3, 3] (by kernel_rfl) #[.int .i64 x.B, .int .i64 x.BN] (by kernel_rfl) (enters_of Tryz.func49 (by kernel_rfl) rfl) (.int .i64 Y) ((hplaceOf_f x.B x.BN _ (by omega) (by omega) Y HY).mono (fun _ _ h => ⟨h.1, by rw [h.2]; exact hHeld⟩)) ?_
        intro w2 hHeld
        simp only [Act.put, List.setIfInBounds_toArray, List.set_cons_zero, List.set_cons_succ]
        refine go_take 10 9 _ (.int .i64 X) rfl (by kernel_rfl) (by kernel_rfl) (by kernel_rfl) (by kernel_rfl) (fun _ _ _ h => h) (Or.inl ⟨by kernel_rfl, fun u hu => by kernel_rfl⟩) hHeld ?_
        simp only [Act.put, List.setIfInBounds_toArray, List.set_cons_zero, List.set_cons_succ]
        refine go_take 11 10 _ (.int .i64 Y) rfl (by kernel_rfl) (by kernel_rfl) (by kernel_rfl) (by kernel_rfl) (fun _ _ _ h => h) (Or.inl ⟨by kernel_rfl, fun u hu => by kernel_rfl⟩) hHeld ?_
        simp only [Act.put, List.setIfInBounds_toArray, List.set_cons_zero, List.set_cons_succ]
        refine wpAnyH_done (by kernel_rfl) ?_ _
        refine NoPanic.normal ?_
        obtain ⟨d0, d1, d2, d3, d4⟩ := (hxx w2 hHeld).cells
        have hS2 := hS1.keep hHeld
        generalize w2 = w4 at *
        clear hS1 HX HY hB
        go_wp2
        clear d0 d1 d2 d3 d4
        go_loopw [9, 10, 38] (fun av bv jv wr => ∃ (j : Nat) (a b : Int) (r : List Ch) (ov : Value), j ≤ x.ls.length ∧ av = .int .i64 a ∧ bv = .int .i64 b ∧ jv = .int .i64 (j : Int) ∧ (-1 ≤ a ∧ a ≤ 2147483647 + (j : Int)) ∧ (-1 ≤ b ∧ b ≤ 2147483647 + (j : Int)) ∧ r.length + (x.ls.length - j) + T ≤ 1099511627776 ∧ Hid (Hhd r) ∧ Sc W ov r wr ∧ Hid (Afar a b r) ∧ Hid (a + ((pkL 43 (x.ls.drop j)).length : Int) = X + x.AN ∧ b + ((pkL 45 (x.ls.drop j)).length : Int) = Y + x.BN) ∧ Hid ((chHs (chLs a b r (x.ls.drop j)) (l.drop (k + 1))).reverse = R)) (fun _ _ jv _ => x.ls.length - (intOf jv).toNat)
        case atStart => exact ⟨0, X, Y, r, ov, Nat.zero_le _, by go_num, by go_num, by go_num, by omega, by omega, by omega, HHD, hS2, HUV2.out.2, ⟨by rw [List.drop_zero, HCL.out.2.1], by rw [List.drop_zero, HCL.out.2.2]⟩, HI2⟩
        case round =>
          obtain ⟨j, a, bb, r, ov, hj, rfl, rfl, rfl, hab, hbb, hrt, HHD, hS, HAL, HPK, HI⟩ := hrel
          clear HI2 hrt2 hS2
          have hB := hBW.trans (hS.low.mono hBW.size)
          have hmr := (hv.take hB k hlt hxy).2
          by_cases hjl : j < x.ls.length
          · obtain ⟨mb, mo, rfl, _, hmc⟩ := HMk.at hmr (by omega)
            obtain ⟨m, hmj⟩ : ∃ m, x.ls[j] = m := ⟨_, rfl⟩
            obtain ⟨c0, c1⟩ := hmc j hjl
            rw [hmj] at c0 c1
            obtain ⟨sg, tx⟩ := m
            dsimp only at c0 c1
            have hsg := all_at HCL.out.1 hjl hmj
            have HP1 := pk_step hjl hmj 43
            have HP2 := pk_step hjl hmj 45
            have HPK2 : Hid (a + ((if sg ≠ 43 ∧ okS sg = true then 1 else 0) + ((pkL 43 (x.ls.drop (j + 1))).length : Int)) = X + x.AN ∧ bb + ((if sg ≠ 45 ∧ okS sg = true then 1 else 0) + ((pkL 45 (x.ls.drop (j + 1))).length : Int)) = Y + x.BN) := (by
              have h := HPK.out
              rw [HP1, HP2] at h
              exact h)
            have HI3 : Hid ((chHs (if sg = 32 then chLs (a + 1) (bb + 1) r (x.ls.drop (j + 1)) else if sg = 45 then chLs (a + 1) bb (bmA (opn a bb r)) (x.ls.drop (j + 1)) else chLs a (bb + 1) (bmB (opn a bb r)) (x.ls.drop (j + 1))) (l.drop (k + 1))).reverse = R) := (by
              show _ = _
              rw [← HI.out, List.drop_eq_getElem_cons hjl, hmj]
              rfl)
            have j1 : 0 ≤ (j : Int) := by omega
            have j2 : (j : Int) < (x.ls.length : Int) := by omega
            obtain ⟨m0, m1⟩ := (Mx.new wr ⟨sg, tx⟩).cells
            have hSm := hS.alloc (mkO ⟨sg, tx⟩)
            have hW : wr.alloc (Obj.cells #[Value.int IntKind.u8 sg, Value.string ⟨tx.toArray⟩] 103) = wr.alloc (mkO ⟨sg, tx⟩) := rfl
            dsimp only at m0 m1
            clear HI hmj hmc hmr HP1 HP2 HPK hS
            generalize wr.alloc (mkO ⟨sg, tx⟩) = wm at *
            rcases hsg with rfl | rfl | rfl
            · have HI4 : Hid ((chHs (chLs (a + 1) (bb + 1) r (x.ls.drop (j + 1))) (l.drop (k + 1))).reverse = R) := (by
                have h := HI3.out
                rw [if_pos rfl] at h
                exact h)
              have HPK3 : Hid (a + 1 + ((pkL 43 (x.ls.drop (j + 1))).length : Int) = X + x.AN ∧ bb + 1 + ((pkL 45 (x.ls.drop (j + 1))).length : Int) = Y + x.BN) := (by
                have h := HPK2.out
                rw [if_pos (by decide), if_pos (by decide)] at h
                refine ⟨?_, ?_⟩ <;> omega)
              clear HI3 HPK2
              go_wp2
              exact ⟨⟨j + 1, _, _, r, ov, by omega, by go_num, by go_num, by go_num, by omega, by omega, by omega, HHD, hSm, al_add HAL.out, HPK3, HI4⟩, by simp [intOf]; omega⟩
            · obtain ⟨c, t, hop, hcA, hcB⟩ := opn_head a bb r
              have HOP : Hid (opn a bb r = c :: t) := hop
              have hd : (-1 ≤ c.A ∧ 0 ≤ c.AN) ∧ -1 ≤ c.B ∧ 0 ≤ c.BN := (by
                have h1 := HHD.out
                unfold opn at hop
                by_cases hq : endsAt a bb r = true
                · rw [if_pos hq] at hop
                  rw [hop] at h1
                  simp only [Hhd] at h1
                  omega
                · rw [if_neg hq] at hop
                  cases hop
                  dsimp only
                  omega)
              have hlen : t.length ≤ r.length := (by
                unfold opn at hop
                by_cases hq : endsAt a bb r = true
                · rw [if_pos hq] at hop
                  rw [hop]
                  simp
                · rw [if_neg hq] at hop
                  cases hop
                  exact Nat.le_refl _)
              obtain ⟨cA, cAN, cB, cBN⟩ := c
              dsimp only at hd hcA hcB
              have HI4 : Hid ((chHs (chLs (a + 1) (bb) (⟨cA, cAN + 1, cB, cBN⟩ :: t) (x.ls.drop (j + 1))) (l.drop (k + 1))).reverse = R) := (by
                have h := HI3.out
                rw [if_neg (by decide), if_pos rfl, hop] at h
                exact h)
              have HPK3 : Hid (a + 1 + ((pkL 43 (x.ls.drop (j + 1))).length : Int) = X + x.AN ∧ bb + ((pkL 45 (x.ls.drop (j + 1))).length : Int) = Y + x.BN) := (by
                have h := HPK2.out
                rw [if_pos (by decide), if_neg (by decide)] at h
                refine ⟨?_, ?_⟩ <;> omega)
              have HCC : Hid (cA + cAN = a ∧ cB + cBN = bb) := ⟨hcA, hcB⟩
              clear HI3 HPK2 hop hcA hcB
              go_wp2_with fail
              refine (hAt_f a bb W wm ov r t ⟨cA, cAN, cB, cBN⟩ hSm (by omega) (by omega) (by omega) HHD HAL HOP).mono ?_
              rintro e wz ⟨g, oc, rfl, hS3⟩
              obtain ⟨q0, q1, q2, q3⟩ := bch_at ⟨cA, cAN, cB, cBN⟩ t
              have hown := hS3.own
              rw [List.length_cons] at hown
              have d1 := (hown.cellAt (t.length * 4 + 1) (by omega)).trans q1
              have f1 := hown.frozenAt (t.length * 4 + 1)
              have hst := hown.stored (t.length * 4 + 1) (.int .i64 (cAN + 1))
              rw [bch_setA] at hst
              have hS4 := hS3.put (g := g) rfl hst.1 hst.2
              dsimp only at d1
              have hcc := HCC.out
              clear q0 q1 q2 q3 hst hown HOP hS3 HCC
              go_wp2
              exact ⟨⟨j + 1, _, _, ⟨cA, cAN + 1, cB, cBN⟩ :: t, _, by omega, by go_num, by go_num, by go_num, by omega, by omega, by simp only [List.length_cons]; omega, by simp only [Hhd]; show _ ∧ _; omega, hS4, by show _ = _; dsimp only; omega, HPK3, HI4⟩, by simp [intOf]; omega⟩
            · obtain ⟨c, t, hop, hcA, hcB⟩ := opn_head a bb r
              have HOP : Hid (opn a bb r = c :: t) := hop
              have hd : (-1 ≤ c.A ∧ 0 ≤ c.AN) ∧ -1 ≤ c.B ∧ 0 ≤ c.BN := (by
                have h1 := HHD.out
                unfold opn at hop
                by_cases hq : endsAt a bb r = true
                · rw [if_pos hq] at hop
                  rw [hop] at h1
                  simp only [Hhd] at h1
                  omega
                · rw [if_neg hq] at hop
                  cases hop
                  dsimp only
                  omega)
              have hlen : t.length ≤ r.length := (by
                unfold opn at hop
                by_cases hq : endsAt a bb r = true
                · rw [if_pos hq] at hop
                  rw [hop]
                  simp
                · rw [if_neg hq] at hop
                  cases hop
                  exact Nat.le_refl _)
              obtain ⟨cA, cAN, cB, cBN⟩ := c
              dsimp only at hd hcA hcB
              have HI4 : Hid ((chHs (chLs (a) (bb + 1) (⟨cA, cAN, cB, cBN + 1⟩ :: t) (x.ls.drop (j + 1))) (l.drop (k + 1))).reverse = R) := (by
                have h := HI3.out
                rw [if_neg (by decide), if_neg (by decide), hop] at h
                exact h)
              have HPK3 : Hid (a + ((pkL 43 (x.ls.drop (j + 1))).length : Int) = X + x.AN ∧ bb + 1 + ((pkL 45 (x.ls.drop (j + 1))).length : Int) = Y + x.BN) := (by
                have h := HPK2.out
                rw [if_neg (by decide), if_pos (by decide)] at h
                refine ⟨?_, ?_⟩ <;> omega)
              have HCC : Hid (cA + cAN = a ∧ cB + cBN = bb) := ⟨hcA, hcB⟩
              clear HI3 HPK2 hop hcA hcB
              go_wp2_with fail
              refine (hAt_f a bb W wm ov r t ⟨cA, cAN, cB, cBN⟩ hSm (by omega) (by omega) (by omega) HHD HAL HOP).mono ?_
              rintro e wz ⟨g, oc, rfl, hS3⟩
              obtain ⟨q0, q1, q2, q3⟩ := bch_at ⟨cA, cAN, cB, cBN⟩ t
              have hown := hS3.own
              rw [List.length_cons] at hown
              have d1 := (hown.cellAt (t.length * 4 + 3) (by omega)).trans q3
              have f1 := hown.frozenAt (t.length * 4 + 3)
              have hst := hown.stored (t.length * 4 + 3) (.int .i64 (cBN + 1))
              rw [bch_setB] at hst
              have hS4 := hS3.put (g := g) rfl hst.1 hst.2
              dsimp only at d1
              have hcc := HCC.out
              clear q0 q1 q2 q3 hst hown HOP hS3 HCC
              go_wp2
              exact ⟨⟨j + 1, _, _, ⟨cA, cAN, cB, cBN + 1⟩ :: t, _, by omega, by go_num, by go_num, by go_num, by omega, by omega, by simp only [List.length_cons]; omega, by simp only [Hhd]; show _ ∧ _; omega, hS4, by show _ = _; dsimp only; omega, HPK3, HI4⟩, by simp [intOf]; omega⟩
          · have HI3 : Hid ((chHs r (l.drop (k + 1))).reverse = R) := (by
              have h := HI.out
              rw [List.drop_of_length_le (by omega)] at h
              exact h)
            have HUV3 : Hid (ordB (X + x.AN) (Y + x.BN) (l.drop (k + 1)) = true ∧ Afar (X + x.AN) (Y + x.BN) r) := (by
              have h := HPK.out
              rw [List.drop_of_length_le (by omega)] at h
              simp [pkL] at h
              refine ⟨HUV2.out.1, ?_⟩
              rw [← h.1, ← h.2]
              exact HAL.out)
            have hend : decide ((j : Int) < (x.ls.length : Int)) = false := decide_eq_false (by omega)
            clear HI HPK HAL
            go_wp2
            exact ⟨⟨k + 1, r, _, _, ov, by omega, by go_num, by have := HT.out; omega, HHD, hS, HUV3, HI3⟩, by simp [intOf]; omega⟩
      · have HI3 : Hid (r.reverse = R) := (by
          have h := HI.out
          rw [List.drop_of_length_le (by have := HLL.out; omega)] at h
          exact h)
        have hend : decide ((k : Int) < (p.length : Int)) = false := decide_eq_false (by omega)
        obtain ⟨oo, oc, rfl⟩ := hS.form
        have hbx := hS.cell
        clear HI
        go_wp2
        go_ret2
        refine ⟨_, rfl, ?_, hB⟩
        have h := holds_of hS.own
        rw [← HI3.out]
        unfold HCh
        rw [List.length_reverse]
        exact h
  · have hz1 : (z != 0) = true := by simpa using hz
    obtain rfl : R = [] := by
      rw [← HR.out]
      unfold chR
      rw [if_neg (by rw [HZ.out]; exact hz)]
    clear HR HZ hZ2 hz
    go_wp2
    go_ret2
    exact ⟨_, rfl, Holds.nil _, hBW⟩
end Go.Proofs.YtgiojkhmkeocfaaGreatDoor
