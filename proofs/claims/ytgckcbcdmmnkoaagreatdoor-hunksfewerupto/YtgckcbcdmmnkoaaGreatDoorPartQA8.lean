/-
  Texts that belong together, joined: HuC3, HuLw, HuWk, HuM6, PaMath, MiMath, EdMk, MiLen.
-/
import Derived.Test.YtgckcbcdmmnkoaaGreatDoorPartQA7
import Derived.Test.YtgckcbcdmmnkoaaGreatDoorPartQA4
import Derived.Test.YtgckcbcdmmnkoaaGreatDoorPartQA5
import Derived.Test.YtgckcbcdmmnkoaaGreatDoorPartQA3
import Derived.Deep.CutRange

/- The code's Order of layer 11, walked. -/
set_option maxRecDepth 20000
namespace Go.Proofs.YtgckcbcdmmnkoaaGreatDoor
open Go.RowKit

set_option maxRecDepth 10000 in
set_option maxHeartbeats 4000000 in
theorem hOrder_f (p : List (Hk × Value)) (v : Value) (w : World) (hv : HHp w v p) (hok : HOk p) (r : Int) (HR : Hid (ordH (p.map (·.1)) = r)) : Calls Tryz.prog 17 #[v] w fun e w' => e = .returned (.int .i64 r) ∧ Below w.heap.size w w' := by
  obtain ⟨vo, vc, rfl⟩ := Holds.form hv.row
  have hpl : p.length ≤ 1099511627776 := hok.1
  have HOK : Hid (HOk p) := hok
  obtain ⟨l, hl⟩ : ∃ l, p.map (·.1) = l := ⟨_, rfl⟩
  have hll : p.length = l.length := by rw [← hl]; simp
  have HL : Hid (p.map (·.1) = l) := hl
  have HLL : Hid (p.length = l.length) := hll
  rw [hl] at HR
  clear hl hll hok
  go_enter Tryz.func17, Tryz.ntmps17
  go_wp2
  go_loopw [14] (fun iv wr => ∃ (k : Nat), k ≤ p.length ∧ iv = .int .i64 (k : Int) ∧ Below w.heap.size w wr ∧ Hid (errs l = errs (l.drop k))) (fun iv _ => p.length - (intOf iv).toNat)
  case atStart => exact ⟨0, Nat.zero_le _, by go_num, Below.refl _ _, rfl⟩
  case round =>
    obtain ⟨k, hk, rfl, hB, HI⟩ := hrel
    by_cases hlt : k < p.length
    · obtain ⟨b, off, rfl, hb, _⟩ := hv.at (by omega)
      obtain ⟨x, y, hxy⟩ : ∃ x y, p[k] = (x, y) := ⟨_, _, rfl⟩
      obtain ⟨⟨c0, c1, c2, c3, c4⟩, hm⟩ := hv.take hB k hlt hxy
      have hmem : (x, y) ∈ p := by rw [← hxy]; exact List.getElem_mem hlt
      have hbd := HOK.out.2 _ hmem
      have hlk : l[k]'(by have := HLL.out; omega) = x := by
        have hz : l[k]? = some x := by rw [← HL.out]; simp [hlt, hxy]
        exact (List.getElem?_eq_some_iff.1 hz).2
      have HI2 : Hid (errs l = if chkH x ≠ 0 then chkH x else errs (l.drop (k + 1))) := (by
        show _ = _
        rw [HI.out, errs_drop (by have := HLL.out; omega), hlk])
      obtain ⟨yo, yc, rfl⟩ := hm.form
      have i1 : 0 ≤ (k : Int) := by omega
      have i2 : (k : Int) < (p.length : Int) := by omega
      obtain ⟨z, hz⟩ : ∃ z, chkH x = z := ⟨_, rfl⟩
      have HZ : Hid (chkH x = z) := hz
      have hBx : Below wr.heap.size wr (wr.alloc (hkO x (.slice yo x.ls.length yc))) := (Below.refl _ wr).alloc (Nat.le_refl _) _
      have hm1 := HMk.keep hm hBx (Nat.le_refl _)
      have hB1 := hB.trans (hBx.mono hB.size)
      obtain ⟨x0, x1, x2, x3, x4⟩ := (Hx.new wr x (.slice yo x.ls.length yc)).cells
      have hW : wr.alloc (Obj.cells #[Value.int IntKind.i64 x.A, Value.int IntKind.i64 x.AN, Value.int IntKind.i64 x.B, Value.int IntKind.i64 x.BN, .slice yo x.ls.length yc] 39) = wr.alloc (hkO x (.slice yo x.ls.length yc)) := rfl
      clear HI hlk hz hxy hmem
      generalize wr.alloc (hkO x (.slice yo x.ls.length yc)) = w1 at *
      go_wp2_with fail
      refine (hCheck_f x _ _ hm1 hbd.1 hbd.2 z HZ).mono ?_
      rintro e w2 ⟨rfl, hB2⟩
      have hB02 := hB1.trans (hB2.mono hB1.size)
      by_cases hz0 : z = 0
      · subst hz0
        have HI3 : Hid (errs l = errs (l.drop (k + 1))) := (by
          show _ = _
          rw [HI2.out, HZ.out]
          simp)
        clear HI2 HZ
        go_wp2
        exact ⟨⟨k + 1, by omega, by go_num, hB02, HI3⟩, by simp [intOf]; omega⟩
      · have hz1 : (z != 0) = true := by simpa using hz0
        have HE : Hid (r = z) := (by
          have h1 : errs l = z := by rw [HI2.out, HZ.out, if_pos hz0]
          show _ = _
          rw [← HR.out]
          exact ord_err h1 hz0)
        clear HI2 HZ HR
        go_wp2
        go_ret
        exact ⟨ret_int HE.out.symm, hB02⟩
    · have HE0 : Hid (errs l = 0) := (by
        show _ = _
        rw [HI.out, List.drop_of_length_le (by have := HLL.out; omega)]
        rfl)
      have HE : Hid ((if ordB 0 0 l = true then (0 : Int) else 121) = r) := (by
        show _ = _
        rw [← HR.out]
        exact (ord_ok HE0.out).symm)
      have hend : decide ((k : Int) < (p.length : Int)) = false := decide_eq_false (by omega)
      clear HI HR
      go_wp2
      go_loopw [6, 7, 26] (fun uv vv iv wr => ∃ (k : Nat) (u v : Int), k ≤ p.length ∧ uv = .int .i64 u ∧ vv = .int .i64 v ∧ iv = .int .i64 (k : Int) ∧ (-1 ≤ u ∧ u ≤ 8589934592) ∧ (-1 ≤ v ∧ v ≤ 8589934592) ∧ Below w.heap.size w wr ∧ Hid ((if ordB u v (l.drop k) = true then (0 : Int) else 121) = r)) (fun _ _ iv _ => p.length - (intOf iv).toNat)
      case atStart => exact ⟨0, 0, 0, Nat.zero_le _, by go_num, by go_num, by go_num, by omega, by omega, hB, HE⟩
      case round =>
        obtain ⟨k, u, v, hk, rfl, rfl, rfl, hu, hv', hB, HI⟩ := hrel
        by_cases hlt : k < p.length
        · obtain ⟨b, off, rfl, hb, _⟩ := hv.at (by omega)
          obtain ⟨x, y, hxy⟩ : ∃ x y, p[k] = (x, y) := ⟨_, _, rfl⟩
          obtain ⟨⟨c0, c1, c2, c3, c4⟩, hm⟩ := hv.take hB k hlt hxy
          have hlk : l[k]'(by have := HLL.out; omega) = x := by
            have hz : l[k]? = some x := by rw [← HL.out]; simp [hlt, hxy]
            exact (List.getElem?_eq_some_iff.1 hz).2
          have hck : chkH x = 0 := errs_ok HE0.out x (by rw [← hlk]; exact List.getElem_mem _)
          have hn := chk_num hck
          obtain ⟨X, hX⟩ : ∃ X, atA x = X := ⟨_, rfl⟩
          obtain ⟨Y, hY⟩ : ∃ Y, atB x = Y := ⟨_, rfl⟩
          have ha := at_num hck
          rw [hX, hY] at ha
          have HX : Hid ((if 0 < x.AN then x.A - 1 else x.A) = X) := hX
          have HY : Hid ((if 0 < x.BN then x.B - 1 else x.B) = Y) := hY
          obtain ⟨yo, yc, rfl⟩ := hm.form
          have i1 : 0 ≤ (k : Int) := by omega
          have i2 : (k : Int) < (p.length : Int) := by omega
          have HI2 : Hid ((if (decide (u ≤ X) && decide (X - u = Y - v) && ordB (X + x.AN) (Y + x.BN) (l.drop (k + 1))) = true then (0 : Int) else 121) = r) := (by
            show _ = _
            have e : ordB u v (x :: l.drop (k + 1)) = (decide (u ≤ X) && decide (X - u = Y - v) && ordB (X + x.AN) (Y + x.BN) (l.drop (k + 1))) := by
              simp only [ordB]
              rw [hX, hY]
            rw [← HI.out, List.drop_eq_getElem_cons (l := l) (i := k) (by have := HLL.out; omega), hlk, e])
          have hBx : Below wr.heap.size wr (wr.alloc (hkO x (.slice yo x.ls.length yc))) := (Below.refl _ wr).alloc (Nat.le_refl _) _
          have hB1 := hB.trans (hBx.mono hB.size)
          have hx1 := Hx.new wr x (.slice yo x.ls.length yc)
          have hW : wr.alloc (Obj.cells #[Value.int IntKind.i64 x.A, Value.int IntKind.i64 x.AN, Value.int IntKind.i64 x.B, Value.int IntKind.i64 x.BN, .slice yo x.ls.length yc] 39) = wr.alloc (hkO x (.slice yo x.ls.length yc)) := rfl
          clear HI hlk hck hxy hX hY HE
          generalize wr.alloc (hkO x (.slice yo x.ls.length yc)) = w1 at *
          go_upto_region 12 with fail
          clear hW c0 c1 c2 c3 c4
          generalize hBX : wr.heap.size = BX at *
          have hxx : ∀ u : World, Low w1 u → Hx u BX x (.slice yo x.ls.length yc) := fun u hu => hx1.low hu
          have hlow : Low w1 (w1.drewN 1) := Below.dN (Below.refl _ w1) 1
          refine wp_region_noPanic ?_
          refine wp_region_held_drew (S := fun u => Low w1 u) (by kernel_rfl) hlow (fun hHeld => ?_)
          refine go_take 0 30 _ (.pointer (some ⟨BX, 0, none⟩)) rfl (by kernel_rfl) (by kernel_rfl) (by kernel_rfl) (by kernel_rfl) (fun _ _ _ h => h) (Or.inl ⟨by kernel_rfl, fun u hu => by kernel_rfl⟩) hHeld ?_
          simp only [Act.put, List.setIfInBounds_toArray, List.set_cons_zero, List.set_cons_succ]
          refine go_take 1 31 _ (.int .i64 x.A) rfl (by kernel_rfl) (by kernel_rfl) (by kernel_rfl) (by kernel_rfl) (fun _ _ _ h => h) (Or.inl ⟨by kernel_rfl, fun u hu => load_int (hxx u hu).cells.1 (.tmp 30) (by kernel_rfl) (by kernel_rfl)⟩) hHeld ?_
          simp only [Act.put, List.setIfInBounds_toArray, List.set_cons_zero, List.set_cons_succ]
          refine go_take 2 32 _ (.pointer (some ⟨BX, 1, none⟩)) rfl (by kernel_rfl) (by kernel_rfl) (by kernel_rfl) (by kernel_rfl) (fun _ _ _ h => h) (Or.inl ⟨by kernel_rfl, fun u hu => by kernel_rfl⟩) hHeld ?_
          simp only [Act.put, List.setIfInBounds_toArray, List.set_cons_zero, List.set_cons_succ]
          refine go_take 3 33 _ (.int .i64 x.AN) rfl (by kernel_rfl) (by kernel_rfl) (by kernel_rfl) (by kernel_rfl) (fun _ _ _ h => h) (Or.inl ⟨by kernel_rfl, fun u hu => load_int (hxx u hu).cells.2.1 (.tmp 32) (by kernel_rfl) (by kernel_rfl)⟩) hHeld ?_
          simp only [Act.put, List.setIfInBounds_toArray, List.set_cons_zero, List.set_cons_succ]
          refine go_take 5 35 _ (.pointer (some ⟨BX, 2, none⟩)) rfl (by kernel_rfl) (by kernel_rfl) (by kernel_rfl) (by kernel_rfl) (fun _ _ _ h => h) (Or.inl ⟨by kernel_rfl, fun u hu => by kernel_rfl⟩) hHeld ?_
          simp only [Act.put, List.setIfInBounds_toArray, List.set_cons_zero, List.set_cons_succ]
          refine go_take 6 36 _ (.int .i64 x.B) rfl (by kernel_rfl) (by kernel_rfl) (by kernel_rfl) (by kernel_rfl) (fun _ _ _ h => h) (Or.inl ⟨by kernel_rfl, fun u hu => load_int (hxx u hu).cells.2.2.1 (.tmp 35) (by kernel_rfl) (by kernel_rfl)⟩) hHeld ?_
          simp only [Act.put, List.setIfInBounds_toArray, List.set_cons_zero, List.set_cons_succ]
          refine go_take 7 37 _ (.pointer (some ⟨BX, 3, none⟩)) rfl (by kernel_rfl) (by kernel_rfl) (by kernel_rfl) (by kernel_rfl) (fun _ _ _ h => h) (Or.inl ⟨by kernel_rfl, fun u hu => by kernel_rfl⟩) hHeld ?_
          simp only [Act.put, List.setIfInBounds_toArray, List.set_cons_zero, List.set_cons_succ]
          refine go_take 8 38 _ (.int .i64 x.BN) rfl (by kernel_rfl) (by kernel_rfl) (by kernel_rfl) (by kernel_rfl) (fun _ _ _ h => h) (Or.inl ⟨by kernel_rfl, fun u hu => load_int (hxx u hu).cells.2.2.2.1 (.tmp 37) (by kernel_rfl) (by kernel_rfl)⟩) hHeld ?_
          simp only [Act.put, List.setIfInBounds_toArray, List.set_cons_zero, List.set_cons_succ]
          refine go_callH 4 34 _ rfl (by kernel_rfl) (by kernel_rfl) (by kernel_rfl) 31 #[.tmp 31, .tmp 33] #[3, 3] (by kernel_rfl) #[.int .i64 x.A, .int .i64 x.AN] (by kernel_rfl) (enters_of Tryz.func31 (by kernel_rfl) rfl) (.int .i64 X) ((hplaceOf_f x.A x.AN _ (by omega) (by omega) X HX).mono (fun _ _ h => ⟨h.1, by rw [h.2]; exact hHeld⟩)) ?_
          intro w1 hHeld
          simp only [Act.put, List.setIfInBounds_toArray, List.set_cons_zero, List.set_cons_succ]
          refine go_callH 9 39 _ rfl (by kernel_rfl) (by kernel_rfl) (by kernel_rfl) 31 #[.tmp 36, .tmp 38] #[3, 3] (by kernel_rfl) #[.int .i64 x.B, .int .i64 x.BN] (by kernel_rfl) (enters_of Tryz.func31 (by kernel_rfl) rfl) (.int .i64 Y) ((hplaceOf_f x.B x.BN _ (by omega) (by omega) Y HY).mono (fun _ _ h => ⟨h.1, by rw [h.2]; exact hHeld⟩)) ?_
          intro w2 hHeld
          simp only [Act.put, List.setIfInBounds_toArray, List.set_cons_zero, List.set_cons_succ]
          refine go_take 10 10 _ (.int .i64 X) rfl (by kernel_rfl) (by kernel_rfl) (by kernel_rfl) (by kernel_rfl) (fun _ _ _ h => h) (Or.inl ⟨by kernel_rfl, fun u hu => by kernel_rfl⟩) hHeld ?_
          simp only [Act.put, List.setIfInBounds_toArray, List.set_cons_zero, List.set_cons_succ]
          refine go_take 11 11 _ (.int .i64 Y) rfl (by kernel_rfl) (by kernel_rfl) (by kernel_rfl) (by kernel_rfl) (fun _ _ _ h => h) (Or.inl ⟨by kernel_rfl, fun u hu => by kernel_rfl⟩) hHeld ?_
          simp only [Act.put, List.setIfInBounds_toArray, List.set_cons_zero, List.set_cons_succ]
          refine wpAnyH_done (by kernel_rfl) ?_ _
          refine NoPanic.normal ?_
          obtain ⟨d0, d1, d2, d3, d4⟩ := (hxx w2 hHeld).cells
          have hB01 := hB1.trans (Below.mono hHeld hB1.size)
          generalize w2 = w4 at *
          by_cases h1 : X < u
          · have HE3 : Hid (r = 121) := (by
              show _ = _
              rw [← HI2.out]
              simp [show ¬ u ≤ X by omega])
            clear HI2 HX HY
            go_wp2
            go_ret
            exact ⟨ret_int HE3.out.symm, hB01⟩
          · have h1' : decide (X < u) = false := decide_eq_false h1
            by_cases h2 : X - u = Y - v
            · have h2' : (X - u != Y - v) = false := by simpa using h2
              have HI3 : Hid ((if ordB (X + x.AN) (Y + x.BN) (l.drop (k + 1)) = true then (0 : Int) else 121) = r) := (by
                show _ = _
                rw [← HI2.out]
                simp [show u ≤ X by omega, h2])
              clear HI2 HX HY h2
              go_upto_region 15 with fail
              go_quiet (fail)
              go_wp2
              exact ⟨⟨k + 1, X + x.AN, Y + x.BN, by omega, by go_num, by go_num, by go_num, by omega, by omega, Below.dN hB01 _, HI3⟩, by simp [intOf]; omega⟩
            · have h2' : (X - u != Y - v) = true := by simpa using h2
              have HE3 : Hid (r = 121) := (by
                show _ = _
                rw [← HI2.out]
                simp [h2])
              clear HI2 HX HY h2
              go_wp2
              go_ret
              exact ⟨ret_int HE3.out.symm, hB01⟩
        · have HE3 : Hid (r = 0) := (by
            show _ = _
            rw [← HI.out, List.drop_of_length_le (by have := HLL.out; omega)]
            rfl)
          have hend2 : decide ((k : Int) < (p.length : Int)) = false := decide_eq_false (by omega)
          clear HI HE
          go_wp2
          go_ret
          exact ⟨ret_int HE3.out.symm, hB⟩
end Go.Proofs.YtgckcbcdmmnkoaaGreatDoor

/- The laws' own small functions of layer 11, walked: small, changed; the two texts of the chapter's first case. -/
set_option maxRecDepth 20000
namespace Go.Proofs.YtgckcbcdmmnkoaaGreatDoor
open Go.RowKit

theorem lsmall_f (a b : List (List UInt8)) (va vb : Value) (w : World) (ha : HS w va a) (hb : HS w vb b) (r : Bool) (HR : Hid ((decide (a.length ≤ 200) && decide (b.length ≤ 200)) = r)) : Calls Tryz.prog 8 #[va, vb] w fun e w' => e = .returned (.bool r) ∧ w' = w := by
  obtain ⟨ao, ac, rfl⟩ := Holds.form ha
  obtain ⟨bo, bc, rfl⟩ := Holds.form hb
  by_cases h1 : a.length ≤ 200
  · have e1 : decide ((a.length : Int) ≤ 200) = true := decide_eq_true (by omega)
    by_cases h2 : b.length ≤ 200
    · have e2 : decide ((b.length : Int) ≤ 200) = true := decide_eq_true (by omega)
      obtain rfl : r = true := by rw [← HR.out]; simp [h1, h2]
      clear HR
      go_enter Tryz.func8, Tryz.ntmps8
      go_wp2
      go_ret
      exact ⟨by simp [h1, h2], rfl⟩
    · have e2 : decide ((b.length : Int) ≤ 200) = false := decide_eq_false (by omega)
      obtain rfl : r = false := by rw [← HR.out]; simp [h2]
      clear HR
      go_enter Tryz.func8, Tryz.ntmps8
      go_wp2
      go_ret
      exact ⟨by simp [h2], rfl⟩
  · have e1 : decide ((a.length : Int) ≤ 200) = false := decide_eq_false (by omega)
    obtain rfl : r = false := by rw [← HR.out]; simp [h1]
    clear HR
    go_enter Tryz.func8, Tryz.ntmps8
    go_wp2
    go_ret
    exact ⟨by simp [h1], rfl⟩
theorem cntC_le (l : List Mk) : cntC l ≤ l.length := by
  induction l with
  | nil => simp [cntC]
  | cons m l ih => simp only [cntC, List.length_cons]; split <;> omega

set_option maxHeartbeats 4000000 in
theorem lchanged_f (p : List (Hk × Value)) (v : Value) (w : World) (hv : HHp w v p) (hok : HOk p) (N : Nat) (HN : Hid (cntHs (p.map (·.1)) = N)) (hN : N ≤ 1099511627776) : Calls Tryz.prog 22 #[v] w fun e w' => e = .returned (.int .i64 (N : Int)) ∧ w' = w := by
  obtain ⟨vo, vc, rfl⟩ := Holds.form hv.row
  have hpl : p.length ≤ 1099511627776 := hok.1
  have HOK : Hid (HOk p) := hok
  clear hok
  go_enter Tryz.func22, Tryz.ntmps22
  go_wp2
  go_loopw [3, 4, 5] (fun nv iv _ wr => ∃ (k n : Nat), k ≤ p.length ∧ nv = .int .i64 (n : Int) ∧ iv = .int .i64 (k : Int) ∧ w = wr ∧ Hid (n + cntHs ((p.drop k).map (·.1)) = N)) (fun _ iv _ _ => p.length - (intOf iv).toNat)
  case atStart => exact ⟨0, 0, Nat.zero_le _, by go_num, by go_num, rfl, by show _ = _; rw [List.drop_zero, Nat.zero_add]; exact HN.out⟩
  case round =>
    obtain ⟨k, n, hk, rfl, rfl, rfl, HI⟩ := hrel
    by_cases hlt : k < p.length
    · obtain ⟨b, off, rfl, hb, hcc⟩ := hv.at (by omega)
      obtain ⟨x, y, hxy⟩ : ∃ x y, p[k] = (x, y) := ⟨_, _, rfl⟩
      obtain ⟨c0, c1, c2, c3, c4⟩ := hcc k hlt
      have hm := hv.ins p[k] (List.getElem_mem hlt)
      have hbd := (HOK.out.2 _ (List.getElem_mem hlt)).1
      rw [hxy] at c4 hm hbd
      dsimp only at c4 hm hbd
      obtain ⟨yo, yc, rfl⟩ := hm.form
      have HI2 : Hid (n + cntC x.ls + cntHs ((p.drop (k + 1)).map (·.1)) = N) := (by
        have h := HI.out
        rw [List.drop_eq_getElem_cons hlt, List.map_cons, hxy] at h
        simp only [cntHs] at h
        show _ = _
        omega)
      obtain ⟨T, hT⟩ : ∃ T, cntHs ((p.drop (k + 1)).map (·.1)) = T := ⟨_, rfl⟩
      have HT : Hid (cntHs ((p.drop (k + 1)).map (·.1)) = T) := hT
      rw [hT] at HI2
      have i1 : 0 ≤ (k : Int) := by omega
      have i2 : (k : Int) < (p.length : Int) := by omega
      clear HI hcc c0 c1 c2 c3 hT hxy
      go_wp2
      go_loopw [3, 5] (fun nv jv wr => ∃ (j n : Nat), j ≤ x.ls.length ∧ nv = .int .i64 (n : Int) ∧ jv = .int .i64 (j : Int) ∧ w = wr ∧ Hid (n + cntC (x.ls.drop j) + T = N)) (fun _ jv _ => x.ls.length - (intOf jv).toNat)
      case atStart => exact ⟨0, n, Nat.zero_le _, by go_num, by go_num, rfl, HI2⟩
      case round =>
        obtain ⟨j, n, hj, rfl, rfl, rfl, HI⟩ := hrel
        clear HI2
        by_cases hjl : j < x.ls.length
        · obtain ⟨mb, mo, rfl, _, hmc⟩ := HMk.at hm (by omega)
          obtain ⟨m0, m1⟩ := hmc j hjl
          obtain ⟨m, hmj⟩ : ∃ m, x.ls[j] = m := ⟨_, rfl⟩
          rw [hmj] at m0 m1
          obtain ⟨sg, tx⟩ := m
          dsimp only at m0 m1
          have HI3 : Hid (n + (if sg ≠ 32 then cntC (x.ls.drop (j + 1)) + 1 else cntC (x.ls.drop (j + 1))) + T = N) := (by
            show _ = _
            rw [← HI.out, List.drop_eq_getElem_cons hjl, hmj]
            rfl)
          have j1 : 0 ≤ (j : Int) := by omega
          have j2 : (j : Int) < (x.ls.length : Int) := by omega
          clear HI hmj hmc m1
          by_cases h32 : sg = 32
          · subst h32
            have HI4 : Hid (n + cntC (x.ls.drop (j + 1)) + T = N) := (by
              have h := HI3.out
              rw [if_neg (by simp)] at h
              exact h)
            clear HI3
            go_wp2
            exact ⟨⟨j + 1, n, by omega, by go_num, by go_num, trivial, HI4⟩, by simp [intOf]; omega⟩
          · have e32 : (sg != 32) = true := by simpa using h32
            have HI4 : Hid (n + 1 + cntC (x.ls.drop (j + 1)) + T = N) := (by
              have h := HI3.out
              rw [if_pos h32] at h
              show _ = _
              omega)
            have hnb : (n : Int) + 1 ≤ 1099511627777 := by have := HI4.out; omega
            clear HI3
            go_wp2
            exact ⟨⟨j + 1, n + 1, by omega, by go_num, by go_num, trivial, HI4⟩, by simp [intOf]; omega⟩
        · have HI3 : Hid (n + cntHs ((p.drop (k + 1)).map (·.1)) = N) := (by
            have h := HI.out
            rw [List.drop_of_length_le (by omega)] at h
            have ht := HT.out
            show _ = _
            simp only [cntC] at h
            omega)
          have hend : decide ((j : Int) < (x.ls.length : Int)) = false := decide_eq_false (by omega)
          clear HI
          go_wp2
          exact ⟨⟨k + 1, n, by omega, by go_num, by go_num, trivial, HI3⟩, by simp [intOf]; omega⟩
    · obtain rfl : n = N := (by
        have h := HI.out
        rw [List.drop_of_length_le (by omega)] at h
        simpa [cntHs] using h)
      have hend : decide ((k : Int) < (p.length : Int)) = false := decide_eq_false (by omega)
      clear HI HN
      go_wp2
      go_ret
      exact ⟨rfl, rfl⟩
end Go.Proofs.YtgckcbcdmmnkoaaGreatDoor

/- The laws' own works of layer 11, walked: the chapter's first case. -/
set_option maxRecDepth 20000
namespace Go.Proofs.YtgckcbcdmmnkoaaGreatDoor
open Go.RowKit

def exA : List (List UInt8) := [[49, 10], [50, 10], [51, 10], [52, 10], [53, 10], [54, 10]]
def exB : List (List UInt8) := [[49, 10], [51, 10], [52, 10], [53, 10], [120, 10], [54, 10]]
def exL : List Ch := [⟨1, 1, 1, 0⟩, ⟨5, 0, 4, 1⟩]
def exH0 : Hk := ⟨1, 3, 1, 2, [⟨32, [49, 10]⟩, ⟨45, [50, 10]⟩, ⟨32, [51, 10]⟩]⟩
def exH1 : Hk := ⟨5, 2, 4, 3, [⟨32, [53, 10]⟩, ⟨43, [120, 10]⟩, ⟨32, [54, 10]⟩]⟩
def exH2 : Hk := ⟨1, 6, 1, 6, [⟨32, [49, 10]⟩, ⟨45, [50, 10]⟩, ⟨32, [51, 10]⟩, ⟨32, [52, 10]⟩, ⟨32, [53, 10]⟩, ⟨43, [120, 10]⟩, ⟨32, [54, 10]⟩]⟩
theorem ex_e1 : grpE exL exA.length exB.length 1 = 0 := by rfl
theorem ex_e2 : grpE exL exA.length exB.length 2 = 0 := by rfl
theorem ex_r1 : mkR exL exA exB 1 = [exH0, exH1] := by rfl
theorem ex_r2 : mkR exL exA exB 2 = [exH2] := by rfl
theorem ex_o2 : ordH [exH2] = 0 := by rfl
theorem map_two {P : List (Hk × Value)} {h0 h1 : Hk} (h : P.map (·.1) = [h0, h1]) : ∃ y0 y1, P = [(h0, y0), (h1, y1)] := by
  match P, h with
  | [(x0, y0), (x1, y1)], h =>
    simp at h
    obtain ⟨rfl, rfl⟩ := h
    exact ⟨y0, y1, rfl⟩
theorem map_one {P : List (Hk × Value)} {h0 : Hk} (h : P.map (·.1) = [h0]) : ∃ y0, P = [(h0, y0)] := by
  match P, h with
  | [(x0, y0)], h =>
    simp at h
    subst h
    exact ⟨y0, rfl⟩
set_option maxHeartbeats 2000000 in
theorem lexample_f (w : World) : Calls Tryz.prog 24 #[] w fun e w' => ∃ va vb, e = .returned (.tuple #[va, vb]) ∧ HS w' va exA ∧ HS w' vb exB ∧ Below w.heap.size w w' := by
  have hA := new_holds w #[.string ⟨#[49, 10]⟩, .string ⟨#[50, 10]⟩, .string ⟨#[51, 10]⟩, .string ⟨#[52, 10]⟩, .string ⟨#[53, 10]⟩, .string ⟨#[54, 10]⟩] 9 6 6 (by decide)
  have hB1 : Below w.heap.size w (w.alloc (.cells #[.string ⟨#[49, 10]⟩, .string ⟨#[50, 10]⟩, .string ⟨#[51, 10]⟩, .string ⟨#[52, 10]⟩, .string ⟨#[53, 10]⟩, .string ⟨#[54, 10]⟩] 9)) := (Below.refl _ w).alloc (Nat.le_refl _) _
  have hA1 : HS (w.alloc (.cells #[.string ⟨#[49, 10]⟩, .string ⟨#[50, 10]⟩, .string ⟨#[51, 10]⟩, .string ⟨#[52, 10]⟩, .string ⟨#[53, 10]⟩, .string ⟨#[54, 10]⟩] 9)) (.slice (some ⟨w.heap.size, 0, none⟩) 6 6) exA := hA
  have HSZ : Hid ((w.alloc (.cells #[.string ⟨#[49, 10]⟩, .string ⟨#[50, 10]⟩, .string ⟨#[51, 10]⟩, .string ⟨#[52, 10]⟩, .string ⟨#[53, 10]⟩, .string ⟨#[54, 10]⟩] 9)).heap.size = w.heap.size + 1) := (by show _ = _; simp)
  clear hA
  generalize hW : w.alloc (.cells #[.string ⟨#[49, 10]⟩, .string ⟨#[50, 10]⟩, .string ⟨#[51, 10]⟩, .string ⟨#[52, 10]⟩, .string ⟨#[53, 10]⟩, .string ⟨#[54, 10]⟩] 9) = W at *
  have hB := new_holds W #[.string ⟨#[49, 10]⟩, .string ⟨#[51, 10]⟩, .string ⟨#[52, 10]⟩, .string ⟨#[53, 10]⟩, .string ⟨#[120, 10]⟩, .string ⟨#[54, 10]⟩] 9 6 6 (by decide)
  have hB2 : Below W.heap.size W (W.alloc (.cells #[.string ⟨#[49, 10]⟩, .string ⟨#[51, 10]⟩, .string ⟨#[52, 10]⟩, .string ⟨#[53, 10]⟩, .string ⟨#[120, 10]⟩, .string ⟨#[54, 10]⟩] 9)) := (Below.refl _ W).alloc (Nat.le_refl _) _
  have hb1 : HS (W.alloc (.cells #[.string ⟨#[49, 10]⟩, .string ⟨#[51, 10]⟩, .string ⟨#[52, 10]⟩, .string ⟨#[53, 10]⟩, .string ⟨#[120, 10]⟩, .string ⟨#[54, 10]⟩] 9)) (.slice (some ⟨W.heap.size, 0, none⟩) 6 6) exB := hB
  have hA2 := HS.keep hA1 hB2 (Nat.le_refl _)
  go_enter Tryz.func24, Tryz.ntmps24
  go_wp2
  go_ret2
  exact ⟨_, _, rfl, hA2, hb1, hB1.trans (hB2.mono hB1.size)⟩

set_option maxRecDepth 10000 in
set_option maxHeartbeats 4000000 in
theorem hworks_f (w : World) : Calls Tryz.prog 7 #[] w fun e w' => e = .returned (.bool true) ∧ Below w.heap.size w w' := by
  go_enter Tryz.func7, Tryz.ntmps7
  go_wp2_with fail
  refine (lexample_f w).mono ?_
  rintro e w1 ⟨va, vb, rfl, ha, hb, hB1⟩
  obtain ⟨ao, ac, rfl⟩ := Holds.form ha
  obtain ⟨bo, bc, rfl⟩ := Holds.form hb
  have hl := new_holds w1 #[.int .i64 1, .int .i64 1, .int .i64 1, .int .i64 0, .int .i64 5, .int .i64 0, .int .i64 4, .int .i64 1] 56 2 2 (by decide)
  have hl1 : HCh (w1.alloc (.cells #[.int .i64 1, .int .i64 1, .int .i64 1, .int .i64 0, .int .i64 5, .int .i64 0, .int .i64 4, .int .i64 1] 56)) (.slice (some ⟨w1.heap.size, 0, none⟩) 2 2) exL := hl
  have hB2 : Below w1.heap.size w1 (w1.alloc (.cells #[.int .i64 1, .int .i64 1, .int .i64 1, .int .i64 0, .int .i64 5, .int .i64 0, .int .i64 4, .int .i64 1] 56)) := (Below.refl _ w1).alloc (Nat.le_refl _) _
  have ha2 := HS.keep ha hB2 (Nat.le_refl _)
  have hb2 := HS.keep hb hB2 (Nat.le_refl _)
  have hB02 := hB1.trans (hB2.mono hB1.size)
  clear hl ha hb hB1 hB2
  go_wp2_with fail
  generalize w1.alloc (Obj.cells #[.int .i64 1, .int .i64 1, .int .i64 1, .int .i64 0, .int .i64 5, .int .i64 0, .int .i64 4, .int .i64 1] 56) = w2 at *
  refine (hMake_f exL exA exB 1 _ _ _ w2 hl1 ha2 hb2 (by decide) (by decide) (by decide) 0 ex_e1 [exH0, exH1] ex_r1).mono ?_
  rintro e w3 ⟨v3, P, rfl, hP, hPm⟩
  obtain ⟨y0, y1, rfl⟩ := map_two hPm
  have hB3 := hP.low
  have hB03 := hB02.trans (hB3.mono hB02.size)
  have hl3 := HCh.keep hl1 hB3 (Nat.le_refl _)
  have ha3 := HS.keep ha2 hB3 (Nat.le_refl _)
  have hb3 := HS.keep hb2 hB3 (Nat.le_refl _)
  have hownP := hP.own
  obtain ⟨oP, cP, hvP⟩ := (holds_of hownP).form
  subst hvP
  clear hPm hP hl1 ha2 hb2 hB3
  go_wp2_with fail
  refine (hMake_f exL exA exB 2 _ _ _ w3 hl3 ha3 hb3 (by decide) (by decide) (by decide) 0 ex_e2 [exH2] ex_r2).mono ?_
  rintro e w4 ⟨v4, Q, rfl, hQ, hQm⟩
  obtain ⟨z0, rfl⟩ := map_one hQm
  have hB4 := hQ.low
  have hB04 := hB03.trans (hB4.mono hB03.size)
  have hownP4 := owns_keep hownP hB4
  have hownQ := hQ.own
  have hQh := hQ.holds
  have hz := hQh.ins (exH2, z0) (by simp)
  obtain ⟨zo, zc, hzz⟩ := hz.form
  dsimp only at hzz
  subst hzz
  obtain ⟨oQ, cQ, hvQ⟩ := (holds_of hownQ).form
  subst hvQ
  obtain ⟨gP, rfl⟩ := hown_at hownP4
  obtain ⟨gQ, rfl⟩ := hown_at hownQ
  have p0 : w4.cell? ⟨gP, 0, none⟩ = some (.int .i64 1) := hownP4.cellAt 0 (by simp)
  have p1 : w4.cell? ⟨gP, 1, none⟩ = some (.int .i64 3) := hownP4.cellAt 1 (by simp)
  have p3 : w4.cell? ⟨gP, 3, none⟩ = some (.int .i64 2) := hownP4.cellAt 3 (by simp)
  have p5 : w4.cell? ⟨gP, 5, none⟩ = some (.int .i64 5) := hownP4.cellAt 5 (by simp)
  have p7 : w4.cell? ⟨gP, 7, none⟩ = some (.int .i64 4) := hownP4.cellAt 7 (by simp)
  have p8 : w4.cell? ⟨gP, 8, none⟩ = some (.int .i64 3) := hownP4.cellAt 8 (by simp)
  have q4 : w4.cell? ⟨gQ, 4, none⟩ = some (.slice zo 7 zc) := hownQ.cellAt 4 (by simp)
  have hokQ : HOk [(exH2, Value.slice zo exH2.ls.length zc)] := (by
    refine ⟨by simp, fun x hx => ?_⟩
    rw [List.mem_singleton.1 hx]
    refine ⟨by simp [exH2], ?_⟩
    intro m hm
    simp only [exH2, List.mem_cons, List.not_mem_nil, or_false] at hm
    rcases hm with rfl | rfl | rfl | rfl | rfl | rfl | rfl <;> simp)
  clear hQm hQ hl3 ha3 hb3 hB4 hownP hz
  go_wp2_with fail
  refine (hOrder_f [(exH2, Value.slice zo exH2.ls.length zc)] _ w4 hQh hokQ 0 ex_o2).mono ?_
  rintro e w5 ⟨rfl, hB5⟩
  go_wp2
  go_ret
  exact ⟨rfl, hB04.trans (hB5.mono hB04.size)⟩
end Go.Proofs.YtgckcbcdmmnkoaaGreatDoor

/- What the statements on hunks of two texts ask, in plain terms. -/
set_option maxRecDepth 20000
namespace Go.Proofs.YtgckcbcdmmnkoaaGreatDoor

theorem mkR_eq {l : List Ch} {a b : List (List UInt8)} {ctx : Int} (hs : Script l a.length b.length) (hc : 0 ≤ ctx ∧ ctx ≤ 100) : mkR l a b ctx = (grp ctx l).map (oneH a b ctx) ∧ grpE l a.length b.length ctx = 0 := by
  have e : grpE l a.length b.length ctx = 0 := by
    unfold grpE
    rw [chk_ok hs, if_neg (by simp), if_neg (by omega)]
  refine ⟨?_, e⟩
  unfold mkR grpR
  rw [if_pos e]
/-- each made hunk stands where it says, and its lines stand there -/
theorem gs_each {a b : List (List UInt8)} {ctx : Int} (hc : 0 ≤ ctx) (gs : List (List Ch)) : ∀ (fl : Bool) (p q : Int), Right fl p q a.length b.length gs.flatten → (∀ r ∈ U p q a.length b.length gs.flatten, a[r.a.toNat]? = b[r.b.toNat]?) → Hgs ctx gs → 0 ≤ p → 0 ≤ q → (∀ d, gs.flatten.head? = some d → p ≤ d.A - min ctx d.A) →
    ∀ x ∈ gs.map (oneH a b ctx), (0 ≤ atA x ∧ 0 ≤ x.AN ∧ atA x + x.AN ≤ a.length) ∧ (0 ≤ atB x ∧ 0 ≤ x.BN ∧ atB x + x.BN ≤ b.length) ∧ oldL x = cut a (atA x) x.AN ∧ newL x = cut b (atB x) x.BN ∧ Nf false x.ls := by
  induction gs with
  | nil => intro fl p q _ _ _ _ _ _ x hx; simp at hx
  | cons g gs ih =>
    intro fl p q h hh hG hp hq hf x hx
    obtain ⟨f, g', rfl, e, h1, h2, h3, hR, hU, hE, h4, h5, h6, h7, hU2, h8, h9⟩ := gs_step hc h hG hp hq (Int.le_refl p) (show q - p = q - p from rfl) hf
    rw [List.map_cons] at hx
    rcases List.mem_cons.1 hx with rfl | hx
    · have hbn : ((pkL 45 (oneH a b ctx (f :: g')).ls).length : Int) = (oneH a b ctx (f :: g')).BN := rfl
      have hnew := body_new hR (fun r hr => hh r (hU r hr)) h1.s0 h1.t0 h1.le hE
      rw [h1.atA, h1.atB]
      refine ⟨⟨h1.s0, by rw [h1.AN]; have := h1.se; omega, by rw [h1.AN]; have := h1.en; omega⟩, ⟨h1.t0, by omega, by rw [h1.BN]; have := h1.em; omega⟩, by rw [h1.AN]; exact h1.old, ?_, ?_⟩
      · unfold newL
        rw [h1.ls, h1.BN]
        exact hnew
      · rw [h1.ls]
        exact body_nf (f :: g') true false _ _ hR h1.s0 (fun h => by cases h)
    · exact ih false _ _ h5 (fun r hr => hh r (hU2 r hr)) hG.2.2 h6 h7 (fun d hd => by have := h9 d hd; omega) x hx
theorem script_each {l : List Ch} {a b : List (List UInt8)} {ctx : Int} (hs : Script l a.length b.length) (hh : ∀ r ∈ U 0 0 a.length b.length l, a[r.a.toNat]? = b[r.b.toNat]?) (hc : 0 ≤ ctx ∧ ctx ≤ 100) :
    ∀ x ∈ mkR l a b ctx, (0 ≤ atA x ∧ 0 ≤ x.AN ∧ atA x + x.AN ≤ a.length) ∧ (0 ≤ atB x ∧ 0 ≤ x.BN ∧ atB x + x.BN ≤ b.length) ∧ oldL x = cut a (atA x) x.AN ∧ newL x = cut b (atB x) x.BN ∧ Nf false x.ls := by
  rw [(mkR_eq hs hc).1]
  have hfl := grp_flatten ctx l
  refine gs_each hc.1 (grp ctx l) true 0 0 (by rw [hfl]; exact hs.2.2) (by rw [hfl]; exact hh) (grp_gs ctx l) (Int.le_refl _) (Int.le_refl _) (fun d hd => ?_)
  rw [hfl] at hd
  have hr := hs.2.2
  cases l with
  | nil => cases hd
  | cons c l =>
    have hdc : c = d := by simpa using hd
    subst hdc
    have := (numB_iff c).1 hr.1.1
    omega
/-- they are right and in order, and the script again, but for line feeds within lines -/
theorem script_order {l : List Ch} {a b : List (List UInt8)} {ctx : Int} (hs : Script l a.length b.length) (hh : ∀ r ∈ U 0 0 a.length b.length l, a[r.a.toNat]? = b[r.b.toNat]?) (hc : 0 ≤ ctx ∧ ctx ≤ 100) (ha : a.length ≤ 1000000) (hb : b.length ≤ 1000000) (hne : ∀ t, t ∈ a ∨ t ∈ b → t ≠ []) (hla : abl a = true) (hlb : abl b = true) :
    (ordH (mkR l a b ctx) = 0 ∧ chR (mkR l a b ctx) = l) ∨ (ordH (mkR l a b ctx) = 6 ∧ innL (a ++ b) = true) := by
  rw [(mkR_eq hs hc).1]
  have hfl := grp_flatten ctx l
  have hr : Right true 0 0 a.length b.length (grp ctx l).flatten := by rw [hfl]; exact hs.2.2
  have hh' : ∀ r ∈ U 0 0 a.length b.length (grp ctx l).flatten, a[r.a.toNat]? = b[r.b.toNat]? := by rw [hfl]; exact hh
  have hf : ∀ d, (grp ctx l).flatten.head? = some d → (0 : Int) ≤ d.A - min ctx d.A := by
    intro d hd
    rw [hfl] at hd
    have hr := hs.2.2
    cases l with
    | nil => cases hd
    | cons c l =>
      have hdc : c = d := by simpa using hd
      subst hdc
      have := (numB_iff c).1 hr.1.1
      omega
  have hord := made_ord hc.1 (grp ctx l) true 0 0 0 0 hr (grp_gs ctx l) (Int.le_refl _) (Int.le_refl _) (Int.le_refl _) rfl hf
  have hch := made_ch hc.1 (grp ctx l) true 0 0 0 0 [] hr (grp_gs ctx l) (Int.le_refl _) (Int.le_refl _) (Int.le_refl _) rfl hf (fun _ _ => rfl)
  rcases made_chk hc.1 ha hb (grp ctx l) true 0 0 0 0 hr hh' (grp_gs ctx l) (Int.le_refl _) (Int.le_refl _) (Int.le_refl _) rfl hf hne hla hlb with h | ⟨h, hi⟩
  · left
    have e : ordH ((grp ctx l).map (oneH a b ctx)) = 0 := by
      unfold ordH
      rw [h, if_neg (by simp), if_pos hord]
    refine ⟨e, ?_⟩
    unfold chR
    rw [if_pos e, hch, hfl]
    simp
  · right
    refine ⟨?_, hi⟩
    unfold ordH
    rw [h, if_pos (by decide)]
/-- with more lines around them there are never more hunks, and as many changed lines -/
theorem script_fewer {l : List Ch} {a b : List (List UInt8)} {c1 c2 : Int} (hs : Script l a.length b.length) (h1 : 0 ≤ c1 ∧ c1 ≤ 100) (h2 : 0 ≤ c2 ∧ c2 ≤ 100) (hle : c1 ≤ c2) :
    (mkR l a b c2).length ≤ (mkR l a b c1).length ∧ cntHs (mkR l a b c1) = cntHs (mkR l a b c2) ∧ ((mkR l a b c1) = [] ↔ (mkR l a b c2) = []) := by
  rw [(mkR_eq hs h1).1, (mkR_eq hs h2).1]
  refine ⟨by simp only [List.length_map]; exact grp_fewer hle l, by rw [made_cnt, made_cnt, grp_flatten, grp_flatten], ?_⟩
  simp only [List.map_eq_nil_iff, grp_eq_nil]
/-- without lines around them each change is a hunk, of which no line is kept -/
theorem script_bare {l : List Ch} {a b : List (List UInt8)} (hs : Script l a.length b.length) : (mkR l a b 0).length = l.length ∧ ∀ x ∈ mkR l a b 0, ∀ m ∈ x.ls, m.sg ≠ 32 := by
  rw [(mkR_eq hs (by omega)).1, grp_zero l _ _ _ _ _ hs.2.2]
  refine ⟨by simp, fun x hx => ?_⟩
  simp only [List.map_map, List.mem_map, Function.comp] at hx
  obtain ⟨c, hc, rfl⟩ := hx
  have key : ∀ (l : List Ch) (fl : Bool) (p q n m : Int), Right fl p q n m l → ∀ c ∈ l, numB c = true ∧ c.A + c.AN ≤ n := by
    intro l
    induction l with
    | nil => intro fl p q n m _ c hc; cases hc
    | cons x l ih =>
      intro fl p q n m h c hc
      rcases List.mem_cons.1 hc with rfl | hc
      · exact ⟨h.1.1, h.2.le.1⟩
      · exact ih _ _ _ _ _ h.2 c hc
  obtain ⟨hn, hle⟩ := key _ _ _ _ _ _ hs.2.2 c hc
  have hn' := (numB_iff c).1 hn
  have e : (oneH a b 0 [c]).ls = mks 45 (cut a c.A c.AN) ++ mks 43 (cut b c.B c.BN) := by
    show bodyH a b (min (a.length : Int) (c.A + c.AN + 0)) (c.A - min 0 c.A) [c] = _
    rw [show min (a.length : Int) (c.A + c.AN + 0) = c.A + c.AN by omega, show c.A - min 0 c.A = c.A by omega]
    simp only [bodyH]
    rw [show c.A - c.A = (0 : Int) by omega, show c.A + c.AN - (c.A + c.AN) = (0 : Int) by omega, cut_zero, cut_zero]
    simp [mks]
  intro m hm
  rw [e] at hm
  rcases List.mem_append.1 hm with hm | hm
  · simp only [mks, List.mem_map] at hm
    obtain ⟨t, _, rfl⟩ := hm
    intro h
    cases h
  · simp only [mks, List.mem_map] at hm
    obtain ⟨t, _, rfl⟩ := hm
    intro h
    cases h
/-- with all of them there is one hunk at most, of both texts whole -/
theorem script_all {l : List Ch} {a b : List (List UInt8)} (hs : Script l a.length b.length) (ha : a.length ≤ 90) (hb : b.length ≤ 90) : (mkR l a b 100).length = min 1 l.length ∧ ∀ x ∈ mkR l a b 100, x.AN = a.length ∧ x.BN = b.length ∧ (oldL x).length = a.length := by
  rw [(mkR_eq hs (by omega)).1]
  have hl := grp_all 100 l _ _ _ _ _ hs.2.2 (Int.le_refl _) (by omega)
  refine ⟨by rw [List.length_map]; exact hl, ?_⟩
  cases l with
  | nil => intro x hx; simp [grp] at hx
  | cons f g =>
    have hfl := grp_flatten 100 (f :: g)
    obtain ⟨g0, gs, hg⟩ := grp_head 100 f g
    have hgs : gs = [] := by
      rw [hg] at hl
      simp only [List.length_cons] at hl
      exact List.eq_nil_of_length_eq_zero (by omega)
    subst hgs
    rw [hg] at hfl
    simp only [List.flatten_cons, List.flatten_nil, List.append_nil] at hfl
    have hg0 : g0 = g := by simpa using hfl
    subst hg0
    rw [hg]
    intro x hx
    simp only [List.map_cons, List.map_nil, List.mem_singleton] at hx
    subst hx
    have hr := hs.2.2
    have hf := (numB_iff f).1 hr.1.1
    have hAB : f.A - 0 = f.B - 0 := hr.1.2.1
    have hle := hr.2.le
    obtain ⟨h1, hR, _, _⟩ := one_facts (a := a) (b := b) (ctx := 100) (f := f) (g := g0) (rest := []) (p := 0) (q := 0) (fl := true) (by omega) (by rw [List.append_nil]; exact hr) (Int.le_refl _) (Int.le_refl _) (by omega) (fun d hd => by cases hd)
    obtain ⟨k1, k2, k3, k4, k5⟩ := right_end (g := f :: g0) (rest := []) hR
    have k1' : Right false (endA 0 (f :: g0)) (endB 0 (f :: g0)) a.length b.length [] := by
      rcases k1 with k1 | k1
      · exact k1
      · cases k1
    obtain ⟨z1, z2, z3⟩ := k1'
    have e0 : endA (f.A - min 100 f.A) (f :: g0) = endA 0 (f :: g0) := rfl
    rw [e0] at k2
    have hAN := h1.AN
    have hBN := h1.BN
    have hso := h1.old
    have em : min (a.length : Int) (endA 0 (f :: g0) + 100) = a.length := by
      have := h1.s0
      omega
    rw [em] at hAN hBN hso
    refine ⟨by rw [hAN]; omega, by rw [hBN]; omega, ?_⟩
    rw [hso]
    have := hcut_length (A := a) (p := f.A - min 100 f.A) (k := a.length - (f.A - min 100 f.A)) h1.s0 (by omega) (by omega)
    omega
end Go.Proofs.YtgckcbcdmmnkoaaGreatDoor

/- Rising rows of pairs: how long the longest one is that begins with each member, heads of rows, what is picked: plain. -/
set_option maxRecDepth 20000
namespace Go.Proofs.YtgckcbcdmmnkoaaGreatDoor

/-- a place of each text -/
structure Pr where
  X : Int
  Y : Int
/-- p may stand behind q in a rising row -/
abbrev ab (p q : Pr) : Prop := q.X < p.X ∧ q.Y < p.Y
theorem ab_trans {p q r : Pr} (h : ab p q) (h' : ab q r) : ab p r := ⟨Int.lt_trans h'.1 h.1, Int.lt_trans h'.2 h.2⟩
/-- the greatest length among those that may stand behind p -/
def mxl (p : Pr) : List Pr → List Nat → Nat
  | t :: ts, n :: ns => if ab t p then max n (mxl p ts ns) else mxl p ts ns
  | _, _ => 0
/-- how long the longest rising row is that begins with each member -/
def rl : List Pr → List Nat
  | [] => []
  | p :: t => (mxl p t (rl t) + 1) :: rl t
theorem rl_length (l : List Pr) : (rl l).length = l.length := by
  induction l with
  | nil => rfl
  | cons p t ih => simp [rl, ih]
theorem mxl_ge (p : Pr) (t : List Pr) (ns : List Nat) (k : Nat) (q : Pr) (n : Nat) (hq : t[k]? = some q) (hn : ns[k]? = some n) (ha : ab q p) : n ≤ mxl p t ns := by
  induction t generalizing ns k with
  | nil => simp at hq
  | cons a t ih =>
    cases ns with
    | nil => simp at hn
    | cons b ns =>
      rw [mxl]
      cases k with
      | zero =>
        simp at hq hn
        subst hq hn
        rw [if_pos ha]
        omega
      | succ k =>
        have := ih ns k (by simpa using hq) (by simpa using hn)
        split <;> omega
theorem mxl_at (p : Pr) (t : List Pr) (ns : List Nat) (h : 0 < mxl p t ns) : ∃ (k : Nat) (q : Pr), t[k]? = some q ∧ ns[k]? = some (mxl p t ns) ∧ ab q p := by
  induction t generalizing ns with
  | nil => simp [mxl] at h
  | cons a t ih =>
    cases ns with
    | nil => simp [mxl] at h
    | cons b ns =>
      rw [mxl] at h ⊢
      by_cases ha : ab a p
      · rw [if_pos ha] at h ⊢
        by_cases hb : mxl p t ns ≤ b
        · exact ⟨0, a, rfl, by simp; omega, ha⟩
        · obtain ⟨k, q, h1, h2, h3⟩ := ih ns (by omega)
          exact ⟨k + 1, q, by simpa using h1, by simp [h2]; omega, h3⟩
      · rw [if_neg ha] at h ⊢
        obtain ⟨k, q, h1, h2, h3⟩ := ih ns h
        exact ⟨k + 1, q, by simpa using h1, by simpa using h2, h3⟩
/-- a row of n + 1 members may stand behind p -/
def Hd (t : List Pr) (n : Nat) (p : Pr) : Prop := ∃ (k : Nat) (q : Pr), t[k]? = some q ∧ (rl t)[k]? = some (n + 1) ∧ ab q p
theorem Hd.down {t : List Pr} {n : Nat} {p : Pr} (h : Hd t (n + 1) p) : Hd t n p := by
  obtain ⟨k, q, h1, h2, h3⟩ := h
  induction t generalizing k with
  | nil => simp at h1
  | cons a t ih =>
    cases k with
    | zero =>
      simp [rl] at h1 h2
      subst h1
      obtain ⟨j, r, g1, g2, g3⟩ := mxl_at a t (rl t) (by omega)
      exact ⟨j + 1, r, by simpa using g1, by simp [rl, g2, h2], ab_trans g3 h3⟩
    | succ k =>
      obtain ⟨j, r, g1, g2, g3⟩ := ih k (by simpa using h1) (by simpa [rl] using h2)
      exact ⟨j + 1, r, by simpa using g1, by simpa [rl] using g2, g3⟩
theorem Hd.downs {t : List Pr} {n m : Nat} {p : Pr} (h : Hd t n p) (hm : m ≤ n) : Hd t m p := by
  induction n with
  | zero => obtain rfl : m = 0 := by omega
            exact h
  | succ n ih =>
    by_cases e : m = n + 1
    · subst e; exact h
    · exact ih h.down (by omega)
/-- X falls, Y rises, each of which may stay -/
def Stair (h : List Pr) : Prop := h.Pairwise fun a b => b.X ≤ a.X ∧ a.Y ≤ b.Y
/-- the heads of rows of each length, for what stands behind -/
structure Hds (t : List Pr) (H : List (List Pr)) : Prop where
  st : ∀ h ∈ H, Stair h
  eq : ∀ n h, H[n]? = some h → ∀ p, (∃ a ∈ h, ab a p) ↔ Hd t n p
  top : ∀ n ∈ rl t, n ≤ H.length
theorem Hds.start : Hds [] [] := ⟨by simp, by simp, by simp [rl]⟩
theorem Hds.beyond {t : List Pr} {H : List (List Pr)} (h : Hds t H) {n : Nat} (hn : H.length ≤ n) (p : Pr) : ¬ Hd t n p := by
  rintro ⟨k, q, h1, h2, h3⟩
  have := h.top (n + 1) (List.mem_of_getElem? h2)
  omega
/-- the first that is not behind p: so long is the longest row behind p -/
theorem mxl_of {t : List Pr} {H : List (List Pr)} (_h : Hds t H) {p : Pr} {n : Nat} (h1 : ∀ m, m < n → Hd t m p) (h2 : ¬ Hd t n p) : mxl p t (rl t) = n := by
  have hle : mxl p t (rl t) ≤ n := by
    by_cases hc : mxl p t (rl t) ≤ n
    · exact hc
    · exfalso
      obtain ⟨k, q, g1, g2, g3⟩ := mxl_at p t (rl t) (by omega)
      have : Hd t (mxl p t (rl t) - 1) p := ⟨k, q, g1, by rw [g2]; congr 1; omega, g3⟩
      exact h2 (this.downs (by omega))
  cases n with
  | zero => omega
  | succ n =>
    obtain ⟨k, q, g1, g2, g3⟩ := h1 n (Nat.lt_succ_self n)
    have := mxl_ge p t (rl t) k q (n + 1) g1 g2 g3
    omega
/-- how many of the heads have a greater X -/
def upto (h : List Pr) (x : Int) : Nat := h.findIdx fun a => decide (a.X ≤ x)
/-- how many of the heads have no greater Y -/
def grt (h : List Pr) (y : Int) : Nat := h.findIdx fun a => decide (y < a.Y)
/-- the heads and p -/
def ins (h : List Pr) (p : Pr) : List Pr := h.take (upto h p.X) ++ p :: h.drop (grt h p.Y)
theorem upto_le (h : List Pr) (x : Int) : upto h x ≤ h.length := List.findIdx_le_length
theorem grt_le (h : List Pr) (y : Int) : grt h y ≤ h.length := List.findIdx_le_length
theorem upto_lt {h : List Pr} {x : Int} {i : Nat} (hi : i < upto h x) (hl : i < h.length) : x < h[i].X := by
  have := List.not_of_lt_findIdx (p := fun a : Pr => decide (a.X ≤ x)) (xs := h) hi
  simpa using this
theorem upto_ge {h : List Pr} (hs : Stair h) {x : Int} {i : Nat} (hi : upto h x ≤ i) (hl : i < h.length) : h[i].X ≤ x := by
  have h0 : upto h x < h.length := by omega
  have h1 : h[upto h x].X ≤ x := of_decide_eq_true (List.findIdx_getElem (p := fun a : Pr => decide (a.X ≤ x)) (xs := h) (w := h0))
  by_cases e : upto h x = i
  · simpa [e] using h1
  · have := (List.pairwise_iff_getElem.1 hs) (upto h x) i h0 hl (by omega)
    omega
theorem grt_lt {h : List Pr} {y : Int} {i : Nat} (hi : i < grt h y) (hl : i < h.length) : h[i].Y ≤ y := by
  have := List.not_of_lt_findIdx (p := fun a : Pr => decide (y < a.Y)) (xs := h) hi
  simpa using this
theorem grt_ge {h : List Pr} (hs : Stair h) {y : Int} {i : Nat} (hi : grt h y ≤ i) (hl : i < h.length) : y < h[i].Y := by
  have h0 : grt h y < h.length := by omega
  have h1 : y < h[grt h y].Y := of_decide_eq_true (List.findIdx_getElem (p := fun a : Pr => decide (y < a.Y)) (xs := h) (w := h0))
  by_cases e : grt h y = i
  · simpa [e] using h1
  · have := (List.pairwise_iff_getElem.1 hs) (grt h y) i h0 hl (by omega)
    omega
/-- one of the heads may stand behind p just if the last one with a great enough X does -/
theorem behind_iff {h : List Pr} (hs : Stair h) (p : Pr) : (∃ a ∈ h, ab a p) ↔ 0 < upto h p.X ∧ ∃ a, h[upto h p.X - 1]? = some a ∧ p.Y < a.Y := by
  constructor
  · rintro ⟨a, ha, h1, h2⟩
    obtain ⟨i, hi, rfl⟩ := List.getElem_of_mem ha
    have hlt : i < upto h p.X := by
      by_cases c : i < upto h p.X
      · exact c
      · have := upto_ge hs (x := p.X) (i := i) (by omega) hi; omega
    have hle := upto_le h p.X
    refine ⟨by omega, h[upto h p.X - 1], List.getElem?_eq_getElem (by omega), ?_⟩
    by_cases e : i = upto h p.X - 1
    · simpa [← e] using h2
    · have := (List.pairwise_iff_getElem.1 hs) i (upto h p.X - 1) hi (by omega) (by omega)
      omega
  · rintro ⟨h0, a, ha, h1⟩
    obtain ⟨hl, rfl⟩ := List.getElem?_eq_some_iff.1 ha
    exact ⟨_, List.getElem_mem _, upto_lt (by omega) hl, h1⟩
theorem upto_grt {h : List Pr} (hs : Stair h) {p : Pr} (hn : ¬ ∃ a ∈ h, ab a p) : upto h p.X ≤ grt h p.Y := by
  by_cases c : upto h p.X ≤ grt h p.Y
  · exact c
  · exfalso
    have hl := upto_le h p.X
    exact hn ⟨h[grt h p.Y]'(by omega), List.getElem_mem _, upto_lt (by omega) (by omega), grt_ge hs (Nat.le_refl _) (by omega)⟩
theorem ins_stair {h : List Pr} (hs : Stair h) {p : Pr} (hn : ¬ ∃ a ∈ h, ab a p) : Stair (ins h p) := by
  unfold ins Stair
  rw [List.pairwise_append]
  refine ⟨hs.take, ?_, ?_⟩
  · rw [List.pairwise_cons]
    refine ⟨fun a ha => ?_, hs.drop⟩
    obtain ⟨i, hi, rfl⟩ := List.getElem_of_mem ha
    rw [List.length_drop] at hi
    rw [List.getElem_drop]
    have hug := upto_grt hs hn
    exact ⟨upto_ge hs (by omega) (by omega), Int.le_of_lt (grt_ge hs (by omega) (by omega))⟩
  · intro a ha b hb
    obtain ⟨i, hi, rfl⟩ := List.getElem_of_mem ha
    rw [List.length_take] at hi
    rw [List.getElem_take]
    have h1 := upto_lt (h := h) (x := p.X) (i := i) (by omega) (by omega)
    rw [List.mem_cons] at hb
    rcases hb with hb | hb
    · rw [hb]
      refine ⟨Int.le_of_lt h1, ?_⟩
      by_cases c : h[i].Y ≤ p.Y
      · exact c
      · exact absurd ⟨h[i], List.getElem_mem _, h1, by omega⟩ hn
    · obtain ⟨j, hj, rfl⟩ := List.getElem_of_mem hb
      rw [List.length_drop] at hj
      rw [List.getElem_drop]
      have hug := upto_grt hs hn
      exact (List.pairwise_iff_getElem.1 hs) i (grt h p.Y + j) (by omega) (by omega) (by omega)
theorem ins_ab {h : List Pr} (hs : Stair h) {p : Pr} (hn : ¬ ∃ a ∈ h, ab a p) (q : Pr) : (∃ a ∈ ins h p, ab a q) ↔ ab p q ∨ ∃ a ∈ h, ab a q := by
  constructor
  · rintro ⟨a, ha, hq⟩
    unfold ins at ha
    rw [List.mem_append, List.mem_cons] at ha
    rcases ha with ha | rfl | ha
    · exact .inr ⟨a, List.mem_of_mem_take ha, hq⟩
    · exact .inl hq
    · exact .inr ⟨a, List.mem_of_mem_drop ha, hq⟩
  · rintro (hq | ⟨a, ha, hq⟩)
    · exact ⟨p, by simp [ins], hq⟩
    · obtain ⟨i, hi, rfl⟩ := List.getElem_of_mem ha
      by_cases c1 : i < upto h p.X
      · refine ⟨h[i], ?_, hq⟩
        unfold ins
        rw [List.mem_append]
        left
        rw [List.mem_take_iff_getElem]
        exact ⟨i, by omega, rfl⟩
      · by_cases c2 : i < grt h p.Y
        · have h1 := upto_ge hs (x := p.X) (i := i) (by omega) hi
          have h2 := grt_lt (y := p.Y) (i := i) c2 hi
          have := hq.1
          have := hq.2
          exact ⟨p, by simp [ins], by unfold ab; omega⟩
        · refine ⟨h[i], ?_, hq⟩
          unfold ins
          rw [List.mem_append, List.mem_cons]
          right; right
          rw [List.mem_drop_iff_getElem]
          exact ⟨i - grt h p.Y, by omega, by congr 1; omega⟩
/-- one more list of heads, where there is none yet -/
def room (H : List (List Pr)) (n : Nat) : List (List Pr) := if n = H.length then H ++ [[]] else H
theorem Hds.step {t : List Pr} {H : List (List Pr)} (h : Hds t H) {p : Pr} {n : Nat} (hn : n ≤ H.length) (h1 : ∀ m, m < n → Hd t m p) (h2 : ¬ Hd t n p) (g : List Pr) (hg : (room H n)[n]? = some g) :
    Hds (p :: t) ((room H n).set n (ins g p)) ∧ rl (p :: t) = (n + 1) :: rl t ∧ Stair g ∧ ¬ ∃ a ∈ g, ab a p := by
  have hm := mxl_of h h1 h2
  have hr : rl (p :: t) = (n + 1) :: rl t := by rw [rl, hm]
  have hgs : Stair g ∧ ∀ q, (∃ a ∈ g, ab a q) ↔ Hd t n q := by
    unfold room at hg
    by_cases e : n = H.length
    · rw [if_pos e, e, List.getElem?_append_right (Nat.le_refl _)] at hg
      simp at hg
      subst hg
      exact ⟨List.Pairwise.nil, fun q => ⟨by simp, fun hh => absurd hh (h.beyond (by omega) q)⟩⟩
    · rw [if_neg e] at hg
      exact ⟨h.st g (List.mem_of_getElem? hg), h.eq n g hg⟩
  have hna : ¬ ∃ a ∈ g, ab a p := fun c => h2 ((hgs.2 p).1 c)
  have hlen : H.length ≤ (room H n).length ∧ n < (room H n).length := by unfold room; split <;> simp <;> omega
  refine ⟨⟨?_, ?_, ?_⟩, hr, hgs.1, hna⟩
  · intro k hk
    rcases List.mem_or_eq_of_mem_set hk with hk | rfl
    · unfold room at hk
      split at hk
      · rw [List.mem_append, List.mem_singleton] at hk
        rcases hk with hk | rfl
        · exact h.st k hk
        · exact List.Pairwise.nil
      · exact h.st k hk
    · exact ins_stair hgs.1 hna
  · intro m k hk q
    by_cases e : m = n
    · subst e
      rw [List.getElem?_set_self hlen.2] at hk
      cases hk
      rw [ins_ab hgs.1 hna, hgs.2]
      constructor
      · rintro (hq | ⟨j, r, g1, g2, g3⟩)
        · exact ⟨0, p, rfl, by rw [hr]; rfl, hq⟩
        · exact ⟨j + 1, r, by simpa using g1, by rw [hr]; simpa using g2, g3⟩
      · rintro ⟨j, r, g1, g2, g3⟩
        cases j with
        | zero => simp at g1; subst g1; exact .inl g3
        | succ j => exact .inr ⟨j, r, by simpa using g1, by rw [hr] at g2; simpa using g2, g3⟩
    · rw [List.getElem?_set_ne (fun e' => e e'.symm)] at hk
      have hk' : H[m]? = some k := by
        unfold room at hk
        split at hk
        · by_cases hml : m < H.length
          · rwa [List.getElem?_append_left hml] at hk
          · have := (List.getElem?_eq_some_iff.1 hk).1
            simp at this
            omega
        · exact hk
      rw [h.eq m k hk']
      constructor
      · rintro ⟨j, r, g1, g2, g3⟩
        exact ⟨j + 1, r, by simpa using g1, by rw [hr]; simpa using g2, g3⟩
      · rintro ⟨j, r, g1, g2, g3⟩
        cases j with
        | zero => rw [hr] at g2; simp at g2; omega
        | succ j => exact ⟨j, r, by simpa using g1, by rw [hr] at g2; simpa using g2, g3⟩
  · intro m hm'
    rw [hr, List.mem_cons] at hm'
    rw [List.length_set]
    rcases hm' with rfl | hm'
    · omega
    · have := h.top m hm'
      omega
/-- what is picked: the next member of a longest row, from the front -/
def pick : Nat → Option Pr → List Pr → List Nat → List Pr
  | left, last, p :: l, n :: ns => if n = left ∧ (∀ q, last = some q → ab p q) then p :: pick (left - 1) (some p) l ns else pick left last l ns
  | _, _, _, _ => []
/-- the greatest number -/
def mxn : List Nat → Nat
  | [] => 0
  | n :: ns => max n (mxn ns)
/-- a longest rising row -/
def lng (l : List Pr) : List Pr := pick (mxn (rl l)) none l (rl l)
end Go.Proofs.YtgckcbcdmmnkoaaGreatDoor

/- How long the longest common row of two rows of numbers is, what is kept, and what follows: plain. -/
set_option maxRecDepth 20000
namespace Go.Proofs.YtgckcbcdmmnkoaaGreatDoor

/-- how long the longest common row is -/
def lc : List Int → List Int → Nat
  | [], _ => 0
  | _ :: _, [] => 0
  | a :: x, b :: y => if a = b then lc x y + 1 else max (lc x (b :: y)) (lc (a :: x) y)
theorem lc_nil_left (y : List Int) : lc [] y = 0 := by rw [lc]
theorem lc_nil_right (x : List Int) : lc x [] = 0 := by cases x <;> rw [lc]
theorem lc_cons (a b : Int) (x y : List Int) : lc (a :: x) (b :: y) = if a = b then lc x y + 1 else max (lc x (b :: y)) (lc (a :: x) y) := by rw [lc]
theorem lc_ex (x y : List Int) : ∃ s : List Int, s.Sublist x ∧ s.Sublist y ∧ s.length = lc x y := by
  induction x generalizing y with
  | nil => exact ⟨[], List.Sublist.refl _, List.nil_sublist _, by rw [lc_nil_left]; rfl⟩
  | cons a x ih =>
    induction y with
    | nil => exact ⟨[], List.nil_sublist _, List.Sublist.refl _, by rw [lc_nil_right]; rfl⟩
    | cons b y ihy =>
      rw [lc_cons]
      by_cases h : a = b
      · subst h
        obtain ⟨s, h1, h2, h3⟩ := ih y
        exact ⟨a :: s, h1.cons_cons a, h2.cons_cons a, by rw [if_pos rfl]; simp [h3]⟩
      · rw [if_neg h]
        obtain ⟨s, h1, h2, h3⟩ := ih (b :: y)
        obtain ⟨t, k1, k2, k3⟩ := ihy
        by_cases hm : lc x (b :: y) ≤ lc (a :: x) y
        · exact ⟨t, k1, k2.cons b, by omega⟩
        · exact ⟨s, h1.cons a, h2, by omega⟩
theorem lc_le (s x y : List Int) (hx : s.Sublist x) (hy : s.Sublist y) : s.length ≤ lc x y := by
  induction x generalizing y s with
  | nil => rw [List.sublist_nil.1 hx]; simp
  | cons a x ih =>
    induction y generalizing s with
    | nil => rw [List.sublist_nil.1 hy]; simp
    | cons b y ihy =>
      rw [lc_cons]
      by_cases h : a = b
      · subst h
        rw [if_pos rfl]
        cases hx with
        | cons _ hx =>
          cases hy with
          | cons _ hy => have := ih s y hx hy; omega
          | cons_cons _ hy =>
            rename_i s
            have := ih s y ((List.sublist_cons_self a s).trans hx) hy
            simp; omega
        | cons_cons _ hx =>
          rename_i s
          have : s.Sublist y := by
            cases hy with
            | cons _ hy => exact (List.sublist_cons_self a s).trans hy
            | cons_cons _ hy => exact hy
          have := ih s y hx this
          simp; omega
      · rw [if_neg h]
        cases hx with
        | cons _ hx => have := ih s (b :: y) hx hy; omega
        | cons_cons _ hx =>
          rename_i s
          cases hy with
          | cons _ hy => have := ihy (a :: s) (hx.cons_cons a) hy; omega
          | cons_cons _ hy => exact absurd rfl h
theorem lc_left (x y : List Int) : lc x y ≤ x.length := by
  obtain ⟨s, h1, _, h3⟩ := lc_ex x y
  rw [← h3]; exact h1.length_le
theorem lc_right (x y : List Int) : lc x y ≤ y.length := by
  obtain ⟨s, _, h2, h3⟩ := lc_ex x y
  rw [← h3]; exact h2.length_le
theorem lc_of {x y x' y' : List Int} (h : ∀ s : List Int, s.Sublist x → s.Sublist y → ∃ t : List Int, t.Sublist x' ∧ t.Sublist y' ∧ s.length ≤ t.length) : lc x y ≤ lc x' y' := by
  obtain ⟨s, h1, h2, h3⟩ := lc_ex x y
  obtain ⟨t, k1, k2, k3⟩ := h s h1 h2
  have := lc_le t x' y' k1 k2
  omega
theorem lc_comm (x y : List Int) : lc x y = lc y x := Nat.le_antisymm (lc_of fun s a b => ⟨s, b, a, Nat.le_refl _⟩) (lc_of fun s a b => ⟨s, b, a, Nat.le_refl _⟩)
theorem lc_rev (x y : List Int) : lc x.reverse y.reverse = lc x y := by
  refine Nat.le_antisymm (lc_of fun s a b => ⟨s.reverse, ?_, ?_, by simp⟩) (lc_of fun s a b => ⟨s.reverse, List.reverse_sublist.2 a, List.reverse_sublist.2 b, by simp⟩)
  · have := List.reverse_sublist.2 a; rwa [List.reverse_reverse] at this
  · have := List.reverse_sublist.2 b; rwa [List.reverse_reverse] at this
theorem lc_self (x : List Int) : lc x x = x.length := Nat.le_antisymm (lc_left x x) (lc_le x x x (List.Sublist.refl _) (List.Sublist.refl _))
theorem lc_ahead (c : Int) (x y : List Int) : lc (c :: x) (c :: y) = lc x y + 1 := by rw [lc_cons, if_pos rfl]
theorem lc_mono {x x' y y' : List Int} (hx : x.Sublist x') (hy : y.Sublist y') : lc x y ≤ lc x' y' := lc_of fun s a b => ⟨s, a.trans hx, b.trans hy, Nat.le_refl _⟩
/-- a line more -/
theorem lc_more (p q y : List Int) (c : Int) : lc (p ++ q) y ≤ lc (p ++ c :: q) y ∧ lc (p ++ c :: q) y ≤ lc (p ++ q) y + 1 := by
  refine ⟨lc_mono ((List.Sublist.refl p).append (List.sublist_cons_self c q)) (List.Sublist.refl y), ?_⟩
  obtain ⟨s, h1, h2, h3⟩ := lc_ex (p ++ c :: q) y
  obtain ⟨s1, s2, rfl, k1, k2⟩ := List.sublist_append_iff.1 h1
  cases k2 with
  | cons _ k2 =>
    have := lc_le (s1 ++ s2) (p ++ q) y (k1.append k2) h2
    omega
  | cons_cons _ k2 =>
    rename_i s2
    have := lc_le (s1 ++ s2) (p ++ q) y (k1.append k2) (((List.Sublist.refl s1).append (List.sublist_cons_self c s2)).trans h2)
    simp at h3 this
    omega
/-- rows behind both -/
theorem lc_behind (x y u v : List Int) : lc x y + lc u v ≤ lc (x ++ u) (y ++ v) := by
  obtain ⟨s, h1, h2, h3⟩ := lc_ex x y
  obtain ⟨t, k1, k2, k3⟩ := lc_ex u v
  have := lc_le (s ++ t) (x ++ u) (y ++ v) (h1.append k1) (h2.append k2)
  simp at this
  omega
theorem lc_all (x y : List Int) : lc x y = x.length ↔ x.Sublist y := by
  constructor
  · intro h
    obtain ⟨s, h1, h2, h3⟩ := lc_ex x y
    have : s = x := h1.eq_of_length (by omega)
    rwa [← this]
  · intro h
    exact Nat.le_antisymm (lc_left x y) (lc_le x x y (List.Sublist.refl _) h)
/-- how much of x is found in y, going through y once -/
def gr : List Int → List Int → Nat
  | [], _ => 0
  | _ :: _, [] => 0
  | a :: x, b :: y => if a = b then gr x y + 1 else gr (a :: x) y
theorem gr_le (x y : List Int) : gr x y ≤ x.length := by
  induction y generalizing x with
  | nil => cases x <;> simp [gr]
  | cons b y ih =>
    cases x with
    | nil => simp [gr]
    | cons a x =>
      rw [gr]
      split
      · have := ih x; simp; omega
      · exact ih (a :: x)
theorem gr_all (x y : List Int) : gr x y = x.length ↔ x.Sublist y := by
  induction y generalizing x with
  | nil => cases x <;> simp [gr]
  | cons b y ih =>
    cases x with
    | nil => simp [gr]
    | cons a x =>
      rw [gr]
      by_cases h : a = b
      · subst h
        rw [if_pos rfl]
        have := ih x
        rw [List.cons_sublist_cons, ← this]
        simp
      · rw [if_neg h, ih (a :: x)]
        constructor
        · exact fun h => h.cons b
        · intro k
          cases k with
          | cons _ k => exact k
          | cons_cons _ k => exact absurd rfl h

/-- what is kept: with which of y's members, numbered from b on, each of x's makes a pair -/
def kp (b : Int) : List Int → List Int → List Int
  | [], _ => []
  | _ :: x, [] => -1 :: kp b x []
  | a :: x, c :: y => if a = c then b :: kp (b + 1) x y else if lc (a :: x) y ≤ lc x (c :: y) then -1 :: kp b x (c :: y) else kp (b + 1) (a :: x) y
theorem kp_nil (b : Int) (y : List Int) : kp b [] y = [] := by rw [kp]
theorem kp_none (b : Int) (x : List Int) : kp b x [] = List.replicate x.length (-1) := by
  induction x with
  | nil => rw [kp]; rfl
  | cons a x ih => rw [kp, ih]; rfl
theorem kp_cons (b a c : Int) (x y : List Int) : kp b (a :: x) (c :: y) = if a = c then b :: kp (b + 1) x y else if lc (a :: x) y ≤ lc x (c :: y) then -1 :: kp b x (c :: y) else kp (b + 1) (a :: x) y := by rw [kp]
theorem kp_length (b : Int) (x y : List Int) : (kp b x y).length = x.length := by
  induction x generalizing y b with
  | nil => rw [kp_nil]
  | cons a x ih =>
    induction y generalizing b with
    | nil => rw [kp_none]; simp
    | cons c y ihy =>
      rw [kp_cons]
      split
      · simp [ih]
      split
      · simp [ih]
      · exact ihy _
theorem Vk.up {a b m : Int} {K : List Int} (h : Vk b m K) (hab : a ≤ b) : Vk a m K := by
  induction K with
  | nil => trivial
  | cons z t ih =>
    rcases h with ⟨h1, h2⟩ | ⟨h1, h2, h3⟩
    · exact .inl ⟨h1, ih h2⟩
    · exact .inr ⟨h1, by omega, h3⟩
theorem Vk.none (b m : Int) (k : Nat) : Vk b m (List.replicate k (-1)) := by
  induction k with
  | zero => trivial
  | succ k ih => exact .inl ⟨rfl, ih⟩
theorem kp_vk (b : Int) (x y : List Int) (hb : 0 ≤ b) : Vk b (b + y.length) (kp b x y) := by
  induction x generalizing y b with
  | nil => rw [kp_nil]; trivial
  | cons a x ih =>
    induction y generalizing b with
    | nil => rw [kp_none]; exact Vk.none _ _ _
    | cons c y ihy =>
      rw [kp_cons]
      split
      · refine .inr ⟨by omega, by omega, by simp; omega, ?_⟩
        have := ih (b + 1) y (by omega)
        rw [show b + ((c :: y).length : Int) = b + 1 + (y.length : Int) by simp; omega]
        exact this
      split
      · exact .inl ⟨rfl, ih b (c :: y) hb⟩
      · have := ihy (b + 1) (by omega)
        rw [show b + ((c :: y).length : Int) = b + 1 + (y.length : Int) by simp; omega]
        exact this.up (by omega)
/-- how many pairs a list of what is kept holds -/
def prs (K : List Int) : Nat := (K.filter fun z => decide (0 ≤ z)).length
theorem prs_kp (b : Int) (x y : List Int) (hb : 0 ≤ b) : prs (kp b x y) = lc x y := by
  induction x generalizing y b with
  | nil => rw [kp_nil, lc_nil_left]; rfl
  | cons a x ih =>
    induction y generalizing b with
    | nil =>
      rw [kp_none, lc_nil_right]
      simp [prs]
    | cons c y ihy =>
      rw [kp_cons, lc_cons]
      by_cases h : a = c
      · rw [if_pos h, if_pos h, ← ih (b + 1) y (by omega)]
        simp [prs, hb]
      · rw [if_neg h, if_neg h]
        split
        · have := ih b (c :: y) hb
          rw [show prs (-1 :: kp b x (c :: y)) = prs (kp b x (c :: y)) by simp [prs], this]
          omega
        · rw [ihy (b + 1) (by omega)]
          omega
/-- what is kept is the same -/
theorem kp_same (b : Int) (x y : List Int) (hb : 0 ≤ b) (i : Nat) (z : Int) (h : (kp b x y)[i]? = some z) (hz : 0 ≤ z) : b ≤ z ∧ ∃ c, x[i]? = some c ∧ y[(z - b).toNat]? = some c := by
  induction x generalizing y b i with
  | nil => rw [kp_nil] at h; simp at h
  | cons a x ih =>
    induction y generalizing b i with
    | nil =>
      rw [kp_none] at h
      have := List.eq_of_mem_replicate (List.mem_of_getElem? h)
      omega
    | cons c y ihy =>
      rw [kp_cons] at h
      by_cases e : a = c
      · subst e
        rw [if_pos rfl] at h
        cases i with
        | zero =>
          simp at h
          subst h
          exact ⟨Int.le_refl _, a, by simp, by simp⟩
        | succ i =>
          obtain ⟨h1, d, h2, h3⟩ := ih (b + 1) y (by omega) i (by simpa using h)
          refine ⟨by omega, d, by simpa using h2, ?_⟩
          rw [show (z - b).toNat = (z - (b + 1)).toNat + 1 by omega]
          simpa using h3
      · rw [if_neg e] at h
        split at h
        · cases i with
          | zero => simp at h; omega
          | succ i =>
            obtain ⟨h1, d, h2, h3⟩ := ih b (c :: y) hb i (by simpa using h)
            exact ⟨h1, d, by simpa using h2, h3⟩
        · obtain ⟨h1, d, h2, h3⟩ := ihy (b + 1) (by omega) i h
          refine ⟨by omega, d, h2, ?_⟩
          rw [show (z - b).toNat = (z - (b + 1)).toNat + 1 by omega]
          simpa using h3
/-- how many members are the same at the front -/
def fr : List Int → List Int → Nat
  | a :: x, b :: y => if a = b then fr x y + 1 else 0
  | _, _ => 0
theorem fr_le (x y : List Int) : fr x y ≤ x.length ∧ fr x y ≤ y.length := by
  induction x generalizing y with
  | nil => simp [fr]
  | cons a x ih =>
    cases y with
    | nil => simp [fr]
    | cons b y =>
      have := ih y
      rw [fr]
      split <;> simp <;> omega
theorem fr_lc (x y : List Int) : fr x y + lc (x.drop (fr x y)) (y.drop (fr x y)) = lc x y := by
  induction x generalizing y with
  | nil => simp [fr, lc_nil_left]
  | cons a x ih =>
    cases y with
    | nil => simp [fr, lc_nil_right]
    | cons b y =>
      have := ih y
      rw [fr]
      split
      · rename_i h
        subst h
        rw [lc_ahead]
        simp
        omega
      · simp
theorem fr_at (x y : List Int) (i : Nat) (h : i < fr x y) : x[i]? = y[i]? := by
  induction x generalizing y i with
  | nil => simp [fr] at h
  | cons a x ih =>
    cases y with
    | nil => simp [fr] at h
    | cons b y =>
      rw [fr] at h
      split at h
      · rename_i e
        subst e
        cases i with
        | zero => simp
        | succ i => simpa using ih y i (by omega)
      · omega
theorem fr_step (x y : List Int) (i : Nat) (hx : i < x.length) (hy : i < y.length) : fr (x.drop i) (y.drop i) = if x[i] = y[i] then fr (x.drop (i + 1)) (y.drop (i + 1)) + 1 else 0 := by
  rw [List.drop_eq_getElem_cons hx, List.drop_eq_getElem_cons hy, fr]
/-- a length of two places -/
def ln (x y : List Int) (i j : Nat) : Nat := lc (x.drop i) (y.drop j)
theorem ln_end (x y : List Int) (i j : Nat) (h : x.length ≤ i ∨ y.length ≤ j) : ln x y i j = 0 := by
  rcases h with h | h
  · rw [ln, List.drop_of_length_le h, lc_nil_left]
  · rw [ln, List.drop_of_length_le h, lc_nil_right]
theorem ln_step (x y : List Int) (i j : Nat) (hx : i < x.length) (hy : j < y.length) : ln x y i j = if x[i] = y[j] then ln x y (i + 1) (j + 1) + 1 else max (ln x y (i + 1) j) (ln x y i (j + 1)) := by
  unfold ln
  rw [List.drop_eq_getElem_cons hx, List.drop_eq_getElem_cons hy, lc_cons]
theorem ln_le (x y : List Int) (i j : Nat) : ln x y i j ≤ x.length := by
  have := lc_left (x.drop i) (y.drop j)
  simp at this
  unfold ln
  omega
theorem ln_zero (x y : List Int) : ln x y 0 0 = lc x y := rfl
theorem kp_step (b : Int) (x y : List Int) (i j : Nat) (hx : i < x.length) (hy : j < y.length) : kp b (x.drop i) (y.drop j) = if x[i] = y[j] then b :: kp (b + 1) (x.drop (i + 1)) (y.drop (j + 1)) else if ln x y i (j + 1) ≤ ln x y (i + 1) j then -1 :: kp b (x.drop (i + 1)) (y.drop j) else kp (b + 1) (x.drop i) (y.drop (j + 1)) := by
  unfold ln
  rw [List.drop_eq_getElem_cons hx, List.drop_eq_getElem_cons hy, kp_cons]
theorem kp_same_front (b : Int) (x y : List Int) (i : Nat) (h : i < fr x y) : kp b (x.drop i) (y.drop i) = b :: kp (b + 1) (x.drop (i + 1)) (y.drop (i + 1)) := by
  have h1 := fr_le x y
  rw [kp_step b x y i i (by omega) (by omega), if_pos]
  have := fr_at x y i h
  rw [List.getElem?_eq_getElem (by omega), List.getElem?_eq_getElem (by omega)] at this
  simpa using this
end Go.Proofs.YtgckcbcdmmnkoaaGreatDoor

/- Scripts are made: between, Make, walked. -/
set_option maxRecDepth 20000
namespace Go.Proofs.YtgckcbcdmmnkoaaGreatDoor
open Go.RowKit

theorem ret_tuple {a b : Value} (h : a = b) : Ending.returned a = .returned b := by rw [h]
/-- numbers of a run that are small enough for sums -/
def sm (r : Rn) : Prop := 0 ≤ r.a ∧ r.a ≤ 4294967296 ∧ 0 ≤ r.b ∧ r.b ≤ 4294967296 ∧ 0 ≤ r.n ∧ r.n ≤ 4294967296
theorem owns_apart {w w' : World} {base base' : Nat} {e e' : TypeId} {s s' : Nat} {v v' : Value} {n n' : Nat} {xs xs' : List Value} (h : w.ownsRow base e s v n xs) (h' : w.ownsRow base' e' s' v' n' xs') (hne : e ≠ e') (h0 : 0 < n) (hg : w.grownBy w' v'.ownBlock) : w'.ownsRow base e s v n xs := by
  refine h.kept hg (.inr ?_)
  rcases h.2 with ⟨_, h1⟩ | ⟨g, cap, cur, rfl, _, hc, _⟩
  · omega
  · rcases h'.2 with ⟨rfl, _⟩ | ⟨g', cap', cur', rfl, _, hc', _⟩
    · simp [Value.ownBlock]
    · intro e1
      simp only [Value.ownBlock, Option.some.injEq] at e1
      subst e1
      rw [hc] at hc'
      cases hc'
      exact hne rfl

theorem new_holds_at (W : World) (g : Nat) (hg : W.heap.size = g) (cs : Array Value) (e : TypeId) (k c : Nat) (hkc : k ≤ c) : Holds (W.alloc (.cells cs e)) (.slice (some ⟨g, 0, none⟩) k c) k cs.toList := by
  subst hg
  exact new_holds W cs e k c hkc

set_option maxRecDepth 10000 in
set_option maxHeartbeats 4000000 in
theorem between_f (rs RS : List Rn) (L : List Ch) (n m : Int) (v : Value) (base : Nat) (w : World) (hbase : base ≤ w.heap.size) (hv : w.ownsRow base 117 3 v rs.length (rncells rs)) (hlen : rs.length ≤ 1099511627776) (hRS : Hid (rs ++ [⟨n, m, 0⟩] = RS)) (hL : Hid (betw 0 0 RS = L)) (hs : Hid (∀ r ∈ RS, sm r)) (hN : Hid (∀ c ∈ L, numB c = true)) :
    Calls Tryz.prog 74 #[v, .int .i64 n, .int .i64 m] w fun e w' => ∃ v', e = .returned (.tuple #[v', .int .i64 0]) ∧ HCh w' v' L ∧ Below base w w' := by
  obtain ⟨ao, ca, rfl⟩ := (holds_of hv).form
  go_enter Tryz.func74, Tryz.ntmps74
  go_wp2_with (at_builtin; refine wpList_append_h _ (by kernel_rfl) (.tmp 15) (.tmp 19) 115 117 (.agg #[.int .i64 0, .int .i64 0, .int .i64 0]) 3 24 rfl Tryz.underlying115 infoRn rfl (by decide) (by decide) base _ _ _ rfl (hv.alloc _) _ 1 (rncells [⟨n, m, 0⟩]) rfl (new_holds _ _ _ _ _ (by decide)) rfl (rncells_one _) (by omega) (by simp; omega) ?_)
  intro v1 w1 hown1 hgrow1
  have hB1 : Below base w w1 := ((Below.refl base w).alloc hbase _).grown hgrow1 (by simp; omega) (fun _ hj => owns_ge hv hj)
  have hsz1 := hB1.size
  rw [← rncells_append, hRS.out] at hown1
  have hRl : RS.length = rs.length + 1 := by rw [← hRS.out]; simp
  obtain ⟨N, hNe⟩ : ∃ N, rs.length + 1 = N := ⟨_, rfl⟩
  rw [hNe] at hown1 hRl
  have hN0 : 0 < N := by omega
  have hNl : N ≤ 1099511627777 := by omega
  obtain ⟨g1, cap1, rfl⟩ : ∃ g cap, v1 = .slice (some ⟨g, 0, none⟩) N cap := by rw [← hNe] at hown1 ⊢; exact ownsRow_succ hown1
  clear hgrow1 hNe hv
  go_wp2
  go_loopw [8, 9, 10, 22] (fun lv av bv iv wr => ∃ (k : Nat) (a b : Int) (X : List Ch), k ≤ N ∧ (∃ oo oc, lv = .slice oo X.length oc) ∧ av = .int .i64 a ∧ bv = .int .i64 b ∧ iv = .int .i64 k ∧ 0 ≤ a ∧ a ≤ 8589934592 ∧ 0 ≤ b ∧ b ≤ 8589934592 ∧ Below base w wr ∧ wr.ownsRow base 56 4 lv X.length (chcells X) ∧ X.length ≤ k ∧ wr.ownsRow base 117 3 (.slice (some ⟨g1, 0, none⟩) N cap1) N (rncells RS) ∧ Hid (X ++ betw a b (RS.drop k) = L)) (fun _ _ _ iv _ => N - (intOf iv).toNat)
  case atStart => exact ⟨0, 0, 0, [], Nat.zero_le _, ⟨_, _, rfl⟩, rfl, rfl, rfl, by omega, by omega, by omega, by omega, hB1, World.ownsRow_nil _ _ _ _, Nat.zero_le _, hown1, hL⟩
  case round =>
    obtain ⟨k, a, b, X, hk, ⟨oo, oc, rfl⟩, rfl, rfl, rfl, ha0, ha1, hb0, hb1, hB, hO, hX, hV, hR⟩ := hrel
    have hsz := hB.size
    by_cases hlt : k < N
    · have hV' : HRn wr (.slice (some ⟨g1, 0, none⟩) N cap1) RS := by have := holds_of hV; rw [← hRl] at this ⊢; exact this
      obtain ⟨bk, off, hbe, hbk, hc⟩ := HRn.at hV' (by omega)
      cases hbe
      obtain ⟨c0, c1, c2⟩ := hc k (by omega)
      have hR' := hR.out
      rw [List.drop_eq_getElem_cons (by omega)] at hR'
      obtain ⟨r, hrd⟩ : ∃ r, RS[k] = r := ⟨_, rfl⟩
      have hsm := hs.out r (by rw [← hrd]; exact List.getElem_mem _)
      rw [hrd] at hR' c0 c1 c2
      clear hc hrd hR hV'
      have HR : Hid (X ++ betw a b (r :: RS.drop (k + 1)) = L) := hR'
      clear hR'
      obtain ⟨ra, rb, rn⟩ := r
      obtain ⟨s1, s2, s3, s4, s5, s6⟩ := hsm
      dsimp only at c0 c1 c2 s1 s2 s3 s4 s5 s6
      rw [Nat.zero_add] at c0 c1 c2
      have i1 : 0 ≤ (k : Int) := by omega
      have i2 : (k : Int) < (N : Int) := by omega
      by_cases hea : a < ra
      · go_wp2_with (at_builtin; refine wpList_append_h _ (by kernel_rfl) (.tmp 36) (.tmp 48) 26 56 (.agg #[.int .i64 0, .int .i64 0, .int .i64 0, .int .i64 0]) 4 32 rfl Tryz.underlying26 infoCh rfl (by decide) (by decide) base _ _ _ rfl ((hO.alloc _).alloc _) _ 1 (chcells [⟨a, ra - a, b, rb - b⟩]) rfl (new_holds_at _ _ (by simp) _ _ _ _ (by decide)) rfl (chcells_one _) (by omega) (by simp; omega) ?_)
        intro v2 w2 hown2 hgrow2
        have hB2 : Below base w w2 := ((hB.alloc (by omega) _).alloc (by simp; omega) _).grown hgrow2 (by simp; omega) (fun _ hj => owns_ge hO hj)
        have hsz2 := hB2.size
        have hV2 := owns_apart ((hV.alloc _).alloc _) ((hO.alloc _).alloc _) (by decide) hN0 hgrow2
        have hbx : w2.heap[wr.heap.size]? = some (Obj.cells #[Value.int IntKind.i64 ra, Value.int IntKind.i64 rb, Value.int IntKind.i64 rn] 117 (0, 0)) := by
          rw [hgrow2.block wr.heap.size (by simp; omega) (fun e => ?_)]
          · exact (Below.heap_alloc _ _ _ (by simp)).trans (_root_.Go.heap_alloc_new wr _)
          · have h1 := hO.2
            rcases h1 with ⟨h1, _⟩ | ⟨g, cap, cur, h1, _, h3, _⟩
            · rw [h1] at e; simp [Value.ownBlock] at e
            · rw [h1] at e
              simp only [Value.ownBlock, Option.some.injEq] at e
              have := (Array.getElem?_eq_some_iff.1 h3).1
              omega
        have d0 : w2.cell? ⟨wr.heap.size, 0, none⟩ = some (.int .i64 ra) := by rw [Lib.cell_of_heap hbx]; rfl
        have d1 : w2.cell? ⟨wr.heap.size, 1, none⟩ = some (.int .i64 rb) := by rw [Lib.cell_of_heap hbx]; rfl
        have d2 : w2.cell? ⟨wr.heap.size, 2, none⟩ = some (.int .i64 rn) := by rw [Lib.cell_of_heap hbx]; rfl
        rw [← chcells_append] at hown2
        obtain ⟨oo2, oc2, rfl⟩ := (holds_of hown2).form
        clear hbx hgrow2 c0 c1 c2
        go_wp2_with fail
        go_quiet (fail)
        go_wp2
        go_roundw
        case rel => exact ⟨k + 1, ra + rn, rb + rn, X ++ [⟨a, ra - a, b, rb - b⟩], by omega, ⟨_, _, by rw [List.length_append]; rfl⟩, by go_num, by go_num, by go_num, by omega, by omega, by omega, by omega, Below.dN hB2 _, by rw [List.length_append]; exact hown2, by simp; omega, hV2, (by
            have h := HR.out
            rw [betw] at h
            rw [if_pos (by dsimp only; omega)] at h
            show _ = _
            rw [← h]
            simp)⟩
        case measure => simp [intOf]; omega
      by_cases heb : b < rb
      · go_wp2_with (at_builtin; refine wpList_append_h _ (by kernel_rfl) (.tmp 36) (.tmp 48) 26 56 (.agg #[.int .i64 0, .int .i64 0, .int .i64 0, .int .i64 0]) 4 32 rfl Tryz.underlying26 infoCh rfl (by decide) (by decide) base _ _ _ rfl ((hO.alloc _).alloc _) _ 1 (chcells [⟨a, ra - a, b, rb - b⟩]) rfl (new_holds_at _ _ (by simp) _ _ _ _ (by decide)) rfl (chcells_one _) (by omega) (by simp; omega) ?_)
        intro v2 w2 hown2 hgrow2
        have hB2 : Below base w w2 := ((hB.alloc (by omega) _).alloc (by simp; omega) _).grown hgrow2 (by simp; omega) (fun _ hj => owns_ge hO hj)
        have hsz2 := hB2.size
        have hV2 := owns_apart ((hV.alloc _).alloc _) ((hO.alloc _).alloc _) (by decide) hN0 hgrow2
        have hbx : w2.heap[wr.heap.size]? = some (Obj.cells #[Value.int IntKind.i64 ra, Value.int IntKind.i64 rb, Value.int IntKind.i64 rn] 117 (0, 0)) := by
          rw [hgrow2.block wr.heap.size (by simp; omega) (fun e => ?_)]
          · exact (Below.heap_alloc _ _ _ (by simp)).trans (_root_.Go.heap_alloc_new wr _)
          · have h1 := hO.2
            rcases h1 with ⟨h1, _⟩ | ⟨g, cap, cur, h1, _, h3, _⟩
            · rw [h1] at e; simp [Value.ownBlock] at e
            · rw [h1] at e
              simp only [Value.ownBlock, Option.some.injEq] at e
              have := (Array.getElem?_eq_some_iff.1 h3).1
              omega
        have d0 : w2.cell? ⟨wr.heap.size, 0, none⟩ = some (.int .i64 ra) := by rw [Lib.cell_of_heap hbx]; rfl
        have d1 : w2.cell? ⟨wr.heap.size, 1, none⟩ = some (.int .i64 rb) := by rw [Lib.cell_of_heap hbx]; rfl
        have d2 : w2.cell? ⟨wr.heap.size, 2, none⟩ = some (.int .i64 rn) := by rw [Lib.cell_of_heap hbx]; rfl
        rw [← chcells_append] at hown2
        obtain ⟨oo2, oc2, rfl⟩ := (holds_of hown2).form
        clear hbx hgrow2 c0 c1 c2
        go_wp2_with fail
        go_quiet (fail)
        go_wp2
        go_roundw
        case rel => exact ⟨k + 1, ra + rn, rb + rn, X ++ [⟨a, ra - a, b, rb - b⟩], by omega, ⟨_, _, by rw [List.length_append]; rfl⟩, by go_num, by go_num, by go_num, by omega, by omega, by omega, by omega, Below.dN hB2 _, by rw [List.length_append]; exact hown2, by simp; omega, hV2, (by
            have h := HR.out
            rw [betw] at h
            rw [if_pos (by dsimp only; omega)] at h
            show _ = _
            rw [← h]
            simp)⟩
        case measure => simp [intOf]; omega
      · go_wp2_with fail
        go_quiet (fail)
        go_wp2
        go_roundw
        case rel => exact ⟨k + 1, ra + rn, rb + rn, X, by omega, ⟨_, _, rfl⟩, by go_num, by go_num, by go_num, by omega, by omega, by omega, by omega, Below.dN (hB.alloc (by omega) _) _, hO.alloc _, by omega, hV.alloc _, (by
            have h := HR.out
            rw [betw] at h
            rw [if_neg (by dsimp only; omega)] at h
            exact h)⟩
        case measure => simp [intOf]; omega
    · have hR' := hR.out
      rw [List.drop_of_length_le (by omega), betw, List.append_nil] at hR'
      subst hR'
      clear hR
      go_wp2
      go_loopw [63] (fun iv wr2 => ∃ k : Nat, k ≤ X.length ∧ iv = .int .i64 k ∧ Below base w wr2 ∧ HCh wr2 (.slice oo X.length oc) X) (fun iv _ => X.length - (intOf iv).toNat)
      case atStart => exact ⟨0, Nat.zero_le _, rfl, hB, holds_of hO⟩
      case round =>
        obtain ⟨j, hj, rfl, hBj, hXj⟩ := hrel
        have hszj := hBj.size
        by_cases hjl : j < X.length
        · obtain ⟨bk, off, rfl, hbk, hc⟩ := HCh.at hXj (by omega)
          obtain ⟨c0, c1, c2, c3⟩ := hc j hjl
          obtain ⟨c, hcd⟩ : ∃ c, X[j] = c := ⟨_, rfl⟩
          have hnc := hN.out c (by rw [← hcd]; exact List.getElem_mem _)
          rw [hcd] at c0 c1 c2 c3
          clear hc hcd
          obtain ⟨A, AN, B, BN⟩ := c
          dsimp only at c0 c1 c2 c3
          have HQ : Hid (numB ⟨A, AN, B, BN⟩ = true) := hnc
          clear hnc
          have i1 : 0 ≤ (j : Int) := by omega
          have i2 : (j : Int) < (X.length : Int) := by omega
          go_wp2_with fail
          refine (numbered_any ⟨A, AN, B, BN⟩ _).mono ?_
          rintro e w3 ⟨rfl, hB3⟩
          rw [HQ.out]
          have hB4 := ((Below.refl wr.heap.size wr).alloc (Nat.le_refl _) (Obj.cells #[Value.int IntKind.i64 A, Value.int IntKind.i64 AN, Value.int IntKind.i64 B, Value.int IntKind.i64 BN] 56)).trans (hB3.mono (by simp))
          clear c0 c1 c2 c3
          go_wp2
          go_roundw
          case rel => exact ⟨j + 1, by omega, by go_num, hBj.trans (hB4.mono (by omega)), HCh.keep hXj hB4 (Nat.le_refl _)⟩
          case measure => simp [intOf]; omega
        · go_wp2
          go_ret2
          exact ⟨_, rfl, hXj, hBj⟩

theorem Right.num {f : Bool} {a b n m : Int} {l : List Ch} (h : Right f a b n m l) : ∀ c ∈ l, numB c = true := by
  induction l generalizing f a b with
  | nil => simp
  | cons c l ih =>
    intro d hd
    rw [List.mem_cons] at hd
    rcases hd with rfl | hd
    · exact h.1.1
    · exact ih h.2 d hd
theorem Vk.lt {nx m : Int} {K : List Int} (h : Vk nx m K) : ∀ z ∈ K, z = -1 ∨ z < m := by
  induction K generalizing nx with
  | nil => simp
  | cons y t ih =>
    intro z hz
    rw [List.mem_cons] at hz
    rcases h with ⟨rfl, h⟩ | ⟨hy, h1, h2, h3⟩
    · rcases hz with rfl | hz
      · exact .inl rfl
      · exact ih h z hz
    · rcases hz with rfl | hz
      · exact .inr h2
      · exact ih h3 z hz
/-- the script that a list of what is kept makes -/
def mkL (K : List Int) (m : Int) : List Ch := betw 0 0 (keptR 0 K ++ [⟨K.length, m, 0⟩])
theorem mk_script {K : List Int} {m : Int} (h : Vk 0 m K) (h0 : 0 ≤ m) (hm : m ≤ 2147483647) (hl : K.length ≤ 1048576) : Script (mkL K m) K.length m ∧ U 0 0 K.length m (mkL K m) = keptR 0 K := by
  have hf := h.fit h0 (i := 0)
  rw [Int.zero_add] at hf
  have := fit_right hf (Int.le_refl _) (Int.le_refl _) (by omega) hm
  exact ⟨⟨by omega, h0, this.1⟩, this.2⟩
theorem kept_sm {K : List Int} {m : Int} (h : Vk 0 m K) (h0 : 0 ≤ m) (hm : m ≤ 2147483647) (hl : K.length ≤ 1048576) : ∀ r ∈ keptR 0 K ++ [⟨K.length, m, 0⟩], sm r := by
  intro r hr
  rw [List.mem_append, List.mem_singleton] at hr
  rcases hr with hr | rfl
  · rw [mem_keptR] at hr
    obtain ⟨h1, h2, h3, h4⟩ := hr
    have hlt := (List.getElem?_eq_some_iff.1 h3).1
    have hz := List.mem_of_getElem? h3
    have := h.each (Int.le_refl _) _ hz
    have := h.lt _ hz
    unfold sm
    omega
  · unfold sm
    dsimp only
    omega
theorem kept_len (i : Int) (K : List Int) : (keptR i K).length ≤ K.length := by
  induction K generalizing i with
  | nil => simp [keptR]
  | cons z t ih =>
    have := ih (i + 1)
    rw [keptR]
    split <;> simp <;> omega

set_option maxRecDepth 10000 in
set_option maxHeartbeats 4000000 in
theorem Make_f (K : List Int) (m : Int) (L : List Ch) (v : Value) (w : World) (hK : HI w v K) (hlen : K.length ≤ 1048576) (hV : Hid (Vk 0 m K)) (hm0 : 0 ≤ m) (hm : m ≤ 2147483647) (hL : Hid (mkL K m = L)) :
    Calls Tryz.prog 56 #[v, .int .i64 m] w fun e w' => ∃ v', e = .returned (.tuple #[v', .int .i64 0]) ∧ HCh w' v' L ∧ Below w.heap.size w w' := by
  obtain ⟨ao, ca, rfl⟩ := Holds.form hK
  go_enter Tryz.func56, Tryz.ntmps56
  go_wp2
  go_loopw [6, 7, 14] (fun kv nv iv wr => ∃ (k : Nat) (nx : Int) (X : List Rn), k ≤ K.length ∧ (∃ oo oc, kv = .slice oo X.length oc) ∧ nv = .int .i64 nx ∧ iv = .int .i64 k ∧ 0 ≤ nx ∧ nx ≤ m ∧ Below w.heap.size w wr ∧ wr.ownsRow w.heap.size 117 3 kv X.length (rncells X) ∧ X.length ≤ k ∧ Hid (Vk nx m (K.drop k) ∧ X ++ keptR k (K.drop k) = keptR 0 K)) (fun _ _ iv _ => K.length - (intOf iv).toNat)
  case atStart => exact ⟨0, 0, [], Nat.zero_le _, ⟨_, _, rfl⟩, rfl, rfl, by omega, by omega, Below.refl _ w, World.ownsRow_nil _ _ _ _, Nat.zero_le _, (⟨hV.out, rfl⟩ : _ ∧ _)⟩
  case round =>
    obtain ⟨k, nx, X, hk, ⟨oo, oc, rfl⟩, rfl, rfl, hn0, hnm, hB, hO, hX, hR⟩ := hrel
    have hsz := hB.size
    by_cases hlt : k < K.length
    · obtain ⟨bk, off, rfl, hbk, hc⟩ := HI.at (HI.keep hK hB (Nat.le_refl _)) (by omega)
      have c0 := hc k hlt
      have hR' := hR.out
      rw [List.drop_eq_getElem_cons hlt] at hR'
      obtain ⟨z, hzd⟩ : ∃ z, K[k] = z := ⟨_, rfl⟩
      rw [hzd] at hR' c0
      clear hc hzd hR
      have i1 : 0 ≤ (k : Int) := by omega
      have i2 : (k : Int) < (K.length : Int) := by omega
      by_cases hz : z = -1
      · subst hz
        have HR : Hid (Vk nx m (K.drop (k + 1)) ∧ X ++ keptR (k + 1 : Nat) (K.drop (k + 1)) = keptR 0 K) := (by
          obtain ⟨h1, h2⟩ := hR'
          rw [keptR, if_pos rfl] at h2
          rcases h1 with ⟨_, h1⟩ | ⟨h1, _⟩
          · exact ⟨h1, h2⟩
          · exact absurd rfl h1)
        clear hR'
        go_wp2
        go_roundw
        case rel => exact ⟨k + 1, nx, X, by omega, ⟨_, _, rfl⟩, rfl, by go_num, hn0, hnm, hB, hO, by omega, HR⟩
        case measure => simp [intOf]; omega
      · have hq : nx ≤ z ∧ z < m ∧ Vk (z + 1) m (K.drop (k + 1)) := by
          rcases hR'.1 with ⟨h1, _⟩ | ⟨_, h1⟩
          · exact absurd h1 hz
          · exact h1
        obtain ⟨q1, q2, q3⟩ := hq
        have HR : Hid (Vk (z + 1) m (K.drop (k + 1)) ∧ X ++ [⟨k, z, 1⟩] ++ keptR (k + 1 : Nat) (K.drop (k + 1)) = keptR 0 K) := (by
          obtain ⟨_, h2⟩ := hR'
          rw [keptR, if_neg hz] at h2
          refine ⟨q3, ?_⟩
          rw [← h2, List.append_assoc]
          rfl)
        clear hR' q3
        have hz2 : decide (z = -1) = false := decide_eq_false hz
        go_wp2_with (at_builtin; refine wpList_append_h _ (by kernel_rfl) (.tmp 29) (.tmp 33) 115 117 (.agg #[.int .i64 0, .int .i64 0, .int .i64 0]) 3 24 rfl Tryz.underlying115 infoRn rfl (by decide) (by decide) w.heap.size _ _ _ rfl (hO.alloc _) _ 1 (rncells [⟨k, z, 1⟩]) rfl (new_holds _ _ _ _ _ (by decide)) rfl (rncells_one _) (by omega) (by simp; omega) ?_)
        intro v2 w2 hown2 hgrow2
        have hB2 : Below w.heap.size w w2 := (hB.alloc (by omega) _).grown hgrow2 (by simp; omega) (fun _ hj => owns_ge hO hj)
        rw [← rncells_append] at hown2
        obtain ⟨oo2, oc2, rfl⟩ := (holds_of hown2).form
        clear hgrow2 c0
        go_wp2
        go_roundw
        case rel => exact ⟨k + 1, z + 1, X ++ [⟨k, z, 1⟩], by omega, ⟨_, _, by rw [List.length_append]; rfl⟩, by go_num, by go_num, by omega, by omega, hB2, by rw [List.length_append]; exact hown2, by simp; omega, HR⟩
        case measure => simp [intOf]; omega
    · have hR' := hR.out
      rw [List.drop_of_length_le (by omega), keptR, List.append_nil] at hR'
      have hXe := hR'.2
      subst hXe
      clear hR hR'
      go_wp2_with fail
      refine (between_f _ _ L K.length m _ w.heap.size wr (by omega) hO (by have := kept_len 0 K; omega) rfl hL (kept_sm hV.out hm0 hm hlen) (by
        have h := (mk_script hV.out hm0 hm hlen).1.2.2.num
        rw [hL.out] at h
        exact h)).mono ?_
      rintro e w2 ⟨v', rfl, hv', hB2⟩
      go_wp2
      go_ret2
      exact ⟨_, rfl, hv', hB.trans hB2⟩
end Go.Proofs.YtgckcbcdmmnkoaaGreatDoor

/- The table of lengths: row, at, measure, walked. -/
set_option maxRecDepth 20000
namespace Go.Proofs.YtgckcbcdmmnkoaaGreatDoor
open Go.RowKit

theorem info16 : (Tryz.prog.info? 148).map (fun i => (i.zero, i.size, i.bytes)) = some (some (.int .i16 0), 1, 2) := by kernel_rfl
/-- a table as a value -/
def tabV (W g N : Nat) : Value := .agg #[.int .i64 (W : Int), .slice (some ⟨g, 0, none⟩) N N]
theorem run_row (g N p q : Nat) (hpq : p ≤ q) (hq : q ≤ N) (hp : p < N) (u : World) :
    (Instr.slice 121 (.slice (some ⟨g, 0, none⟩) N N) (some (.int .i64 (p : Int))) (some (.int .i64 (q : Int))) none).run Tryz.prog u = .ok (.slice (some ⟨g, p, none⟩) (q - p) (N - p)) u := by
  rw [run_slice_lh (P := Tryz.prog) u 121 (some ⟨g, 0, none⟩) N N (by kernel_rfl) .i64 .i64 p q (by omega) (by omega) (by omega)]
  have : (sizeOf (Tryz.prog.elem 121)).run Tryz.prog u = .ok 1 u := by kernel_rfl
  rw [this]
  simp [Result.andThen, sliced, add_none]
  omega

set_option maxHeartbeats 1000000 in
theorem row_f (W g N p q L : Nat) (hL : q - p = L) (z : Int) (w : World) (h1 : z * (W : Int) = (p : Int)) (h2 : (z + 1) * (W : Int) = (q : Int)) (hpq : p ≤ q) (hq : q ≤ N) (hp : p < N) (hN : N ≤ 1099511627776) (hi0 : 0 ≤ z) (hi : z ≤ 1099511627776) :
    Calls Tryz.prog 91 #[tabV W g N, .int .i64 z] w fun e w' => e = .returned (.slice (some ⟨g, p, none⟩) L (N - p)) ∧ Below w.heap.size w w' := by
  have hr := run_row g N p q hpq hq hp
  rw [hL] at hr
  clear hL
  unfold tabV
  go_enter Tryz.func91, Tryz.ntmps91
  go_wp2
  go_ret
  exact ⟨rfl, (Below.refl _ w).alloc (Nat.le_refl _) _⟩

set_option maxHeartbeats 1000000 in
theorem at_n (W g N i j p q : Nat) (x : Int) (w : World) (h1 : (i : Int) * (W : Int) = (p : Int)) (h2 : (p : Int) + (j : Int) = (q : Int)) (hN : N ≤ 1099511627776) (hpj : q < N) (hx : w.cell? ⟨g, q, none⟩ = some (.int .i16 x)) (hx0 : 0 ≤ x) (hx1 : x ≤ 4096) :
    Calls Tryz.prog 78 #[tabV W g N, .int .i64 (i : Int), .int .i64 (j : Int)] w fun e w' => e = .returned (.int .i64 x) ∧ Below w.heap.size w w' := by
  have hg := World.block_lt_of_cell? w _ hx
  have hx' : (w.alloc (Obj.cells #[Value.int IntKind.i64 (W : Int), Value.slice (some ⟨g, 0, none⟩) N N] 123)).cell? ⟨g, q, none⟩ = some (.int .i16 x) := by
    rw [World.cell?_of_block (w := w) (Below.heap_alloc _ _ _ hg)]; exact hx
  have i1 : 0 ≤ (q : Int) := by omega
  have i2 : (q : Int) < (N : Int) := by omega
  unfold tabV
  go_enter Tryz.func78, Tryz.ntmps78
  go_wp2
  go_ret
  exact ⟨rfl, (Below.refl _ w).alloc (Nat.le_refl _) _⟩
theorem at_f (W g N p q : Nat) (i j x : Int) (w : World) (hi : 0 ≤ i) (hj : 0 ≤ j) (h1 : i * (W : Int) = (p : Int)) (h2 : (p : Int) + j = (q : Int)) (hN : N ≤ 1099511627776) (hpj : q < N) (hx : w.cell? ⟨g, q, none⟩ = some (.int .i16 x)) (hx0 : 0 ≤ x) (hx1 : x ≤ 4096) :
    Calls Tryz.prog 78 #[tabV W g N, .int .i64 i, .int .i64 j] w fun e w' => e = .returned (.int .i64 x) ∧ Below w.heap.size w w' := by
  obtain ⟨a, rfl⟩ := Int.eq_ofNat_of_zero_le hi
  obtain ⟨b, rfl⟩ := Int.eq_ofNat_of_zero_le hj
  exact at_n W g N a b p q x w h1 h2 hN hpj hx hx0 hx1
end Go.Proofs.YtgckcbcdmmnkoaaGreatDoor
