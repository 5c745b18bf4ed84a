/-
  Texts that belong together, joined: HuC3, HuWk.
-/
import Derived.Test.YtgiojkhmkeocfaaGreatDoorPartA9
import Derived.Test.YtgiojkhmkeocfaaGreatDoorPartA4
import Derived.Test.YtgiojkhmkeocfaaGreatDoorPartB4

/- The code's Order of layer 11, walked. -/
set_option maxRecDepth 20000
namespace Go.Proofs.YtgiojkhmkeocfaaGreatDoor
open Go.RowKit

set_option maxRecDepth 10000 in
set_option maxHeartbeats 4000000 in
theorem hOrder_f (p : List (Hk × Value)) (v : Value) (w : World) (hv : HHp w v p) (hok : HOk p) (r : Int) (HR : Hid (ordH (p.map (·.1)) = r)) : Calls Tryz.prog 47 #[v] w fun e w' => e = .returned (.int .i64 r) ∧ Below w.heap.size w w' := by
  obtain ⟨vo, vc, rfl⟩ := Holds.form hv.row
  have hpl : p.length ≤ 1099511627776 := hok.1
  have HOK : Hid (HOk p) := hok
  obtain ⟨l, hl⟩ : ∃ l, p.map (·.1) = l := ⟨_, rfl⟩
  have hll : p.length = l.length := by rw [← hl]; simp
  have HL : Hid (p.map (·.1) = l) := hl
  have HLL : Hid (p.length = l.length) := hll
  rw [hl] at HR
  clear hl hll hok
  go_enter Tryz.func47, Tryz.ntmps47
  go_wp2
  go_loopw [14] (fun iv wr => ∃ (k : Nat), k ≤ p.length ∧ iv = .int .i64 (k : Int) ∧ Below w.heap.size w wr ∧ Hid (errs l = errs (l.drop k))) (fun iv _ => p.length - (intOf iv).toNat)
  case atStart => exact ⟨0, Nat.zero_le _, by go_num, Below.refl _ _, rfl⟩
  case round =>
    obtain ⟨k, hk, rfl, hB, HI⟩ := hrel
    by_cases hlt : k < p.length
    · obtain ⟨b, off, rfl, hb, _⟩ := hv.at (by omega)
      obtain ⟨x, y, hxy⟩ : ∃ x y, p[k] = (x, y) := ⟨_, _, rfl⟩
      obtain ⟨⟨c0, c1, c2, c3, c4⟩, hm⟩ := hv.take hB k hlt hxy
      have hmem : (x, y) ∈ p := by rw [← hxy]; exact List.getElem_mem hlt
      have hbd := HOK.out.2 _ hmem
      have hlk : l[k]'(by have := HLL.out; omega) = x := by
        have hz : l[k]? = some x := by rw [← HL.out]; simp [hlt, hxy]
        exact (List.getElem?_eq_some_iff.1 hz).2
      have HI2 : Hid (errs l = if chkH x ≠ 0 then chkH x else errs (l.drop (k + 1))) := (by
        show _ = _
        rw [HI.out, errs_drop (by have := HLL.out; omega), hlk])
      obtain ⟨yo, yc, rfl⟩ := hm.form
      have i1 : 0 ≤ (k : Int) := by omega
      have i2 : (k : Int) < (p.length : Int) := by omega
      obtain ⟨z, hz⟩ : ∃ z, chkH x = z := ⟨_, rfl⟩
      have HZ : Hid (chkH x = z) := hz
      have hBx : Below wr.heap.size wr (wr.alloc (hkO x (.slice yo x.ls.length yc))) := (Below.refl _ wr).alloc (Nat.le_refl _) _
      have hm1 := HMk.keep hm hBx (Nat.le_refl _)
      have hB1 := hB.trans (hBx.mono hB.size)
      obtain ⟨x0, x1, x2, x3, x4⟩ := (Hx.new wr x (.slice yo x.ls.length yc)).cells
      have hW : wr.alloc (Obj.cells #[Value.int IntKind.i64 x.A, Value.int IntKind.i64 x.AN, Value.int IntKind.i64 x.B, Value.int IntKind.i64 x.BN, .slice yo x.ls.length yc] 59) = wr.alloc (hkO x (.slice yo x.ls.length yc)) := rfl
      clear HI hlk hz hxy hmem
      generalize wr.alloc (hkO x (.slice yo x.ls.length yc)) = w1 at *
      go_wp2_with fail
      refine (hCheck_f x _ _ hm1 hbd.1 hbd.2 z HZ).mono ?_
      rintro e w2 ⟨rfl, hB2⟩
      have hB02 := hB1.trans (hB2.mono hB1.size)
      by_cases hz0 : z = 0
      · subst hz0
        have HI3 : Hid (errs l = errs (l.drop (k + 1))) := (by
          show _ = _
          rw [HI2.out, HZ.out]
          simp)
        clear HI2 HZ
        go_wp2
        exact ⟨⟨k + 1, by omega, by go_num, hB02, HI3⟩, by simp [intOf]; omega⟩
      · have hz1 : (z != 0) = true := by simpa using hz0
        have HE : Hid (r = z) := (by
          have h1 : errs l = z := by rw [HI2.out, HZ.out, if_pos hz0]
          show _ = _
          rw [← HR.out]
          exact ord_err h1 hz0)
        clear HI2 HZ HR
        go_wp2
        go_ret
        exact ⟨ret_int HE.out.symm, hB02⟩
    · have HE0 : Hid (errs l = 0) := (by
        show _ = _
        rw [HI.out, List.drop_of_length_le (by have := HLL.out; omega)]
        rfl)
      have HE : Hid ((if ordB 0 0 l = true then (0 : Int) else 121) = r) := (by
        show _ = _
        rw [← HR.out]
        exact (ord_ok HE0.out).symm)
      have hend : decide ((k : Int) < (p.length : Int)) = false := decide_eq_false (by omega)
      clear HI HR
      go_wp2
      go_loopw [6, 7, 26] (fun uv vv iv wr => ∃ (k : Nat) (u v : Int), k ≤ p.length ∧ uv = .int .i64 u ∧ vv = .int .i64 v ∧ iv = .int .i64 (k : Int) ∧ (-1 ≤ u ∧ u ≤ 8589934592) ∧ (-1 ≤ v ∧ v ≤ 8589934592) ∧ Below w.heap.size w wr ∧ Hid ((if ordB u v (l.drop k) = true then (0 : Int) else 121) = r)) (fun _ _ iv _ => p.length - (intOf iv).toNat)
      case atStart => exact ⟨0, 0, 0, Nat.zero_le _, by go_num, by go_num, by go_num, by omega, by omega, hB, HE⟩
      case round =>
        obtain ⟨k, u, v, hk, rfl, rfl, rfl, hu, hv', hB, HI⟩ := hrel
        by_cases hlt : k < p.length
        · obtain ⟨b, off, rfl, hb, _⟩ := hv.at (by omega)
          obtain ⟨x, y, hxy⟩ : ∃ x y, p[k] = (x, y) := ⟨_, _, rfl⟩
          obtain ⟨⟨c0, c1, c2, c3, c4⟩, hm⟩ := hv.take hB k hlt hxy
          have hlk : l[k]'(by have := HLL.out; omega) = x := by
            have hz : l[k]? = some x := by rw [← HL.out]; simp [hlt, hxy]
            exact (List.getElem?_eq_some_iff.1 hz).2
          have hck : chkH x = 0 := errs_ok HE0.out x (by rw [← hlk]; exact List.getElem_mem _)
          have hn := chk_num hck
          obtain ⟨X, hX⟩ : ∃ X, atA x = X := ⟨_, rfl⟩
          obtain ⟨Y, hY⟩ : ∃ Y, atB x = Y := ⟨_, rfl⟩
          have ha := at_num hck
          rw [hX, hY] at ha
          have HX : Hid ((if 0 < x.AN then x.A - 1 else x.A) = X) := hX
          have HY : Hid ((if 0 < x.BN then x.B - 1 else x.B) = Y) := hY
          obtain ⟨yo, yc, rfl⟩ := hm.form
          have i1 : 0 ≤ (k : Int) := by omega
          have i2 : (k : Int) < (p.length : Int) := by omega
          have HI2 : Hid ((if (decide (u ≤ X) && decide (X - u = Y - v) && ordB (X + x.AN) (Y + x.BN) (l.drop (k + 1))) = true then (0 : Int) else 121) = r) := (by
            show _ = _
            have e : ordB u v (x :: l.drop (k + 1)) = (decide (u ≤ X) && decide (X - u = Y - v) && ordB (X + x.AN) (Y + x.BN) (l.drop (k + 1))) := by
              simp only [ordB]
              rw [hX, hY]
            rw [← HI.out, List.drop_eq_getElem_cons (l := l) (i := k) (by have := HLL.out; omega), hlk, e])
          have hBx : Below wr.heap.size wr (wr.alloc (hkO x (.slice yo x.ls.length yc))) := (Below.refl _ wr).alloc (Nat.le_refl _) _
          have hB1 := hB.trans (hBx.mono hB.size)
          have hx1 := Hx.new wr x (.slice yo x.ls.length yc)
          have hW : wr.alloc (Obj.cells #[Value.int IntKind.i64 x.A, Value.int IntKind.i64 x.AN, Value.int IntKind.i64 x.B, Value.int IntKind.i64 x.BN, .slice yo x.ls.length yc] 59) = wr.alloc (hkO x (.slice yo x.ls.length yc)) := rfl
          clear HI hlk hck hxy hX hY HE
          generalize wr.alloc (hkO x (.slice yo x.ls.length yc)) = w1 at *
          go_upto_region 12 with fail
          clear hW c0 c1 c2 c3 c4
          generalize hBX : wr.heap.size = BX at *
          have hxx : ∀ u : World, Low w1 u → Hx u BX x (.slice yo x.ls.length yc) := fun u hu => hx1.low hu
          have hlow : Low w1 (w1.drewN 1) := Below.dN (Below.refl _ w1) 1
          refine wp_region_noPanic ?_
          refine wp_region_held_drew (S := fun u => Low w1 u) (by kernel_rfl) hlow (fun hHeld => ?_)
          refine go_take 0 30 _ (.pointer (some ⟨BX, 0, none⟩)) rfl (by kernel_rfl) (by kernel_rfl) (by kernel_rfl) (by kernel_rfl) (fun _ _ _ h => h) (Or.inl ⟨by kernel_rfl, fun u hu => by kernel_rfl⟩) hHeld ?_
          simp only [Act.put, List.setIfInBounds_toArray, List.set_cons_zero, List.set_cons_succ]
          refine go_take 1 31 _ (.int .i64 x.A) rfl (by kernel_rfl) (by kernel_rfl) (by kernel_rfl) (by kernel_rfl) (fun _ _ _ h => h) (Or.inl ⟨by kernel_rfl, fun u hu => load_int (hxx u hu).cells.1 (.tmp 30) (by kernel_rfl) (by kernel_rfl)⟩) hHeld ?_
          simp only [Act.put, List.setIfInBounds_toArray, List.set_cons_zero, List.set_cons_succ]
          refine go_take 2 32 _ (.pointer (some ⟨BX, 1, none⟩)) rfl (by kernel_rfl) (by kernel_rfl) (by kernel_rfl) (by kernel_rfl) (fun _ _ _ h => h) (Or.inl ⟨by kernel_rfl, fun u hu => by kernel_rfl⟩) hHeld ?_
          simp only [Act.put, List.setIfInBounds_toArray, List.set_cons_zero, List.set_cons_succ]
          refine go_take 3 33 _ (.int .i64 x.AN) rfl (by kernel_rfl) (by kernel_rfl) (by kernel_rfl) (by kernel_rfl) (fun _ _ _ h => h) (Or.inl ⟨by kernel_rfl, fun u hu => load_int (hxx u hu).cells.2.1 (.tmp 32) (by kernel_rfl) (by kernel_rfl)⟩) hHeld ?_
          simp only [Act.put, List.setIfInBounds_toArray, List.set_cons_zero, List.set_cons_succ]
          refine go_take 5 35 _ (.pointer (some ⟨BX, 2, none⟩)) rfl (by kernel_rfl) (by kernel_rfl) (by kernel_rfl) (by kernel_rfl) (fun _ _ _ h => h) (Or.inl ⟨by kernel_rfl, fun u hu => by kernel_rfl⟩) hHeld ?_
          simp only [Act.put, List.setIfInBounds_toArray, List.set_cons_zero, List.set_cons_succ]
          refine go_take 6 36 _ (.int .i64 x.B) rfl (by kernel_rfl) (by kernel_rfl) (by kernel_rfl) (by kernel_rfl) (fun _ _ _ h => h) (Or.inl ⟨by kernel_rfl, fun u hu => load_int (hxx u hu).cells.2.2.1 (.tmp 35) (by kernel_rfl) (by kernel_rfl)⟩) hHeld ?_
          simp only [Act.put, List.setIfInBounds_toArray, List.set_cons_zero, List.set_cons_succ]
          refine go_take 7 37 _ (.pointer (some ⟨BX, 3, none⟩)) rfl (by kernel_rfl) (by kernel_rfl) (by kernel_rfl) (by kernel_rfl) (fun _ _ _ h => h) (Or.inl ⟨by kernel_rfl, fun u hu => by kernel_rfl⟩) hHeld ?_
          simp only [Act.put, List.setIfInBounds_toArray, List.set_cons_zero, List.set_cons_succ]
          refine go_take 8 38 _ (.int .i64 x.BN) rfl (by kernel_rfl) (by kernel_rfl) (by kernel_rfl) (by kernel_rfl) (fun _ _ _ h => h) (Or.inl ⟨by kernel_rfl, fun u hu => load_int (hxx u hu).cells.2.2.2.1 (.tmp 37) (by kernel_rfl) (by kernel_rfl)⟩) hHeld ?_
          simp only [Act.put, List.setIfInBounds_toArray, List.set_cons_zero, List.set_cons_succ]
          refine go_callH 4 34 _ rfl (by kernel_rfl) (by kernel_rfl) (by kernel_rfl) 49 #[.tmp 31, .tmp 33] #[3, 3] (by kernel_rfl) #[.int .i64 x.A, .int .i64 x.AN] (by kernel_rfl) (enters_of Tryz.func49 (by kernel_rfl) rfl) (.int .i64 X) ((hplaceOf_f x.A x.AN _ (by omega) (by omega) X HX).mono (fun _ _ h => ⟨h.1, by rw [h.2]; exact hHeld⟩)) ?_
          intro w1 hHeld
          simp only [Act.put, List.setIfInBounds_toArray, List.set_cons_zero, List.set_cons_succ]
          refine go_callH 9 39 _ rfl (by kernel_rfl) (by kernel_rfl) (by kernel_rfl) 49 #[.tmp 36, .tmp 38] #[3, 3] (by kernel_rfl) #[.int .i64 x.B, .int .i64 x.BN] (by kernel_rfl) (enters_of Tryz.func49 (by kernel_rfl) rfl) (.int .i64 Y) ((hplaceOf_f x.B x.BN _ (by omega) (by omega) Y HY).mono (fun _ _ h => ⟨h.1, by rw [h.2]; exact hHeld⟩)) ?_
          intro w2 hHeld
          simp only [Act.put, List.setIfInBounds_toArray, List.set_cons_zero, List.set_cons_succ]
          refine go_take 10 10 _ (.int .i64 X) rfl (by kernel_rfl) (by kernel_rfl) (by kernel_rfl) (by kernel_rfl) (fun _ _ _ h => h) (Or.inl ⟨by kernel_rfl, fun u hu => by kernel_rfl⟩) hHeld ?_
          simp only [Act.put, List.setIfInBounds_toArray, List.set_cons_zero, List.set_cons_succ]
          refine go_take 11 11 _ (.int .i64 Y) rfl (by kernel_rfl) (by kernel_rfl) (by kernel_rfl) (by kernel_rfl) (fun _ _ _ h => h) (Or.inl ⟨by kernel_rfl, fun u hu => by kernel_rfl⟩) hHeld ?_
          simp only [Act.put, List.setIfInBounds_toArray, List.set_cons_zero, List.set_cons_succ]
          refine wpAnyH_done (by kernel_rfl) ?_ _
          refine NoPanic.normal ?_
          obtain ⟨d0, d1, d2, d3, d4⟩ := (hxx w2 hHeld).cells
          have hB01 := hB1.trans (Below.mono hHeld hB1.size)
          generalize w2 = w4 at *
          by_cases h1 : X < u
          · have HE3 : Hid (r = 121) := (by
              show _ = _
              rw [← HI2.out]
              simp [show ¬ u ≤ X by omega])
            clear HI2 HX HY
            go_wp2
            go_ret
            exact ⟨ret_int HE3.out.symm, hB01⟩
          · have h1' : decide (X < u) = false := decide_eq_false h1
            by_cases h2 : X - u = Y - v
            · have h2' : (X - u != Y - v) = false := by simpa using h2
              have HI3 : Hid ((if ordB (X + x.AN) (Y + x.BN) (l.drop (k + 1)) = true then (0 : Int) else 121) = r) := (by
                show _ = _
                rw [← HI2.out]
                simp [show u ≤ X by omega, h2])
              clear HI2 HX HY h2
              go_upto_region 15 with fail
              go_quiet (fail)
              go_wp2
              exact ⟨⟨k + 1, X + x.AN, Y + x.BN, by omega, by go_num, by go_num, by go_num, by omega, by omega, Below.dN hB01 _, HI3⟩, by simp [intOf]; omega⟩
            · have h2' : (X - u != Y - v) = true := by simpa using h2
              have HE3 : Hid (r = 121) := (by
                show _ = _
                rw [← HI2.out]
                simp [h2])
              clear HI2 HX HY h2
              go_wp2
              go_ret
              exact ⟨ret_int HE3.out.symm, hB01⟩
        · have HE3 : Hid (r = 0) := (by
            show _ = _
            rw [← HI.out, List.drop_of_length_le (by have := HLL.out; omega)]
            rfl)
          have hend2 : decide ((k : Int) < (p.length : Int)) = false := decide_eq_false (by omega)
          clear HI HE
          go_wp2
          go_ret
          exact ⟨ret_int HE3.out.symm, hB⟩
end Go.Proofs.YtgiojkhmkeocfaaGreatDoor

/- The laws' own works of layer 11, walked: the chapter's first case. -/
set_option maxRecDepth 20000
namespace Go.Proofs.YtgiojkhmkeocfaaGreatDoor
open Go.RowKit

def exA : List (List UInt8) := [[49, 10], [50, 10], [51, 10], [52, 10], [53, 10], [54, 10]]
def exB : List (List UInt8) := [[49, 10], [51, 10], [52, 10], [53, 10], [120, 10], [54, 10]]
def exL : List Ch := [⟨1, 1, 1, 0⟩, ⟨5, 0, 4, 1⟩]
def exH0 : Hk := ⟨1, 3, 1, 2, [⟨32, [49, 10]⟩, ⟨45, [50, 10]⟩, ⟨32, [51, 10]⟩]⟩
def exH1 : Hk := ⟨5, 2, 4, 3, [⟨32, [53, 10]⟩, ⟨43, [120, 10]⟩, ⟨32, [54, 10]⟩]⟩
def exH2 : Hk := ⟨1, 6, 1, 6, [⟨32, [49, 10]⟩, ⟨45, [50, 10]⟩, ⟨32, [51, 10]⟩, ⟨32, [52, 10]⟩, ⟨32, [53, 10]⟩, ⟨43, [120, 10]⟩, ⟨32, [54, 10]⟩]⟩
theorem ex_e1 : grpE exL exA.length exB.length 1 = 0 := by rfl
theorem ex_e2 : grpE exL exA.length exB.length 2 = 0 := by rfl
theorem ex_r1 : mkR exL exA exB 1 = [exH0, exH1] := by rfl
theorem ex_r2 : mkR exL exA exB 2 = [exH2] := by rfl
theorem ex_o2 : ordH [exH2] = 0 := by rfl
theorem map_two {P : List (Hk × Value)} {h0 h1 : Hk} (h : P.map (·.1) = [h0, h1]) : ∃ y0 y1, P = [(h0, y0), (h1, y1)] := by
  match P, h with
  | [(x0, y0), (x1, y1)], h =>
    simp at h
    obtain ⟨rfl, rfl⟩ := h
    exact ⟨y0, y1, rfl⟩
theorem map_one {P : List (Hk × Value)} {h0 : Hk} (h : P.map (·.1) = [h0]) : ∃ y0, P = [(h0, y0)] := by
  match P, h with
  | [(x0, y0)], h =>
    simp at h
    subst h
    exact ⟨y0, rfl⟩
end Go.Proofs.YtgiojkhmkeocfaaGreatDoor
