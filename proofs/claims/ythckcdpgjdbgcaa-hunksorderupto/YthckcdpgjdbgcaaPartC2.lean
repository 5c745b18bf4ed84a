/-
  Texts that belong together, joined: HuC3, HuC5, HuC6, HuCd.
-/
import Derived.Test.YthckcdpgjdbgcaaPartC1
import Derived.Test.YthckcdpgjdbgcaaPartA3
import Derived.Test.YthckcdpgjdbgcaaPartA4
import Derived.Test.YthckcdpgjdbgcaaPartA6

/- The code's Order of layer 11, walked. -/
namespace Go.Proofs.Ythckcdpgjdbgcaa
open Go.RowKit

set_option maxRecDepth 10000 in
set_option maxHeartbeats 4000000 in
theorem hOrder_f (p : List (Hk × Value)) (v : Value) (w : World) (hv : HHp w v p) (hok : HOk p) (r : Int) (HR : Hid (ordH (p.map (·.1)) = r)) : Calls Try.prog 25 #[v] w fun e w' => e = .returned (.int .i64 r) ∧ Below w.heap.size w w' := by
  obtain ⟨vo, vc, rfl⟩ := Holds.form hv.row
  have hpl : p.length ≤ 1099511627776 := hok.1
  have HOK : Hid (HOk p) := hok
  obtain ⟨l, hl⟩ : ∃ l, p.map (·.1) = l := ⟨_, rfl⟩
  have hll : p.length = l.length := by rw [← hl]; simp
  have HL : Hid (p.map (·.1) = l) := hl
  have HLL : Hid (p.length = l.length) := hll
  rw [hl] at HR
  clear hl hll hok
  go_enter Try.func25, Try.ntmps25
  go_wp2
  go_loopw [14] (fun iv wr => ∃ (k : Nat), k ≤ p.length ∧ iv = .int .i64 (k : Int) ∧ Below w.heap.size w wr ∧ Hid (errs l = errs (l.drop k))) (fun iv _ => p.length - (intOf iv).toNat)
  case atStart => exact ⟨0, Nat.zero_le _, by go_num, Below.refl _ _, rfl⟩
  case round =>
    obtain ⟨k, hk, rfl, hB, HI⟩ := hrel
    by_cases hlt : k < p.length
    · obtain ⟨b, off, rfl, hb, _⟩ := hv.at (by omega)
      obtain ⟨x, y, hxy⟩ : ∃ x y, p[k] = (x, y) := ⟨_, _, rfl⟩
      obtain ⟨⟨c0, c1, c2, c3, c4⟩, hm⟩ := hv.take hB k hlt hxy
      have hmem : (x, y) ∈ p := by rw [← hxy]; exact List.getElem_mem hlt
      have hbd := HOK.out.2 _ hmem
      have hlk : l[k]'(by have := HLL.out; omega) = x := by
        have hz : l[k]? = some x := by rw [← HL.out]; simp [hlt, hxy]
        exact (List.getElem?_eq_some_iff.1 hz).2
      have HI2 : Hid (errs l = if chkH x ≠ 0 then chkH x else errs (l.drop (k + 1))) := (by
        show _ = _
        rw [HI.out, errs_drop (by have := HLL.out; omega), hlk])
      obtain ⟨yo, yc, rfl⟩ := hm.form
      have i1 : 0 ≤ (k : Int) := by omega
      have i2 : (k : Int) < (p.length : Int) := by omega
      obtain ⟨z, hz⟩ : ∃ z, chkH x = z := ⟨_, rfl⟩
      have HZ : Hid (chkH x = z) := hz
      have hBx : Below wr.heap.size wr (wr.alloc (hkO x (.slice yo x.ls.length yc))) := (Below.refl _ wr).alloc (Nat.le_refl _) _
      have hm1 := HMk.keep hm hBx (Nat.le_refl _)
      have hB1 := hB.trans (hBx.mono hB.size)
      obtain ⟨x0, x1, x2, x3, x4⟩ := (Hx.new wr x (.slice yo x.ls.length yc)).cells
      have hW : wr.alloc (Obj.cells #[Value.int IntKind.i64 x.A, Value.int IntKind.i64 x.AN, Value.int IntKind.i64 x.B, Value.int IntKind.i64 x.BN, .slice yo x.ls.length yc] 39) = wr.alloc (hkO x (.slice yo x.ls.length yc)) := rfl
      clear HI hlk hz hxy hmem
      generalize wr.alloc (hkO x (.slice yo x.ls.length yc)) = w1 at *
      go_wp2_with fail
      refine (hCheck_f x _ _ hm1 hbd.1 hbd.2 z HZ).mono ?_
      rintro e w2 ⟨rfl, hB2⟩
      have hB02 := hB1.trans (hB2.mono hB1.size)
      by_cases hz0 : z = 0
      · subst hz0
        have HI3 : Hid (errs l = errs (l.drop (k + 1))) := (by
          show _ = _
          rw [HI2.out, HZ.out]
          simp)
        clear HI2 HZ
        go_wp2
        exact ⟨⟨k + 1, by omega, by go_num, hB02, HI3⟩, by simp [intOf]; omega⟩
      · have hz1 : (z != 0) = true := by simpa using hz0
        have HE : Hid (r = z) := (by
          have h1 : errs l = z := by rw [HI2.out, HZ.out, if_pos hz0]
          show _ = _
          rw [← HR.out]
          exact ord_err h1 hz0)
        clear HI2 HZ HR
        go_wp2
        go_ret
        exact ⟨ret_int HE.out.symm, hB02⟩
    · have HE0 : Hid (errs l = 0) := (by
        show _ = _
        rw [HI.out, List.drop_of_length_le (by have := HLL.out; omega)]
        rfl)
      have HE : Hid ((if ordB 0 0 l = true then (0 : Int) else 121) = r) := (by
        show _ = _
        rw [← HR.out]
        exact (ord_ok HE0.out).symm)
      have hend : decide ((k : Int) < (p.length : Int)) = false := decide_eq_false (by omega)
      clear HI HR
      go_wp2
      go_loopw [6, 7, 26] (fun uv vv iv wr => ∃ (k : Nat) (u v : Int), k ≤ p.length ∧ uv = .int .i64 u ∧ vv = .int .i64 v ∧ iv = .int .i64 (k : Int) ∧ (-1 ≤ u ∧ u ≤ 8589934592) ∧ (-1 ≤ v ∧ v ≤ 8589934592) ∧ Below w.heap.size w wr ∧ Hid ((if ordB u v (l.drop k) = true then (0 : Int) else 121) = r)) (fun _ _ iv _ => p.length - (intOf iv).toNat)
      case atStart => exact ⟨0, 0, 0, Nat.zero_le _, by go_num, by go_num, by go_num, by omega, by omega, hB, HE⟩
      case round =>
        obtain ⟨k, u, v, hk, rfl, rfl, rfl, hu, hv', hB, HI⟩ := hrel
        by_cases hlt : k < p.length
        · obtain ⟨b, off, rfl, hb, _⟩ := hv.at (by omega)
          obtain ⟨x, y, hxy⟩ : ∃ x y, p[k] = (x, y) := ⟨_, _, rfl⟩
          obtain ⟨⟨c0, c1, c2, c3, c4⟩, hm⟩ := hv.take hB k hlt hxy
          have hlk : l[k]'(by have := HLL.out; omega) = x := by
            have hz : l[k]? = some x := by rw [← HL.out]; simp [hlt, hxy]
            exact (List.getElem?_eq_some_iff.1 hz).2
          have hck : chkH x = 0 := errs_ok HE0.out x (by rw [← hlk]; exact List.getElem_mem _)
          have hn := chk_num hck
          obtain ⟨X, hX⟩ : ∃ X, atA x = X := ⟨_, rfl⟩
          obtain ⟨Y, hY⟩ : ∃ Y, atB x = Y := ⟨_, rfl⟩
          have ha := at_num hck
          rw [hX, hY] at ha
          have HX : Hid ((if 0 < x.AN then x.A - 1 else x.A) = X) := hX
          have HY : Hid ((if 0 < x.BN then x.B - 1 else x.B) = Y) := hY
          obtain ⟨yo, yc, rfl⟩ := hm.form
          have i1 : 0 ≤ (k : Int) := by omega
          have i2 : (k : Int) < (p.length : Int) := by omega
          have HI2 : Hid ((if (decide (u ≤ X) && decide (X - u = Y - v) && ordB (X + x.AN) (Y + x.BN) (l.drop (k + 1))) = true then (0 : Int) else 121) = r) := (by
            show _ = _
            have e : ordB u v (x :: l.drop (k + 1)) = (decide (u ≤ X) && decide (X - u = Y - v) && ordB (X + x.AN) (Y + x.BN) (l.drop (k + 1))) := by
              simp only [ordB]
              rw [hX, hY]
            rw [← HI.out, List.drop_eq_getElem_cons (l := l) (i := k) (by have := HLL.out; omega), hlk, e])
          have hBx : Below wr.heap.size wr (wr.alloc (hkO x (.slice yo x.ls.length yc))) := (Below.refl _ wr).alloc (Nat.le_refl _) _
          have hB1 := hB.trans (hBx.mono hB.size)
          have hx1 := Hx.new wr x (.slice yo x.ls.length yc)
          have hW : wr.alloc (Obj.cells #[Value.int IntKind.i64 x.A, Value.int IntKind.i64 x.AN, Value.int IntKind.i64 x.B, Value.int IntKind.i64 x.BN, .slice yo x.ls.length yc] 39) = wr.alloc (hkO x (.slice yo x.ls.length yc)) := rfl
          clear HI hlk hck hxy hX hY HE
          generalize wr.alloc (hkO x (.slice yo x.ls.length yc)) = w1 at *
          go_upto_region 12 with fail
          clear hW c0 c1 c2 c3 c4
          generalize hBX : wr.heap.size = BX at *
          have hxx : ∀ u : World, Low w1 u → Hx u BX x (.slice yo x.ls.length yc) := fun u hu => hx1.low hu
          have hlow : Low w1 (w1.drewN 1) := Below.dN (Below.refl _ w1) 1
          refine wp_region_noPanic ?_
          refine wp_region_held_drew (S := fun u => Low w1 u) (by kernel_rfl) hlow (fun hHeld => ?_)
          refine go_take 0 30 _ (.pointer (some ⟨BX, 0, none⟩)) rfl (by kernel_rfl) (by kernel_rfl) (by kernel_rfl) (by kernel_rfl) (fun _ _ _ h => h) (Or.inl ⟨by kernel_rfl, fun u hu => by kernel_rfl⟩) hHeld ?_
          simp only [Act.put, List.setIfInBounds_toArray, List.set_cons_zero, List.set_cons_succ]
          refine go_take 1 31 _ (.int .i64 x.A) rfl (by kernel_rfl) (by kernel_rfl) (by kernel_rfl) (by kernel_rfl) (fun _ _ _ h => h) (Or.inl ⟨by kernel_rfl, fun u hu => load_int (hxx u hu).cells.1 (.tmp 30) (by kernel_rfl) (by kernel_rfl)⟩) hHeld ?_
          simp only [Act.put, List.setIfInBounds_toArray, List.set_cons_zero, List.set_cons_succ]
          refine go_take 2 32 _ (.pointer (some ⟨BX, 1, none⟩)) rfl (by kernel_rfl) (by kernel_rfl) (by kernel_rfl) (by kernel_rfl) (fun _ _ _ h => h) (Or.inl ⟨by kernel_rfl, fun u hu => by kernel_rfl⟩) hHeld ?_
          simp only [Act.put, List.setIfInBounds_toArray, List.set_cons_zero, List.set_cons_succ]
          refine go_take 3 33 _ (.int .i64 x.AN) rfl (by kernel_rfl) (by kernel_rfl) (by kernel_rfl) (by kernel_rfl) (fun _ _ _ h => h) (Or.inl ⟨by kernel_rfl, fun u hu => load_int (hxx u hu).cells.2.1 (.tmp 32) (by kernel_rfl) (by kernel_rfl)⟩) hHeld ?_
          simp only [Act.put, List.setIfInBounds_toArray, List.set_cons_zero, List.set_cons_succ]
          refine go_take 5 35 _ (.pointer (some ⟨BX, 2, none⟩)) rfl (by kernel_rfl) (by kernel_rfl) (by kernel_rfl) (by kernel_rfl) (fun _ _ _ h => h) (Or.inl ⟨by kernel_rfl, fun u hu => by kernel_rfl⟩) hHeld ?_
          simp only [Act.put, List.setIfInBounds_toArray, List.set_cons_zero, List.set_cons_succ]
          refine go_take 6 36 _ (.int .i64 x.B) rfl (by kernel_rfl) (by kernel_rfl) (by kernel_rfl) (by kernel_rfl) (fun _ _ _ h => h) (Or.inl ⟨by kernel_rfl, fun u hu => load_int (hxx u hu).cells.2.2.1 (.tmp 35) (by kernel_rfl) (by kernel_rfl)⟩) hHeld ?_
          simp only [Act.put, List.setIfInBounds_toArray, List.set_cons_zero, List.set_cons_succ]
          refine go_take 7 37 _ (.pointer (some ⟨BX, 3, none⟩)) rfl (by kernel_rfl) (by kernel_rfl) (by kernel_rfl) (by kernel_rfl) (fun _ _ _ h => h) (Or.inl ⟨by kernel_rfl, fun u hu => by kernel_rfl⟩) hHeld ?_
          simp only [Act.put, List.setIfInBounds_toArray, List.set_cons_zero, List.set_cons_succ]
          refine go_take 8 38 _ (.int .i64 x.BN) rfl (by kernel_rfl) (by kernel_rfl) (by kernel_rfl) (by kernel_rfl) (fun _ _ _ h => h) (Or.inl ⟨by kernel_rfl, fun u hu => load_int (hxx u hu).cells.2.2.2.1 (.tmp 37) (by kernel_rfl) (by kernel_rfl)⟩) hHeld ?_
          simp only [Act.put, List.setIfInBounds_toArray, List.set_cons_zero, List.set_cons_succ]
          refine go_callH 4 34 _ rfl (by kernel_rfl) (by kernel_rfl) (by kernel_rfl) 41 #[.tmp 31, .tmp 33] #[3, 3] (by kernel_rfl) #[.int .i64 x.A, .int .i64 x.AN] (by kernel_rfl) (enters_of Try.func41 (by kernel_rfl) rfl) (.int .i64 X) ((hplaceOf_f x.A x.AN _ (by omega) (by omega) X HX).mono (fun _ _ h => ⟨h.1, by rw [h.2]; exact hHeld⟩)) ?_
          intro w1 hHeld
          simp only [Act.put, List.setIfInBounds_toArray, List.set_cons_zero, List.set_cons_succ]
          refine go_callH 9 39 _ rfl (by kernel_rfl) (by kernel_rfl) (by kernel_rfl) 41 #[.tmp 36, .tmp 38] #[3, 3] (by kernel_rfl) #[.int .i64 x.B, .int .i64 x.BN] (by kernel_rfl) (enters_of Try.func41 (by kernel_rfl) rfl) (.int .i64 Y) ((hplaceOf_f x.B x.BN _ (by omega) (by omega) Y HY).mono (fun _ _ h => ⟨h.1, by rw [h.2]; exact hHeld⟩)) ?_
          intro w2 hHeld
          simp only [Act.put, List.setIfInBounds_toArray, List.set_cons_zero, List.set_cons_succ]
          refine go_take 10 10 _ (.int .i64 X) rfl (by kernel_rfl) (by kernel_rfl) (by kernel_rfl) (by kernel_rfl) (fun _ _ _ h => h) (Or.inl ⟨by kernel_rfl, fun u hu => by kernel_rfl⟩) hHeld ?_
          simp only [Act.put, List.setIfInBounds_toArray, List.set_cons_zero, List.set_cons_succ]
          refine go_take 11 11 _ (.int .i64 Y) rfl (by kernel_rfl) (by kernel_rfl) (by kernel_rfl) (by kernel_rfl) (fun _ _ _ h => h) (Or.inl ⟨by kernel_rfl, fun u hu => by kernel_rfl⟩) hHeld ?_
          simp only [Act.put, List.setIfInBounds_toArray, List.set_cons_zero, List.set_cons_succ]
          refine wpAnyH_done (by kernel_rfl) ?_ _
          refine NoPanic.normal ?_
          obtain ⟨d0, d1, d2, d3, d4⟩ := (hxx w2 hHeld).cells
          have hB01 := hB1.trans (Below.mono hHeld hB1.size)
          generalize w2 = w4 at *
          by_cases h1 : X < u
          · have HE3 : Hid (r = 121) := (by
              show _ = _
              rw [← HI2.out]
              simp [show ¬ u ≤ X by omega])
            clear HI2 HX HY
            go_wp2
            go_ret
            exact ⟨ret_int HE3.out.symm, hB01⟩
          · have h1' : decide (X < u) = false := decide_eq_false h1
            by_cases h2 : X - u = Y - v
            · have h2' : (X - u != Y - v) = false := by simpa using h2
              have HI3 : Hid ((if ordB (X + x.AN) (Y + x.BN) (l.drop (k + 1)) = true then (0 : Int) else 121) = r) := (by
                show _ = _
                rw [← HI2.out]
                simp [show u ≤ X by omega, h2])
              clear HI2 HX HY h2
              go_upto_region 15 with fail
              go_quiet (fail)
              go_wp2
              exact ⟨⟨k + 1, X + x.AN, Y + x.BN, by omega, by go_num, by go_num, by go_num, by omega, by omega, Below.dN hB01 _, HI3⟩, by simp [intOf]; omega⟩
            · have h2' : (X - u != Y - v) = true := by simpa using h2
              have HE3 : Hid (r = 121) := (by
                show _ = _
                rw [← HI2.out]
                simp [h2])
              clear HI2 HX HY h2
              go_wp2
              go_ret
              exact ⟨ret_int HE3.out.symm, hB01⟩
        · have HE3 : Hid (r = 0) := (by
            show _ = _
            rw [← HI.out, List.drop_of_length_le (by have := HLL.out; omega)]
            rfl)
          have hend2 : decide ((k : Int) < (p.length : Int)) = false := decide_eq_false (by omega)
          clear HI HE
          go_wp2
          go_ret
          exact ⟨ret_int HE3.out.symm, hB⟩
end Go.Proofs.Ythckcdpgjdbgcaa

/- The code's Changes of layer 11: a row of changes in a box; the closure that answers the change to go on with, walked. -/
namespace Go.Proofs.Ythckcdpgjdbgcaa
open Go.RowKit

/-- both places are as far behind the last change -/
def Al (a b : Int) : List Ch → Prop
  | [] => True
  | c :: _ => a - (c.A + c.AN) = b - (c.B + c.BN)
theorem al_true {a b : Int} {c : Ch} {r : List Ch} (h : Al a b (c :: r)) (hA : c.A + c.AN = a) : opn a b (c :: r) = c :: r := by
  simp only [Al] at h
  unfold opn
  rw [if_pos (by simp only [endsAt, Bool.and_eq_true, decide_eq_true_eq]; omega)]
theorem al_false {a b : Int} {c : Ch} {r : List Ch} (hA : c.A + c.AN ≠ a) : opn a b (c :: r) = ⟨a, 0, b, 0⟩ :: c :: r := by
  unfold opn
  rw [if_neg (by simp only [endsAt, Bool.and_eq_true, decide_eq_true_eq]; omega)]
/-- a row of changes in a box of one's own -/
structure Sc (W : World) (ov : Value) (r : List Ch) (u : World) : Prop where
  low : Below W.heap.size W u
  box : u.heap[W.heap.size]? = some (.cells #[ov] 22)
  own : u.ownsRow (W.heap.size + 1) 35 4 ov r.length (bch r)
section
variable {W u u' : World} {ov ov' : Value} {r r' : List Ch}
theorem Sc.cell (h : Sc W ov r u) : u.cell? ⟨W.heap.size, 0, none⟩ = some ov := by rw [Lib.cell_of_heap h.box]; rfl
theorem Sc.frozen (h : Sc W ov r u) : u.frozen? ⟨W.heap.size, 0, none⟩ = false := Lib.frozen_of_heap h.box 0
theorem Sc.lt (h : Sc W ov r u) : W.heap.size < u.heap.size := (Array.getElem?_eq_some_iff.1 h.box).1
theorem Sc.alloc (h : Sc W ov r u) (o : Obj) : Sc W ov r (u.alloc o) := ⟨h.low.alloc h.low.size o, (((Below.refl _ u).alloc (Nat.le_refl _) o).block _ h.lt).trans h.box, h.own.alloc o⟩
theorem Sc.drewN (h : Sc W ov r u) (n : Nat) : Sc W ov r (u.drewN n) := ⟨Below.dN h.low n, h.box, h.own⟩
theorem Sc.keep (h : Sc W ov r u) (hk : Below u.heap.size u u') : Sc W ov r u' := ⟨h.low.trans (hk.mono h.low.size), (hk.block _ h.lt).trans h.box, owns_keep h.own hk⟩
theorem Sc.form (h : Sc W ov r u) : ∃ oo oc, ov = .slice oo r.length oc := (holds_of h.own).form
/-- a change more -/
theorem Sc.grow (h : Sc W ov r u) (hg : u.grownBy u' ov.ownBlock) (ho : u'.ownsRow (W.heap.size + 1) 35 4 ov' r'.length (bch r')) : (u'.cell? ⟨W.heap.size, 0, none⟩ = some ov ∧ u'.frozen? ⟨W.heap.size, 0, none⟩ = false) ∧ Sc W ov' r' (u'.setCell ⟨W.heap.size, 0, none⟩ ov') := by
  have hbx : u'.heap[W.heap.size]? = some (.cells #[ov] 22) := (hg.block _ h.lt (fun e => by have := owns_ge h.own e.symm; omega)).trans h.box
  have hs := grown_set u' W.heap.size 0 ov'
  have hlow : Below W.heap.size W u' := h.low.grown hg h.low.size (fun j hj => by have := owns_ge h.own hj; omega)
  refine ⟨⟨by rw [Lib.cell_of_heap hbx]; rfl, Lib.frozen_of_heap hbx 0⟩, hlow.grown hs hlow.size (fun j hj => by cases hj; exact Nat.le_refl _), heap_setCell_same u' _ 0 _ _ ov' hbx, own_kept ho hs ?_⟩
  intro k hk e
  cases hk
  have := owns_ge ho e
  omega
/-- a number of a change is written -/
theorem Sc.put (h : Sc W ov r u) {g j : Nat} {z : Value} (hb : ov.ownBlock = some g) (ho : (u.setCell ⟨g, j, none⟩ z).ownsRow (W.heap.size + 1) 35 4 ov r'.length (bch r')) (hg : u.grownBy (u.setCell ⟨g, j, none⟩ z) (some g)) : Sc W ov r' (u.setCell ⟨g, j, none⟩ z) := by
  have hge := owns_ge h.own hb
  exact ⟨h.low.grown hg h.low.size (fun j hj => by cases hj; omega), (hg.block _ h.lt (fun e => by cases e; omega)).trans h.box, ho⟩
end

set_option maxRecDepth 10000 in
set_option maxHeartbeats 4000000 in
theorem hAt_f (a b : Int) (W u : World) (ov : Value) (r t : List Ch) (c : Ch) (hS : Sc W ov r u) (_ha : -1 ≤ a ∧ a ≤ 4398046511104) (_hb : -1 ≤ b ∧ b ≤ 4398046511104) (hrl : r.length < 2199023255552) (HHD : Hid (Hhd r)) (HAL : Hid (Al a b r)) (HOP : Hid (opn a b r = c :: t)) : Calls Try.prog 40 #[.int .i64 a, .int .i64 b, .pointer (some ⟨W.heap.size, 0, none⟩)] u fun e u' => ∃ g oc, e = .returned (.pointer (some ⟨g, t.length * 4, none⟩)) ∧ Sc W (.slice (some ⟨g, 0, none⟩) (t.length + 1) oc) (c :: t) u' := by
  obtain ⟨oo, oc, rfl⟩ := hS.form
  have hbx := hS.cell
  cases r with
  | nil =>
    have hop : opn a b [] = [⟨a, 0, b, 0⟩] := rfl
    have h2 := HOP.out
    rw [hop] at h2
    cases h2
    clear hop HOP HAL HHD
    simp only [List.length_nil] at hbx hS ⊢
    go_enter Try.func40, Try.ntmps40
    go_upto_region 2 with fail
    go_quiet (fail)
    have hS1 := hS.drewN nq
    have hbx1 := hS1.cell
    generalize u.drewN nq = u1 at *
    have hS2 := hS1.alloc (chO ⟨a, 0, b, 0⟩)
    have hlt := hS2.lt
    have hW2 : u1.alloc (Obj.cells #[.int .i64 a, .int .i64 0, .int .i64 b, .int .i64 0] 35) = u1.alloc (chO ⟨a, 0, b, 0⟩) := rfl
    clear hS hS1 hbx
    have hk1 : ([] : List Ch).length + 1 ≤ 2199023255552 := (by simp only [List.length_nil]; omega)
    go_wp2_with (at_builtin; refine wpList_append_w _ (by kernel_rfl) (.tmp 30) (.tmp 34) 22 35 (.agg #[.int .i64 0, .int .i64 0, .int .i64 0, .int .i64 0]) 4 32 rfl Try.underlying22 infoCh rfl (by decide) (by decide) (W.heap.size + 1) _ _ _ rfl hS2.own _ 1 (chcells [⟨a, 0, b, 0⟩]) rfl (ch_row u1 ⟨a, 0, b, 0⟩) rfl (chcells_one _) hk1 (by omega) ?_)
    intro v3 u3 hown3 hg3 _
    rw [show chcells [(⟨a, 0, b, 0⟩ : Ch)] = chC ⟨a, 0, b, 0⟩ by simp [chcells], ← bch_cons] at hown3
    obtain ⟨o3, c3, rfl⟩ := (holds_of hown3).form
    obtain ⟨⟨f1, f2⟩, hS3⟩ := hS2.grow (r' := ⟨a, 0, b, 0⟩ :: []) hg3 hown3
    obtain ⟨g, rfl⟩ := hown_at hown3
    have f3 := hS3.cell
    clear hown3 hg3 hS2
    go_wp2
    go_ret
    first | exact ⟨g, c3, rfl, hS3⟩ | exact ⟨g, rfl, c3, hS3⟩
  | cons c0 r0 =>
    have hown := hS.own
    rw [List.length_cons] at hown
    obtain ⟨g, rfl⟩ := hown_at hown
    obtain ⟨q0, q1, q2, q3⟩ := bch_at c0 r0
    have d0 := (hown.cellAt (r0.length * 4) (by omega)).trans q0
    have d1 := (hown.cellAt (r0.length * 4 + 1) (by omega)).trans q1
    have hd := HHD.out
    simp only [Hhd] at hd
    have w1 : IntKind.i64.wrap (c0.A + c0.AN) = c0.A + c0.AN := wrap_s (by omega) (by omega)
    obtain ⟨n0, hn0⟩ : ∃ n, r0.length = n := ⟨_, rfl⟩
    have HN0 : Hid (r0.length = n0) := hn0
    simp only [List.length_cons, hn0] at hbx hS d0 d1 hrl ⊢
    clear q0 q1 q2 q3 hown hn0 HHD
    have l0 : IntKind.i64.wrap ((n0 : Int) + 1 - 1) = (n0 : Int) := (by rw [show (n0 : Int) + 1 - 1 = n0 by omega]; exact wrap_s (by omega) (by omega))
    have l1 : decide ((0 : Int) ≤ (n0 : Int)) = true := decide_eq_true (by omega)
    have l2 : (0 : Int) ≤ (n0 : Int) := by omega
    have l3 : (n0 : Int) < (n0 : Int) + 1 := by omega
    by_cases hA : c0.A + c0.AN = a
    · have h2 := HOP.out
      rw [al_true HAL.out hA] at h2
      have eA : (c0.A + c0.AN == a) = true := by simpa using hA
      cases h2
      clear HOP HAL hA
      have hn0 := HN0.out
      subst hn0
      go_enter Try.func40, Try.ntmps40
      go_upto_region 2 with fail
      go_quiet (fail)
      have hS1 := hS.drewN nq
      have hbx1 := hS1.cell
      generalize u.drewN nq = u1 at *
      go_wp2
      go_ret
      first | exact ⟨g, oc, rfl, hS1⟩ | exact ⟨g, rfl, oc, hS1⟩
    · have h2 := HOP.out
      rw [al_false hA] at h2
      cases h2
      have eA : (c0.A + c0.AN == a) = false := by simpa using hA
      clear HOP HAL hA
      have hn0 := HN0.out
      subst hn0
      simp only [List.length_cons] at ⊢
      go_enter Try.func40, Try.ntmps40
      go_upto_region 2 with fail
      go_quiet (fail)
      have hS1 := hS.drewN nq
      have hbx1 := hS1.cell
      generalize u.drewN nq = u1 at *
      have hS2 := hS1.alloc (chO ⟨a, 0, b, 0⟩)
      have hlt := hS2.lt
      have hW2 : u1.alloc (Obj.cells #[.int .i64 a, .int .i64 0, .int .i64 b, .int .i64 0] 35) = u1.alloc (chO ⟨a, 0, b, 0⟩) := rfl
      clear hS hS1 hbx
      have hk1 : (c0 :: r0 : List Ch).length + 1 ≤ 2199023255552 := (by simp only [List.length_cons]; omega)
      go_wp2_with (at_builtin; refine wpList_append_w _ (by kernel_rfl) (.tmp 30) (.tmp 34) 22 35 (.agg #[.int .i64 0, .int .i64 0, .int .i64 0, .int .i64 0]) 4 32 rfl Try.underlying22 infoCh rfl (by decide) (by decide) (W.heap.size + 1) _ _ _ rfl hS2.own _ 1 (chcells [⟨a, 0, b, 0⟩]) rfl (ch_row u1 ⟨a, 0, b, 0⟩) rfl (chcells_one _) hk1 (by omega) ?_)
      intro v3 u3 hown3 hg3 _
      rw [show chcells [(⟨a, 0, b, 0⟩ : Ch)] = chC ⟨a, 0, b, 0⟩ by simp [chcells], ← bch_cons] at hown3
      obtain ⟨o3, c3, rfl⟩ := (holds_of hown3).form
      obtain ⟨⟨f1, f2⟩, hS3⟩ := hS2.grow (r' := ⟨a, 0, b, 0⟩ :: c0 :: r0) hg3 hown3
      obtain ⟨g, rfl⟩ := hown_at hown3
      have f3 := hS3.cell
      have j1 : (0 : Int) ≤ (r0.length : Int) + 1 := by omega
      have j2 : (r0.length : Int) + 1 < (r0.length : Int) + 1 + 1 := by omega
      clear hown3 hg3 hS2
      go_wp2
      go_ret
      first | exact ⟨g, c3, rfl, hS3⟩ | exact ⟨g, rfl, c3, hS3⟩
end Go.Proofs.Ythckcdpgjdbgcaa

/- The code's Changes of layer 11, walked. -/
namespace Go.Proofs.Ythckcdpgjdbgcaa
open Go.RowKit

theorem al_add {a b n : Int} {r : List Ch} (h : Al a b r) : Al (a + n) (b + n) r := by
  cases r with
  | nil => trivial
  | cons c r => simp only [Al] at h ⊢; omega
theorem al_move {u v X Y : Int} {r : List Ch} (h : Al u v r) (hx : X - u = Y - v) : Al X Y r := by
  cases r with
  | nil => trivial
  | cons c r => simp only [Al] at h ⊢; omega
theorem chk_lines {h : Hk} (hc : chkH h = 0) : allB h.ls = true ∧ ((pkL 43 h.ls).length : Int) = h.AN ∧ ((pkL 45 h.ls).length : Int) = h.BN := by
  have hr : rngB h = true := by
    cases hq : rngB h with
    | true => rfl
    | false => rw [chk_rng hq] at hc; cases hc
  have hf : fldB h.ls = true := by
    cases hq : fldB h.ls with
    | true => rfl
    | false => rw [chk_fld hr hq] at hc; cases hc
  refine ⟨?_, ?_, ?_⟩
  · have := fld_code h.ls
    rw [hf] at this
    simp only [Bool.true_eq, Bool.and_eq_true] at this
    exact this.1.1
  · by_cases hq : h.AN ≠ (oldL h).length
    · rw [chk_cnt hr hf (.inl hq)] at hc; cases hc
    · simp only [ne_eq, Decidable.not_not] at hq; exact hq.symm
  · by_cases hq : h.BN ≠ (newL h).length
    · rw [chk_cnt hr hf (.inr hq)] at hc; cases hc
    · simp only [ne_eq, Decidable.not_not] at hq; exact hq.symm
theorem pk_step {l : List Mk} {j : Nat} (hj : j < l.length) {sg : Int} {tx : List UInt8} (hm : l[j] = ⟨sg, tx⟩) (no : Int) : ((pkL no (l.drop j)).length : Int) = (if sg ≠ no ∧ okS sg = true then 1 else 0) + ((pkL no (l.drop (j + 1))).length : Int) := by
  rw [List.drop_eq_getElem_cons hj, hm]
  simp only [pkL]
  split <;> simp <;> omega
theorem all_at {l : List Mk} (h : allB l = true) {j : Nat} (hj : j < l.length) {sg : Int} {tx : List UInt8} (hm : l[j] = ⟨sg, tx⟩) : sg = 32 ∨ sg = 45 ∨ sg = 43 := by
  have := List.all_eq_true.1 h l[j] (List.getElem_mem hj)
  rw [hm] at this
  simp only [okS, Bool.or_eq_true, decide_eq_true_eq] at this
  omega

set_option maxRecDepth 10000 in
set_option maxHeartbeats 8000000 in
theorem hChanges_f (p : List (Hk × Value)) (v : Value) (w : World) (hv : HHp w v p) (hok : HOk p) (ht : tot (p.map (·.1)) ≤ 1099511627776) (z : Int) (HZ : Hid (ordH (p.map (·.1)) = z)) (R : List Ch) (HR : Hid (chR (p.map (·.1)) = R)) : Calls Try.prog 23 #[v] w fun e w' => ∃ v', e = .returned (.tuple #[v', .int .i64 z]) ∧ HCh w' v' R ∧ Below w.heap.size w w' := by
  obtain ⟨vo, vc, rfl⟩ := Holds.form hv.row
  have hpl : p.length ≤ 1099511627776 := hok.1
  have HOK : Hid (HOk p) := hok
  obtain ⟨l, hl⟩ : ∃ l, p.map (·.1) = l := ⟨_, rfl⟩
  have hll : p.length = l.length := by rw [← hl]; simp
  have HL : Hid (p.map (·.1) = l) := hl
  have HLL : Hid (p.length = l.length) := hll
  have hZ2 : Hid (ordH (p.map (·.1)) = z) := HZ
  rw [hl] at HR HZ ht
  clear hl hll hok
  go_enter Try.func23, Try.ntmps23
  go_wp2_with fail
  refine (hOrder_f p _ w hv HOK.out z hZ2).mono ?_
  rintro e W ⟨rfl, hBW⟩
  by_cases hz : z = 0
  · subst hz
    have HR2 : Hid ((chHs [] l).reverse = R) := (by
      show _ = _
      rw [← HR.out]
      unfold chR
      rw [if_pos HZ.out])
    have he0 : errs l = 0 := (by
      have h := HZ.out
      unfold ordH at h
      by_cases hq : errs l = 0
      · exact hq
      · rw [if_pos hq] at h
        exact h)
    have HCK : Hid (∀ x ∈ l, chkH x = 0) := errs_ok he0
    have HOB : Hid (ordB 0 0 l = true ∧ Al 0 0 []) := (by
      have h := HZ.out
      rw [ord_ok he0] at h
      refine ⟨?_, trivial⟩
      by_cases hq : ordB 0 0 l = true
      · exact hq
      · rw [if_neg hq] at h
        cases h)
    have hS0 : Sc W (.slice none 0 0) [] (W.alloc (.cells #[.slice none 0 0] 22)) := ⟨(Below.refl _ W).alloc (Nat.le_refl _) _, _root_.Go.heap_alloc_new W _, hnil_row _ _ _ _⟩
    clear HR HZ hZ2 he0
    go_wp2
    generalize W.alloc (Obj.cells #[.slice none 0 0] 22) = W1 at *
    go_loopw [21] (fun iv wr => ∃ (k : Nat) (r : List Ch) (u v : Int) (ov : Value), k ≤ p.length ∧ iv = .int .i64 (k : Int) ∧ r.length + tot (l.drop k) ≤ 1099511627776 ∧ Hid (Hhd r) ∧ Sc W ov r wr ∧ Hid (ordB u v (l.drop k) = true ∧ Al u v r) ∧ Hid ((chHs r (l.drop k)).reverse = R)) (fun iv _ => p.length - (intOf iv).toNat)
    case atStart => exact ⟨0, [], 0, 0, _, Nat.zero_le _, by go_num, by simpa using ht, trivial, hS0, HOB, HR2⟩
    case round =>
      obtain ⟨k, r, u, v, ov, hk, rfl, hrt, HHD, hS, HUV, HI⟩ := hrel
      clear HR2 HOB hS0
      have hB := hBW.trans (hS.low.mono hBW.size)
      by_cases hlt : k < p.length
      · obtain ⟨b, off, rfl, hb, _⟩ := hv.at (by omega)
        obtain ⟨x, y, hxy⟩ : ∃ x y, p[k] = (x, y) := ⟨_, _, rfl⟩
        obtain ⟨⟨c0, c1, c2, c3, c4⟩, hm⟩ := hv.take hB k hlt hxy
        have hbd := (HOK.out.2 _ (List.getElem_mem hlt)).1
        rw [hxy] at hbd
        have hlk : l[k]'(by have := HLL.out; omega) = x := by
          have hz : l[k]? = some x := by rw [← HL.out]; simp [hlt, hxy]
          exact (List.getElem?_eq_some_iff.1 hz).2
        have hck : chkH x = 0 := HCK.out x (by rw [← hlk]; exact List.getElem_mem _)
        have hdr : l.drop k = x :: l.drop (k + 1) := by rw [List.drop_eq_getElem_cons (l := l) (i := k) (by have := HLL.out; omega), hlk]
        have hn := chk_num hck
        have HCL : Hid (allB x.ls = true ∧ ((pkL 43 x.ls).length : Int) = x.AN ∧ ((pkL 45 x.ls).length : Int) = x.BN) := chk_lines hck
        obtain ⟨X, hX⟩ : ∃ X, atA x = X := ⟨_, rfl⟩
        obtain ⟨Y, hY⟩ : ∃ Y, atB x = Y := ⟨_, rfl⟩
        have ha := at_num hck
        rw [hX, hY] at ha
        have HX : Hid ((if 0 < x.AN then x.A - 1 else x.A) = X) := hX
        have HY : Hid ((if 0 < x.BN then x.B - 1 else x.B) = Y) := hY
        have HUV2 : Hid (ordB (X + x.AN) (Y + x.BN) (l.drop (k + 1)) = true ∧ Al X Y r) := (by
          obtain ⟨h1, h2⟩ := HUV.out
          rw [hdr] at h1
          simp only [ordB, Bool.and_eq_true, decide_eq_true_eq] at h1
          rw [hX, hY] at h1
          exact ⟨h1.2, al_move h2 h1.1.2⟩)
        have HI2 : Hid ((chHs (chLs X Y r x.ls) (l.drop (k + 1))).reverse = R) := (by
          show _ = _
          rw [← HI.out, hdr]
          simp only [chHs]
          rw [hX, hY])
        have hrt2 : r.length + x.ls.length + tot (l.drop (k + 1)) ≤ 1099511627776 := by
          rw [hdr] at hrt
          simp only [tot] at hrt
          omega
        obtain ⟨yo, yc, rfl⟩ := hm.form
        have i1 : 0 ≤ (k : Int) := by omega
        have i2 : (k : Int) < (p.length : Int) := by omega
        obtain ⟨T, hT⟩ : ∃ T, tot (l.drop (k + 1)) = T := ⟨_, rfl⟩
        rw [hT] at hrt2
        have HT : Hid (tot (l.drop (k + 1)) = T) := hT
        dsimp only at hbd
        have hBx : Below wr.heap.size wr (wr.alloc (hkO x (.slice yo x.ls.length yc))) := (Below.refl _ wr).alloc (Nat.le_refl _) _
        have hx1 := Hx.new wr x (.slice yo x.ls.length yc)
        have hS1 := hS.alloc (hkO x (.slice yo x.ls.length yc))
        have hW : wr.alloc (Obj.cells #[Value.int IntKind.i64 x.A, Value.int IntKind.i64 x.AN, Value.int IntKind.i64 x.B, Value.int IntKind.i64 x.BN, .slice yo x.ls.length yc] 39) = wr.alloc (hkO x (.slice yo x.ls.length yc)) := rfl
        clear HI hlk hck hX hY hdr hrt hT HUV hS hm
        generalize wr.alloc (hkO x (.slice yo x.ls.length yc)) = w1 at *
        go_upto_region 9 with fail
        clear hW c0 c1 c2 c3 c4
        generalize hBX : wr.heap.size = BX at *
        have hxx : ∀ u : World, Low w1 u → Hx u BX x (.slice yo x.ls.length yc) := fun u hu => hx1.low hu
        have hlow : Low w1 (w1.drewN 1) := Below.dN (Below.refl _ w1) 1
        refine wp_region_noPanic ?_
        refine wp_region_held_drew (S := fun u => Low w1 u) (by kernel_rfl) hlow (fun hHeld => ?_)
        refine go_take 0 25 _ (.pointer (some ⟨BX, 0, none⟩)) rfl (by kernel_rfl) (by kernel_rfl) (by kernel_rfl) (by kernel_rfl) (fun _ _ _ h => h) (Or.inl ⟨by kernel_rfl, fun u hu => by kernel_rfl⟩) hHeld ?_
        simp only [Act.put, List.setIfInBounds_toArray, List.set_cons_zero, List.set_cons_succ]
        refine go_take 1 26 _ (.int .i64 x.A) rfl (by kernel_rfl) (by kernel_rfl) (by kernel_rfl) (by kernel_rfl) (fun _ _ _ h => h) (Or.inl ⟨by kernel_rfl, fun u hu => load_int (hxx u hu).cells.1 (.tmp 25) (by kernel_rfl) (by kernel_rfl)⟩) hHeld ?_
        simp only [Act.put, List.setIfInBounds_toArray, List.set_cons_zero, List.set_cons_succ]
        refine go_take 2 27 _ (.pointer (some ⟨BX, 1, none⟩)) rfl (by kernel_rfl) (by kernel_rfl) (by kernel_rfl) (by kernel_rfl) (fun _ _ _ h => h) (Or.inl ⟨by kernel_rfl, fun u hu => by kernel_rfl⟩) hHeld ?_
        simp only [Act.put, List.setIfInBounds_toArray, List.set_cons_zero, List.set_cons_succ]
        refine go_take 3 28 _ (.int .i64 x.AN) rfl (by kernel_rfl) (by kernel_rfl) (by kernel_rfl) (by kernel_rfl) (fun _ _ _ h => h) (Or.inl ⟨by kernel_rfl, fun u hu => load_int (hxx u hu).cells.2.1 (.tmp 27) (by kernel_rfl) (by kernel_rfl)⟩) hHeld ?_
        simp only [Act.put, List.setIfInBounds_toArray, List.set_cons_zero, List.set_cons_succ]
        refine go_take 5 30 _ (.pointer (some ⟨BX, 2, none⟩)) rfl (by kernel_rfl) (by kernel_rfl) (by kernel_rfl) (by kernel_rfl) (fun _ _ _ h => h) (Or.inl ⟨by kernel_rfl, fun u hu => by kernel_rfl⟩) hHeld ?_
        simp only [Act.put, List.setIfInBounds_toArray, List.set_cons_zero, List.set_cons_succ]
        refine go_take 6 31 _ (.int .i64 x.B) rfl (by kernel_rfl) (by kernel_rfl) (by kernel_rfl) (by kernel_rfl) (fun _ _ _ h => h) (Or.inl ⟨by kernel_rfl, fun u hu => load_int (hxx u hu).cells.2.2.1 (.tmp 30) (by kernel_rfl) (by kernel_rfl)⟩) hHeld ?_
        simp only [Act.put, List.setIfInBounds_toArray, List.set_cons_zero, List.set_cons_succ]
        refine go_take 7 32 _ (.pointer (some ⟨BX, 3, none⟩)) rfl (by kernel_rfl) (by kernel_rfl) (by kernel_rfl) (by kernel_rfl) (fun _ _ _ h => h) (Or.inl ⟨by kernel_rfl, fun u hu => by kernel_rfl⟩) hHeld ?_
        simp only [Act.put, List.setIfInBounds_toArray, List.set_cons_zero, List.set_cons_succ]
        refine go_take 8 33 _ (.int .i64 x.BN) rfl (by kernel_rfl) (by kernel_rfl) (by kernel_rfl) (by kernel_rfl) (fun _ _ _ h => h) (Or.inl ⟨by kernel_rfl, fun u hu => load_int (hxx u hu).cells.2.2.2.1 (.tmp 32) (by kernel_rfl) (by kernel_rfl)⟩) hHeld ?_
        simp only [Act.put, List.setIfInBounds_toArray, List.set_cons_zero, List.set_cons_succ]
        refine go_callH 4 29 _ rfl (by kernel_rfl) (by kernel_rfl) (by kernel_rfl) 41 #[.tmp 26, .tmp 28] #[3, 3] (by kernel_rfl) #[.int .i64 x.A, .int .i64 x.AN] (by kernel_rfl) (enters_of Try.func41 (by kernel_rfl) rfl) (.int .i64 X) ((hplaceOf_f x.A x.AN _ (by omega) (by omega) X HX).mono (fun _ _ h => ⟨h.1, by rw [h.2]; exact hHeld⟩)) ?_
        intro w1 hHeld
        simp only [Act.put, List.setIfInBounds_toArray, List.set_cons_zero, List.set_cons_succ]
        refine go_callH 9 34 _ rfl (by kernel_rfl) (by kernel_rfl) (by kernel_rfl) 41 #[.tmp 31, .tmp 33] #[3, 3] (by kernel_rfl) #[.int .i64 x.B, .int .i64 x.BN] (by kernel_rfl) (enters_of Try.func41 (by kernel_rfl) rfl) (.int .i64 Y) ((hplaceOf_f x.B x.BN _ (by omega) (by omega) Y HY).mono (fun _ _ h => ⟨h.1, by rw [h.2]; exact hHeld⟩)) ?_
        intro w2 hHeld
        simp only [Act.put, List.setIfInBounds_toArray, List.set_cons_zero, List.set_cons_succ]
        refine go_take 10 9 _ (.int .i64 X) rfl (by kernel_rfl) (by kernel_rfl) (by kernel_rfl) (by kernel_rfl) (fun _ _ _ h => h) (Or.inl ⟨by kernel_rfl, fun u hu => by kernel_rfl⟩) hHeld ?_
        simp only [Act.put, List.setIfInBounds_toArray, List.set_cons_zero, List.set_cons_succ]
        refine go_take 11 10 _ (.int .i64 Y) rfl (by kernel_rfl) (by kernel_rfl) (by kernel_rfl) (by kernel_rfl) (fun _ _ _ h => h) (Or.inl ⟨by kernel_rfl, fun u hu => by kernel_rfl⟩) hHeld ?_
        simp only [Act.put, List.setIfInBounds_toArray, List.set_cons_zero, List.set_cons_succ]
        refine wpAnyH_done (by kernel_rfl) ?_ _
        refine NoPanic.normal ?_
        obtain ⟨d0, d1, d2, d3, d4⟩ := (hxx w2 hHeld).cells
        have hS2 := hS1.keep hHeld
        generalize w2 = w4 at *
        clear hS1 HX HY hB
        go_wp2
        clear d0 d1 d2 d3 d4
        go_loopw [9, 10, 38] (fun av bv jv wr => ∃ (j : Nat) (a b : Int) (r : List Ch) (ov : Value), j ≤ x.ls.length ∧ av = .int .i64 a ∧ bv = .int .i64 b ∧ jv = .int .i64 (j : Int) ∧ (-1 ≤ a ∧ a ≤ 2147483647 + (j : Int)) ∧ (-1 ≤ b ∧ b ≤ 2147483647 + (j : Int)) ∧ r.length + (x.ls.length - j) + T ≤ 1099511627776 ∧ Hid (Hhd r) ∧ Sc W ov r wr ∧ Hid (Al a b r) ∧ Hid (a + ((pkL 43 (x.ls.drop j)).length : Int) = X + x.AN ∧ b + ((pkL 45 (x.ls.drop j)).length : Int) = Y + x.BN) ∧ Hid ((chHs (chLs a b r (x.ls.drop j)) (l.drop (k + 1))).reverse = R)) (fun _ _ jv _ => x.ls.length - (intOf jv).toNat)
        case atStart => exact ⟨0, X, Y, r, ov, Nat.zero_le _, by go_num, by go_num, by go_num, by omega, by omega, by omega, HHD, hS2, HUV2.out.2, ⟨by rw [List.drop_zero, HCL.out.2.1], by rw [List.drop_zero, HCL.out.2.2]⟩, HI2⟩
        case round =>
          obtain ⟨j, a, bb, r, ov, hj, rfl, rfl, rfl, hab, hbb, hrt, HHD, hS, HAL, HPK, HI⟩ := hrel
          clear HI2 hrt2 hS2
          have hB := hBW.trans (hS.low.mono hBW.size)
          have hmr := (hv.take hB k hlt hxy).2
          by_cases hjl : j < x.ls.length
          · obtain ⟨mb, mo, rfl, _, hmc⟩ := HMk.at hmr (by omega)
            obtain ⟨m, hmj⟩ : ∃ m, x.ls[j] = m := ⟨_, rfl⟩
            obtain ⟨c0, c1⟩ := hmc j hjl
            rw [hmj] at c0 c1
            obtain ⟨sg, tx⟩ := m
            dsimp only at c0 c1
            have hsg := all_at HCL.out.1 hjl hmj
            have HP1 := pk_step hjl hmj 43
            have HP2 := pk_step hjl hmj 45
            have HPK2 : Hid (a + ((if sg ≠ 43 ∧ okS sg = true then 1 else 0) + ((pkL 43 (x.ls.drop (j + 1))).length : Int)) = X + x.AN ∧ bb + ((if sg ≠ 45 ∧ okS sg = true then 1 else 0) + ((pkL 45 (x.ls.drop (j + 1))).length : Int)) = Y + x.BN) := (by
              have h := HPK.out
              rw [HP1, HP2] at h
              exact h)
            have HI3 : Hid ((chHs (if sg = 32 then chLs (a + 1) (bb + 1) r (x.ls.drop (j + 1)) else if sg = 45 then chLs (a + 1) bb (bmA (opn a bb r)) (x.ls.drop (j + 1)) else chLs a (bb + 1) (bmB (opn a bb r)) (x.ls.drop (j + 1))) (l.drop (k + 1))).reverse = R) := (by
              show _ = _
              rw [← HI.out, List.drop_eq_getElem_cons hjl, hmj]
              rfl)
            have j1 : 0 ≤ (j : Int) := by omega
            have j2 : (j : Int) < (x.ls.length : Int) := by omega
            obtain ⟨m0, m1⟩ := (Mx.new wr ⟨sg, tx⟩).cells
            have hSm := hS.alloc (mkO ⟨sg, tx⟩)
            have hW : wr.alloc (Obj.cells #[Value.int IntKind.u8 sg, Value.string ⟨tx.toArray⟩] 46) = wr.alloc (mkO ⟨sg, tx⟩) := rfl
            dsimp only at m0 m1
            clear HI hmj hmc hmr HP1 HP2 HPK hS
            generalize wr.alloc (mkO ⟨sg, tx⟩) = wm at *
            rcases hsg with rfl | rfl | rfl
            · have HI4 : Hid ((chHs (chLs (a + 1) (bb + 1) r (x.ls.drop (j + 1))) (l.drop (k + 1))).reverse = R) := (by
                have h := HI3.out
                rw [if_pos rfl] at h
                exact h)
              have HPK3 : Hid (a + 1 + ((pkL 43 (x.ls.drop (j + 1))).length : Int) = X + x.AN ∧ bb + 1 + ((pkL 45 (x.ls.drop (j + 1))).length : Int) = Y + x.BN) := (by
                have h := HPK2.out
                rw [if_pos (by decide), if_pos (by decide)] at h
                refine ⟨?_, ?_⟩ <;> omega)
              clear HI3 HPK2
              go_wp2
              exact ⟨⟨j + 1, _, _, r, ov, by omega, by go_num, by go_num, by go_num, by omega, by omega, by omega, HHD, hSm, al_add HAL.out, HPK3, HI4⟩, by simp [intOf]; omega⟩
            · obtain ⟨c, t, hop, hcA, hcB⟩ := opn_head a bb r
              have HOP : Hid (opn a bb r = c :: t) := hop
              have hd : (-1 ≤ c.A ∧ 0 ≤ c.AN) ∧ -1 ≤ c.B ∧ 0 ≤ c.BN := (by
                have h1 := HHD.out
                unfold opn at hop
                by_cases hq : endsAt a bb r = true
                · rw [if_pos hq] at hop
                  rw [hop] at h1
                  simp only [Hhd] at h1
                  omega
                · rw [if_neg hq] at hop
                  cases hop
                  dsimp only
                  omega)
              have hlen : t.length ≤ r.length := (by
                unfold opn at hop
                by_cases hq : endsAt a bb r = true
                · rw [if_pos hq] at hop
                  rw [hop]
                  simp
                · rw [if_neg hq] at hop
                  cases hop
                  exact Nat.le_refl _)
              obtain ⟨cA, cAN, cB, cBN⟩ := c
              dsimp only at hd hcA hcB
              have HI4 : Hid ((chHs (chLs (a + 1) (bb) (⟨cA, cAN + 1, cB, cBN⟩ :: t) (x.ls.drop (j + 1))) (l.drop (k + 1))).reverse = R) := (by
                have h := HI3.out
                rw [if_neg (by decide), if_pos rfl, hop] at h
                exact h)
              have HPK3 : Hid (a + 1 + ((pkL 43 (x.ls.drop (j + 1))).length : Int) = X + x.AN ∧ bb + ((pkL 45 (x.ls.drop (j + 1))).length : Int) = Y + x.BN) := (by
                have h := HPK2.out
                rw [if_pos (by decide), if_neg (by decide)] at h
                refine ⟨?_, ?_⟩ <;> omega)
              have HCC : Hid (cA + cAN = a ∧ cB + cBN = bb) := ⟨hcA, hcB⟩
              clear HI3 HPK2 hop hcA hcB
              go_wp2_with fail
              refine (hAt_f a bb W wm ov r t ⟨cA, cAN, cB, cBN⟩ hSm (by omega) (by omega) (by omega) HHD HAL HOP).mono ?_
              rintro e wz ⟨g, oc, rfl, hS3⟩
              obtain ⟨q0, q1, q2, q3⟩ := bch_at ⟨cA, cAN, cB, cBN⟩ t
              have hown := hS3.own
              rw [List.length_cons] at hown
              have d1 := (hown.cellAt (t.length * 4 + 1) (by omega)).trans q1
              have f1 := hown.frozenAt (t.length * 4 + 1)
              have hst := hown.stored (t.length * 4 + 1) (.int .i64 (cAN + 1))
              rw [bch_setA] at hst
              have hS4 := hS3.put (g := g) rfl hst.1 hst.2
              dsimp only at d1
              have hcc := HCC.out
              clear q0 q1 q2 q3 hst hown HOP hS3 HCC
              go_wp2
              exact ⟨⟨j + 1, _, _, ⟨cA, cAN + 1, cB, cBN⟩ :: t, _, by omega, by go_num, by go_num, by go_num, by omega, by omega, by simp only [List.length_cons]; omega, by simp only [Hhd]; show _ ∧ _; omega, hS4, by show _ = _; dsimp only; omega, HPK3, HI4⟩, by simp [intOf]; omega⟩
            · obtain ⟨c, t, hop, hcA, hcB⟩ := opn_head a bb r
              have HOP : Hid (opn a bb r = c :: t) := hop
              have hd : (-1 ≤ c.A ∧ 0 ≤ c.AN) ∧ -1 ≤ c.B ∧ 0 ≤ c.BN := (by
                have h1 := HHD.out
                unfold opn at hop
                by_cases hq : endsAt a bb r = true
                · rw [if_pos hq] at hop
                  rw [hop] at h1
                  simp only [Hhd] at h1
                  omega
                · rw [if_neg hq] at hop
                  cases hop
                  dsimp only
                  omega)
              have hlen : t.length ≤ r.length := (by
                unfold opn at hop
                by_cases hq : endsAt a bb r = true
                · rw [if_pos hq] at hop
                  rw [hop]
                  simp
                · rw [if_neg hq] at hop
                  cases hop
                  exact Nat.le_refl _)
              obtain ⟨cA, cAN, cB, cBN⟩ := c
              dsimp only at hd hcA hcB
              have HI4 : Hid ((chHs (chLs (a) (bb + 1) (⟨cA, cAN, cB, cBN + 1⟩ :: t) (x.ls.drop (j + 1))) (l.drop (k + 1))).reverse = R) := (by
                have h := HI3.out
                rw [if_neg (by decide), if_neg (by decide), hop] at h
                exact h)
              have HPK3 : Hid (a + ((pkL 43 (x.ls.drop (j + 1))).length : Int) = X + x.AN ∧ bb + 1 + ((pkL 45 (x.ls.drop (j + 1))).length : Int) = Y + x.BN) := (by
                have h := HPK2.out
                rw [if_neg (by decide), if_pos (by decide)] at h
                refine ⟨?_, ?_⟩ <;> omega)
              have HCC : Hid (cA + cAN = a ∧ cB + cBN = bb) := ⟨hcA, hcB⟩
              clear HI3 HPK2 hop hcA hcB
              go_wp2_with fail
              refine (hAt_f a bb W wm ov r t ⟨cA, cAN, cB, cBN⟩ hSm (by omega) (by omega) (by omega) HHD HAL HOP).mono ?_
              rintro e wz ⟨g, oc, rfl, hS3⟩
              obtain ⟨q0, q1, q2, q3⟩ := bch_at ⟨cA, cAN, cB, cBN⟩ t
              have hown := hS3.own
              rw [List.length_cons] at hown
              have d1 := (hown.cellAt (t.length * 4 + 3) (by omega)).trans q3
              have f1 := hown.frozenAt (t.length * 4 + 3)
              have hst := hown.stored (t.length * 4 + 3) (.int .i64 (cBN + 1))
              rw [bch_setB] at hst
              have hS4 := hS3.put (g := g) rfl hst.1 hst.2
              dsimp only at d1
              have hcc := HCC.out
              clear q0 q1 q2 q3 hst hown HOP hS3 HCC
              go_wp2
              exact ⟨⟨j + 1, _, _, ⟨cA, cAN, cB, cBN + 1⟩ :: t, _, by omega, by go_num, by go_num, by go_num, by omega, by omega, by simp only [List.length_cons]; omega, by simp only [Hhd]; show _ ∧ _; omega, hS4, by show _ = _; dsimp only; omega, HPK3, HI4⟩, by simp [intOf]; omega⟩
          · have HI3 : Hid ((chHs r (l.drop (k + 1))).reverse = R) := (by
              have h := HI.out
              rw [List.drop_of_length_le (by omega)] at h
              exact h)
            have HUV3 : Hid (ordB (X + x.AN) (Y + x.BN) (l.drop (k + 1)) = true ∧ Al (X + x.AN) (Y + x.BN) r) := (by
              have h := HPK.out
              rw [List.drop_of_length_le (by omega)] at h
              simp [pkL] at h
              refine ⟨HUV2.out.1, ?_⟩
              rw [← h.1, ← h.2]
              exact HAL.out)
            have hend : decide ((j : Int) < (x.ls.length : Int)) = false := decide_eq_false (by omega)
            clear HI HPK HAL
            go_wp2
            exact ⟨⟨k + 1, r, _, _, ov, by omega, by go_num, by have := HT.out; omega, HHD, hS, HUV3, HI3⟩, by simp [intOf]; omega⟩
      · have HI3 : Hid (r.reverse = R) := (by
          have h := HI.out
          rw [List.drop_of_length_le (by have := HLL.out; omega)] at h
          exact h)
        have hend : decide ((k : Int) < (p.length : Int)) = false := decide_eq_false (by omega)
        obtain ⟨oo, oc, rfl⟩ := hS.form
        have hbx := hS.cell
        clear HI
        go_wp2
        go_ret2
        refine ⟨_, rfl, ?_, hB⟩
        have h := holds_of hS.own
        rw [← HI3.out]
        unfold HCh
        rw [List.length_reverse]
        exact h
  · have hz1 : (z != 0) = true := by simpa using hz
    obtain rfl : R = [] := by
      rw [← HR.out]
      unfold chR
      rw [if_neg (by rw [HZ.out]; exact hz)]
    clear HR HZ hZ2 hz
    go_wp2
    go_ret2
    exact ⟨_, rfl, Holds.nil _, hBW⟩
end Go.Proofs.Ythckcdpgjdbgcaa

/- The code's Old, New, Check, Order, Invert, Changes of layer 11: all walked in the texts that are imported here. -/
namespace Go.Proofs.Ythckcdpgjdbgcaa
end Go.Proofs.Ythckcdpgjdbgcaa
