/-
  Texts that belong together, joined: CrD, NpT, CrS, CrE, CrO.
-/
import Derived.Test.YtgiojkhmkeocfaaDoorCtPriA6
import Derived.Test.YtgiojkhmkeocfaaDoorCtPriA3
import Derived.Test.YtgiojkhmkeocfaaDoorCtPriA4

/- The reference's Print of layer 15, walked. -/
namespace Go.Proofs.YtgiojkhmkeocfaaDoor
open Go.RowKit

theorem cw_add {x y z : List UInt8} (h : ∀ u : World, (Op.stringOp .add ⟨x.toArray⟩ ⟨y.toArray⟩).run Tryd.prog u = .ok (.string ⟨z.toArray⟩) u) {u : World} {op : Oper} (a b : Operand) (ho : op.op = .binOp .add 9 a b 9) {ev : Operand → Value} (ha : ev a = .string ⟨x.toArray⟩) (hb : ev b = .string ⟨y.toArray⟩) :
    (execOp ev op).run Tryd.prog u = .ok (.value (.string ⟨z.toArray⟩)) u := by
  simp only [execOp, ho, ha, hb]
  go_simp
theorem cw_hk {u : World} {M : Nat} {A AN Bn BN : Int} {ls : List Mk} {o : Option Addr} {n c : Nat} (q : Hx u M ⟨A, AN, Bn, BN, ls⟩ (.slice o n c)) {op : Oper} (x : Operand) (ho : op.op = .load 43 x) {ev : Operand → Value} (hx : ev x = .pointer (some ⟨M, 0, none⟩)) :
    (execOp ev op).run Tryd.prog u = .ok (.value (.agg #[.int .i64 A, .int .i64 AN, .int .i64 Bn, .int .i64 BN, .slice o n c])) u := by
  obtain ⟨d0, d1, d2, d3, d4⟩ := q.cells
  simp only [execOp, ho, hx]
  go_simp
set_option maxHeartbeats 16000000 in
set_option maxRecDepth 100000 in
theorem rPrint15_f (p : Pth) (q : List (Hk × Value)) (HQ : Hid (q.map (·.1) = p.hs)) (v : Value) (w : World) (hv : HHp w v q) (hok : HOk q) (ho : p.old.length ≤ 1099511627776) (hn : p.new.length ≤ 1099511627776) (Z : List UInt8) (r : Int) (HR : Hid (wrgP p = r)) (HZ : Hid (ptT p = Z)) (hZ : Z.length ≤ 70368744177664) (HX : Hid (∀ x ∈ p.hs, ∀ sg, (sidL sg false false x.ls).flatten.length ≤ 70368744177664)) :
    Calls Tryd.prog 18 #[ptV p v] w fun e w' => e = .returned (.tuple #[.string ⟨Z.toArray⟩, .int .i64 r]) ∧ Below w.heap.size w w' := by
  obtain ⟨lo, lc, rfl⟩ := Holds.form hv.row
  have HO := fun h => (wrg_out (p := p) h)
  obtain ⟨old, new, hs⟩ := p
  dsimp only at HQ ho hn HX
  have hql : hs.length = q.length := (by rw [← HQ.out, List.length_map])
  have hZZ := HZ.out
  unfold ptT at hZZ
  rw [HR.out] at hZZ
  have hBm : Below w.heap.size w (w.alloc (.cells #[.string ⟨old.toArray⟩, .string ⟨new.toArray⟩, .slice lo q.length lc] 46)) := (Below.refl _ w).alloc (Nat.le_refl _) _
  have hMx : Px (w.alloc (.cells #[.string ⟨old.toArray⟩, .string ⟨new.toArray⟩, .slice lo q.length lc] 46)) w.heap.size ⟨old, new, hs⟩ (.slice lo q.length lc) := heap_alloc_new w _
  have hvm := hv.keep hBm (Nat.le_refl _)
  have hc := rWrong_f ⟨old, new, hs⟩ q HQ (.slice lo q.length lc) _ hvm hok ho hn r HR
  have e : ptV ⟨old, new, hs⟩ (.slice lo q.length lc) = .agg #[.string ⟨old.toArray⟩, .string ⟨new.toArray⟩, .slice lo q.length lc] := rfl
  rw [e] at hc ⊢
  obtain ⟨d0, d1, d2⟩ := hMx.cells
  clear e hvm
  by_cases hr0 : r = 0
  · subst hr0
    rw [if_pos rfl] at hZZ
    obtain ⟨o1, o2, o3, o4⟩ := HO HR.out
    dsimp only at o1 o2 o3 o4
    have HCh : Hid (∀ x ∈ hs, chkH x = 0) := o4
    clear o4 HO
    by_cases hq0 : q.length = 0
    · have HE : Hid ([] = Z) := (by
        show _ = _
        rw [← hZZ]
        have : hs = [] := List.eq_nil_of_length_eq_zero (by omega)
        rw [this]
        rfl)
      have i1 : ((q.length : Int) == 0) = true := (by rw [hq0]; rfl)
      clear hZZ HZ hq0 hql
      go_enter Tryd.func18, Tryd.ntmps18
      go_wp2_with fail
      refine hc.mono ?_
      rintro e w1 ⟨rfl, hB1⟩
      have hM1 := hMx.low hB1
      clear d0 d1 d2
      obtain ⟨d0, d1, d2⟩ := hM1.cells
      go_wp2
      go_ret2
      exact ⟨by rw [← HE.out]; rfl, hBm.trans (hB1.mono hBm.size)⟩
    · have hne : hs ≠ [] := (by intro e; rw [e] at hql; simp at hql; omega)
      rw [pt_lines (p := ⟨old, new, hs⟩) hne] at hZZ
      dsimp only at hZZ
      obtain ⟨N1, hN1⟩ : ∃ Y, nameT old = Y := ⟨_, rfl⟩
      obtain ⟨N2, hN2⟩ : ∃ Y, nameT new = Y := ⟨_, rfl⟩
      obtain ⟨U1, hU1⟩ : ∃ Y, [42, 42, 42, 32] ++ N1 = Y := ⟨_, rfl⟩
      obtain ⟨U2, hU2⟩ : ∃ Y, U1 ++ [10, 45, 45, 45, 32] = Y := ⟨_, rfl⟩
      obtain ⟨U3, hU3⟩ : ∃ Y, U2 ++ N2 = Y := ⟨_, rfl⟩
      obtain ⟨Z2, hZ2⟩ : ∃ Y, U3 ++ [10] = Y := ⟨_, rfl⟩
      have HE : Hid (Z2 ++ (((q.map (·.1)).drop 0).flatMap hkL).flatten = Z) := (by
        show _ = _
        rw [← hZZ, ← hZ2, ← hU3, ← hU2, ← hU1, hN1, hN2, HQ.out, List.drop_zero]
        simp)
      have n1 := name_len old
      have n2 := name_len new
      rw [hN1] at n1
      rw [hN2] at n2
      have u1 := congrArg List.length hU1
      have u2 := congrArg List.length hU2
      have u3 := congrArg List.length hU3
      simp only [List.length_append, List.length_cons, List.length_nil] at u1 u2 u3
      have q1 := add_fits (x := [42, 42, 42, 32]) (y := N1) (by unfold Fits; simp only [List.length_cons, List.length_nil]; omega) Tryd.prog
      have q2 := add_fits (x := U1) (y := [10, 45, 45, 45, 32]) (by unfold Fits; simp only [List.length_cons, List.length_nil]; omega) Tryd.prog
      have q3 := add_fits (x := U2) (y := N2) (by unfold Fits; omega) Tryd.prog
      have q4 := add_fits (x := U3) (y := [10]) (by unfold Fits; simp only [List.length_cons, List.length_nil]; omega) Tryd.prog
      rw [hU1] at q1
      rw [hU2] at q2
      rw [hU3] at q3
      rw [hZ2] at q4
      have i1 : ((q.length : Int) == 0) = false := beq_eq_false_iff_ne.2 (by omega)
      have hq4 : q.length ≤ 4096 := by omega
      have HN1 : Hid (nameT old = N1) := hN1
      have HN2 : Hid (nameT new = N2) := hN2
      clear hZZ HZ hq0 hql n1 n2 hN1 hN2 hU1 hU2 hU3 hZ2 hne o3 u1 u2 u3
      go_enter Tryd.func18, Tryd.ntmps18
      go_wp2_with fail
      refine hc.mono ?_
      rintro e W1 ⟨rfl, hB1⟩
      have hPx := hMx.low hB1
      have hBw1 := hBm.trans (hB1.mono hBm.size)
      clear d0 d1 d2 hBm hMx hB1 hc
      generalize w.heap.size = M at hPx ⊢
      obtain ⟨d0, d1, d2⟩ := hPx.cells
      have HCn1 : Hid (∀ u, Below W1.heap.size W1 u → Calls Tryd.prog 56 (#[.string ⟨old.toArray⟩] ++ #[]) u fun e w2 => ∃ v2, e = .returned v2 ∧ Below W1.heap.size W1 w2 ∧ v2 = .string ⟨N1.toArray⟩) := (by
        intro u hu
        refine (rName_f old u ho N1 HN1).mono ?_
        rintro e w2 ⟨rfl, h⟩
        exact ⟨_, rfl, hu.trans (h.mono hu.size), rfl⟩)
      have HCn2 : Hid (∀ u, Below W1.heap.size W1 u → Calls Tryd.prog 56 (#[.string ⟨new.toArray⟩] ++ #[]) u fun e w2 => ∃ v2, e = .returned v2 ∧ Below W1.heap.size W1 w2 ∧ v2 = .string ⟨N2.toArray⟩) := (by
        intro u hu
        refine (rName_f new u hn N2 HN2).mono ?_
        rintro e w2 ⟨rfl, h⟩
        exact ⟨_, rfl, hu.trans (h.mono hu.size), rfl⟩)
      go_upto_region 4 with fail
      refine wp_region_noPanic ?_
      refine wp_region_held_drew (S := fun u => Below W1.heap.size W1 u) (by kernel_rfl) ((Below.refl _ W1).drew) (fun hHeld => ?_)
      generalize W1.drew = wd at hHeld ⊢
      refine go_take 0 19 _ (.pointer (some ⟨M, 0, none⟩)) rfl (by kernel_rfl) (by kernel_rfl) (by kernel_rfl) (by kernel_rfl) (fun _ _ _ h => h) (Or.inl ⟨by kernel_rfl, fun u hu => by kernel_rfl⟩) hHeld ?_
      simp only [Act.put, List.setIfInBounds_toArray, List.set_cons_zero, List.set_cons_succ]
      refine go_take 1 20 _ (.string ⟨old.toArray⟩) rfl (by kernel_rfl) (by kernel_rfl) (by kernel_rfl) (by kernel_rfl) (fun _ _ _ h => h) (Or.inl ⟨by kernel_rfl, fun u hu => cw_str (hPx.low hu).cells.1 (.tmp 19) (by kernel_rfl) (by kernel_rfl)⟩) hHeld ?_
      simp only [Act.put, List.setIfInBounds_toArray, List.set_cons_zero, List.set_cons_succ]
      refine go_take 5 24 _ (.pointer (some ⟨M, 1, none⟩)) rfl (by kernel_rfl) (by kernel_rfl) (by kernel_rfl) (by kernel_rfl) (fun _ _ _ h => h) (Or.inl ⟨by kernel_rfl, fun u hu => by kernel_rfl⟩) hHeld ?_
      simp only [Act.put, List.setIfInBounds_toArray, List.set_cons_zero, List.set_cons_succ]
      refine go_take 6 25 _ (.string ⟨new.toArray⟩) rfl (by kernel_rfl) (by kernel_rfl) (by kernel_rfl) (by kernel_rfl) (fun _ _ _ h => h) (Or.inl ⟨by kernel_rfl, fun u hu => cw_str (hPx.low hu).cells.2.1 (.tmp 24) (by kernel_rfl) (by kernel_rfl)⟩) hHeld ?_
      simp only [Act.put, List.setIfInBounds_toArray, List.set_cons_zero, List.set_cons_succ]
      refine go_callE 2 21 _ rfl (by kernel_rfl) (by kernel_rfl) (by kernel_rfl) 56 (.func 56) #[.tmp 20] #[9] (by kernel_rfl) #[] (by kernel_rfl) #[.string ⟨old.toArray⟩] (by kernel_rfl) (enters_of Tryd.func56 (by kernel_rfl) rfl) (fun v2 _ => v2 = .string ⟨N1.toArray⟩) ?_ ?_
      · exact HCn1.out wd hHeld
      rintro _ w2 hw2 rfl
      simp only [Act.put, List.setIfInBounds_toArray, List.set_cons_zero, List.set_cons_succ]
      refine go_take 3 22 _ (.string ⟨U1.toArray⟩) rfl (by kernel_rfl) (by kernel_rfl) (by kernel_rfl) (by kernel_rfl) (fun _ _ _ h => h) (Or.inl ⟨by kernel_rfl, fun u hu => cw_add q1 (.const (.string ⟨#[42, 42, 42, 32]⟩)) (.tmp 21) (by kernel_rfl) (by kernel_rfl) (by kernel_rfl)⟩) hw2 ?_
      simp only [Act.put, List.setIfInBounds_toArray, List.set_cons_zero, List.set_cons_succ]
      refine go_take 4 23 _ (.string ⟨U2.toArray⟩) rfl (by kernel_rfl) (by kernel_rfl) (by kernel_rfl) (by kernel_rfl) (fun _ _ _ h => h) (Or.inl ⟨by kernel_rfl, fun u hu => cw_add q2 (.tmp 22) (.const (.string ⟨#[10, 45, 45, 45, 32]⟩)) (by kernel_rfl) (by kernel_rfl) (by kernel_rfl)⟩) hw2 ?_
      simp only [Act.put, List.setIfInBounds_toArray, List.set_cons_zero, List.set_cons_succ]
      refine go_callE 7 26 _ rfl (by kernel_rfl) (by kernel_rfl) (by kernel_rfl) 56 (.func 56) #[.tmp 25] #[9] (by kernel_rfl) #[] (by kernel_rfl) #[.string ⟨new.toArray⟩] (by kernel_rfl) (enters_of Tryd.func56 (by kernel_rfl) rfl) (fun v2 _ => v2 = .string ⟨N2.toArray⟩) ?_ ?_
      · exact HCn2.out w2 hw2
      rintro _ w3 hw3 rfl
      simp only [Act.put, List.setIfInBounds_toArray, List.set_cons_zero, List.set_cons_succ]
      refine go_take 8 27 _ (.string ⟨U3.toArray⟩) rfl (by kernel_rfl) (by kernel_rfl) (by kernel_rfl) (by kernel_rfl) (fun _ _ _ h => h) (Or.inl ⟨by kernel_rfl, fun u hu => cw_add q3 (.tmp 23) (.tmp 26) (by kernel_rfl) (by kernel_rfl) (by kernel_rfl)⟩) hw3 ?_
      simp only [Act.put, List.setIfInBounds_toArray, List.set_cons_zero, List.set_cons_succ]
      refine go_take 9 28 _ (.string ⟨Z2.toArray⟩) rfl (by kernel_rfl) (by kernel_rfl) (by kernel_rfl) (by kernel_rfl) (fun _ _ _ h => h) (Or.inl ⟨by kernel_rfl, fun u hu => cw_add q4 (.tmp 27) (.const (.string ⟨#[10]⟩)) (by kernel_rfl) (by kernel_rfl) (by kernel_rfl)⟩) hw3 ?_
      simp only [Act.put, List.setIfInBounds_toArray, List.set_cons_zero, List.set_cons_succ]
      refine go_take 10 5 _ (.string ⟨Z2.toArray⟩) rfl (by kernel_rfl) (by kernel_rfl) (by kernel_rfl) (by kernel_rfl) (fun _ _ _ h => h) (Or.inl ⟨by kernel_rfl, fun u hu => by kernel_rfl⟩) hw3 ?_
      simp only [Act.put, List.setIfInBounds_toArray, List.set_cons_zero, List.set_cons_succ]
      refine wpAnyH_done (by kernel_rfl) ?_ _
      refine NoPanic.normal ?_
      clear q1 q2 q3 q4 HCn1 HCn2 hHeld hw2 d0 d1 d2
      go_wp2
      go_loopw [5, 6] (fun s i wr => ∃ (k : Nat) (ac : List UInt8), k ≤ q.length ∧ i = .int .i64 k ∧ s = .string ⟨ac.toArray⟩ ∧ Below W1.heap.size W1 wr ∧ Hid (ac ++ (((q.map (·.1)).drop k).flatMap hkL).flatten = Z)) (fun _ i _ => q.length - (intOf i).toNat)
      case atStart => exact ⟨0, Z2, Nat.zero_le _, rfl, rfl, hw3, HE⟩
      case round =>
      clear HE hw3
      obtain ⟨k, ac, hk, rfl, rfl, hB, HI⟩ := hrel
      obtain ⟨d0, d1, d2⟩ := (hPx.low hB).cells
      by_cases hlt : k < q.length
      · have hv1 := hv.keep hBw1 (Nat.le_refl _)
        obtain ⟨bk, off, rfl, hbk, _⟩ := hv1.at (by omega)
        obtain ⟨h, y, hx⟩ : ∃ h y, q[k] = (h, y) := ⟨_, _, rfl⟩
        obtain ⟨⟨c0, c1, c2, c3, c4⟩, hm⟩ := HHp.take hv1 hB k hlt hx
        obtain ⟨x1, x2⟩ := hok.2 q[k] (List.getElem_mem hlt)
        have hmem : h ∈ hs := (by rw [← HQ.out]; have h2 := List.mem_map_of_mem (f := (·.1)) (List.getElem_mem hlt); rw [hx] at h2; exact h2)
        have hch := HCh.out h hmem
        have hxl := HX.out h hmem
        rw [hx] at x1 x2
        dsimp only at x1 x2
        have hr := (chk_out hch).1
        obtain ⟨r1, r2, r3, r4, r5, r6, rx⟩ := rng_out hr
        obtain ⟨r7, r8⟩ := chk_hi hr
        have HI2 := HI.out
        rw [List.drop_eq_getElem_cons (show k < (q.map (·.1)).length by rw [List.length_map]; exact hlt), List.getElem_map, hx, List.flatMap_cons, List.flatten_append, ← List.append_assoc] at HI2
        dsimp only at HI2
        obtain ⟨yo, yc, rfl⟩ := HMk.form hm
        obtain ⟨A, AN, Bn, BN, ls⟩ := h
        dsimp only at x1 x2 c0 c1 c2 c3 c4 hm r1 r2 r3 r4 r5 r6 r7 r8 hxl
        clear rx hr hch hmem hx HI
        obtain ⟨T1, hT1⟩ : ∃ T, spanT A AN = T := ⟨_, rfl⟩
        obtain ⟨T2, hT2⟩ : ∃ T, spanT Bn BN = T := ⟨_, rfl⟩
        have t1 := span_len (p := A) (n := AN) r1 r2 r7
        have t2 := span_len (p := Bn) (n := BN) r4 r5 r8
        rw [hT1] at t1
        rw [hT2] at t2
        obtain ⟨X1, hX1⟩ : ∃ X, (sideL 45 ls).flatten = X := ⟨_, rfl⟩
        obtain ⟨X2, hX2⟩ : ∃ X, (sideL 43 ls).flatten = X := ⟨_, rfl⟩
        obtain ⟨a1, e1⟩ : ∃ Y, ac ++ starsT = Y := ⟨_, rfl⟩
        obtain ⟨a2, e2⟩ : ∃ Y, a1 ++ [10, 42, 42, 42, 32] = Y := ⟨_, rfl⟩
        obtain ⟨a3, e3⟩ : ∃ Y, a2 ++ T1 = Y := ⟨_, rfl⟩
        obtain ⟨a4, e4⟩ : ∃ Y, a3 ++ [32, 42, 42, 42, 42, 10] = Y := ⟨_, rfl⟩
        obtain ⟨a5, e5⟩ : ∃ Y, a4 ++ X1 = Y := ⟨_, rfl⟩
        obtain ⟨a6, e6⟩ : ∃ Y, a5 ++ [45, 45, 45, 32] = Y := ⟨_, rfl⟩
        obtain ⟨a7, e7⟩ : ∃ Y, a6 ++ T2 = Y := ⟨_, rfl⟩
        obtain ⟨a8, e8⟩ : ∃ Y, a7 ++ [32, 45, 45, 45, 45, 10] = Y := ⟨_, rfl⟩
        obtain ⟨a9, e9⟩ : ∃ Y, a8 ++ X2 = Y := ⟨_, rfl⟩
        have HI3 : Hid (a9 ++ (((q.map (·.1)).drop (k + 1)).flatMap hkL).flatten = Z) := (by
          show _ = _
          rw [← HI2, ← e9, ← e8, ← e7, ← e6, ← e5, ← e4, ← e3, ← e2, ← e1, ← hX1, ← hX2, ← hT1, ← hT2]
          simp [hkL, rlT])
        have l9 := congrArg List.length HI3.out
        have m9 := congrArg List.length e9
        have m8 := congrArg List.length e8
        have m7 := congrArg List.length e7
        have m6 := congrArg List.length e6
        have m5 := congrArg List.length e5
        have m4 := congrArg List.length e4
        have m3 := congrArg List.length e3
        have m2 := congrArg List.length e2
        have m1 := congrArg List.length e1
        simp only [List.length_append] at l9 m9 m8 m7 m6 m5 m4 m3 m2 m1
        have q1 := add_fits (x := ac) (y := starsT) (by unfold Fits; omega) Tryd.prog
        have q2 := add_fits (x := a1) (y := [10, 42, 42, 42, 32]) (by unfold Fits; omega) Tryd.prog
        have q3 := add_fits (x := a2) (y := T1) (by unfold Fits; omega) Tryd.prog
        have q4 := add_fits (x := a3) (y := [32, 42, 42, 42, 42, 10]) (by unfold Fits; omega) Tryd.prog
        have q5 := add_fits (x := a4) (y := X1) (by unfold Fits; omega) Tryd.prog
        have q6 := add_fits (x := a5) (y := [45, 45, 45, 32]) (by unfold Fits; omega) Tryd.prog
        have q7 := add_fits (x := a6) (y := T2) (by unfold Fits; omega) Tryd.prog
        have q8 := add_fits (x := a7) (y := [32, 45, 45, 45, 45, 10]) (by unfold Fits; omega) Tryd.prog
        have q9 := add_fits (x := a8) (y := X2) (by unfold Fits; omega) Tryd.prog
        rw [e1] at q1
        rw [e2] at q2
        rw [e3] at q3
        rw [e4] at q4
        rw [e5] at q5
        rw [e6] at q6
        rw [e7] at q7
        rw [e8] at q8
        rw [e9] at q9
        have hBn : Below wr.heap.size wr (wr.alloc (.cells #[.int .i64 A, .int .i64 AN, .int .i64 Bn, .int .i64 BN, .slice yo ls.length yc] 43)) := (Below.refl _ wr).alloc (Nat.le_refl _) _
        have hHx : Hx (wr.alloc (.cells #[.int .i64 A, .int .i64 AN, .int .i64 Bn, .int .i64 BN, .slice yo ls.length yc] 43)) wr.heap.size ⟨A, AN, Bn, BN, ls⟩ (.slice yo ls.length yc) := heap_alloc_new wr _
        have hmm := hm.keep hBn (Nat.le_refl _)
        have hBm := hB.trans (hBn.mono hB.size)
        have i4 : (0 : Int) ≤ (k : Int) := by omega
        have i5 : (k : Int) < (q.length : Int) := by omega
        have hkv : hkV ⟨A, AN, Bn, BN, ls⟩ (.slice yo ls.length yc) = .agg #[.int .i64 A, .int .i64 AN, .int .i64 Bn, .int .i64 BN, .slice yo ls.length yc] := rfl
        have HS1 := fun (sg : Int) (hsg : sg = 45 ∨ sg = 43) (u : World) (hu : HMk u (.slice yo ls.length yc) ls) (X : List UInt8) (hX : (sideL sg ls).flatten = X) => rside_f ⟨A, AN, Bn, BN, ls⟩ (.slice yo ls.length yc) sg hsg u hu x1 x2 X hX _ rfl (Nat.le_trans (hxl sg) (by decide))
        rw [hkv] at HS1
        clear l9 m9 m8 m7 m6 m5 m4 m3 m2 m1 e1 e2 e3 e4 e5 e6 e7 e8 e9 HI2 hm hkv
        go_upto_region 9 with fail
        generalize wr.alloc (.cells #[.int .i64 A, .int .i64 AN, .int .i64 Bn, .int .i64 BN, .slice yo ls.length yc] 43) = Wm at hHx hmm hBm hBn ⊢
        generalize wr.heap.size = Mh at hHx ⊢
        have HC1 : Hid (∀ u, Below Wm.heap.size Wm u → Calls Tryd.prog 57 (#[.int .i64 A, .int .i64 AN] ++ #[]) u fun e w2 => ∃ v2, e = .returned v2 ∧ Below Wm.heap.size Wm w2 ∧ v2 = .string ⟨T1.toArray⟩) := (by
          intro u hu
          refine (rspan_f A AN r1 (by omega) r3 (by omega) u T1 hT1).mono ?_
          rintro e w2 ⟨rfl, h⟩
          exact ⟨_, rfl, hu.trans (h.mono hu.size), rfl⟩)
        have HC3 : Hid (∀ u, Below Wm.heap.size Wm u → Calls Tryd.prog 57 (#[.int .i64 Bn, .int .i64 BN] ++ #[]) u fun e w2 => ∃ v2, e = .returned v2 ∧ Below Wm.heap.size Wm w2 ∧ v2 = .string ⟨T2.toArray⟩) := (by
          intro u hu
          refine (rspan_f Bn BN r4 (by omega) r6 (by omega) u T2 hT2).mono ?_
          rintro e w2 ⟨rfl, h⟩
          exact ⟨_, rfl, hu.trans (h.mono hu.size), rfl⟩)
        have HC2 : Hid (∀ u, Below Wm.heap.size Wm u → Calls Tryd.prog 58 (#[.agg #[.int .i64 A, .int .i64 AN, .int .i64 Bn, .int .i64 BN, .slice yo ls.length yc], .int .u8 45] ++ #[]) u fun e w2 => ∃ v2, e = .returned v2 ∧ Below Wm.heap.size Wm w2 ∧ v2 = .string ⟨X1.toArray⟩) := (by
          intro u hu
          refine (HS1 45 (.inl rfl) u (hmm.keep hu (Nat.le_refl _)) X1 hX1).mono ?_
          rintro e w2 ⟨rfl, h⟩
          exact ⟨_, rfl, hu.trans (h.mono hu.size), rfl⟩)
        have HC4 : Hid (∀ u, Below Wm.heap.size Wm u → Calls Tryd.prog 58 (#[.agg #[.int .i64 A, .int .i64 AN, .int .i64 Bn, .int .i64 BN, .slice yo ls.length yc], .int .u8 43] ++ #[]) u fun e w2 => ∃ v2, e = .returned v2 ∧ Below Wm.heap.size Wm w2 ∧ v2 = .string ⟨X2.toArray⟩) := (by
          intro u hu
          refine (HS1 43 (.inr rfl) u (hmm.keep hu (Nat.le_refl _)) X2 hX2).mono ?_
          rintro e w2 ⟨rfl, h⟩
          exact ⟨_, rfl, hu.trans (h.mono hu.size), rfl⟩)
        clear HS1 hX1 hX2 hT1 hT2 c0 c1 c2 c3 c4 d0 d1 d2 hxl r1 r2 r3 r4 r5 r6 r7 r8 t1 t2
        refine wp_region_noPanic ?_
        refine wp_region_held_drew (S := fun u => Below Wm.heap.size Wm u) (by kernel_rfl) ((Below.refl _ Wm).drew) (fun hHeld => ?_)
        generalize Wm.drew = wd at hHeld ⊢
        refine go_take 0 41 _ (.string ⟨ac.toArray⟩) rfl (by kernel_rfl) (by kernel_rfl) (by kernel_rfl) (by kernel_rfl) (fun _ _ _ h => h) (Or.inl ⟨by kernel_rfl, fun u hu => by kernel_rfl⟩) hHeld ?_
        simp only [Act.put, List.setIfInBounds_toArray, List.set_cons_zero, List.set_cons_succ]
        refine go_take 1 42 _ (.string ⟨a1.toArray⟩) rfl (by kernel_rfl) (by kernel_rfl) (by kernel_rfl) (by kernel_rfl) (fun _ _ _ h => h) (Or.inl ⟨by kernel_rfl, fun u hu => cw_add q1 (.tmp 41) (.const (.string ⟨#[42, 42, 42, 42, 42, 42, 42, 42, 42, 42, 42, 42, 42, 42, 42]⟩)) (by kernel_rfl) (by kernel_rfl) (by kernel_rfl)⟩) hHeld ?_
        simp only [Act.put, List.setIfInBounds_toArray, List.set_cons_zero, List.set_cons_succ]
        refine go_take 2 43 _ (.string ⟨a2.toArray⟩) rfl (by kernel_rfl) (by kernel_rfl) (by kernel_rfl) (by kernel_rfl) (fun _ _ _ h => h) (Or.inl ⟨by kernel_rfl, fun u hu => cw_add q2 (.tmp 42) (.const (.string ⟨#[10, 42, 42, 42, 32]⟩)) (by kernel_rfl) (by kernel_rfl) (by kernel_rfl)⟩) hHeld ?_
        simp only [Act.put, List.setIfInBounds_toArray, List.set_cons_zero, List.set_cons_succ]
        refine go_take 3 44 _ (.pointer (some ⟨Mh, 0, none⟩)) rfl (by kernel_rfl) (by kernel_rfl) (by kernel_rfl) (by kernel_rfl) (fun _ _ _ h => h) (Or.inl ⟨by kernel_rfl, fun u hu => by kernel_rfl⟩) hHeld ?_
        simp only [Act.put, List.setIfInBounds_toArray, List.set_cons_zero, List.set_cons_succ]
        refine go_take 4 45 _ (.int .i64 A) rfl (by kernel_rfl) (by kernel_rfl) (by kernel_rfl) (by kernel_rfl) (fun _ _ _ h => h) (Or.inl ⟨by kernel_rfl, fun u hu => load_int (hHx.low hu).cells.1 (.tmp 44) (by kernel_rfl) (by kernel_rfl)⟩) hHeld ?_
        simp only [Act.put, List.setIfInBounds_toArray, List.set_cons_zero, List.set_cons_succ]
        refine go_take 5 46 _ (.pointer (some ⟨Mh, 1, none⟩)) rfl (by kernel_rfl) (by kernel_rfl) (by kernel_rfl) (by kernel_rfl) (fun _ _ _ h => h) (Or.inl ⟨by kernel_rfl, fun u hu => by kernel_rfl⟩) hHeld ?_
        simp only [Act.put, List.setIfInBounds_toArray, List.set_cons_zero, List.set_cons_succ]
        refine go_take 6 47 _ (.int .i64 AN) rfl (by kernel_rfl) (by kernel_rfl) (by kernel_rfl) (by kernel_rfl) (fun _ _ _ h => h) (Or.inl ⟨by kernel_rfl, fun u hu => load_int (hHx.low hu).cells.2.1 (.tmp 46) (by kernel_rfl) (by kernel_rfl)⟩) hHeld ?_
        simp only [Act.put, List.setIfInBounds_toArray, List.set_cons_zero, List.set_cons_succ]
        refine go_take 10 51 _ (.agg #[.int .i64 A, .int .i64 AN, .int .i64 Bn, .int .i64 BN, .slice yo ls.length yc]) rfl (by kernel_rfl) (by kernel_rfl) (by kernel_rfl) (by kernel_rfl) (fun _ _ _ h => h) (Or.inl ⟨by kernel_rfl, fun u hu => cw_hk (hHx.low hu) (.tmp 7) (by kernel_rfl) (by kernel_rfl)⟩) hHeld ?_
        simp only [Act.put, List.setIfInBounds_toArray, List.set_cons_zero, List.set_cons_succ]
        refine go_take 14 55 _ (.pointer (some ⟨Mh, 2, none⟩)) rfl (by kernel_rfl) (by kernel_rfl) (by kernel_rfl) (by kernel_rfl) (fun _ _ _ h => h) (Or.inl ⟨by kernel_rfl, fun u hu => by kernel_rfl⟩) hHeld ?_
        simp only [Act.put, List.setIfInBounds_toArray, List.set_cons_zero, List.set_cons_succ]
        refine go_take 15 56 _ (.int .i64 Bn) rfl (by kernel_rfl) (by kernel_rfl) (by kernel_rfl) (by kernel_rfl) (fun _ _ _ h => h) (Or.inl ⟨by kernel_rfl, fun u hu => load_int (hHx.low hu).cells.2.2.1 (.tmp 55) (by kernel_rfl) (by kernel_rfl)⟩) hHeld ?_
        simp only [Act.put, List.setIfInBounds_toArray, List.set_cons_zero, List.set_cons_succ]
        refine go_take 16 57 _ (.pointer (some ⟨Mh, 3, none⟩)) rfl (by kernel_rfl) (by kernel_rfl) (by kernel_rfl) (by kernel_rfl) (fun _ _ _ h => h) (Or.inl ⟨by kernel_rfl, fun u hu => by kernel_rfl⟩) hHeld ?_
        simp only [Act.put, List.setIfInBounds_toArray, List.set_cons_zero, List.set_cons_succ]
        refine go_take 17 58 _ (.int .i64 BN) rfl (by kernel_rfl) (by kernel_rfl) (by kernel_rfl) (by kernel_rfl) (fun _ _ _ h => h) (Or.inl ⟨by kernel_rfl, fun u hu => load_int (hHx.low hu).cells.2.2.2.1 (.tmp 57) (by kernel_rfl) (by kernel_rfl)⟩) hHeld ?_
        simp only [Act.put, List.setIfInBounds_toArray, List.set_cons_zero, List.set_cons_succ]
        refine go_take 21 62 _ (.agg #[.int .i64 A, .int .i64 AN, .int .i64 Bn, .int .i64 BN, .slice yo ls.length yc]) rfl (by kernel_rfl) (by kernel_rfl) (by kernel_rfl) (by kernel_rfl) (fun _ _ _ h => h) (Or.inl ⟨by kernel_rfl, fun u hu => cw_hk (hHx.low hu) (.tmp 7) (by kernel_rfl) (by kernel_rfl)⟩) hHeld ?_
        simp only [Act.put, List.setIfInBounds_toArray, List.set_cons_zero, List.set_cons_succ]
        refine go_callE 7 48 _ rfl (by kernel_rfl) (by kernel_rfl) (by kernel_rfl) 57 (.func 57) #[.tmp 45, .tmp 47] #[3, 3] (by kernel_rfl) #[] (by kernel_rfl) #[.int .i64 A, .int .i64 AN] (by kernel_rfl) (enters_of Tryd.func57 (by kernel_rfl) rfl) (fun v2 _ => v2 = .string ⟨T1.toArray⟩) ?_ ?_
        · exact HC1.out wd hHeld
        rintro _ w2 hw2 rfl
        simp only [Act.put, List.setIfInBounds_toArray, List.set_cons_zero, List.set_cons_succ]
        refine go_take 8 49 _ (.string ⟨a3.toArray⟩) rfl (by kernel_rfl) (by kernel_rfl) (by kernel_rfl) (by kernel_rfl) (fun _ _ _ h => h) (Or.inl ⟨by kernel_rfl, fun u hu => cw_add q3 (.tmp 43) (.tmp 48) (by kernel_rfl) (by kernel_rfl) (by kernel_rfl)⟩) hw2 ?_
        simp only [Act.put, List.setIfInBounds_toArray, List.set_cons_zero, List.set_cons_succ]
        refine go_take 9 50 _ (.string ⟨a4.toArray⟩) rfl (by kernel_rfl) (by kernel_rfl) (by kernel_rfl) (by kernel_rfl) (fun _ _ _ h => h) (Or.inl ⟨by kernel_rfl, fun u hu => cw_add q4 (.tmp 49) (.const (.string ⟨#[32, 42, 42, 42, 42, 10]⟩)) (by kernel_rfl) (by kernel_rfl) (by kernel_rfl)⟩) hw2 ?_
        simp only [Act.put, List.setIfInBounds_toArray, List.set_cons_zero, List.set_cons_succ]
        refine go_callE 11 52 _ rfl (by kernel_rfl) (by kernel_rfl) (by kernel_rfl) 58 (.func 58) #[.tmp 51, .const (.int .u8 45)] #[43, 5] (by kernel_rfl) #[] (by kernel_rfl) #[.agg #[.int .i64 A, .int .i64 AN, .int .i64 Bn, .int .i64 BN, .slice yo ls.length yc], .int .u8 45] (by kernel_rfl) (enters_of Tryd.func58 (by kernel_rfl) rfl) (fun v2 _ => v2 = .string ⟨X1.toArray⟩) ?_ ?_
        · exact HC2.out w2 hw2
        rintro _ w3 hw3 rfl
        simp only [Act.put, List.setIfInBounds_toArray, List.set_cons_zero, List.set_cons_succ]
        refine go_take 12 53 _ (.string ⟨a5.toArray⟩) rfl (by kernel_rfl) (by kernel_rfl) (by kernel_rfl) (by kernel_rfl) (fun _ _ _ h => h) (Or.inl ⟨by kernel_rfl, fun u hu => cw_add q5 (.tmp 50) (.tmp 52) (by kernel_rfl) (by kernel_rfl) (by kernel_rfl)⟩) hw3 ?_
        simp only [Act.put, List.setIfInBounds_toArray, List.set_cons_zero, List.set_cons_succ]
        refine go_take 13 54 _ (.string ⟨a6.toArray⟩) rfl (by kernel_rfl) (by kernel_rfl) (by kernel_rfl) (by kernel_rfl) (fun _ _ _ h => h) (Or.inl ⟨by kernel_rfl, fun u hu => cw_add q6 (.tmp 53) (.const (.string ⟨#[45, 45, 45, 32]⟩)) (by kernel_rfl) (by kernel_rfl) (by kernel_rfl)⟩) hw3 ?_
        simp only [Act.put, List.setIfInBounds_toArray, List.set_cons_zero, List.set_cons_succ]
        refine go_callE 18 59 _ rfl (by kernel_rfl) (by kernel_rfl) (by kernel_rfl) 57 (.func 57) #[.tmp 56, .tmp 58] #[3, 3] (by kernel_rfl) #[] (by kernel_rfl) #[.int .i64 Bn, .int .i64 BN] (by kernel_rfl) (enters_of Tryd.func57 (by kernel_rfl) rfl) (fun v2 _ => v2 = .string ⟨T2.toArray⟩) ?_ ?_
        · exact HC3.out w3 hw3
        rintro _ w4 hw4 rfl
        simp only [Act.put, List.setIfInBounds_toArray, List.set_cons_zero, List.set_cons_succ]
        refine go_take 19 60 _ (.string ⟨a7.toArray⟩) rfl (by kernel_rfl) (by kernel_rfl) (by kernel_rfl) (by kernel_rfl) (fun _ _ _ h => h) (Or.inl ⟨by kernel_rfl, fun u hu => cw_add q7 (.tmp 54) (.tmp 59) (by kernel_rfl) (by kernel_rfl) (by kernel_rfl)⟩) hw4 ?_
        simp only [Act.put, List.setIfInBounds_toArray, List.set_cons_zero, List.set_cons_succ]
        refine go_take 20 61 _ (.string ⟨a8.toArray⟩) rfl (by kernel_rfl) (by kernel_rfl) (by kernel_rfl) (by kernel_rfl) (fun _ _ _ h => h) (Or.inl ⟨by kernel_rfl, fun u hu => cw_add q8 (.tmp 60) (.const (.string ⟨#[32, 45, 45, 45, 45, 10]⟩)) (by kernel_rfl) (by kernel_rfl) (by kernel_rfl)⟩) hw4 ?_
        simp only [Act.put, List.setIfInBounds_toArray, List.set_cons_zero, List.set_cons_succ]
        refine go_callE 22 63 _ rfl (by kernel_rfl) (by kernel_rfl) (by kernel_rfl) 58 (.func 58) #[.tmp 62, .const (.int .u8 43)] #[43, 5] (by kernel_rfl) #[] (by kernel_rfl) #[.agg #[.int .i64 A, .int .i64 AN, .int .i64 Bn, .int .i64 BN, .slice yo ls.length yc], .int .u8 43] (by kernel_rfl) (enters_of Tryd.func58 (by kernel_rfl) rfl) (fun v2 _ => v2 = .string ⟨X2.toArray⟩) ?_ ?_
        · exact HC4.out w4 hw4
        rintro _ w5 hw5 rfl
        simp only [Act.put, List.setIfInBounds_toArray, List.set_cons_zero, List.set_cons_succ]
        refine go_take 23 64 _ (.string ⟨a9.toArray⟩) rfl (by kernel_rfl) (by kernel_rfl) (by kernel_rfl) (by kernel_rfl) (fun _ _ _ h => h) (Or.inl ⟨by kernel_rfl, fun u hu => cw_add q9 (.tmp 61) (.tmp 63) (by kernel_rfl) (by kernel_rfl) (by kernel_rfl)⟩) hw5 ?_
        simp only [Act.put, List.setIfInBounds_toArray, List.set_cons_zero, List.set_cons_succ]
        refine go_take 24 5 _ (.string ⟨a9.toArray⟩) rfl (by kernel_rfl) (by kernel_rfl) (by kernel_rfl) (by kernel_rfl) (fun _ _ _ h => h) (Or.inl ⟨by kernel_rfl, fun u hu => by kernel_rfl⟩) hw5 ?_
        simp only [Act.put, List.setIfInBounds_toArray, List.set_cons_zero, List.set_cons_succ]
        refine wpAnyH_done (by kernel_rfl) ?_ _
        refine NoPanic.normal ?_
        clear q1 q2 q3 q4 q5 q6 q7 q8 q9 HC1 HC2 HC3 HC4 hHeld hw2 hw3 hw4
        go_wp2
        exact ⟨⟨k + 1, a9, by omega, by go_num, rfl, hBm.trans (hw5.mono hBm.size), HI3⟩, by simp [intOf]; omega⟩
      · have hend : ¬ (k : Int) < (q.length : Int) := by omega
        have hE : ac = Z := (by
          have h := HI.out
          rw [List.drop_of_length_le (by rw [List.length_map]; omega)] at h
          simpa using h)
        subst hE
        clear HI
        go_wp2
        go_ret2
        exact ⟨rfl, hBw1.trans (hB.mono hBw1.size)⟩
  · rw [if_neg hr0] at hZZ
    have HE : Hid ([] = Z) := hZZ
    have e1 : (r != 0) = true := bne_iff_ne.2 hr0
    clear hZZ HZ HO hr0
    go_enter Tryd.func18, Tryd.ntmps18
    go_wp2_with fail
    refine hc.mono ?_
    rintro e w1 ⟨rfl, hB1⟩
    go_wp2
    go_ret2
    exact ⟨by rw [← HE.out]; rfl, hBm.trans (hB1.mono hBm.size)⟩
end Go.Proofs.YtgiojkhmkeocfaaDoor

/- The reference's Same of layer 11, walked for any two hunks. -/
namespace Go.Proofs.YtgiojkhmkeocfaaDoor
open Go.RowKit

/-- rows of hunks that are few enough -/
def HOw (p : List (Hk × Value)) : Prop := p.length ≤ 1099511627776 ∧ ∀ x ∈ p, x.1.ls.length ≤ 1099511627776
theorem hk_ext {A1 N1 B1 M1 A2 N2 B2 M2 : Int} {l1 l2 : List Mk} : (⟨A1, N1, B1, M1, l1⟩ : Hk) = ⟨A2, N2, B2, M2, l2⟩ ↔ A1 = A2 ∧ N1 = N2 ∧ B1 = B2 ∧ M1 = M2 ∧ l1 = l2 := by
  constructor
  · rintro h
    cases h
    exact ⟨rfl, rfl, rfl, rfl, rfl⟩
  · rintro ⟨rfl, rfl, rfl, rfl, rfl⟩
    rfl
set_option maxHeartbeats 8000000 in
theorem rSameG_f (h1 h2 : Hk) (v1 v2 : Value) (w : World) (hv1 : HMk w v1 h1.ls) (hv2 : HMk w v2 h2.ls) (hl1 : h1.ls.length ≤ 1099511627776) (r : Bool) (HR : Hid (r = true ↔ h1 = h2)) : Calls Tryd.prog 44 #[hkV h1 v1, hkV h2 v2] w fun e w' => e = .returned (.bool r) ∧ Below w.heap.size w w' := by
  obtain ⟨A1, N1, B1, M1, l1⟩ := h1
  obtain ⟨A2, N2, B2, M2, l2⟩ := h2
  dsimp only at hv1 hv2 hl1
  obtain ⟨o1, c1, rfl⟩ := HMk.form hv1
  obtain ⟨o2, c2, rfl⟩ := HMk.form hv2
  have hx1 := Hx.new w ⟨A1, N1, B1, M1, l1⟩ (.slice o1 l1.length c1)
  have hB1 : Below w.heap.size w (w.alloc (hkO ⟨A1, N1, B1, M1, l1⟩ (.slice o1 l1.length c1))) := (Below.refl _ w).alloc (Nat.le_refl _) _
  have hx2 : Hx ((w.alloc (hkO ⟨A1, N1, B1, M1, l1⟩ (.slice o1 l1.length c1))).alloc (hkO ⟨A2, N2, B2, M2, l2⟩ (.slice o2 l2.length c2))) (w.heap.size + 1) ⟨A2, N2, B2, M2, l2⟩ (.slice o2 l2.length c2) := alloc_second w _ _
  have hB2 : Below w.heap.size w ((w.alloc (hkO ⟨A1, N1, B1, M1, l1⟩ (.slice o1 l1.length c1))).alloc (hkO ⟨A2, N2, B2, M2, l2⟩ (.slice o2 l2.length c2))) := hB1.alloc (by simp) _
  have hx1' := hx1.low ((Below.refl _ (w.alloc (hkO ⟨A1, N1, B1, M1, l1⟩ (.slice o1 l1.length c1)))).alloc (Nat.le_refl _) (hkO ⟨A2, N2, B2, M2, l2⟩ (.slice o2 l2.length c2)))
  have hm1 := HMk.keep hv1 hB2 (Nat.le_refl _)
  have hm2 := HMk.keep hv2 hB2 (Nat.le_refl _)
  obtain ⟨x0, x1, x2, x3, x4⟩ := hx1'.cells
  obtain ⟨y0, y1, y2, y3, y4⟩ := hx2.cells
  unfold hkV
  dsimp only at x0 x1 x2 x3 x4 y0 y1 y2 y3 y4 ⊢
  have hW0 : (w.alloc (hkO ⟨A1, N1, B1, M1, l1⟩ (.slice o1 l1.length c1))).alloc (hkO ⟨A2, N2, B2, M2, l2⟩ (.slice o2 l2.length c2)) = (w.alloc (Obj.cells #[Value.int IntKind.i64 A1, Value.int IntKind.i64 N1, Value.int IntKind.i64 B1, Value.int IntKind.i64 M1, .slice o1 l1.length c1] 43)).alloc (Obj.cells #[Value.int IntKind.i64 A2, Value.int IntKind.i64 N2, Value.int IntKind.i64 B2, Value.int IntKind.i64 M2, .slice o2 l2.length c2] 43) := rfl
  clear hx1 hx2 hx1' hB1 hv1 hv2
  generalize (w.alloc (hkO ⟨A1, N1, B1, M1, l1⟩ (.slice o1 l1.length c1))).alloc (hkO ⟨A2, N2, B2, M2, l2⟩ (.slice o2 l2.length c2)) = W at *
  have hW := hW0.symm
  clear hW0
  have HN : Hid (¬ (A1 = A2 ∧ N1 = N2 ∧ B1 = B2 ∧ M1 = M2 ∧ l1.length = l2.length) → r = false) := (by
    intro h
    cases hr : r with
    | false => rfl
    | true => exact absurd (hk_ext.1 (HR.out.1 hr)) (fun e => h ⟨e.1, e.2.1, e.2.2.1, e.2.2.2.1, congrArg List.length e.2.2.2.2⟩))
  have HR2 : Hid (A1 = A2 ∧ N1 = N2 ∧ B1 = B2 ∧ M1 = M2 → (r = true ↔ l1 = l2)) := (by
    rintro ⟨rfl, rfl, rfl, rfl⟩
    rw [HR.out, hk_ext]
    simp)
  clear HR
  go_enter Tryd.func44, Tryd.ntmps44
  by_cases hA : A1 = A2
  · by_cases hN : N1 = N2
    · by_cases hB : B1 = B2
      · by_cases hM : M1 = M2
        · have HR3 : Hid (r = true ↔ l1 = l2) := HR2.out ⟨hA, hN, hB, hM⟩
          clear HR2
          subst hA hN hB hM
          by_cases hL : l1.length = l2.length
          · rw [← hL] at y4 hm2 hW ⊢
            have HL : Hid (l1.length = l2.length) := hL
            clear hL HN
            go_wp2
            clear hW
            go_loopw [5] (fun iv wr => ∃ k m : Nat, k ≤ l1.length ∧ iv = .int .i64 (k : Int) ∧ wr = W.drewN m ∧ Hid (r = true ↔ l1.drop k = l2.drop k)) (fun iv _ => l1.length - (intOf iv).toNat)
            case atStart => exact ⟨0, 0, Nat.zero_le _, by go_num, rfl, HR3⟩
            case round =>
              clear HR3
              obtain ⟨k, m, hk, rfl, rfl, HD⟩ := hrel
              have x4' : (W.drewN m).cell? ⟨w.heap.size, 4, none⟩ = some (.slice o1 l1.length c1) := x4
              have y4' : (W.drewN m).cell? ⟨w.heap.size + 1, 4, none⟩ = some (.slice o2 l1.length c2) := y4
              by_cases hlt : k < l1.length
              · have hlt2 : k < l2.length := by have := HL.out; omega
                obtain ⟨b1, f1, rfl, _, hc1⟩ := HMk.at hm1 (by omega)
                obtain ⟨b2, f2, rfl, _, hc2⟩ := HMk.at hm2 (by omega)
                obtain ⟨s0, s1⟩ := hc1 k hlt
                obtain ⟨t0, t1⟩ := hc2 k hlt2
                have hD := HD.out
                rw [List.drop_eq_getElem_cons hlt, List.drop_eq_getElem_cons hlt2, List.cons.injEq] at hD
                obtain ⟨q, hq⟩ : ∃ q, l1[k] = q := ⟨_, rfl⟩
                obtain ⟨p, hp⟩ : ∃ p, l2[k] = p := ⟨_, rfl⟩
                rw [hq] at s0 s1 hD
                rw [hp] at t0 t1 hD
                obtain ⟨sg, tx⟩ := q
                obtain ⟨sg2, tx2⟩ := p
                dsimp only at s0 s1 t0 t1
                have HD2 : Hid (r = true ↔ (⟨sg, tx⟩ : Mk) = ⟨sg2, tx2⟩ ∧ l1.drop (k + 1) = l2.drop (k + 1)) := hD
                clear hc1 hc2 hq hp hD HD
                have i1 : 0 ≤ (k : Int) := by omega
                have i2 : (k : Int) < (l1.length : Int) := by omega
                by_cases hs : sg = sg2
                · subst hs
                  by_cases ht : tx = tx2
                  · subst ht
                    have HD3 : Hid (r = true ↔ l1.drop (k + 1) = l2.drop (k + 1)) := (by show _ ↔ _; rw [HD2.out]; simp)
                    clear HD2
                    go_wp2_with fail
                    go_quiet (fail)
                    go_wp2
                    go_roundw
                    case rel => exact ⟨k + 1, _, by omega, by go_num, rfl, HD3⟩
                    case measure => simp [intOf]; omega
                  · have r0 : r = false := (by
                      cases hr : r with
                      | false => rfl
                      | true => exact absurd (HD2.out.1 hr).1 (fun e => ht (by cases e; rfl)))
                    subst r0
                    have e2 : (tx == tx2) = false := beq_eq_false_iff_ne.2 ht
                    clear HD2
                    go_wp2_with fail
                    go_quiet (fail)
                    go_wp2
                    go_ret
                    exact ⟨rfl, Below.dN (Below.dN hB2 _) _⟩
                · have r0 : r = false := (by
                    cases hr : r with
                    | false => rfl
                    | true => exact absurd (HD2.out.1 hr).1 (fun e => hs (by cases e; rfl)))
                  subst r0
                  have e1 : (sg == sg2) = false := beq_eq_false_iff_ne.2 hs
                  clear HD2
                  go_wp2_with fail
                  go_quiet (fail)
                  go_wp2
                  go_ret
                  exact ⟨rfl, Below.dN (Below.dN hB2 _) _⟩
              · have hend : decide ((k : Int) < (l1.length : Int)) = false := decide_eq_false (by omega)
                have r1 : r = true := HD.out.2 (by rw [List.drop_eq_nil_of_le (by omega), List.drop_eq_nil_of_le (by have := HL.out; omega)])
                subst r1
                go_wp2
                go_ret
                exact ⟨rfl, Below.dN hB2 _⟩
          · have r0 := HN.out (fun e => hL e.2.2.2.2)
            subst r0
            have e5 : ((l1.length : Int) == (l2.length : Int)) = false := beq_eq_false_iff_ne.2 (by omega)
            go_wp2
            go_ret
            exact ⟨rfl, hB2⟩
        · have r0 := HN.out (fun e => hM e.2.2.2.1)
          subst hA hN hB r0
          have e4 : (M1 == M2) = false := beq_eq_false_iff_ne.2 hM
          go_wp2
          go_ret
          exact ⟨rfl, hB2⟩
      · have r0 := HN.out (fun e => hB e.2.2.1)
        subst hA hN r0
        have e3 : (B1 == B2) = false := beq_eq_false_iff_ne.2 hB
        go_wp2
        go_ret
        exact ⟨rfl, hB2⟩
    · have r0 := HN.out (fun e => hN e.2.1)
      subst hA r0
      have e2 : (N1 == N2) = false := beq_eq_false_iff_ne.2 hN
      go_wp2
      go_ret
      exact ⟨rfl, hB2⟩
  · have r0 := HN.out (fun e => hA e.1)
    subst r0
    have e1 : (A1 == A2) = false := beq_eq_false_iff_ne.2 hA
    go_wp2
    go_ret
    exact ⟨rfl, hB2⟩
theorem hsameG_held {h1 h2 : Hk} {v1 v2 : Value} {W u : World} {r : Bool} (hv1 : HMk W v1 h1.ls) (hv2 : HMk W v2 h2.ls) (hl : h1.ls.length ≤ 1099511627776) (HR : Hid (r = true ↔ h1 = h2)) (hL : Low W u) : Calls Tryd.prog 44 (#[hkV h1 v1, hkV h2 v2] ++ #[]) u fun e w' => ∃ x, e = .returned x ∧ Low W w' ∧ x = .bool r := by
  refine (rSameG_f h1 h2 v1 v2 u (HMk.keep hv1 hL (Nat.le_refl _)) (HMk.keep hv2 hL (Nat.le_refl _)) hl r HR).mono ?_
  rintro e w' ⟨rfl, hB⟩
  exact ⟨_, rfl, hL.trans (hB.mono hL.size), rfl⟩
set_option maxRecDepth 10000 in
set_option maxHeartbeats 4000000 in
theorem rSameHunksG_f (p1 p2 : List (Hk × Value)) (v1 v2 : Value) (w : World) (hv1 : HHp w v1 p1) (hv2 : HHp w v2 p2) (hok : HOw p1) (r : Bool) (HR : Hid (r = true ↔ p1.map (·.1) = p2.map (·.1))) : Calls Tryd.prog 14 #[v1, v2] w fun e w' => e = .returned (.bool r) ∧ Below w.heap.size w w' := by
  obtain ⟨o1, c1, rfl⟩ := Holds.form hv1.row
  obtain ⟨o2, c2, rfl⟩ := Holds.form hv2.row
  have hpl : p1.length ≤ 1099511627776 := hok.1
  have HOK : Hid (HOw p1) := hok
  clear hok
  by_cases hl12 : p2.length = p1.length
  · have HL : Hid (p2.length = p1.length) := hl12
    rw [hl12] at hv2 ⊢
    clear hl12
    go_enter Tryd.func14, Tryd.ntmps14
    go_wp2
    go_loopw [5] (fun iv wr => ∃ k : Nat, k ≤ p1.length ∧ iv = .int .i64 (k : Int) ∧ Below w.heap.size w wr ∧ Hid (r = true ↔ (p1.map (·.1)).drop k = (p2.map (·.1)).drop k)) (fun iv _ => p1.length - (intOf iv).toNat)
    case atStart => exact ⟨0, Nat.zero_le _, by go_num, Below.refl _ _, HR⟩
    case round =>
      clear HR
      obtain ⟨k, hk, rfl, hB, HD⟩ := hrel
      by_cases hlt : k < p1.length
      · obtain ⟨b1, f1, rfl, _, _⟩ := hv1.at (by omega)
        obtain ⟨b2, f2, rfl, _, _⟩ := hv2.at (by have := HL.out; omega)
        obtain ⟨x, y, hxy⟩ : ∃ x y, p1[k] = (x, y) := ⟨_, _, rfl⟩
        obtain ⟨x', z, hxz⟩ : ∃ x z, p2[k]'(by have := HL.out; omega) = (x, z) := ⟨_, _, rfl⟩
        have hD := HD.out
        have hlt2 : k < p2.length := (by have := HL.out; omega)
        rw [List.drop_eq_getElem_cons (show k < (p1.map (·.1)).length by simpa using hlt), List.drop_eq_getElem_cons (show k < (p2.map (·.1)).length by simpa using hlt2), List.cons.injEq, List.getElem_map, List.getElem_map, hxy, hxz] at hD
        dsimp only at hD
        obtain ⟨r2, HR2⟩ : ∃ r2 : Bool, Hid (r2 = true ↔ x = x') := (by
          rcases Classical.em (x = x') with h | h
          · exact ⟨true, ⟨fun _ => h, fun _ => rfl⟩⟩
          · exact ⟨false, ⟨fun e => absurd e (by simp), fun e => absurd e h⟩⟩)
        have HD2 : Hid (r = true ↔ x = x' ∧ (p1.map (·.1)).drop (k + 1) = (p2.map (·.1)).drop (k + 1)) := hD
        clear hD HD
        obtain ⟨r1, hm1⟩ := hv1.take hB k hlt hxy
        obtain ⟨r2, hm2⟩ := hv2.take hB k (by have := HL.out; omega) hxz
        have hbd := HOK.out.2 _ (List.getElem_mem hlt)
        rw [hxy] at hbd
        dsimp only at hbd
        obtain ⟨yo, yc, rfl⟩ := hm1.form
        obtain ⟨zo, zc, rfl⟩ := hm2.form
        have hr1 : ∀ u : World, Low wr u → HkAt u b1 (f1 + k * 5) x (.slice yo x.ls.length yc) := fun u hu => HkAt.low r1 hu
        have hr2 : ∀ u : World, Low wr u → HkAt u b2 (f2 + k * 5) x' (.slice zo x'.ls.length zc) := fun u hu => HkAt.low r2 hu
        have i1 : 0 ≤ (k : Int) := by omega
        have i2 : (k : Int) < (p1.length : Int) := by omega
        clear hxy hxz r1 r2
        go_wp2_with fail
        refine wp_region_noPanic ?_
        refine wp_region_held_drew (S := fun u => Low wr u) (by kernel_rfl) (Below.dN (Below.refl _ wr) 1) (fun hHeld => ?_)
        refine go_take 0 17 _ (.slice (some ⟨b1, f1, none⟩) p1.length c1) rfl (by kernel_rfl) (by kernel_rfl) (by kernel_rfl) (by kernel_rfl) (fun _ _ _ h => h) (Or.inl ⟨by kernel_rfl, fun u hu => by kernel_rfl⟩) hHeld ?_
        simp only [Act.put, List.setIfInBounds_toArray, List.set_cons_zero, List.set_cons_succ]
        refine go_take 1 18 _ (.int .i64 (k : Int)) rfl (by kernel_rfl) (by kernel_rfl) (by kernel_rfl) (by kernel_rfl) (fun _ _ _ h => h) (Or.inl ⟨by kernel_rfl, fun u hu => by kernel_rfl⟩) hHeld ?_
        simp only [Act.put, List.setIfInBounds_toArray, List.set_cons_zero, List.set_cons_succ]
        refine go_take 2 19 _ (.pointer (some ⟨b1, f1 + k * 5, none⟩)) rfl (by kernel_rfl) (by kernel_rfl) (by kernel_rfl) (by kernel_rfl) (fun _ _ _ h => h) (Or.inl ⟨by kernel_rfl, fun u hu => exec_ixH (c := c1) hlt (.tmp 17) (.tmp 18) (by kernel_rfl) (by kernel_rfl) (by kernel_rfl)⟩) hHeld ?_
        simp only [Act.put, List.setIfInBounds_toArray, List.set_cons_zero, List.set_cons_succ]
        refine go_take 3 20 _ (hkV x (.slice yo x.ls.length yc)) rfl (by kernel_rfl) (by kernel_rfl) (by kernel_rfl) (by kernel_rfl) (fun _ _ _ h => h) (Or.inl ⟨by kernel_rfl, fun u hu => load_hkR (hr1 u hu) (.tmp 19) (by kernel_rfl) (by kernel_rfl)⟩) hHeld ?_
        simp only [Act.put, List.setIfInBounds_toArray, List.set_cons_zero, List.set_cons_succ]
        refine go_take 4 21 _ (.slice (some ⟨b2, f2, none⟩) p1.length c2) rfl (by kernel_rfl) (by kernel_rfl) (by kernel_rfl) (by kernel_rfl) (fun _ _ _ h => h) (Or.inl ⟨by kernel_rfl, fun u hu => by kernel_rfl⟩) hHeld ?_
        simp only [Act.put, List.setIfInBounds_toArray, List.set_cons_zero, List.set_cons_succ]
        refine go_take 5 22 _ (.int .i64 (k : Int)) rfl (by kernel_rfl) (by kernel_rfl) (by kernel_rfl) (by kernel_rfl) (fun _ _ _ h => h) (Or.inl ⟨by kernel_rfl, fun u hu => by kernel_rfl⟩) hHeld ?_
        simp only [Act.put, List.setIfInBounds_toArray, List.set_cons_zero, List.set_cons_succ]
        refine go_take 6 23 _ (.pointer (some ⟨b2, f2 + k * 5, none⟩)) rfl (by kernel_rfl) (by kernel_rfl) (by kernel_rfl) (by kernel_rfl) (fun _ _ _ h => h) (Or.inl ⟨by kernel_rfl, fun u hu => exec_ixH (c := c2) hlt (.tmp 21) (.tmp 22) (by kernel_rfl) (by kernel_rfl) (by kernel_rfl)⟩) hHeld ?_
        simp only [Act.put, List.setIfInBounds_toArray, List.set_cons_zero, List.set_cons_succ]
        refine go_take 7 24 _ (hkV x' (.slice zo x'.ls.length zc)) rfl (by kernel_rfl) (by kernel_rfl) (by kernel_rfl) (by kernel_rfl) (fun _ _ _ h => h) (Or.inl ⟨by kernel_rfl, fun u hu => load_hkR (hr2 u hu) (.tmp 23) (by kernel_rfl) (by kernel_rfl)⟩) hHeld ?_
        simp only [Act.put, List.setIfInBounds_toArray, List.set_cons_zero, List.set_cons_succ]
        refine go_callE 8 25 _ rfl (by kernel_rfl) (by kernel_rfl) (by kernel_rfl) 44 (.func 44) #[.tmp 20, .tmp 24] #[43, 43] (by kernel_rfl) #[] (by kernel_rfl) #[hkV x (.slice yo x.ls.length yc), hkV x' (.slice zo x'.ls.length zc)] (by kernel_rfl) (enters_of Tryd.func44 (by kernel_rfl) rfl) _ (hsameG_held hm1 hm2 hbd HR2 hHeld) ?_
        rintro _ u8 hHeld rfl
        simp only [Act.put, List.setIfInBounds_toArray, List.set_cons_zero, List.set_cons_succ]
        refine go_take 9 26 _ (.bool (!r2)) rfl (by kernel_rfl) (by kernel_rfl) (by kernel_rfl) (by kernel_rfl) (fun _ _ _ h => h) (Or.inl ⟨by kernel_rfl, fun u hu => by kernel_rfl⟩) hHeld ?_
        simp only [Act.put, List.setIfInBounds_toArray, List.set_cons_zero, List.set_cons_succ]
        refine wpAnyH_done (by kernel_rfl) ?_ _
        refine NoPanic.normal ?_
        have hB2 := hB.trans (Below.mono hHeld hB.size)
        cases hr2 : r2 with
        | true =>
          have HD3 : Hid (r = true ↔ (p1.map (·.1)).drop (k + 1) = (p2.map (·.1)).drop (k + 1)) := (by show _ ↔ _; rw [HD2.out]; simp [HR2.out.1 hr2])
          clear HD2 HR2
          subst hr2
          go_wp2
          exact ⟨⟨k + 1, by omega, by go_num, hB2, HD3⟩, by simp [intOf]; omega⟩
        | false =>
          have r0 : r = false := (by
            cases hr : r with
            | false => rfl
            | true => exact absurd (HR2.out.2 (HD2.out.1 hr).1) (by simp [hr2]))
          clear HD2 HR2
          subst hr2 r0
          go_wp2
          go_ret
          exact ⟨rfl, hB2⟩
      · have hend : decide ((k : Int) < (p1.length : Int)) = false := decide_eq_false (by omega)
        have r1 : r = true := HD.out.2 (by rw [List.drop_eq_nil_of_le (by simp; omega), List.drop_eq_nil_of_le (by have := HL.out; simp; omega)])
        subst r1
        go_wp2
        go_ret
        exact ⟨rfl, hB⟩
  · have r0 : r = false := (by
      cases hr : r with
      | false => rfl
      | true => exact absurd (by have := congrArg List.length (HR.out.1 hr); simpa using this.symm) hl12)
    subst r0
    have e1 : ((p1.length : Int) == (p2.length : Int)) = false := beq_eq_false_iff_ne.2 (by omega)
    go_enter Tryd.func14, Tryd.ntmps14
    go_wp2
    go_ret
    exact ⟨rfl, Below.refl _ _⟩
end Go.Proofs.YtgiojkhmkeocfaaDoor

/- The reference's Same of patches of layer 15, walked. -/
namespace Go.Proofs.YtgiojkhmkeocfaaDoor
open Go.RowKit

theorem pth_ext {a b c d : List UInt8} {x y : List Hk} : (⟨a, b, x⟩ : Pth) = ⟨c, d, y⟩ ↔ a = c ∧ b = d ∧ x = y := by
  constructor
  · intro h
    injection h with h1 h2 h3
    exact ⟨h1, h2, h3⟩
  · rintro ⟨rfl, rfl, rfl⟩
    rfl
set_option maxHeartbeats 4000000 in
set_option maxRecDepth 10000 in
theorem rSamePt_f (p1 p2 : Pth) (q1 q2 : List (Hk × Value)) (H1 : Hid (q1.map (·.1) = p1.hs)) (H2 : Hid (q2.map (·.1) = p2.hs)) (v1 v2 : Value) (w : World) (hv1 : HHp w v1 q1) (hv2 : HHp w v2 q2) (hok : HOw q1) (r : Bool) (HR : Hid (r = true ↔ p1 = p2)) :
    Calls Tryd.prog 19 #[ptV p1 v1, ptV p2 v2] w fun e w' => e = .returned (.bool r) ∧ Below w.heap.size w w' := by
  obtain ⟨o1, n1, s1⟩ := p1
  obtain ⟨o2, n2, s2⟩ := p2
  dsimp only at H1 H2
  obtain ⟨lo1, lc1, rfl⟩ := Holds.form hv1.row
  obtain ⟨lo2, lc2, rfl⟩ := Holds.form hv2.row
  rw [pth_ext] at HR
  have hBa : Below w.heap.size w (w.alloc (.cells #[.string ⟨o1.toArray⟩, .string ⟨n1.toArray⟩, .slice lo1 q1.length lc1] 46)) := (Below.refl _ w).alloc (Nat.le_refl _) _
  have hBb := hBa.alloc hBa.size (.cells #[.string ⟨o2.toArray⟩, .string ⟨n2.toArray⟩, .slice lo2 q2.length lc2] 46)
  have e1 : ptV ⟨o1, n1, s1⟩ (.slice lo1 q1.length lc1) = .agg #[.string ⟨o1.toArray⟩, .string ⟨n1.toArray⟩, .slice lo1 q1.length lc1] := rfl
  have e2 : ptV ⟨o2, n2, s2⟩ (.slice lo2 q2.length lc2) = .agg #[.string ⟨o2.toArray⟩, .string ⟨n2.toArray⟩, .slice lo2 q2.length lc2] := rfl
  rw [e1, e2]
  clear e1 e2
  by_cases h1 : o1 = o2
  · subst h1
    by_cases h2 : n1 = n2
    · subst h2
      have HRR : Hid (r = true ↔ q1.map (·.1) = q2.map (·.1)) := (by
        show (_ ↔ _)
        rw [H1.out, H2.out]
        have h := HR.out
        simpa using h)
      have hc := rSameHunksG_f q1 q2 _ _ _ (hv1.keep hBb (Nat.le_refl _)) (hv2.keep hBb (Nat.le_refl _)) hok r HRR
      clear HR HRR
      go_enter Tryd.func19, Tryd.ntmps19
      go_wp2_with fail
      refine hc.mono ?_
      rintro e w1 ⟨rfl, hB1⟩
      go_wp2
      go_ret
      exact ⟨rfl, hBb.trans (hB1.mono hBb.size)⟩
    · have HE : Hid (false = r) := (by
        cases r with
        | false => rfl
        | true => exact absurd (HR.out.1 rfl).2.1 h2)
      have j1 : (n1 == n2) = false := beq_eq_false_iff_ne.2 h2
      clear HR h2
      go_enter Tryd.func19, Tryd.ntmps19
      go_wp2
      go_ret
      exact ⟨by rw [← HE.out]; rfl, hBb⟩
  · have HE : Hid (false = r) := (by
      cases r with
      | false => rfl
      | true => exact absurd (HR.out.1 rfl).1 h1)
    have j1 : (o1 == o2) = false := beq_eq_false_iff_ne.2 h1
    clear HR h1
    go_enter Tryd.func19, Tryd.ntmps19
    go_wp2
    go_ret
    exact ⟨by rw [← HE.out]; rfl, hBb⟩
end Go.Proofs.YtgiojkhmkeocfaaDoor

/- The reference's Copy of patches of layer 15, walked. -/
namespace Go.Proofs.YtgiojkhmkeocfaaDoor
open Go.RowKit

theorem own_fr {w u : World} {B R : Nat} {e : TypeId} {s : Nat} {v : Value} {n : Nat} {xs : List Value} (h : w.ownsRow B e s v n xs) (hg : w.grownBy u (some R)) (hR : R < B) : u.ownsRow B e s v n xs := by
  refine ⟨h.1, ?_⟩
  rcases h.2 with q | ⟨g, cap, cur, rfl, q2, q3, q4⟩
  · exact .inl q
  · refine .inr ⟨g, cap, cur, rfl, q2, ?_, q4⟩
    rw [hg.block g (Array.getElem?_eq_some_iff.1 q3).1 (fun e => by cases e; omega)]
    exact q3
theorem low_none {w u : World} (hg : w.grownBy u none) : Below w.heap.size w u := ⟨hg.os, hg.tape, hg.output, hg.size, fun k hk => hg.block k hk (by simp)⟩
theorem infoPt : (Tryd.prog.info? 46).map (fun i => (i.zero, i.size, i.bytes)) = some (some (.agg #[.string ⟨#[]⟩, .string ⟨#[]⟩, .slice none 0 0]), 3, 56) := by kernel_rfl
def ptC (p : Pth) (v : Value) : List Value := [.string ⟨p.old.toArray⟩, .string ⟨p.new.toArray⟩, v]
theorem ptC_one (p : Pth) {o : Option Addr} {n c : Nat} : ∀ u ∈ ptC p (.slice o n c), u.oneCell' = true := by
  intro u hu
  simp only [ptC, List.mem_cons, List.not_mem_nil, or_false] at hu
  rcases hu with rfl | rfl | rfl <;> rfl
theorem pt_row (w : World) (p : Pth) (v : Value) : Holds (w.alloc (ptO p v)) (.slice (some ⟨w.heap.size, 0, none⟩) 1 1) 1 (ptC p v) := new_holds w #[.string ⟨p.old.toArray⟩, .string ⟨p.new.toArray⟩, v] 46 1 1 (by decide)
set_option maxHeartbeats 4000000 in
set_option maxRecDepth 10000 in
theorem rCopyPt_f (p : Pth) (q : List (Hk × Value)) (v : Value) (b : Nat) (w : World) (hx : Px w b p v) (hv : HHp w v q) (hok : HOk q) :
    Calls Tryd.prog 16 #[.slice (some ⟨b, 0, none⟩) 1 1] w fun e w' => ∃ g c v' P, e = .returned (.slice (some ⟨g, 0, none⟩) 1 c) ∧ w'.cell? ⟨g, 0, none⟩ = some (.string ⟨p.old.toArray⟩) ∧ w'.cell? ⟨g, 1, none⟩ = some (.string ⟨p.new.toArray⟩) ∧ w'.cell? ⟨g, 2, none⟩ = some v' ∧ HHp w' v' P ∧ P.map (·.1) = q.map (·.1) ∧ Below w.heap.size w w' := by
  obtain ⟨lo, lc, rfl⟩ := Holds.form hv.row
  obtain ⟨old, new, hs⟩ := p
  obtain ⟨d0, d1, d2⟩ := hx.cells
  dsimp only at d0 d1 d2 ⊢
  have hBa : Below w.heap.size w (w.alloc (.cells #[.string ⟨old.toArray⟩, .string ⟨new.toArray⟩, .slice lo q.length lc] 46)) := (Below.refl _ w).alloc (Nat.le_refl _) _
  have hPa : Px (w.alloc (.cells #[.string ⟨old.toArray⟩, .string ⟨new.toArray⟩, .slice lo q.length lc] 46)) w.heap.size ⟨old, new, hs⟩ (.slice lo q.length lc) := heap_alloc_new w _
  have hc := rCopy_f q (.slice lo q.length lc) _ (hv.keep hBa (Nat.le_refl _)) hok
  clear hx
  go_enter Tryd.func16, Tryd.ntmps16
  go_wp2
  refine wp_loop_rounds 2 ?_
  rw [rounds_succ]
  go_wp2_with fail
  refine hc.mono ?_
  generalize w.alloc (.cells #[.string ⟨old.toArray⟩, .string ⟨new.toArray⟩, .slice lo q.length lc] 46) = Wa at hBa hPa ⊢
  rintro e w1 ⟨v', P, rfl, hs1, hPm⟩
  have hP1 := hPa.low hs1.low
  obtain ⟨o', c', rfl⟩ := Holds.form (holds_of hs1.own)
  have hMl : w.heap.size < Wa.heap.size := hPa.lt
  have hz1 := hs1.low.size
  have hg2 := grown_set w1 w.heap.size 2 (.slice o' P.length c')
  have hH2 : HHp (w1.setCell ⟨w.heap.size, 2, none⟩ (.slice o' P.length c')) (.slice o' P.length c') P := ⟨holds_of (own_fr hs1.own hg2 hMl), fun x hx => holds_of (own_fr (hs1.ins x hx) hg2 hMl)⟩
  have hP2 : Px (w1.setCell ⟨w.heap.size, 2, none⟩ (.slice o' P.length c')) w.heap.size ⟨old, new, hs⟩ (.slice o' P.length c') := heap_setCell_same w1 w.heap.size 2 _ _ (.slice o' P.length c') hP1
  have hB2 : Below w.heap.size w (w1.setCell ⟨w.heap.size, 2, none⟩ (.slice o' P.length c')) := (hBa.trans (hs1.low.mono hBa.size)).setCell (Nat.le_refl _) _
  have f2 : w1.frozen? ⟨w.heap.size, 2, none⟩ = false := Lib.frozen_of_heap hP1 2
  obtain ⟨c0, c1, c2⟩ := hP1.cells
  obtain ⟨g0, g1, g2⟩ := hP2.cells
  have hz2 := hB2.size
  clear d0 d1 d2 hP1 hPa hs1 hg2 hBa hc
  have hrow := pt_row (w1.setCell ⟨w.heap.size, 2, none⟩ (.slice o' P.length c')) ⟨old, new, hs⟩ (.slice o' P.length c')
  rw [show (w1.setCell ⟨w.heap.size, 2, none⟩ (.slice o' P.length c')).heap.size = w1.heap.size by simp] at hrow
  have hW : (w1.setCell ⟨w.heap.size, 2, none⟩ (.slice o' P.length c')).alloc (.cells #[.string ⟨old.toArray⟩, .string ⟨new.toArray⟩, .slice o' P.length c'] 46) = (w1.setCell ⟨w.heap.size, 2, none⟩ (.slice o' P.length c')).alloc (ptO ⟨old, new, hs⟩ (.slice o' P.length c')) := rfl
  have hBA := hB2.alloc hB2.size (ptO ⟨old, new, hs⟩ (.slice o' P.length c'))
  have hHA := hH2.keep ((Below.refl _ _).alloc (Nat.le_refl _) (ptO ⟨old, new, hs⟩ (.slice o' P.length c'))) (Nat.le_refl _)
  have hownA : ((w1.setCell ⟨w.heap.size, 2, none⟩ (.slice o' P.length c')).alloc (ptO ⟨old, new, hs⟩ (.slice o' P.length c'))).ownsRow w.heap.size 46 3 (.slice none 0 0) 0 [] := hnil_row _ _ _ _
  have hzA := hBA.size
  go_wp2_with (at_builtin; refine wpList_append_w _ (by kernel_rfl) (.tmp 20) (.tmp 22) 47 46 (.agg #[.string ⟨#[]⟩, .string ⟨#[]⟩, .slice none 0 0]) 3 56 rfl Tryd.underlying47 infoPt rfl (by decide) (by decide) w.heap.size _ _ _ rfl hownA _ 1 (ptC ⟨old, new, hs⟩ (.slice o' P.length c')) rfl hrow rfl (ptC_one _) (by decide) (by omega) ?_)
  intro v3 u3 hown3 hg3 _
  have hB3 := low_none hg3
  have hH3 := hHA.keep hB3 (Nat.le_refl _)
  have hBw := hBA.trans (hB3.mono hBA.size)
  obtain ⟨g, cap, rfl⟩ : ∃ g cap, v3 = .slice (some ⟨g, 0, none⟩) 1 cap := (by
    rcases hown3.2 with ⟨_, h0⟩ | ⟨g, cap, cur, hv, _⟩
    · omega
    · exact ⟨g, cap, hv⟩)
  have k0 := hown3.cells (g := g) rfl 0 (.string ⟨old.toArray⟩) rfl
  have k1 := hown3.cells (g := g) rfl 1 (.string ⟨new.toArray⟩) rfl
  have k2 := hown3.cells (g := g) rfl 2 (.slice o' P.length c') rfl
  rw [add_none] at k0 k1 k2
  clear hrow hW hownA hg3 hown3 hBA hHA hH2 hP2 hB2 hB3 c0 c1 c2 g0 g1 g2
  go_wp2
  rw [rounds_succ]
  go_wp2
  go_ret
  exact ⟨g, cap, _, P, rfl, k0, k1, k2, hH3, hPm, hBw⟩
end Go.Proofs.YtgiojkhmkeocfaaDoor

/- A patch as an argument, opened; how long its text is, by what came in. -/
namespace Go.Proofs.YtgiojkhmkeocfaaDoor
open Go.RowKit

theorem cellsHks : Tryd.prog.cellsOf 29 = 1 := by kernel_rfl
theorem cellsPt : Tryd.prog.cellsOf 46 = 3 := by kernel_rfl
set_option maxRecDepth 10000 in
theorem open_ptc {H : Type} {enc : TypeId × Value → H} {W : World} {fuel : Nat} {cs : List Value} {d : DataW H} {p : List MemPlace}
    (h : DataW.trod enc Tryd.prog W 0 (fun _ => true) true fuel 46 cs = some (d, p)) :
    ∃ (old new : List UInt8) (q : List (Hk × Value)) (y : Value), cs = [.string ⟨old.toArray⟩, .string ⟨new.toArray⟩, y] ∧ HHp W y q ∧ old.length + new.length + hbk (q.map (·.1)) ≤ Rows.uptoBulk d := by
  obtain ⟨xs, k, hk, hxy, hlen, hxl, hf⟩ := DataW.trod_struct Tryd.underlying46 h
  rw [cellsPt] at hlen
  match xs, hxl, cs, hlen with
  | [y0, y1, y2], _, [v0, v1, v2], _ =>
    have g0 := hf 0 _ rfl
    have g1 := hf 1 _ rfl
    have g2 := hf 2 _ rfl
    simp [cellsStr, cellsHks] at g0 g1 g2
    obtain ⟨z0, e0, q0, _⟩ := DataW.trod_string Tryd.underlying9 g0
    obtain ⟨z1, e1, q1, _⟩ := DataW.trod_string Tryd.underlying9 g1
    obtain ⟨y2d, y2p⟩ := y2
    obtain ⟨ao, n, c, rfl⟩ : ∃ ao n c, v2 = .slice ao n c := by
      rcases Go.Deep.open_slice Tryd.underlying29 g2 with ⟨hcs, _⟩ | ⟨a, l, c, m, n, D, Pl, hcs, _⟩
      · simp at hcs
        exact ⟨_, _, _, hcs⟩
      · simp at hcs
        exact ⟨_, _, _, hcs⟩
    obtain ⟨l, hl, hb, _⟩ := open_hks g2
    cases e0
    cases e1
    simp only [Prod.mk.injEq] at hxy
    refine ⟨z0.data.toList, z1.data.toList, l, .slice ao n c, by simp, hl, ?_⟩
    rw [hxy.1, q0, q1]
    simp [Rows.uptoBulk, Rows.uptoBulkAll]
    omega
theorem txS_mb (l : List Mk) : txS l + l.length ≤ mb l := by
  induction l with
  | nil => simp [txS, mb]
  | cons m l ih => simp only [txS, mb, List.length_cons]; omega
theorem hsS_hbk (l : List Hk) : hsS l ≤ 264 * hbk l := by
  induction l with
  | nil => simp [hsS, hbk]
  | cons h l ih =>
    have := txS_mb h.ls
    simp only [hsS, hbk]
    omega
theorem hok_bulk {q : List (Hk × Value)} {n : Nat} (h : hbk (q.map (·.1)) ≤ n) (hn : n ≤ 1099511627776) : HOk q := by
  refine ⟨?_, fun x hx => ⟨?_, fun m hm => ?_⟩⟩
  · have := hb_len (q.map (·.1))
    rw [List.length_map] at this
    omega
  · have h1 := hb_mem (q.map (·.1)) x.1 (List.mem_map_of_mem hx)
    have h2 := mb_len x.1.ls
    omega
  · have h1 := hb_mem (q.map (·.1)) x.1 (List.mem_map_of_mem hx)
    have h2 := mb_mem x.1.ls m hm
    omega
theorem how_ok {q : List (Hk × Value)} (h : HOk q) : HOw q := ⟨h.1, fun x hx => (h.2 x hx).1⟩
theorem sid_bulk {l : List Hk} {n : Nat} (h : hbk l ≤ n) : ∀ x ∈ l, ∀ sg, (sidL sg false false x.ls).flatten.length ≤ 32 * n := by
  intro x hx sg
  have h1 := hb_mem l x hx
  have h2 := sid_len sg x.ls false false
  have h3 := txS_mb x.ls
  omega
end Go.Proofs.YtgiojkhmkeocfaaDoor
