/-
  Texts that belong together, joined: CwI, CrA, CxR2, CrB, CrC, CrD.
-/
import Derived.Test.YtgckmdncpkhiiaaDoorPartA9
import Derived.Test.YtgckmdncpkhiiaaDoorPartA6
import Derived.Test.YtgckmdncpkhiiaaDoorPartA8
import Derived.Test.YtgckmdncpkhiiaaDoorPartA4

/- The code's check and Print of layer 15, walked. -/
namespace Go.Proofs.YtgckmdncpkhiiaaDoor
open Go.RowKit Go.Proofs.YtgckmdncpkhiiaaDoor

/-- a patch as a value, as a variable -/
def ptV (p : Pth) (v : Value) : Value := .agg #[.string ⟨p.old.toArray⟩, .string ⟨p.new.toArray⟩, v]
def ptO (p : Pth) (v : Value) : Obj := .cells #[.string ⟨p.old.toArray⟩, .string ⟨p.new.toArray⟩, v] 24
def Px (u : World) (b : Nat) (p : Pth) (v : Value) : Prop := u.heap[b]? = some (ptO p v)
theorem Px.cells {u : World} {b : Nat} {p : Pth} {v : Value} (q : Px u b p v) : u.cell? ⟨b, 0, none⟩ = some (.string ⟨p.old.toArray⟩) ∧ u.cell? ⟨b, 1, none⟩ = some (.string ⟨p.new.toArray⟩) ∧ u.cell? ⟨b, 2, none⟩ = some v := by
  unfold Px ptO at q
  refine ⟨?_, ?_, ?_⟩ <;> rw [Lib.cell_of_heap q] <;> rfl
theorem Px.lt {u : World} {b : Nat} {p : Pth} {v : Value} (q : Px u b p v) : b < u.heap.size := (Array.getElem?_eq_some_iff.1 q).1
theorem Px.low {u u' : World} {b : Nat} {p : Pth} {v : Value} (q : Px u b p v) (hg : Below u.heap.size u u') : Px u' b p v := (hg.block b q.lt).trans q
theorem Px.wr {B b : Nat} {v v' : Value} {w w' : World} {M : Nat} {p : Pth} {y : Value} (q : Px w M p y) (hw : Wr B b v v' w w') (ho : Off M b v) : Px w' M p y ∧ Off M b v' := hw.block q ho
set_option maxHeartbeats 8000000 in
set_option maxRecDepth 10000 in
theorem ccheckP_f (p : Pth) (q : List (Hk × Value)) (HQ : Hid (q.map (·.1) = p.hs)) (v : Value) (w : World) (hv : HHp w v q) (hok : HOk q) (ho : p.old.length ≤ 1099511627776) (hn : p.new.length ≤ 1099511627776) (r : Int) (HR : Hid (wrgP p = r)) :
    Calls Tryd.prog 9 #[ptV p v] w fun e w' => e = .returned (.int .i64 r) ∧ Below w.heap.size w w' := by
  obtain ⟨lo, lc, rfl⟩ := Holds.form hv.row
  obtain ⟨old, new, hs⟩ := p
  dsimp only at HQ ho hn
  have hql : hs.length = q.length := (by rw [← HQ.out, List.length_map])
  have HRR := HR.out
  unfold wrgP at HRR
  dsimp only at HRR
  have hBm : Below w.heap.size w (w.alloc (.cells #[.string ⟨old.toArray⟩, .string ⟨new.toArray⟩, .slice lo q.length lc] 24)) := (Below.refl _ w).alloc (Nat.le_refl _) _
  have e : ptV ⟨old, new, hs⟩ (.slice lo q.length lc) = .agg #[.string ⟨old.toArray⟩, .string ⟨new.toArray⟩, .slice lo q.length lc] := rfl
  rw [e]
  clear e HR
  by_cases h1 : 64 < old.length ∨ 64 < new.length
  · rw [if_pos h1] at HRR
    have HE : Hid (253 = r) := HRR
    clear HRR hql
    by_cases h2 : 64 < old.length
    · have i1 : (64 : Int) < (old.length : Int) := by omega
      go_enter Tryd.func9, Tryd.ntmps9
      go_wp2
      go_ret
      exact ⟨by rw [← HE.out]; rfl, hBm⟩
    · have i1 : ¬ (64 : Int) < (old.length : Int) := by omega
      have i2 : (64 : Int) < (new.length : Int) := by omega
      go_enter Tryd.func9, Tryd.ntmps9
      go_wp2
      go_ret
      exact ⟨by rw [← HE.out]; rfl, hBm⟩
  · rw [if_neg h1] at HRR
    have i1 : ¬ (64 : Int) < (old.length : Int) := by omega
    have i2 : ¬ (64 : Int) < (new.length : Int) := by omega
    by_cases h2 : 4096 < hs.length
    · rw [if_pos h2] at HRR
      have HE : Hid (9 = r) := HRR
      have i3 : (4096 : Int) < (q.length : Int) := by omega
      clear HRR hql
      go_enter Tryd.func9, Tryd.ntmps9
      go_wp2
      go_ret
      exact ⟨by rw [← HE.out]; rfl, hBm⟩
    · rw [if_neg h2] at HRR
      have HE : Hid (errs ((q.map (·.1)).drop 0) = r) := (by show _ = _; rw [HQ.out, List.drop_zero]; exact HRR)
      have i3 : ¬ (4096 : Int) < (q.length : Int) := by omega
      have hq4 : q.length ≤ 4096 := by omega
      clear HRR hql h1 h2
      go_enter Tryd.func9, Tryd.ntmps9
      go_wp2
      go_loopw [23] (fun i wr => ∃ k : Nat, k ≤ q.length ∧ i = .int .i64 k ∧ Below w.heap.size w wr ∧ Hid (errs ((q.map (·.1)).drop k) = r)) (fun i _ => q.length - (intOf i).toNat)
      case atStart => exact ⟨0, Nat.zero_le _, by go_num, hBm, HE⟩
      case round =>
      clear HE hBm
      obtain ⟨k, hk, rfl, hB, HI⟩ := hrel
      by_cases hlt : k < q.length
      · obtain ⟨bk, off, rfl, hbk, _⟩ := hv.at (by omega)
        obtain ⟨h, y, hx⟩ : ∃ h y, q[k] = (h, y) := ⟨_, _, rfl⟩
        obtain ⟨⟨c0, c1, c2, c3, c4⟩, hm⟩ := HHp.take hv hB k hlt hx
        obtain ⟨o1, o2⟩ := hok.2 q[k] (List.getElem_mem hlt)
        rw [hx] at o1 o2
        dsimp only at o1 o2
        have HI2 := HI.out
        rw [errs_drop (by rw [List.length_map]; exact hlt), List.getElem_map, hx] at HI2
        dsimp only at HI2
        have i4 : (0 : Int) ≤ (k : Int) := by omega
        have i5 : (k : Int) < (q.length : Int) := by omega
        obtain ⟨z, hz⟩ : ∃ z, chkH h = z := ⟨_, rfl⟩
        rw [hz] at HI2
        have hBm := hB.alloc hB.size (.cells #[.int .i64 h.A, .int .i64 h.AN, .int .i64 h.B, .int .i64 h.BN, y] 44)
        have hmm := hm.keep ((Below.refl _ wr).alloc (Nat.le_refl _) (.cells #[.int .i64 h.A, .int .i64 h.AN, .int .i64 h.B, .int .i64 h.BN, y] 44)) (Nat.le_refl _)
        have hc := hCheck_f h y _ hmm o1 o2 z hz
        obtain ⟨yo, yc, rfl⟩ := HMk.form hm
        have e : hkV h (.slice yo h.ls.length yc) = .agg #[.int .i64 h.A, .int .i64 h.AN, .int .i64 h.B, .int .i64 h.BN, .slice yo h.ls.length yc] := rfl
        rw [e] at hc
        clear e hz HI hx hm hmm
        by_cases hz0 : z = 0
        · subst hz0
          rw [if_neg (by decide)] at HI2
          have HI3 : Hid (errs ((q.map (·.1)).drop (k + 1)) = r) := HI2
          clear HI2
          go_wp2_with fail
          refine hc.mono ?_
          rintro e w1 ⟨rfl, hB1⟩
          go_wp2
          exact ⟨⟨k + 1, by omega, by go_num, hBm.trans (hB1.mono hBm.size), HI3⟩, by simp [intOf]; omega⟩
        · rw [if_pos hz0] at HI2
          have HI3 : Hid (z = r) := HI2
          have e1 : (z != 0) = true := bne_iff_ne.2 hz0
          clear HI2 hz0
          go_wp2_with fail
          refine hc.mono ?_
          rintro e w1 ⟨rfl, hB1⟩
          go_wp2
          go_ret
          exact ⟨by rw [← HI3.out]; rfl, hBm.trans (hB1.mono hBm.size)⟩
      · have hend : decide ((k : Int) < (q.length : Int)) = false := decide_eq_false (by omega)
        have HE : Hid (0 = r) := (by
          have h := HI.out
          rw [List.drop_of_length_le (by rw [List.length_map]; omega)] at h
          exact h)
        clear HI
        go_wp2
        go_ret
        exact ⟨by rw [← HE.out]; rfl, hB⟩
set_option maxHeartbeats 8000000 in
set_option maxRecDepth 100000 in
theorem cPrint_f (p : Pth) (q : List (Hk × Value)) (HQ : Hid (q.map (·.1) = p.hs)) (v : Value) (w : World) (hv : HHp w v q) (hok : HOk q) (ho : p.old.length ≤ 1099511627776) (hn : p.new.length ≤ 1099511627776) (HT : Hid (Tab10 w)) (Z : List UInt8) (r : Int) (HR : Hid (wrgP p = r)) (HZ : Hid (ptT p = Z)) (hZ : Z.length ≤ 70368744177664) :
    Calls Tryd.prog 5 #[ptV p v] w fun e w' => e = .returned (.tuple #[.string ⟨Z.toArray⟩, .int .i64 r]) ∧ Below w.heap.size w w' := by
  obtain ⟨lo, lc, rfl⟩ := Holds.form hv.row
  have HO := fun h => (wrg_out (p := p) h)
  obtain ⟨old, new, hs⟩ := p
  dsimp only at HQ ho hn
  have hql : hs.length = q.length := (by rw [← HQ.out, List.length_map])
  have hZZ := HZ.out
  unfold ptT at hZZ
  rw [HR.out] at hZZ
  have hBm : Below w.heap.size w (w.alloc (.cells #[.string ⟨old.toArray⟩, .string ⟨new.toArray⟩, .slice lo q.length lc] 24)) := (Below.refl _ w).alloc (Nat.le_refl _) _
  have hMx : Px (w.alloc (.cells #[.string ⟨old.toArray⟩, .string ⟨new.toArray⟩, .slice lo q.length lc] 24)) w.heap.size ⟨old, new, hs⟩ (.slice lo q.length lc) := heap_alloc_new w _
  have hvm := hv.keep hBm (Nat.le_refl _)
  have hc := ccheckP_f ⟨old, new, hs⟩ q HQ (.slice lo q.length lc) _ hvm hok ho hn r HR
  have e : ptV ⟨old, new, hs⟩ (.slice lo q.length lc) = .agg #[.string ⟨old.toArray⟩, .string ⟨new.toArray⟩, .slice lo q.length lc] := rfl
  rw [e] at hc ⊢
  obtain ⟨d0, d1, d2⟩ := hMx.cells
  clear e hvm
  by_cases hr0 : r = 0
  · subst hr0
    rw [if_pos rfl] at hZZ
    obtain ⟨o1, o2, o3, o4⟩ := HO HR.out
    dsimp only at o1 o2 o3 o4
    have HCh : Hid (∀ x ∈ hs, chkH x = 0) := o4
    clear o4 HO
    by_cases hq0 : q.length = 0
    · have HE : Hid ([] = Z) := (by
        show _ = _
        rw [← hZZ]
        have : hs = [] := List.eq_nil_of_length_eq_zero (by omega)
        rw [this]
        rfl)
      have i1 : ((q.length : Int) == 0) = true := (by rw [hq0]; rfl)
      clear hZZ HZ hq0 hql
      go_enter Tryd.func5, Tryd.ntmps5
      go_wp2_with fail
      refine hc.mono ?_
      rintro e w1 ⟨rfl, hB1⟩
      have hM1 := hMx.low hB1
      clear d0 d1 d2
      obtain ⟨d0, d1, d2⟩ := hM1.cells
      go_wp2
      go_ret2
      exact ⟨by rw [← HE.out]; rfl, hBm.trans (hB1.mono hBm.size)⟩
    · have hne : hs ≠ [] := (by intro e; rw [e] at hql; simp at hql; omega)
      rw [pt_lines (p := ⟨old, new, hs⟩) hne] at hZZ
      dsimp only at hZZ
      obtain ⟨N1, hN1⟩ : ∃ Y, nameT old = Y := ⟨_, rfl⟩
      obtain ⟨N2, hN2⟩ : ∃ Y, nameT new = Y := ⟨_, rfl⟩
      obtain ⟨U1, hU1⟩ : ∃ Y, [42, 42, 42, 32] ++ N1 = Y := ⟨_, rfl⟩
      obtain ⟨U2, hU2⟩ : ∃ Y, [45, 45, 45, 32] ++ N2 = Y := ⟨_, rfl⟩
      obtain ⟨Z1, hZ1⟩ : ∃ Y, [] ++ U1 ++ [10] = Y := ⟨_, rfl⟩
      obtain ⟨Z2, hZ2⟩ : ∃ Y, Z1 ++ U2 ++ [10] = Y := ⟨_, rfl⟩
      have HE : Hid (Z2 ++ (((q.map (·.1)).drop 0).flatMap hkL).flatten = Z) := (by
        show _ = _
        rw [← hZZ, ← hZ2, ← hZ1, ← hU1, ← hU2, hN1, hN2, HQ.out, List.drop_zero]
        simp)
      have hE := congrArg List.length HE.out
      have l2 := congrArg List.length hZ2
      have l1 := congrArg List.length hZ1
      simp only [List.length_append] at hE l2 l1
      have b2 : Z2.length ≤ 70368744177664 := by omega
      have b1 : Z1.length ≤ 70368744177664 := by omega
      have n1 := name_len old
      have n2 := name_len new
      rw [hN1] at n1
      rw [hN2] at n2
      have q1 := add_fits (x := [42, 42, 42, 32]) (y := N1) (by unfold Fits; simp only [List.length_cons, List.length_nil]; omega) Tryd.prog
      have q2 := add_fits (x := [45, 45, 45, 32]) (y := N2) (by unfold Fits; simp only [List.length_cons, List.length_nil]; omega) Tryd.prog
      rw [hU1] at q1
      rw [hU2] at q2
      have HN1 : Hid (nameT old = N1) := hN1
      have HN2 : Hid (nameT new = N2) := hN2
      have HZ1 : Hid ([] ++ U1 ++ [10] = Z1) := hZ1
      have HZ2 : Hid (Z1 ++ U2 ++ [10] = Z2) := hZ2
      have HZne : Hid (Z ≠ []) := (by
        intro e
        have h := congrArg List.length e
        have h2 := congrArg List.length hU1
        simp only [List.length_append, List.length_cons, List.length_nil] at h h2
        omega)
      have i1 : ((q.length : Int) == 0) = false := beq_eq_false_iff_ne.2 (by omega)
      have hq4 : q.length ≤ 4096 := by omega
      clear hZZ HZ hq0 hql hE l1 l2 n1 n2 hN1 hN2 hU1 hU2 hZ1 hZ2 hne o3
      go_enter Tryd.func5, Tryd.ntmps5
      go_wp2_with fail
      refine hc.mono ?_
      rintro e w1 ⟨rfl, hB1⟩
      have hM1 := hMx.low hB1
      have hBw1 := hBm.trans (hB1.mono hBm.size)
      clear d0 d1 d2 hBm hMx hB1 hc
      have hM2 := hM1.low ((Below.refl _ w1).alloc (Nat.le_refl _) (.cells #[.pointer none, .slice none 0 0] 39))
      have hBw2 := hBw1.alloc hBw1.size (.cells #[.pointer none, .slice none 0 0] 39)
      have hP2 : Pg w.heap.size w1.heap.size (.slice none 0 0) [] (w1.alloc (.cells #[.pointer none, .slice none 0 0] 39)) := ⟨hBw1.size, ⟨_, .inl rfl, heap_alloc_new w1 _⟩, World.ownsRowF_nil _ _ _ _, by simp [Value.ownBlock]⟩
      have hO2 : Off w.heap.size w1.heap.size (.slice none 0 0) := ⟨by have := hM1.lt; omega, by simp [Value.ownBlock]⟩
      obtain ⟨f0, f1, f2⟩ := hM1.cells
      obtain ⟨d0, d1, d2⟩ := hM2.cells
      go_wp2_with fail
      refine (cname_f old _ ho N1 HN1).mono ?_
      generalize w1.alloc (.cells #[.pointer none, .slice none 0 0] 39) = W2 at hM2 hBw2 hP2 d0 d1 d2 ⊢
      generalize w1.heap.size = b at hP2 hO2 ⊢
      rintro e w3 ⟨rfl, hB3⟩
      have hM3 := hM2.low hB3
      have hP3 := hP2.low hB3
      have hBw3 := hBw2.trans (hB3.mono hBw2.size)
      clear d0 d1 d2 f0 f1 f2 hM2 hP2 hBw2 hB3 hM1 hBw1
      go_wp2_with fail
      refine (crow_f w.heap.size b (.slice none 0 0) [] U1 Z1 w3 hP3 hBw3.size HZ1 b1).mono ?_
      rintro e w4 ⟨rfl, v4, hP4, hW4⟩
      obtain ⟨hM4, hO4⟩ := hM3.wr hW4 hO2
      have hBw4 := hBw3.trans hW4.below
      obtain ⟨d0, d1, d2⟩ := hM4.cells
      clear hM3 hP3 hBw3 hO2 hW4
      go_wp2_with fail
      refine (cname_f new _ hn N2 HN2).mono ?_
      rintro e w5 ⟨rfl, hB5⟩
      have hM5 := hM4.low hB5
      have hP5 := hP4.low hB5
      have hBw5 := hBw4.trans (hB5.mono hBw4.size)
      clear d0 d1 d2 hM4 hP4 hBw4 hB5
      go_wp2_with fail
      refine (crow_f w.heap.size b v4 Z1 U2 Z2 w5 hP5 hBw5.size HZ2 b2).mono ?_
      rintro e w6 ⟨rfl, v6, hP6, hW6⟩
      obtain ⟨hM6, hO6⟩ := hM5.wr hW6 hO4
      have hBw6 := hBw5.trans hW6.below
      obtain ⟨d0, d1, d2⟩ := hM6.cells
      clear hM5 hP5 hBw5 hO4 hW6 q1 q2 HZ1 HZ2 HN1 HN2
      go_wp2
      go_loopw [30] (fun i wr => ∃ (k : Nat) (v1 : Value) (ac : List UInt8), k ≤ q.length ∧ i = .int .i64 k ∧ Pg w.heap.size b v1 ac wr ∧ Below w.heap.size w wr ∧ Hid (ac ++ (((q.map (·.1)).drop k).flatMap hkL).flatten = Z)) (fun i _ => q.length - (intOf i).toNat)
      case atStart => exact ⟨0, v6, Z2, Nat.zero_le _, by go_num, hP6, hBw6, HE⟩
      case round =>
      clear HE hP6 hBw6 hM6 hO6 d0 d1 d2
      obtain ⟨k, v1, ac, hk, rfl, hP, hB, HI⟩ := hrel
      by_cases hlt : k < q.length
      · obtain ⟨bk, off, rfl, hbk, _⟩ := hv.at (by omega)
        obtain ⟨h, y, hx⟩ : ∃ h y, q[k] = (h, y) := ⟨_, _, rfl⟩
        obtain ⟨⟨c0, c1, c2, c3, c4⟩, hm⟩ := HHp.take hv hB k hlt hx
        obtain ⟨x1, x2⟩ := hok.2 q[k] (List.getElem_mem hlt)
        have hins := hv.ins q[k] (List.getElem_mem hlt)
        have hch := HCh.out q[k].1 (by rw [← HQ.out]; exact List.mem_map_of_mem (List.getElem_mem hlt))
        rw [hx] at x1 x2 hins hch
        dsimp only at x1 x2 hins hch
        have HI2 := HI.out
        rw [List.drop_eq_getElem_cons (show k < (q.map (·.1)).length by rw [List.length_map]; exact hlt), List.getElem_map, hx, List.flatMap_cons, List.flatten_append, ← List.append_assoc] at HI2
        dsimp only at HI2
        obtain ⟨A2, hA2⟩ : ∃ Y, ac ++ (hkL h).flatten = Y := ⟨_, rfl⟩
        rw [hA2] at HI2
        have HI3 : Hid (A2 ++ (((q.map (·.1)).drop (k + 1)).flatMap hkL).flatten = Z) := HI2
        have hAl : A2.length ≤ 70368744177664 := (by have := congrArg List.length HI2; rw [List.length_append] at this; omega)
        have i4 : (0 : Int) ≤ (k : Int) := by omega
        have i5 : (k : Int) < (q.length : Int) := by omega
        have hBn : Below wr.heap.size wr (wr.alloc (.cells #[.int .i64 h.A, .int .i64 h.AN, .int .i64 h.B, .int .i64 h.BN, y] 44)) := (Below.refl _ wr).alloc (Nat.le_refl _) _
        have hBm := hB.trans (hBn.mono hB.size)
        have hPm := hP.low hBn
        have hc := chunk_f w.heap.size b v1 h y ac A2 _ hPm hBm.size x1 x2 hch (fun u hu => hins.keep (hBm.trans hu) (Nat.le_refl _)) (fun u hu => HT.out.on (hBm.trans hu)) hA2 hAl
        obtain ⟨yo, yc, rfl⟩ := HMk.form hm
        have e : hkV h (.slice yo h.ls.length yc) = .agg #[.int .i64 h.A, .int .i64 h.AN, .int .i64 h.B, .int .i64 h.BN, .slice yo h.ls.length yc] := rfl
        rw [e] at hc
        clear e HI HI2 hx hm hins hch hA2
        go_wp2_with fail
        refine hc.mono ?_
        rintro e w7 ⟨rfl, v7, hP7, hW7⟩
        go_wp2
        exact ⟨⟨k + 1, v7, A2, by omega, by go_num, hP7, hBm.trans hW7.below, HI3⟩, by simp [intOf]; omega⟩
      · have hend : decide ((k : Int) < (q.length : Int)) = false := decide_eq_false (by omega)
        have hE : ac = Z := (by
          have h := HI.out
          rw [List.drop_of_length_le (by rw [List.length_map]; omega)] at h
          simpa using h)
        subst hE
        clear HI
        go_wp2_with fail
        refine (cString_f w.heap.size b v1 ac HZne.out wr hP).mono ?_
        rintro e w7 ⟨rfl, hB7⟩
        go_wp2
        go_ret2
        exact ⟨rfl, hB.trans hB7⟩
  · rw [if_neg hr0] at hZZ
    have HE : Hid ([] = Z) := hZZ
    have e1 : (r != 0) = true := bne_iff_ne.2 hr0
    clear hZZ HZ HO hr0
    go_enter Tryd.func5, Tryd.ntmps5
    go_wp2_with fail
    refine hc.mono ?_
    rintro e w1 ⟨rfl, hB1⟩
    go_wp2
    go_ret2
    exact ⟨by rw [← HE.out]; rfl, hBm.trans (hB1.mono hBm.size)⟩
end Go.Proofs.YtgckmdncpkhiiaaDoor

/- The reference's Name, Wrong and span of layer 15, walked. -/
namespace Go.Proofs.YtgckmdncpkhiiaaDoor
open Go.RowKit Go.Proofs.YtgckmdncpkhiiaaDoor
attribute [local go_sem] no_at

theorem all_drop1 {l : List UInt8} {k : Nat} (hk : k < l.length) : (l.drop k).all nameC = (nameC l[k] && (l.drop (k + 1)).all nameC) := by
  rw [List.drop_eq_getElem_cons hk, List.all_cons]
set_option maxHeartbeats 4000000 in
set_option maxRecDepth 10000 in
theorem rName_f (l : List UInt8) (w : World) (hl : l.length ≤ 1099511627776) (t : List UInt8) (HT : Hid (nameT l = t)) :
    Calls Tryd.prog 15 #[.string ⟨l.toArray⟩] w fun e w' => e = .returned (.string ⟨t.toArray⟩) ∧ Below w.heap.size w w' := by
  by_cases h0 : l = []
  · have HE : Hid (devN = t) := (by have h := HT.out; unfold nameT at h; rw [if_pos h0] at h; exact h)
    subst h0
    go_enter Tryd.func15, Tryd.ntmps15
    go_wp2
    go_ret
    exact ⟨by rw [← HE.out]; rfl, Below.refl _ _⟩
  · have e0 : l.isEmpty = false := (by cases l with | nil => exact absurd rfl h0 | cons _ _ => rfl)
    have hq := refQuote_any l
    obtain ⟨q, hq2⟩ : ∃ q, l.all nameC = q := ⟨_, rfl⟩
    have HA0 : Hid ((l.drop 0).all nameC = q) := hq2
    have HQ : Hid (l.all nameC = q) := hq2
    clear hq2
    go_enter Tryd.func15, Tryd.ntmps15
    go_wp2
    go_loopw [3] (fun i wr => ∃ k : Nat, k ≤ l.length ∧ i = .int .i64 k ∧ wr = w ∧ Hid ((l.drop k).all nameC = q)) (fun i _ => l.length - (intOf i).toNat)
    case atStart => exact ⟨0, Nat.zero_le _, by go_num, rfl, HA0⟩
    case round =>
    obtain ⟨k, hk, rfl, rfl, HI⟩ := hrel
    clear HA0
    by_cases hlt : k < l.length
    · have HI2 := HI.out
      rw [all_drop1 hlt] at HI2
      have i1 : (0 : Int) ≤ (k : Int) := by omega
      have i2 : (k : Int) < (l.length : Int) := by omega
      obtain ⟨c, hc⟩ : ∃ c, l[k] = c := ⟨_, rfl⟩
      rw [hc] at HI2
      have hcn := c.toNat_lt
      clear HI
      cases hn : nameC c with
      | true =>
        rw [hn, Bool.true_and] at HI2
        have HI3 : Hid ((l.drop (k + 1)).all nameC = q) := HI2
        have hx := of_decide_eq_true hn
        have j1 : ¬ (c.toNat : Int) < 33 := by omega
        have j2 : ¬ (126 : Int) < (c.toNat : Int) := by omega
        have j3 : ((c.toNat : Int) == 34) = false := beq_eq_false_iff_ne.2 (by omega)
        clear HI2 hn hx
        go_wp2
        exact ⟨⟨k + 1, by omega, by go_num, by first | rfl | trivial, HI3⟩, by simp [intOf]; omega⟩
      | false =>
        rw [hn, Bool.false_and] at HI2
        have HE : Hid (Q.quote l = t) := (by have h := HT.out; unfold nameT at h; rw [if_neg h0, if_neg (fun z => by rw [HQ.out, ← HI2] at z; cases z.1)] at h; exact h)
        have hx := of_decide_eq_false hn
        clear HI2 hn
        by_cases j1 : (c.toNat : Int) < 33
        · clear hx
          go_wp2_with fail
          refine (hq _ hl).mono ?_
          rintro e w1 ⟨rfl, hB⟩
          go_wp2
          go_ret
          exact ⟨by rw [← HE.out]; rfl, hB⟩
        · by_cases j2 : (126 : Int) < (c.toNat : Int)
          · clear hx
            go_wp2_with fail
            refine (hq _ hl).mono ?_
            rintro e w1 ⟨rfl, hB⟩
            go_wp2
            go_ret
            exact ⟨by rw [← HE.out]; rfl, hB⟩
          · have j3 : ((c.toNat : Int) == 34) = true := beq_iff_eq.2 (by omega)
            clear hx
            go_wp2_with fail
            refine (hq _ hl).mono ?_
            rintro e w1 ⟨rfl, hB⟩
            go_wp2
            go_ret
            exact ⟨by rw [← HE.out]; rfl, hB⟩
    · have hqt : q = true := (by
        have h := HI.out
        rw [List.drop_of_length_le (by omega)] at h
        exact h.symm)
      have hend : ¬ (k : Int) < (l.length : Int) := by omega
      clear HI
      by_cases h1 : l = devN
      · have HE : Hid (Q.quote l = t) := (by have h := HT.out; unfold nameT at h; rw [if_neg h0, if_neg (fun z => z.2 h1)] at h; exact h)
        have e1 : (l == [47, 100, 101, 118, 47, 110, 117, 108, 108]) = true := (by rw [beq_iff_eq]; exact h1)
        clear h1
        go_wp2_with fail
        refine (hq _ hl).mono ?_
        rintro e w1 ⟨rfl, hB⟩
        go_wp2
        go_ret
        exact ⟨by rw [← HE.out]; rfl, hB⟩
      · have HE : Hid (l = t) := (by have h := HT.out; unfold nameT at h; rw [if_neg h0, if_pos ⟨by rw [HQ.out, hqt], h1⟩] at h; exact h)
        have e1 : (l == [47, 100, 101, 118, 47, 110, 117, 108, 108]) = false := beq_eq_false_iff_ne.2 h1
        clear h1
        go_wp2
        go_ret
        exact ⟨by rw [← HE.out]; rfl, Below.refl _ _⟩
set_option maxHeartbeats 1000000 in
theorem rspan_f (A N : Int) (h0 : 0 ≤ A) (h1 : A ≤ 4611686018427387904) (h2 : 0 ≤ N) (h3 : N ≤ 4611686018427387900) (w : World) (T : List UInt8) (HR : Hid (spanT A N = T)) :
    Calls Tryd.prog 16 #[.int .i64 A, .int .i64 N] w fun e w' => e = .returned (.string ⟨T.toArray⟩) ∧ Below w.heap.size w w' := by
  have l1 := itoa_short A (by omega) (by omega)
  have l2 := itoa_short (A + N - 1) (by omega) (by omega)
  by_cases hN : N ≤ 1
  · have HE1 : Hid (Lib.itoa A = T) := (by have h := HR.out; unfold spanT at h; rw [if_pos hN] at h; exact h)
    clear HR
    go_enter Tryd.func16, Tryd.ntmps16
    go_wp2_with fail
    refine (rText_f A (by omega) (by omega) _).mono ?_
    rintro e w1 ⟨rfl, hb1⟩
    go_wp2
    go_ret
    exact ⟨by rw [← HE1.out]; rfl, hb1⟩
  · have HE : Hid (Lib.itoa A ++ 44 :: Lib.itoa (A + N - 1) = T) := (by have h := HR.out; unfold spanT at h; rw [if_neg hN] at h; exact h)
    clear HR
    have q1 := add_fits (x := Lib.itoa A) (y := [44]) (by unfold Fits; simp only [List.length_cons, List.length_nil]; omega) Tryd.prog
    have q2 := add_fits (x := Lib.itoa A ++ [44]) (y := Lib.itoa (A + N - 1)) (by unfold Fits; simp only [List.length_append, List.length_cons, List.length_nil]; omega) Tryd.prog
    go_enter Tryd.func16, Tryd.ntmps16
    go_wp2_with fail
    refine (rText_f A (by omega) (by omega) _).mono ?_
    rintro e w1 ⟨rfl, hb1⟩
    go_wp2_with fail
    refine (rText_f (A + N - 1) (by omega) (by omega) _).mono ?_
    rintro e w2 ⟨rfl, hb2⟩
    go_wp2
    go_ret
    exact ⟨by rw [← HE.out]; rfl, hb1.trans (hb2.mono hb1.size)⟩
set_option maxHeartbeats 8000000 in
set_option maxRecDepth 10000 in
theorem rWrong_f (p : Pth) (q : List (Hk × Value)) (HQ : Hid (q.map (·.1) = p.hs)) (v : Value) (w : World) (hv : HHp w v q) (hok : HOk q) (ho : p.old.length ≤ 1099511627776) (hn : p.new.length ≤ 1099511627776) (r : Int) (HR : Hid (wrgP p = r)) :
    Calls Tryd.prog 14 #[ptV p v] w fun e w' => e = .returned (.int .i64 r) ∧ Below w.heap.size w w' := by
  obtain ⟨lo, lc, rfl⟩ := Holds.form hv.row
  obtain ⟨old, new, hs⟩ := p
  dsimp only at HQ ho hn
  have hql : hs.length = q.length := (by rw [← HQ.out, List.length_map])
  have HRR := HR.out
  unfold wrgP at HRR
  dsimp only at HRR
  have hBm : Below w.heap.size w (w.alloc (.cells #[.string ⟨old.toArray⟩, .string ⟨new.toArray⟩, .slice lo q.length lc] 24)) := (Below.refl _ w).alloc (Nat.le_refl _) _
  have e : ptV ⟨old, new, hs⟩ (.slice lo q.length lc) = .agg #[.string ⟨old.toArray⟩, .string ⟨new.toArray⟩, .slice lo q.length lc] := rfl
  rw [e]
  clear e HR
  by_cases h1 : 64 < old.length ∨ 64 < new.length
  · rw [if_pos h1] at HRR
    have HE : Hid (253 = r) := HRR
    clear HRR hql
    by_cases h2 : 64 < old.length
    · have i1 : (64 : Int) < (old.length : Int) := by omega
      go_enter Tryd.func14, Tryd.ntmps14
      go_wp2
      go_ret
      exact ⟨by rw [← HE.out]; rfl, hBm⟩
    · have i1 : ¬ (64 : Int) < (old.length : Int) := by omega
      have i2 : (64 : Int) < (new.length : Int) := by omega
      go_enter Tryd.func14, Tryd.ntmps14
      go_wp2
      go_ret
      exact ⟨by rw [← HE.out]; rfl, hBm⟩
  · rw [if_neg h1] at HRR
    have i1 : ¬ (64 : Int) < (old.length : Int) := by omega
    have i2 : ¬ (64 : Int) < (new.length : Int) := by omega
    by_cases h2 : 4096 < hs.length
    · rw [if_pos h2] at HRR
      have HE : Hid (9 = r) := HRR
      have i3 : (4096 : Int) < (q.length : Int) := by omega
      clear HRR hql
      go_enter Tryd.func14, Tryd.ntmps14
      go_wp2
      go_ret
      exact ⟨by rw [← HE.out]; rfl, hBm⟩
    · rw [if_neg h2] at HRR
      have HE : Hid (errs ((q.map (·.1)).drop 0) = r) := (by show _ = _; rw [HQ.out, List.drop_zero]; exact HRR)
      have i3 : ¬ (4096 : Int) < (q.length : Int) := by omega
      have hq4 : q.length ≤ 4096 := by omega
      clear HRR hql h1 h2
      go_enter Tryd.func14, Tryd.ntmps14
      have hPx : Px (w.alloc (.cells #[.string ⟨old.toArray⟩, .string ⟨new.toArray⟩, .slice lo q.length lc] 24)) w.heap.size ⟨old, new, hs⟩ (.slice lo q.length lc) := heap_alloc_new w _
      go_wp2
      generalize w.alloc (.cells #[.string ⟨old.toArray⟩, .string ⟨new.toArray⟩, .slice lo q.length lc] 24) = W at hBm hPx ⊢
      have hv2 := hv.keep hBm (Nat.le_refl _)
      generalize w.heap.size = M at hPx ⊢
      go_loopw [3] (fun i wr => ∃ k : Nat, k ≤ q.length ∧ i = .int .i64 k ∧ Below W.heap.size W wr ∧ Hid (errs ((q.map (·.1)).drop k) = r)) (fun i _ => q.length - (intOf i).toNat)
      case atStart => exact ⟨0, Nat.zero_le _, by go_num, Below.refl _ _, HE⟩
      case round =>
      clear HE
      obtain ⟨k, hk, rfl, hB, HI⟩ := hrel
      obtain ⟨p0, p1, p2⟩ := (hPx.low hB).cells
      by_cases hlt : k < q.length
      · obtain ⟨bk, off, rfl, hbk, _⟩ := hv2.at (by omega)
        obtain ⟨h, y, hx⟩ : ∃ h y, q[k] = (h, y) := ⟨_, _, rfl⟩
        obtain ⟨⟨c0, c1, c2, c3, c4⟩, hm⟩ := HHp.take hv2 hB k hlt hx
        obtain ⟨o1, o2⟩ := hok.2 q[k] (List.getElem_mem hlt)
        rw [hx] at o1 o2
        dsimp only at o1 o2
        have HI2 := HI.out
        rw [errs_drop (by rw [List.length_map]; exact hlt), List.getElem_map, hx] at HI2
        dsimp only at HI2
        have i4 : (0 : Int) ≤ (k : Int) := by omega
        have i5 : (k : Int) < (q.length : Int) := by omega
        obtain ⟨z, hz⟩ : ∃ z, chkH h = z := ⟨_, rfl⟩
        rw [hz] at HI2
        have hc := rhCheck_f h y wr hm o1 o2 z hz
        obtain ⟨yo, yc, rfl⟩ := HMk.form hm
        have e : hkV h (.slice yo h.ls.length yc) = .agg #[.int .i64 h.A, .int .i64 h.AN, .int .i64 h.B, .int .i64 h.BN, .slice yo h.ls.length yc] := rfl
        rw [e] at hc
        clear e hz HI hx hm
        by_cases hz0 : z = 0
        · subst hz0
          rw [if_neg (by decide)] at HI2
          have HI3 : Hid (errs ((q.map (·.1)).drop (k + 1)) = r) := HI2
          clear HI2
          go_wp2_with fail
          refine hc.mono ?_
          rintro e w1 ⟨rfl, hB1⟩
          go_wp2
          exact ⟨⟨k + 1, by omega, by go_num, hB.trans (hB1.mono hB.size), HI3⟩, by simp [intOf]; omega⟩
        · rw [if_pos hz0] at HI2
          have HI3 : Hid (z = r) := HI2
          have e1 : (z != 0) = true := bne_iff_ne.2 hz0
          clear HI2 hz0
          go_wp2_with fail
          refine hc.mono ?_
          rintro e w1 ⟨rfl, hB1⟩
          go_wp2
          go_ret
          exact ⟨by rw [← HI3.out]; rfl, hBm.trans ((hB.trans (hB1.mono hB.size)).mono hBm.size)⟩
      · have hend : decide ((k : Int) < (q.length : Int)) = false := decide_eq_false (by omega)
        have HE : Hid (0 = r) := (by
          have h := HI.out
          rw [List.drop_of_length_le (by rw [List.length_map]; omega)] at h
          exact h)
        clear HI
        go_wp2
        go_ret
        exact ⟨by rw [← HE.out]; rfl, hBm.trans (hB.mono hBm.size)⟩
end Go.Proofs.YtgckmdncpkhiiaaDoor

/- The context form: pieces around a place, as the reference goes; plain mathematics. -/
namespace Go.Proofs.YtgckmdncpkhiiaaDoor
open Ln

def segM (l : List Mk) (i j : Nat) : List Mk := (l.take j).drop i
theorem hasM_app (k : Int) (a b : List Mk) : hasM k (a ++ b) = (hasM k a || hasM k b) := by simp [hasM, List.any_append]
theorem hasM_cons (k : Int) (m : Mk) (a : List Mk) : hasM k (m :: a) = ((m.sg == k) || hasM k a) := rfl
theorem seg_step {l : List Mk} {i j : Nat} (h : i < j) (hj : j ≤ l.length) : segM l i j = (l[i]'(by omega)) :: segM l (i + 1) j := by
  unfold segM
  have hl : i < (l.take j).length := by rw [List.length_take]; omega
  rw [List.drop_eq_getElem_cons hl]
  simp
theorem seg_nil (l : List Mk) {i j : Nat} (h : j ≤ i) : segM l i j = [] := by
  unfold segM
  exact List.drop_of_length_le (by rw [List.length_take]; omega)
theorem seg_cat (l : List Mk) {i k j : Nat} (h1 : i ≤ k) (h2 : k ≤ j) (_h3 : j ≤ l.length) : segM l i k ++ segM l k j = segM l i j := by
  unfold segM
  have e : l.take k = (l.take j).take k := by rw [List.take_take]; congr 1; omega
  rw [e, List.drop_take]
  have h := List.take_append_drop (k - i) ((l.take j).drop i)
  rw [List.drop_drop] at h
  have e2 : i + (k - i) = k := by omega
  rw [e2] at h
  exact h
theorem seg_last {l : List Mk} {i j : Nat} (h : i ≤ j) (hj : j < l.length) : segM l i (j + 1) = segM l i j ++ [l[j]] := by
  have h1 := seg_cat l h (Nat.le_succ j) (by omega)
  rw [seg_step (Nat.lt_succ_self j) (by omega), seg_nil l (Nat.le_refl (j + 1))] at h1
  exact h1.symm
/-- going back from a place -/
theorem back_step {l : List Mk} {k a : Nat} {sg : Int} (hk : k < a) (ha : a ≤ l.length) (hs : (l[k]'(by omega)).sg ≠ 32) (h : endS sg (l.take a) = (hasM sg (segM l (k + 1) a) || endS sg (l.take (k + 1)))) : endS sg (l.take a) = (hasM sg (segM l k a) || endS sg (l.take k)) := by
  rw [h, seg_step hk ha, hasM_cons, List.take_succ_eq_append_getElem (by omega), ends_snoc, if_neg hs]
  have : (l[k].sg == sg) = decide (l[k].sg = sg) := rfl
  rw [this]
  cases hasM sg (segM l (k + 1) a) <;> cases endS sg (l.take k) <;> cases decide (l[k].sg = sg) <;> rfl
theorem back_end {l : List Mk} {k a : Nat} {sg : Int} (hk : k ≤ l.length) (hs : k = 0 ∨ ∃ h : k - 1 < l.length, 0 < k ∧ l[k - 1].sg = 32) (h : endS sg (l.take a) = (hasM sg (segM l k a) || endS sg (l.take k))) : endS sg (l.take a) = hasM sg (segM l k a) := by
  rw [h]
  have : endS sg (l.take k) = false := by
    rcases hs with rfl | ⟨h1, h2, h3⟩
    · rfl
    · obtain ⟨j, rfl⟩ : ∃ j, k = j + 1 := ⟨k - 1, by omega⟩
      rw [List.take_succ_eq_append_getElem (by omega), ends_snoc, if_pos (by simpa using h3)]
  rw [this, Bool.or_false]
/-- going on from a place -/
theorem on_step {l : List Mk} {a t : Nat} {sg : Int} (ha : a ≤ t) (ht : t < l.length) (hs : l[t].sg ≠ 32) (h : anyS sg (l.drop a) = (hasM sg (segM l a t) || anyS sg (l.drop t))) : anyS sg (l.drop a) = (hasM sg (segM l a (t + 1)) || anyS sg (l.drop (t + 1))) := by
  rw [h, List.drop_eq_getElem_cons ht, seg_last ha ht, hasM_app]
  simp only [anyS]
  rw [if_neg hs]
  have : hasM sg [l[t]] = decide (l[t].sg = sg) := by simp [hasM]; rfl
  rw [this, Bool.or_assoc]
theorem on_end {l : List Mk} {a t : Nat} {sg : Int} (hs : l.length ≤ t ∨ ∃ h : t < l.length, l[t].sg = 32) (h : anyS sg (l.drop a) = (hasM sg (segM l a t) || anyS sg (l.drop t))) : anyS sg (l.drop a) = hasM sg (segM l a t) := by
  rw [h]
  have : anyS sg (l.drop t) = false := by
    rcases hs with h1 | ⟨h1, h2⟩
    · rw [List.drop_of_length_le h1]; rfl
    · rw [List.drop_eq_getElem_cons h1]
      simp only [anyS]
      rw [if_pos h2]
  rw [this, Bool.or_false]
/-- is a piece around a place mixed? -/
theorem both_seg {l : List Mk} {f a t : Nat} (h1 : f ≤ a) (h2 : a ≤ t) (h3 : t ≤ l.length) (e1 : endS 45 (l.take a) = hasM 45 (segM l f a)) (e2 : endS 43 (l.take a) = hasM 43 (segM l f a)) (e3 : anyS 45 (l.drop a) = hasM 45 (segM l a t)) (e4 : anyS 43 (l.drop a) = hasM 43 (segM l a t)) : bothM (l.take a) (l.drop a) = (hasM 45 (segM l f t) && hasM 43 (segM l f t)) := by
  unfold bothM
  rw [e1, e2, e3, e4, ← hasM_app, ← hasM_app, seg_cat l h1 h2 h3]
end Go.Proofs.YtgckmdncpkhiiaaDoor

/- The reference's both and side of layer 15, walked. -/
namespace Go.Proofs.YtgckmdncpkhiiaaDoor
open Go.RowKit

set_option maxHeartbeats 8000000 in
set_option maxRecDepth 10000 in
theorem rboth_f (h : Hk) (v : Value) (a : Nat) (ha : a < h.ls.length) (w : World) (hv : HMk w v h.ls) (hl : h.ls.length ≤ 1099511627776) (r : Bool) (HR : Hid (bothM (h.ls.take a) (h.ls.drop a) = r)) :
    Calls Tryd.prog 30 #[hkV h v, .int .i64 (a : Int)] w fun e w' => e = .returned (.bool r) ∧ Below w.heap.size w w' := by
  obtain ⟨A, AN, B, BN, ls⟩ := h
  dsimp only at ha hv hl HR
  obtain ⟨lo, lc, rfl⟩ := HMk.form hv
  have hBl : Below w.heap.size w (w.alloc (.cells #[.int .i64 A, .int .i64 AN, .int .i64 B, .int .i64 BN, .slice lo ls.length lc] 44)) := (Below.refl _ w).alloc (Nat.le_refl _) _
  have hx : Hx (w.alloc (.cells #[.int .i64 A, .int .i64 AN, .int .i64 B, .int .i64 BN, .slice lo ls.length lc] 44)) w.heap.size ⟨A, AN, B, BN, ls⟩ (.slice lo ls.length lc) := heap_alloc_new w _
  have hv2 := hv.keep hBl (Nat.le_refl _)
  have e : hkV ⟨A, AN, B, BN, ls⟩ (.slice lo ls.length lc) = .agg #[.int .i64 A, .int .i64 AN, .int .i64 B, .int .i64 BN, .slice lo ls.length lc] := rfl
  rw [e]
  clear e
  obtain ⟨bk, off, rfl, hbk, hcl⟩ := HMk.at hv2 (by omega)
  have HCL : Hid (∀ k (hk : k < ls.length), (w.alloc (.cells #[.int .i64 A, .int .i64 AN, .int .i64 B, .int .i64 BN, .slice (some ⟨bk, off, none⟩) ls.length lc] 44)).cell? ⟨bk, off + k * 2, none⟩ = some (.int .u8 ls[k].sg)) := fun k hk => (hcl k hk).1
  clear hcl hv hv2
  obtain ⟨d0, d1, d2, d3, d4⟩ := hx.cells
  clear d0 d1 d2 d3 hx
  have HA0 : Hid (∀ sg, endS sg (ls.take a) = (hasM sg (segM ls a a) || endS sg (ls.take a))) := (by
    intro sg
    rw [seg_nil ls (Nat.le_refl a)]
    rfl)
  have HB0 : Hid (∀ sg, anyS sg (ls.drop a) = (hasM sg (segM ls a a) || anyS sg (ls.drop a))) := (by
    intro sg
    rw [seg_nil ls (Nat.le_refl a)]
    rfl)
  go_enter Tryd.func30, Tryd.ntmps30
  go_wp2
  generalize w.alloc (.cells #[.int .i64 A, .int .i64 AN, .int .i64 B, .int .i64 BN, .slice (some ⟨bk, off, none⟩) ls.length lc] 44) = W at hBl HCL d4 hbk ⊢
  generalize hM : w.heap.size = M at d4 ⊢
  have HM : Hid (w.heap.size = M) := hM
  clear hM
  go_loopw [5] (fun i wr => ∃ k : Nat, k ≤ a ∧ i = .int .i64 k ∧ W = wr ∧ Hid (∀ sg, endS sg (ls.take a) = (hasM sg (segM ls k a) || endS sg (ls.take k)))) (fun i _ => (intOf i).toNat)
  case atStart => exact ⟨a, Nat.le_refl _, rfl, rfl, HA0⟩
  case round =>
  clear HA0
  obtain ⟨k, hk, rfl, rfl, HI⟩ := hrel
  by_cases hgo : ∃ j, ∃ hj : j < ls.length, k = j + 1 ∧ ls[j].sg ≠ 32
  · obtain ⟨j, hj, rfl, hs⟩ := hgo
    have c0 := HCL.out j hj
    have HI2 : Hid (∀ sg, endS sg (ls.take a) = (hasM sg (segM ls j a) || endS sg (ls.take j))) := fun sg => back_step (by omega) (by omega) hs (HI.out sg)
    obtain ⟨z, hz⟩ : ∃ z, ls[j].sg = z := ⟨_, rfl⟩
    rw [hz] at c0 hs
    have e1 : (z != 32) = true := bne_iff_ne.2 hs
    have i1 : (0 : Int) ≤ (j : Int) := by omega
    have i2 : (j : Int) < (ls.length : Int) := by omega
    have i3 : (0 : Int) < (j : Int) + 1 := by omega
    clear HI hs hz
    go_wp2
    exact ⟨⟨j, by omega, by go_num, by first | rfl | trivial, HI2⟩, by simp [intOf]⟩
  · have hend : k = 0 ∨ ∃ h : k - 1 < ls.length, 0 < k ∧ ls[k - 1].sg = 32 := (by
      rcases Nat.eq_zero_or_pos k with h | h
      · exact .inl h
      · refine .inr ⟨by omega, h, ?_⟩
        have h2 : ¬ ls[k - 1].sg ≠ 32 := fun q => hgo ⟨k - 1, by omega, by omega, q⟩
        simpa using h2)
    have HF : Hid (∀ sg, endS sg (ls.take a) = hasM sg (segM ls k a)) := fun sg => back_end (by omega) hend (HI.out sg)
    clear hgo HI
    have HL : Hid (∀ Q : Prop, ((k = 0 → Q) → (∀ j (hj : j < ls.length), k = j + 1 → ls[j].sg = 32 → Q) → Q)) := (by
      intro Q h1 h2
      rcases hend with h | ⟨h3, h4, h5⟩
      · exact h1 h
      · exact h2 (k - 1) h3 (by omega) h5)
    go_upto_region 2 with fail
    go_cut [23] from 12 to 25 (fun cv wz => cv = .bool false ∧ W = wz)
    case first =>
      rcases hend with h0 | ⟨h3, h4, h5⟩
      · subst h0
        go_wp2
        go_meet
        case rel => exact ⟨rfl, rfl⟩
      · obtain ⟨j, rfl⟩ : ∃ j, k = j + 1 := ⟨k - 1, by omega⟩
        have c0 := HCL.out j (by omega)
        have h6 : (ls[j]'(by omega)).sg = 32 := by simpa using h5
        rw [h6] at c0
        have i1 : (0 : Int) ≤ (j : Int) := by omega
        have i2 : (j : Int) < (ls.length : Int) := by omega
        have i3 : (0 : Int) < (j : Int) + 1 := by omega
        clear h5 h6
        go_wp2
        go_meet
        case rel => exact ⟨rfl, rfl⟩
    case rest =>
    obtain ⟨rfl, rfl⟩ := hcut
    clear hend HL
    go_wp2
    go_loopw [6] (fun i wr => ∃ t : Nat, a ≤ t ∧ t ≤ ls.length ∧ i = .int .i64 t ∧ W = wr ∧ Hid (∀ sg, anyS sg (ls.drop a) = (hasM sg (segM ls a t) || anyS sg (ls.drop t)))) (fun i _ => ls.length - (intOf i).toNat)
    case atStart => exact ⟨a, Nat.le_refl _, by omega, rfl, rfl, HB0⟩
    case round =>
    clear HB0
    obtain ⟨t, hat, ht, rfl, rfl, HJ⟩ := hrel
    by_cases hgo : ∃ hj : t < ls.length, ls[t].sg ≠ 32
    · obtain ⟨hj, hs⟩ := hgo
      have c0 := HCL.out t hj
      have HJ2 : Hid (∀ sg, anyS sg (ls.drop a) = (hasM sg (segM ls a (t + 1)) || anyS sg (ls.drop (t + 1)))) := fun sg => on_step hat hj hs (HJ.out sg)
      obtain ⟨z, hz⟩ : ∃ z, ls[t].sg = z := ⟨_, rfl⟩
      rw [hz] at c0 hs
      have e1 : (z != 32) = true := bne_iff_ne.2 hs
      have i1 : (0 : Int) ≤ (t : Int) := by omega
      have i2 : (t : Int) < (ls.length : Int) := by omega
      clear HJ hs hz
      go_wp2
      exact ⟨⟨t + 1, by omega, by omega, by go_num, by first | rfl | trivial, HJ2⟩, by simp [intOf]; omega⟩
    · have hend : ls.length ≤ t ∨ ∃ h : t < ls.length, ls[t].sg = 32 := (by
        by_cases h : t < ls.length
        · refine .inr ⟨h, ?_⟩
          have h2 : ¬ ls[t].sg ≠ 32 := fun q => hgo ⟨h, q⟩
          simpa using h2
        · exact .inl (by omega))
      have HG : Hid (∀ sg, anyS sg (ls.drop a) = hasM sg (segM ls a t)) := fun sg => on_end hend (HJ.out sg)
      obtain ⟨x45, hx45⟩ : ∃ x, hasM 45 (segM ls k t) = x := ⟨_, rfl⟩
      obtain ⟨x43, hx43⟩ : ∃ x, hasM 43 (segM ls k t) = x := ⟨_, rfl⟩
      have HX : Hid ((x45 && x43) = r) := (by
        show _ = _
        rw [← HR.out, both_seg hk hat ht (HF.out 45) (HF.out 43) (HG.out 45) (HG.out 43), hx45, hx43])
      have HS0 : Hid ((false || hasM 45 (segM ls k t)) = x45 ∧ (false || hasM 43 (segM ls k t)) = x43) := ⟨by rw [Bool.false_or]; exact hx45, by rw [Bool.false_or]; exact hx43⟩
      clear hgo HJ hx45 hx43 HF HG HR
      go_upto_region 4 with fail
      go_cut [39] from 26 to 41 (fun cv wz => cv = .bool false ∧ W = wz)
      case first =>
        by_cases h : t < ls.length
        · have c0 := HCL.out t h
          have h6 : ls[t].sg = 32 := (by
            rcases hend with h1 | ⟨_, h2⟩
            · omega
            · exact h2)
          rw [h6] at c0
          have i1 : (0 : Int) ≤ (t : Int) := by omega
          have i2 : (t : Int) < (ls.length : Int) := by omega
          clear h6 hend
          go_wp2
          go_meet
          case rel => exact ⟨rfl, rfl⟩
        · have i2 : ¬ (t : Int) < (ls.length : Int) := by omega
          clear hend
          go_wp2
          go_meet
          case rel => exact ⟨rfl, rfl⟩
      case rest =>
      obtain ⟨rfl, rfl⟩ := hcut
      clear hend
      go_wp2
      go_loopw [7, 8, 9] (fun rv av i wr => ∃ (j : Nat) (x y : Bool), k ≤ j ∧ (j ≤ t ∨ j = k) ∧ i = .int .i64 j ∧ rv = .bool x ∧ av = .bool y ∧ W = wr ∧ Hid ((x || hasM 45 (segM ls j t)) = x45 ∧ (y || hasM 43 (segM ls j t)) = x43)) (fun _ _ i _ => t - (intOf i).toNat)
      case atStart => exact ⟨k, false, false, Nat.le_refl _, .inr rfl, rfl, rfl, rfl, rfl, HS0⟩
      case round =>
      clear HS0
      obtain ⟨j, x, y, hkj, hjt, rfl, rfl, rfl, rfl, HK⟩ := hrel
      by_cases hlt : j < t
      · have c0 := HCL.out j (by omega)
        have HK2 := HK.out
        rw [seg_step hlt ht, hasM_cons, hasM_cons] at HK2
        obtain ⟨z, hz⟩ : ∃ z, (ls[j]'(by omega)).sg = z := ⟨_, rfl⟩
        rw [hz] at c0 HK2
        have i1 : (0 : Int) ≤ (j : Int) := by omega
        have i2 : (j : Int) < (ls.length : Int) := by omega
        have i3 : (j : Int) < (t : Int) := by omega
        have HK3 : Hid (((x || (z == 45)) || hasM 45 (segM ls (j + 1) t)) = x45 ∧ ((y || (z == 43)) || hasM 43 (segM ls (j + 1) t)) = x43) := (by
          rw [Bool.or_assoc, Bool.or_assoc]
          exact HK2)
        clear HK HK2 hz
        go_upto_region 10 with fail
        go_cut [7] from 43 to 67 (fun cv wz => cv = .bool (x || (z == 45)) ∧ W = wz)
        case first =>
          cases x with
          | true =>
            go_wp2
            go_meet
            case rel => exact ⟨rfl, rfl⟩
          | false =>
            go_wp2
            go_meet
            case rel => exact ⟨rfl, rfl⟩
        case rest =>
        obtain ⟨rfl, rfl⟩ := hcut
        generalize (x || (z == 45)) = x2 at HK3 ⊢
        cases y with
        | true =>
          have HK4 : Hid ((x2 || hasM 45 (segM ls (j + 1) t)) = x45 ∧ (true || hasM 43 (segM ls (j + 1) t)) = x43) := ⟨HK3.out.1, by have h := HK3.out.2; rw [Bool.true_or] at h; exact h⟩
          clear HK3
          go_wp2
          exact ⟨⟨j + 1, x2, true, by omega, .inl (by omega), by go_num, rfl, rfl, by first | rfl | trivial, HK4⟩, by simp [intOf]; omega⟩
        | false =>
          have HK4 : Hid ((x2 || hasM 45 (segM ls (j + 1) t)) = x45 ∧ ((z == 43) || hasM 43 (segM ls (j + 1) t)) = x43) := ⟨HK3.out.1, by have h := HK3.out.2; rw [Bool.false_or] at h; exact h⟩
          clear HK3
          go_wp2
          exact ⟨⟨j + 1, x2, (z == 43), by omega, .inl (by omega), by go_num, rfl, rfl, by first | rfl | trivial, HK4⟩, by simp [intOf]; omega⟩
      · have hend : ¬ (j : Int) < (t : Int) := by omega
        have HE : Hid ((x && y) = r) := (by
          show _ = _
          have h := HK.out
          rw [seg_nil ls (by omega)] at h
          have h1 : x = x45 := by rw [← h.1]; simp [hasM]
          have h2 : y = x43 := by rw [← h.2]; simp [hasM]
          rw [h1, h2]
          exact HX.out)
        clear HK HX
        cases x with
        | true =>
          have HE2 : Hid (y = r) := (by have h := HE.out; rw [Bool.true_and] at h; exact h)
          go_wp2
          go_ret
          exact ⟨by rw [← HE2.out]; rfl, hBl⟩
        | false =>
          have HE2 : Hid (false = r) := (by have h := HE.out; rw [Bool.false_and] at h; exact h)
          go_wp2
          go_ret
          exact ⟨by rw [← HE2.out]; rfl, hBl⟩
end Go.Proofs.YtgckmdncpkhiiaaDoor

/- The reference's side of layer 15, walked. -/
namespace Go.Proofs.YtgckmdncpkhiiaaDoor
open Go.RowKit

theorem two_conv (w : World) (x : Int) (h0 : 0 ≤ x) (h1 : x < 256) :
    (convert 35 9 (.slice (some ⟨w.heap.size, 0, none⟩) 2 2)).run Tryd.prog (w.alloc (.cells #[.int .u8 x, .int .u8 32] 5)) = .ok (.string ⟨#[UInt8.ofNat x.toNat, 32]⟩) (w.alloc (.cells #[.int .u8 x, .int .u8 32] 5)) := by
  have hx : ((UInt8.ofNat x.toNat).toNat : Int) = x := by simp only [UInt8.toNat_ofNat']; omega
  refine run_convert_bytes_back (w.alloc (.cells #[.int .u8 x, .int .u8 32] 5)) 35 9 5 ⟨w.heap.size, 0, none⟩ 2 [UInt8.ofNat x.toNat, 32] Tryd.underlying35 Tryd.underlying5 Tryd.underlying9 ?_
  intro j hj
  have hb := heap_alloc_new w (.cells #[.int .u8 x, .int .u8 32] 5)
  match j, hj with
  | 0, _ =>
    show (w.alloc (.cells #[.int .u8 x, .int .u8 32] 5)).cell? ⟨w.heap.size, 0 + 0, none⟩ = some (.int .u8 ((UInt8.ofNat x.toNat).toNat : Int))
    rw [hx, Lib.cell_of_heap hb]
    rfl
  | 1, _ =>
    show (w.alloc (.cells #[.int .u8 x, .int .u8 32] 5)).cell? ⟨w.heap.size, 0 + 1, none⟩ = some (.int .u8 32)
    rw [Lib.cell_of_heap hb]
    rfl
theorem hasM_snoc (k : Int) (l : List Mk) (j : Nat) (hj : j < l.length) : hasM k (l.take (j + 1)) = (hasM k (l.take j) || (l[j].sg == k)) := by
  rw [List.take_succ_eq_append_getElem hj, hasM_app]
  simp [hasM]
set_option maxHeartbeats 8000000 in
set_option maxRecDepth 10000 in
theorem rside_f (h : Hk) (v : Value) (sg : Int) (hsg : sg = 45 ∨ sg = 43) (w : World) (hv : HMk w v h.ls) (hl : h.ls.length ≤ 1099511627776) (HTx : Hid (∀ m ∈ h.ls, m.tx.length ≤ 1099511627776)) (Z : List UInt8) (HZ : Hid ((sideL sg h.ls).flatten = Z)) (Z2 : List UInt8) (HZ2 : Hid ((sidL sg false false h.ls).flatten = Z2)) (hZ : Z2.length ≤ 1152921504606846976) :
    Calls Tryd.prog 17 #[hkV h v, .int .u8 sg] w fun e w' => e = .returned (.string ⟨Z.toArray⟩) ∧ Below w.heap.size w w' := by
  obtain ⟨A, AN, B, BN, ls⟩ := h
  dsimp only at hv hl HTx HZ HZ2
  obtain ⟨lo, lc, rfl⟩ := HMk.form hv
  have hBl : Below w.heap.size w (w.alloc (.cells #[.int .i64 A, .int .i64 AN, .int .i64 B, .int .i64 BN, .slice lo ls.length lc] 44)) := (Below.refl _ w).alloc (Nat.le_refl _) _
  have hx : Hx (w.alloc (.cells #[.int .i64 A, .int .i64 AN, .int .i64 B, .int .i64 BN, .slice lo ls.length lc] 44)) w.heap.size ⟨A, AN, B, BN, ls⟩ (.slice lo ls.length lc) := heap_alloc_new w _
  have hv2 := hv.keep hBl (Nat.le_refl _)
  have hkv : hkV ⟨A, AN, B, BN, ls⟩ (.slice lo ls.length lc) = .agg #[.int .i64 A, .int .i64 AN, .int .i64 B, .int .i64 BN, .slice lo ls.length lc] := rfl
  have HB := fun (a : Nat) (ha : a < ls.length) (u : World) (hu : HMk u (.slice lo ls.length lc) ls) (r : Bool) (HR : Hid (bothM (ls.take a) (ls.drop a) = r)) => rboth_f ⟨A, AN, B, BN, ls⟩ (.slice lo ls.length lc) a ha u hu hl r HR
  rw [hkv] at HB ⊢
  clear hkv hv
  have HI0 : Hid ([] ++ (fromS sg (ls.take 0) (ls.drop 0)).flatten = Z2) := (by show _ = _; rw [List.take_zero, List.drop_zero, from_all, List.nil_append]; exact HZ2.out)
  have HC0 : Hid (hasM sg (ls.take 0) = false) := rfl
  obtain ⟨g0, hg0⟩ : ∃ g, hasM sg ls = g := ⟨_, rfl⟩
  have HFin : Hid (hasM sg ls = g0 ∧ (if g0 = true then Z2 else []) = Z) := (by
    refine ⟨hg0, ?_⟩
    rw [← HZ.out, ← HZ2.out, ← hg0]
    unfold sideL
    have : (ls.any fun m => decide (m.sg = sg)) = hasM sg ls := rfl
    rw [this]
    split <;> rfl)
  clear hg0 HZ HZ2
  go_enter Tryd.func17, Tryd.ntmps17
  go_wp2
  generalize w.alloc (.cells #[.int .i64 A, .int .i64 AN, .int .i64 B, .int .i64 BN, .slice lo ls.length lc] 44) = W at hBl hx hv2 ⊢
  generalize w.heap.size = M at hx ⊢
  go_loopw [5, 6, 7] (fun s cv i wr => ∃ (k : Nat) (ac : List UInt8) (c : Bool), k ≤ ls.length ∧ i = .int .i64 k ∧ s = .string ⟨ac.toArray⟩ ∧ cv = .bool c ∧ Below W.heap.size W wr ∧ Hid (hasM sg (ls.take k) = c) ∧ Hid (ac ++ (fromS sg (ls.take k) (ls.drop k)).flatten = Z2)) (fun _ _ i _ => ls.length - (intOf i).toNat)
  case atStart => exact ⟨0, [], false, Nat.zero_le _, rfl, rfl, rfl, Below.refl _ _, HC0, HI0⟩
  case round =>
  clear HI0 HC0
  obtain ⟨k, ac, c, hk, rfl, rfl, rfl, hB, HCk, HI⟩ := hrel
  obtain ⟨d0, d1, d2, d3, d4⟩ := (hx.low hB).cells
  by_cases hlt : k < ls.length
  · obtain ⟨bk, off, rfl, hbk, _⟩ := HMk.at hv2 (by omega)
    obtain ⟨m, hm⟩ : ∃ m, ls[k] = m := ⟨_, rfl⟩
    obtain ⟨c0, c1⟩ := Low.mk hB hv2 k hlt hm
    have htx := HTx.out m (by rw [← hm]; exact List.getElem_mem hlt)
    have i1 : (0 : Int) ≤ (k : Int) := by omega
    have i2 : (k : Int) < (ls.length : Int) := by omega
    have HI2 := HI.out
    have hdr : ls.drop k = m :: ls.drop (k + 1) := (by rw [List.drop_eq_getElem_cons hlt, hm])
    have hta : ls.take k ++ [m] = ls.take (k + 1) := (by rw [List.take_succ_eq_append_getElem hlt, hm])
    rw [hdr, from_cons, hta, List.flatten_append, ← List.append_assoc] at HI2
    obtain ⟨A2, hA2⟩ : ∃ Y, ac ++ (lineS sg (ls.take k) m (ls.drop (k + 1))).flatten = Y := ⟨_, rfl⟩
    rw [hA2] at HI2
    have HI3 : Hid (A2 ++ (fromS sg (ls.take (k + 1)) (ls.drop (k + 1))).flatten = Z2) := HI2
    have hAl : A2.length ≤ 1152921504606846976 := (by have := congrArg List.length HI2; rw [List.length_append] at this; omega)
    have HCn : Hid (hasM sg (ls.take (k + 1)) = (c || (m.sg == sg))) := (by show _ = _; rw [hasM_snoc sg ls k hlt, HCk.out, hm])
    obtain ⟨br, hbr⟩ : ∃ b, bothM (ls.take k) (ls.drop k) = b := ⟨_, rfl⟩
    have hbc := fun u hu => HB k hlt u hu br hbr
    have HLs : Hid (ac ++ (if m.sg = 32 then lnL [32, 32] m.tx else if m.sg = sg then lnL (if br = true then [33, 32] else [UInt8.ofNat sg.toNat, 32]) m.tx else []).flatten = A2) := (by
      show _ = _
      rw [← hA2]
      unfold lineS
      rw [← hdr, hbr])
    have hBm := hB.alloc hB.size (.cells #[.int .u8 m.sg, .string ⟨m.tx.toArray⟩] 63)
    clear HI HI2 hA2 hbr hdr hta HCk HB hm
    obtain ⟨z, tx⟩ := m
    dsimp only at c0 c1 htx HCn HLs hBm
    by_cases h1 : z = 32
    · have e1 : (z != 32) = false := by simp [h1]
      have e2 : (z == sg) = false := beq_eq_false_iff_ne.2 (by omega)
      have HC2 : Hid (hasM sg (ls.take (k + 1)) = c) := (by show _ = _; rw [HCn.out, e2, Bool.or_false])
      obtain ⟨Y, hY⟩ : ∃ Y, (lnL [32, 32] tx).flatten = Y := ⟨_, rfl⟩
      have hAY : ac ++ Y = A2 := (by rw [← hY]; have h := HLs.out; rw [if_pos h1] at h; exact h)
      have hlY := congrArg List.length hAY
      rw [List.length_append] at hlY
      have q1 := add_fits (x := ac) (y := Y) (by unfold Fits; omega) Tryd.prog
      rw [hAY] at q1
      have HY : Hid ((lnL [32, 32] tx).flatten = Y) := hY
      clear hY hAY hlY HLs
      clear HCn hbc h1
      go_wp2_with fail
      refine (rLine_f [32, 32] tx _ (by decide) (by omega)).mono ?_
      rintro e wl ⟨rfl, rfl⟩
      rw [HY.out]
      go_wp2
      exact ⟨⟨k + 1, A2, c, by omega, by go_num, rfl, rfl, hBm, HC2, HI3⟩, by simp [intOf]; omega⟩
    · have e1 : (z != 32) = true := by simp [h1]
      by_cases h2 : z = sg
      · subst h2
        have e2 : (z != z) = false := by simp
        have e3 : (z == z) = true := by simp
        have hz0 : 0 ≤ z ∧ z < 256 := by omega
        have hcv := two_conv (wr.alloc (.cells #[.int .u8 z, .string ⟨tx.toArray⟩] 63)) z hz0.1 hz0.2
        have hBt := hBm.alloc hBm.size (.cells #[.int .u8 z, .int .u8 32] 5)
        have hxt := hx.low hBt
        have hvt := hv2.keep hBt (Nat.le_refl _)
        have HC2 : Hid (hasM z (ls.take (k + 1)) = true) := (by show _ = _; rw [HCn.out, e3, Bool.or_true])
        have hz1 : (wr.alloc (.cells #[.int .u8 z, .string ⟨tx.toArray⟩] 63)).heap.size = wr.heap.size + 1 := by simp
        rw [hz1] at hcv
        clear hz1
        cases br with
        | true =>
          obtain ⟨Y, hY⟩ : ∃ Y, (lnL [33, 32] tx).flatten = Y := ⟨_, rfl⟩
          have hAY : ac ++ Y = A2 := (by rw [← hY]; have h := HLs.out; rw [if_neg h1, if_pos rfl, if_pos rfl] at h; exact h)
          have hlY := congrArg List.length hAY
          rw [List.length_append] at hlY
          have q1 := add_fits (x := ac) (y := Y) (by unfold Fits; omega) Tryd.prog
          rw [hAY] at q1
          have HY : Hid ((lnL [33, 32] tx).flatten = Y) := hY
          clear hY hAY hlY HLs
          clear HCn h1 e2 hz0
          go_upto_region 12 with fail
          have hmb : ((wr.alloc (.cells #[.int .u8 z, .string ⟨tx.toArray⟩] 63)).alloc (.cells #[.int .u8 z, .int .u8 32] 5)).heap[wr.heap.size]? = some (.cells #[.int .u8 z, .string ⟨tx.toArray⟩] 63) := (Lib.alloc_old _ _ _ (by simp)).trans (heap_alloc_new wr _)
          have hml : wr.heap.size < ((wr.alloc (.cells #[.int .u8 z, .string ⟨tx.toArray⟩] 63)).alloc (.cells #[.int .u8 z, .int .u8 32] 5)).heap.size := by simp; omega
          have hbc2 := hbc _ hvt
          generalize (wr.alloc (.cells #[.int .u8 z, .string ⟨tx.toArray⟩] 63)).alloc (.cells #[.int .u8 z, .int .u8 32] 5) = Wt at hBt hxt hvt hmb hml hbc2 ⊢
          generalize wr.heap.size = Mb at hmb hml ⊢
          obtain ⟨t0, t1, t2, t3, t4⟩ := hxt.cells
          go_wp2_with fail
          refine hbc2.mono ?_
          rintro e w2 ⟨rfl, hB2⟩
          have hm2 := (hB2.block Mb hml).trans hmb
          have m0 : w2.cell? ⟨Mb, 0, none⟩ = some (.int .u8 z) := (by rw [Lib.cell_of_heap hm2]; rfl)
          have m1 : w2.cell? ⟨Mb, 1, none⟩ = some (.string ⟨tx.toArray⟩) := (by rw [Lib.cell_of_heap hm2]; rfl)
          clear t0 t1 t2 t3 t4 hm2 c0 c1
          go_wp2_with fail
          refine (rLine_f [33, 32] tx _ (by decide) (by omega)).mono ?_
          rintro e wl ⟨rfl, rfl⟩
          rw [HY.out]
          go_wp2
          exact ⟨⟨k + 1, A2, true, by omega, by go_num, rfl, rfl, hBt.trans (hB2.mono hBt.size), HC2, HI3⟩, by simp [intOf]; omega⟩
        | false =>
          obtain ⟨Y, hY⟩ : ∃ Y, (lnL [UInt8.ofNat z.toNat, 32] tx).flatten = Y := ⟨_, rfl⟩
          have hAY : ac ++ Y = A2 := (by rw [← hY]; have h := HLs.out; rw [if_neg h1, if_pos rfl, if_neg (by decide)] at h; exact h)
          have hlY := congrArg List.length hAY
          rw [List.length_append] at hlY
          have q1 := add_fits (x := ac) (y := Y) (by unfold Fits; omega) Tryd.prog
          rw [hAY] at q1
          have HY : Hid ((lnL [UInt8.ofNat z.toNat, 32] tx).flatten = Y) := hY
          clear hY hAY hlY HLs
          clear HCn h1 e2 hz0
          go_upto_region 12 with fail
          have hmb : ((wr.alloc (.cells #[.int .u8 z, .string ⟨tx.toArray⟩] 63)).alloc (.cells #[.int .u8 z, .int .u8 32] 5)).heap[wr.heap.size]? = some (.cells #[.int .u8 z, .string ⟨tx.toArray⟩] 63) := (Lib.alloc_old _ _ _ (by simp)).trans (heap_alloc_new wr _)
          have hml : wr.heap.size < ((wr.alloc (.cells #[.int .u8 z, .string ⟨tx.toArray⟩] 63)).alloc (.cells #[.int .u8 z, .int .u8 32] 5)).heap.size := by simp; omega
          have hbc2 := hbc _ hvt
          generalize (wr.alloc (.cells #[.int .u8 z, .string ⟨tx.toArray⟩] 63)).alloc (.cells #[.int .u8 z, .int .u8 32] 5) = Wt at hBt hxt hvt hmb hml hbc2 ⊢
          generalize wr.heap.size = Mb at hmb hml ⊢
          obtain ⟨t0, t1, t2, t3, t4⟩ := hxt.cells
          go_wp2_with fail
          refine hbc2.mono ?_
          rintro e w2 ⟨rfl, hB2⟩
          have hm2 := (hB2.block Mb hml).trans hmb
          have m0 : w2.cell? ⟨Mb, 0, none⟩ = some (.int .u8 z) := (by rw [Lib.cell_of_heap hm2]; rfl)
          have m1 : w2.cell? ⟨Mb, 1, none⟩ = some (.string ⟨tx.toArray⟩) := (by rw [Lib.cell_of_heap hm2]; rfl)
          clear t0 t1 t2 t3 t4 hm2 c0 c1
          go_wp2_with fail
          refine (rLine_f [UInt8.ofNat z.toNat, 32] tx _ (by simp) (by omega)).mono ?_
          rintro e wl ⟨rfl, rfl⟩
          rw [HY.out]
          go_wp2
          exact ⟨⟨k + 1, A2, true, by omega, by go_num, rfl, rfl, hBt.trans (hB2.mono hBt.size), HC2, HI3⟩, by simp [intOf]; omega⟩
      · have e2 : (z != sg) = true := by simp [h2]
        have e3 : (z == sg) = false := beq_eq_false_iff_ne.2 h2
        have hAA : ac = A2 := (by have h := HLs.out; rw [if_neg h1, if_neg h2] at h; simpa using h)
        have HC2 : Hid (hasM sg (ls.take (k + 1)) = c) := (by show _ = _; rw [HCn.out, e3, Bool.or_false])
        subst hAA
        clear HCn hbc h1 h2 HLs
        go_wp2
        exact ⟨⟨k + 1, ac, c, by omega, by go_num, rfl, rfl, hBm, HC2, HI3⟩, by simp [intOf]; omega⟩
  · have hend : ¬ (k : Int) < (ls.length : Int) := by omega
    have HE : Hid ((if c = true then ac else []) = Z) := (by
      show _ = _
      have h := HI.out
      rw [List.drop_of_length_le (by omega)] at h
      have h1 : ac = Z2 := by rw [← h]; simp [fromS, sidL]
      have h2 := HCk.out
      rw [List.take_of_length_le (by omega), HFin.out.1] at h2
      rw [h1, ← h2]
      exact HFin.out.2)
    clear HI HCk HFin
    cases c with
    | true =>
      have HE2 : Hid (ac = Z) := (by have h := HE.out; rw [if_pos rfl] at h; exact h)
      go_wp2
      go_ret
      exact ⟨by rw [← HE2.out]; rfl, hBl.trans (hB.mono hBl.size)⟩
    | false =>
      have HE2 : Hid ([] = Z) := (by have h := HE.out; rw [if_neg (by decide)] at h; exact h)
      go_wp2
      go_ret
      exact ⟨by rw [← HE2.out]; rfl, hBl.trans (hB.mono hBl.size)⟩
end Go.Proofs.YtgckmdncpkhiiaaDoor

/- The reference's Print of layer 15, walked. -/
namespace Go.Proofs.YtgckmdncpkhiiaaDoor
open Go.RowKit

theorem cw_add {x y z : List UInt8} (h : ∀ u : World, (Op.stringOp .add ⟨x.toArray⟩ ⟨y.toArray⟩).run Tryd.prog u = .ok (.string ⟨z.toArray⟩) u) {u : World} {op : Oper} (a b : Operand) (ho : op.op = .binOp .add 9 a b 9) {ev : Operand → Value} (ha : ev a = .string ⟨x.toArray⟩) (hb : ev b = .string ⟨y.toArray⟩) :
    (execOp ev op).run Tryd.prog u = .ok (.value (.string ⟨z.toArray⟩)) u := by
  simp only [execOp, ho, ha, hb]
  go_simp
theorem cw_hk {u : World} {M : Nat} {A AN Bn BN : Int} {ls : List Mk} {o : Option Addr} {n c : Nat} (q : Hx u M ⟨A, AN, Bn, BN, ls⟩ (.slice o n c)) {op : Oper} (x : Operand) (ho : op.op = .load 44 x) {ev : Operand → Value} (hx : ev x = .pointer (some ⟨M, 0, none⟩)) :
    (execOp ev op).run Tryd.prog u = .ok (.value (.agg #[.int .i64 A, .int .i64 AN, .int .i64 Bn, .int .i64 BN, .slice o n c])) u := by
  obtain ⟨d0, d1, d2, d3, d4⟩ := q.cells
  simp only [execOp, ho, hx]
  go_simp
set_option maxHeartbeats 16000000 in
set_option maxRecDepth 100000 in
theorem rPrint15_f (p : Pth) (q : List (Hk × Value)) (HQ : Hid (q.map (·.1) = p.hs)) (v : Value) (w : World) (hv : HHp w v q) (hok : HOk q) (ho : p.old.length ≤ 1099511627776) (hn : p.new.length ≤ 1099511627776) (Z : List UInt8) (r : Int) (HR : Hid (wrgP p = r)) (HZ : Hid (ptT p = Z)) (hZ : Z.length ≤ 70368744177664) (HX : Hid (∀ x ∈ p.hs, ∀ sg, (sidL sg false false x.ls).flatten.length ≤ 70368744177664)) :
    Calls Tryd.prog 6 #[ptV p v] w fun e w' => e = .returned (.tuple #[.string ⟨Z.toArray⟩, .int .i64 r]) ∧ Below w.heap.size w w' := by
  obtain ⟨lo, lc, rfl⟩ := Holds.form hv.row
  have HO := fun h => (wrg_out (p := p) h)
  obtain ⟨old, new, hs⟩ := p
  dsimp only at HQ ho hn HX
  have hql : hs.length = q.length := (by rw [← HQ.out, List.length_map])
  have hZZ := HZ.out
  unfold ptT at hZZ
  rw [HR.out] at hZZ
  have hBm : Below w.heap.size w (w.alloc (.cells #[.string ⟨old.toArray⟩, .string ⟨new.toArray⟩, .slice lo q.length lc] 24)) := (Below.refl _ w).alloc (Nat.le_refl _) _
  have hMx : Px (w.alloc (.cells #[.string ⟨old.toArray⟩, .string ⟨new.toArray⟩, .slice lo q.length lc] 24)) w.heap.size ⟨old, new, hs⟩ (.slice lo q.length lc) := heap_alloc_new w _
  have hvm := hv.keep hBm (Nat.le_refl _)
  have hc := rWrong_f ⟨old, new, hs⟩ q HQ (.slice lo q.length lc) _ hvm hok ho hn r HR
  have e : ptV ⟨old, new, hs⟩ (.slice lo q.length lc) = .agg #[.string ⟨old.toArray⟩, .string ⟨new.toArray⟩, .slice lo q.length lc] := rfl
  rw [e] at hc ⊢
  obtain ⟨d0, d1, d2⟩ := hMx.cells
  clear e hvm
  by_cases hr0 : r = 0
  · subst hr0
    rw [if_pos rfl] at hZZ
    obtain ⟨o1, o2, o3, o4⟩ := HO HR.out
    dsimp only at o1 o2 o3 o4
    have HCh : Hid (∀ x ∈ hs, chkH x = 0) := o4
    clear o4 HO
    by_cases hq0 : q.length = 0
    · have HE : Hid ([] = Z) := (by
        show _ = _
        rw [← hZZ]
        have : hs = [] := List.eq_nil_of_length_eq_zero (by omega)
        rw [this]
        rfl)
      have i1 : ((q.length : Int) == 0) = true := (by rw [hq0]; rfl)
      clear hZZ HZ hq0 hql
      go_enter Tryd.func6, Tryd.ntmps6
      go_wp2_with fail
      refine hc.mono ?_
      rintro e w1 ⟨rfl, hB1⟩
      have hM1 := hMx.low hB1
      clear d0 d1 d2
      obtain ⟨d0, d1, d2⟩ := hM1.cells
      go_wp2
      go_ret2
      exact ⟨by rw [← HE.out]; rfl, hBm.trans (hB1.mono hBm.size)⟩
    · have hne : hs ≠ [] := (by intro e; rw [e] at hql; simp at hql; omega)
      rw [pt_lines (p := ⟨old, new, hs⟩) hne] at hZZ
      dsimp only at hZZ
      obtain ⟨N1, hN1⟩ : ∃ Y, nameT old = Y := ⟨_, rfl⟩
      obtain ⟨N2, hN2⟩ : ∃ Y, nameT new = Y := ⟨_, rfl⟩
      obtain ⟨U1, hU1⟩ : ∃ Y, [42, 42, 42, 32] ++ N1 = Y := ⟨_, rfl⟩
      obtain ⟨U2, hU2⟩ : ∃ Y, U1 ++ [10, 45, 45, 45, 32] = Y := ⟨_, rfl⟩
      obtain ⟨U3, hU3⟩ : ∃ Y, U2 ++ N2 = Y := ⟨_, rfl⟩
      obtain ⟨Z2, hZ2⟩ : ∃ Y, U3 ++ [10] = Y := ⟨_, rfl⟩
      have HE : Hid (Z2 ++ (((q.map (·.1)).drop 0).flatMap hkL).flatten = Z) := (by
        show _ = _
        rw [← hZZ, ← hZ2, ← hU3, ← hU2, ← hU1, hN1, hN2, HQ.out, List.drop_zero]
        simp)
      have n1 := name_len old
      have n2 := name_len new
      rw [hN1] at n1
      rw [hN2] at n2
      have u1 := congrArg List.length hU1
      have u2 := congrArg List.length hU2
      have u3 := congrArg List.length hU3
      simp only [List.length_append, List.length_cons, List.length_nil] at u1 u2 u3
      have q1 := add_fits (x := [42, 42, 42, 32]) (y := N1) (by unfold Fits; simp only [List.length_cons, List.length_nil]; omega) Tryd.prog
      have q2 := add_fits (x := U1) (y := [10, 45, 45, 45, 32]) (by unfold Fits; simp only [List.length_cons, List.length_nil]; omega) Tryd.prog
      have q3 := add_fits (x := U2) (y := N2) (by unfold Fits; omega) Tryd.prog
      have q4 := add_fits (x := U3) (y := [10]) (by unfold Fits; simp only [List.length_cons, List.length_nil]; omega) Tryd.prog
      rw [hU1] at q1
      rw [hU2] at q2
      rw [hU3] at q3
      rw [hZ2] at q4
      have i1 : ((q.length : Int) == 0) = false := beq_eq_false_iff_ne.2 (by omega)
      have hq4 : q.length ≤ 4096 := by omega
      have HN1 : Hid (nameT old = N1) := hN1
      have HN2 : Hid (nameT new = N2) := hN2
      clear hZZ HZ hq0 hql n1 n2 hN1 hN2 hU1 hU2 hU3 hZ2 hne o3 u1 u2 u3
      go_enter Tryd.func6, Tryd.ntmps6
      go_wp2_with fail
      refine hc.mono ?_
      rintro e W1 ⟨rfl, hB1⟩
      have hPx := hMx.low hB1
      have hBw1 := hBm.trans (hB1.mono hBm.size)
      clear d0 d1 d2 hBm hMx hB1 hc
      generalize w.heap.size = M at hPx ⊢
      obtain ⟨d0, d1, d2⟩ := hPx.cells
      have HCn1 : Hid (∀ u, Below W1.heap.size W1 u → Calls Tryd.prog 15 (#[.string ⟨old.toArray⟩] ++ #[]) u fun e w2 => ∃ v2, e = .returned v2 ∧ Below W1.heap.size W1 w2 ∧ v2 = .string ⟨N1.toArray⟩) := (by
        intro u hu
        refine (rName_f old u ho N1 HN1).mono ?_
        rintro e w2 ⟨rfl, h⟩
        exact ⟨_, rfl, hu.trans (h.mono hu.size), rfl⟩)
      have HCn2 : Hid (∀ u, Below W1.heap.size W1 u → Calls Tryd.prog 15 (#[.string ⟨new.toArray⟩] ++ #[]) u fun e w2 => ∃ v2, e = .returned v2 ∧ Below W1.heap.size W1 w2 ∧ v2 = .string ⟨N2.toArray⟩) := (by
        intro u hu
        refine (rName_f new u hn N2 HN2).mono ?_
        rintro e w2 ⟨rfl, h⟩
        exact ⟨_, rfl, hu.trans (h.mono hu.size), rfl⟩)
      go_upto_region 4 with fail
      refine wp_region_noPanic ?_
      refine wp_region_held_drew (S := fun u => Below W1.heap.size W1 u) (by kernel_rfl) ((Below.refl _ W1).drew) (fun hHeld => ?_)
      generalize W1.drew = wd at hHeld ⊢
      refine go_take 0 19 _ (.pointer (some ⟨M, 0, none⟩)) rfl (by kernel_rfl) (by kernel_rfl) (by kernel_rfl) (by kernel_rfl) (fun _ _ _ h => h) (Or.inl ⟨by kernel_rfl, fun u hu => by kernel_rfl⟩) hHeld ?_
      simp only [Act.put, List.setIfInBounds_toArray, List.set_cons_zero, List.set_cons_succ]
      refine go_take 1 20 _ (.string ⟨old.toArray⟩) rfl (by kernel_rfl) (by kernel_rfl) (by kernel_rfl) (by kernel_rfl) (fun _ _ _ h => h) (Or.inl ⟨by kernel_rfl, fun u hu => cw_str (hPx.low hu).cells.1 (.tmp 19) (by kernel_rfl) (by kernel_rfl)⟩) hHeld ?_
      simp only [Act.put, List.setIfInBounds_toArray, List.set_cons_zero, List.set_cons_succ]
      refine go_take 5 24 _ (.pointer (some ⟨M, 1, none⟩)) rfl (by kernel_rfl) (by kernel_rfl) (by kernel_rfl) (by kernel_rfl) (fun _ _ _ h => h) (Or.inl ⟨by kernel_rfl, fun u hu => by kernel_rfl⟩) hHeld ?_
      simp only [Act.put, List.setIfInBounds_toArray, List.set_cons_zero, List.set_cons_succ]
      refine go_take 6 25 _ (.string ⟨new.toArray⟩) rfl (by kernel_rfl) (by kernel_rfl) (by kernel_rfl) (by kernel_rfl) (fun _ _ _ h => h) (Or.inl ⟨by kernel_rfl, fun u hu => cw_str (hPx.low hu).cells.2.1 (.tmp 24) (by kernel_rfl) (by kernel_rfl)⟩) hHeld ?_
      simp only [Act.put, List.setIfInBounds_toArray, List.set_cons_zero, List.set_cons_succ]
      refine go_callE 2 21 _ rfl (by kernel_rfl) (by kernel_rfl) (by kernel_rfl) 15 (.func 15) #[.tmp 20] #[9] (by kernel_rfl) #[] (by kernel_rfl) #[.string ⟨old.toArray⟩] (by kernel_rfl) (enters_of Tryd.func15 (by kernel_rfl) rfl) (fun v2 _ => v2 = .string ⟨N1.toArray⟩) ?_ ?_
      · exact HCn1.out wd hHeld
      rintro _ w2 hw2 rfl
      simp only [Act.put, List.setIfInBounds_toArray, List.set_cons_zero, List.set_cons_succ]
      refine go_take 3 22 _ (.string ⟨U1.toArray⟩) rfl (by kernel_rfl) (by kernel_rfl) (by kernel_rfl) (by kernel_rfl) (fun _ _ _ h => h) (Or.inl ⟨by kernel_rfl, fun u hu => cw_add q1 (.const (.string ⟨#[42, 42, 42, 32]⟩)) (.tmp 21) (by kernel_rfl) (by kernel_rfl) (by kernel_rfl)⟩) hw2 ?_
      simp only [Act.put, List.setIfInBounds_toArray, List.set_cons_zero, List.set_cons_succ]
      refine go_take 4 23 _ (.string ⟨U2.toArray⟩) rfl (by kernel_rfl) (by kernel_rfl) (by kernel_rfl) (by kernel_rfl) (fun _ _ _ h => h) (Or.inl ⟨by kernel_rfl, fun u hu => cw_add q2 (.tmp 22) (.const (.string ⟨#[10, 45, 45, 45, 32]⟩)) (by kernel_rfl) (by kernel_rfl) (by kernel_rfl)⟩) hw2 ?_
      simp only [Act.put, List.setIfInBounds_toArray, List.set_cons_zero, List.set_cons_succ]
      refine go_callE 7 26 _ rfl (by kernel_rfl) (by kernel_rfl) (by kernel_rfl) 15 (.func 15) #[.tmp 25] #[9] (by kernel_rfl) #[] (by kernel_rfl) #[.string ⟨new.toArray⟩] (by kernel_rfl) (enters_of Tryd.func15 (by kernel_rfl) rfl) (fun v2 _ => v2 = .string ⟨N2.toArray⟩) ?_ ?_
      · exact HCn2.out w2 hw2
      rintro _ w3 hw3 rfl
      simp only [Act.put, List.setIfInBounds_toArray, List.set_cons_zero, List.set_cons_succ]
      refine go_take 8 27 _ (.string ⟨U3.toArray⟩) rfl (by kernel_rfl) (by kernel_rfl) (by kernel_rfl) (by kernel_rfl) (fun _ _ _ h => h) (Or.inl ⟨by kernel_rfl, fun u hu => cw_add q3 (.tmp 23) (.tmp 26) (by kernel_rfl) (by kernel_rfl) (by kernel_rfl)⟩) hw3 ?_
      simp only [Act.put, List.setIfInBounds_toArray, List.set_cons_zero, List.set_cons_succ]
      refine go_take 9 28 _ (.string ⟨Z2.toArray⟩) rfl (by kernel_rfl) (by kernel_rfl) (by kernel_rfl) (by kernel_rfl) (fun _ _ _ h => h) (Or.inl ⟨by kernel_rfl, fun u hu => cw_add q4 (.tmp 27) (.const (.string ⟨#[10]⟩)) (by kernel_rfl) (by kernel_rfl) (by kernel_rfl)⟩) hw3 ?_
      simp only [Act.put, List.setIfInBounds_toArray, List.set_cons_zero, List.set_cons_succ]
      refine go_take 10 5 _ (.string ⟨Z2.toArray⟩) rfl (by kernel_rfl) (by kernel_rfl) (by kernel_rfl) (by kernel_rfl) (fun _ _ _ h => h) (Or.inl ⟨by kernel_rfl, fun u hu => by kernel_rfl⟩) hw3 ?_
      simp only [Act.put, List.setIfInBounds_toArray, List.set_cons_zero, List.set_cons_succ]
      refine wpAnyH_done (by kernel_rfl) ?_ _
      refine NoPanic.normal ?_
      clear q1 q2 q3 q4 HCn1 HCn2 hHeld hw2 d0 d1 d2
      go_wp2
      go_loopw [5, 6] (fun s i wr => ∃ (k : Nat) (ac : List UInt8), k ≤ q.length ∧ i = .int .i64 k ∧ s = .string ⟨ac.toArray⟩ ∧ Below W1.heap.size W1 wr ∧ Hid (ac ++ (((q.map (·.1)).drop k).flatMap hkL).flatten = Z)) (fun _ i _ => q.length - (intOf i).toNat)
      case atStart => exact ⟨0, Z2, Nat.zero_le _, rfl, rfl, hw3, HE⟩
      case round =>
      clear HE hw3
      obtain ⟨k, ac, hk, rfl, rfl, hB, HI⟩ := hrel
      obtain ⟨d0, d1, d2⟩ := (hPx.low hB).cells
      by_cases hlt : k < q.length
      · have hv1 := hv.keep hBw1 (Nat.le_refl _)
        obtain ⟨bk, off, rfl, hbk, _⟩ := hv1.at (by omega)
        obtain ⟨h, y, hx⟩ : ∃ h y, q[k] = (h, y) := ⟨_, _, rfl⟩
        obtain ⟨⟨c0, c1, c2, c3, c4⟩, hm⟩ := HHp.take hv1 hB k hlt hx
        obtain ⟨x1, x2⟩ := hok.2 q[k] (List.getElem_mem hlt)
        have hmem : h ∈ hs := (by rw [← HQ.out]; have h2 := List.mem_map_of_mem (f := (·.1)) (List.getElem_mem hlt); rw [hx] at h2; exact h2)
        have hch := HCh.out h hmem
        have hxl := HX.out h hmem
        rw [hx] at x1 x2
        dsimp only at x1 x2
        have hr := (chk_out hch).1
        obtain ⟨r1, r2, r3, r4, r5, r6, rx⟩ := rng_out hr
        obtain ⟨r7, r8⟩ := chk_hi hr
        have HI2 := HI.out
        rw [List.drop_eq_getElem_cons (show k < (q.map (·.1)).length by rw [List.length_map]; exact hlt), List.getElem_map, hx, List.flatMap_cons, List.flatten_append, ← List.append_assoc] at HI2
        dsimp only at HI2
        obtain ⟨yo, yc, rfl⟩ := HMk.form hm
        obtain ⟨A, AN, Bn, BN, ls⟩ := h
        dsimp only at x1 x2 c0 c1 c2 c3 c4 hm r1 r2 r3 r4 r5 r6 r7 r8 hxl
        clear rx hr hch hmem hx HI
        obtain ⟨T1, hT1⟩ : ∃ T, spanT A AN = T := ⟨_, rfl⟩
        obtain ⟨T2, hT2⟩ : ∃ T, spanT Bn BN = T := ⟨_, rfl⟩
        have t1 := span_len (p := A) (n := AN) r1 r2 r7
        have t2 := span_len (p := Bn) (n := BN) r4 r5 r8
        rw [hT1] at t1
        rw [hT2] at t2
        obtain ⟨X1, hX1⟩ : ∃ X, (sideL 45 ls).flatten = X := ⟨_, rfl⟩
        obtain ⟨X2, hX2⟩ : ∃ X, (sideL 43 ls).flatten = X := ⟨_, rfl⟩
        obtain ⟨a1, e1⟩ : ∃ Y, ac ++ starsT = Y := ⟨_, rfl⟩
        obtain ⟨a2, e2⟩ : ∃ Y, a1 ++ [10, 42, 42, 42, 32] = Y := ⟨_, rfl⟩
        obtain ⟨a3, e3⟩ : ∃ Y, a2 ++ T1 = Y := ⟨_, rfl⟩
        obtain ⟨a4, e4⟩ : ∃ Y, a3 ++ [32, 42, 42, 42, 42, 10] = Y := ⟨_, rfl⟩
        obtain ⟨a5, e5⟩ : ∃ Y, a4 ++ X1 = Y := ⟨_, rfl⟩
        obtain ⟨a6, e6⟩ : ∃ Y, a5 ++ [45, 45, 45, 32] = Y := ⟨_, rfl⟩
        obtain ⟨a7, e7⟩ : ∃ Y, a6 ++ T2 = Y := ⟨_, rfl⟩
        obtain ⟨a8, e8⟩ : ∃ Y, a7 ++ [32, 45, 45, 45, 45, 10] = Y := ⟨_, rfl⟩
        obtain ⟨a9, e9⟩ : ∃ Y, a8 ++ X2 = Y := ⟨_, rfl⟩
        have HI3 : Hid (a9 ++ (((q.map (·.1)).drop (k + 1)).flatMap hkL).flatten = Z) := (by
          show _ = _
          rw [← HI2, ← e9, ← e8, ← e7, ← e6, ← e5, ← e4, ← e3, ← e2, ← e1, ← hX1, ← hX2, ← hT1, ← hT2]
          simp [hkL, rlT])
        have l9 := congrArg List.length HI3.out
        have m9 := congrArg List.length e9
        have m8 := congrArg List.length e8
        have m7 := congrArg List.length e7
        have m6 := congrArg List.length e6
        have m5 := congrArg List.length e5
        have m4 := congrArg List.length e4
        have m3 := congrArg List.length e3
        have m2 := congrArg List.length e2
        have m1 := congrArg List.length e1
        simp only [List.length_append] at l9 m9 m8 m7 m6 m5 m4 m3 m2 m1
        have q1 := add_fits (x := ac) (y := starsT) (by unfold Fits; omega) Tryd.prog
        have q2 := add_fits (x := a1) (y := [10, 42, 42, 42, 32]) (by unfold Fits; omega) Tryd.prog
        have q3 := add_fits (x := a2) (y := T1) (by unfold Fits; omega) Tryd.prog
        have q4 := add_fits (x := a3) (y := [32, 42, 42, 42, 42, 10]) (by unfold Fits; omega) Tryd.prog
        have q5 := add_fits (x := a4) (y := X1) (by unfold Fits; omega) Tryd.prog
        have q6 := add_fits (x := a5) (y := [45, 45, 45, 32]) (by unfold Fits; omega) Tryd.prog
        have q7 := add_fits (x := a6) (y := T2) (by unfold Fits; omega) Tryd.prog
        have q8 := add_fits (x := a7) (y := [32, 45, 45, 45, 45, 10]) (by unfold Fits; omega) Tryd.prog
        have q9 := add_fits (x := a8) (y := X2) (by unfold Fits; omega) Tryd.prog
        rw [e1] at q1
        rw [e2] at q2
        rw [e3] at q3
        rw [e4] at q4
        rw [e5] at q5
        rw [e6] at q6
        rw [e7] at q7
        rw [e8] at q8
        rw [e9] at q9
        have hBn : Below wr.heap.size wr (wr.alloc (.cells #[.int .i64 A, .int .i64 AN, .int .i64 Bn, .int .i64 BN, .slice yo ls.length yc] 44)) := (Below.refl _ wr).alloc (Nat.le_refl _) _
        have hHx : Hx (wr.alloc (.cells #[.int .i64 A, .int .i64 AN, .int .i64 Bn, .int .i64 BN, .slice yo ls.length yc] 44)) wr.heap.size ⟨A, AN, Bn, BN, ls⟩ (.slice yo ls.length yc) := heap_alloc_new wr _
        have hmm := hm.keep hBn (Nat.le_refl _)
        have hBm := hB.trans (hBn.mono hB.size)
        have i4 : (0 : Int) ≤ (k : Int) := by omega
        have i5 : (k : Int) < (q.length : Int) := by omega
        have hkv : hkV ⟨A, AN, Bn, BN, ls⟩ (.slice yo ls.length yc) = .agg #[.int .i64 A, .int .i64 AN, .int .i64 Bn, .int .i64 BN, .slice yo ls.length yc] := rfl
        have HS1 := fun (sg : Int) (hsg : sg = 45 ∨ sg = 43) (u : World) (hu : HMk u (.slice yo ls.length yc) ls) (X : List UInt8) (hX : (sideL sg ls).flatten = X) => rside_f ⟨A, AN, Bn, BN, ls⟩ (.slice yo ls.length yc) sg hsg u hu x1 x2 X hX _ rfl (Nat.le_trans (hxl sg) (by decide))
        rw [hkv] at HS1
        clear l9 m9 m8 m7 m6 m5 m4 m3 m2 m1 e1 e2 e3 e4 e5 e6 e7 e8 e9 HI2 hm hkv
        go_upto_region 9 with fail
        generalize wr.alloc (.cells #[.int .i64 A, .int .i64 AN, .int .i64 Bn, .int .i64 BN, .slice yo ls.length yc] 44) = Wm at hHx hmm hBm hBn ⊢
        generalize wr.heap.size = Mh at hHx ⊢
        have HC1 : Hid (∀ u, Below Wm.heap.size Wm u → Calls Tryd.prog 16 (#[.int .i64 A, .int .i64 AN] ++ #[]) u fun e w2 => ∃ v2, e = .returned v2 ∧ Below Wm.heap.size Wm w2 ∧ v2 = .string ⟨T1.toArray⟩) := (by
          intro u hu
          refine (rspan_f A AN r1 (by omega) r3 (by omega) u T1 hT1).mono ?_
          rintro e w2 ⟨rfl, h⟩
          exact ⟨_, rfl, hu.trans (h.mono hu.size), rfl⟩)
        have HC3 : Hid (∀ u, Below Wm.heap.size Wm u → Calls Tryd.prog 16 (#[.int .i64 Bn, .int .i64 BN] ++ #[]) u fun e w2 => ∃ v2, e = .returned v2 ∧ Below Wm.heap.size Wm w2 ∧ v2 = .string ⟨T2.toArray⟩) := (by
          intro u hu
          refine (rspan_f Bn BN r4 (by omega) r6 (by omega) u T2 hT2).mono ?_
          rintro e w2 ⟨rfl, h⟩
          exact ⟨_, rfl, hu.trans (h.mono hu.size), rfl⟩)
        have HC2 : Hid (∀ u, Below Wm.heap.size Wm u → Calls Tryd.prog 17 (#[.agg #[.int .i64 A, .int .i64 AN, .int .i64 Bn, .int .i64 BN, .slice yo ls.length yc], .int .u8 45] ++ #[]) u fun e w2 => ∃ v2, e = .returned v2 ∧ Below Wm.heap.size Wm w2 ∧ v2 = .string ⟨X1.toArray⟩) := (by
          intro u hu
          refine (HS1 45 (.inl rfl) u (hmm.keep hu (Nat.le_refl _)) X1 hX1).mono ?_
          rintro e w2 ⟨rfl, h⟩
          exact ⟨_, rfl, hu.trans (h.mono hu.size), rfl⟩)
        have HC4 : Hid (∀ u, Below Wm.heap.size Wm u → Calls Tryd.prog 17 (#[.agg #[.int .i64 A, .int .i64 AN, .int .i64 Bn, .int .i64 BN, .slice yo ls.length yc], .int .u8 43] ++ #[]) u fun e w2 => ∃ v2, e = .returned v2 ∧ Below Wm.heap.size Wm w2 ∧ v2 = .string ⟨X2.toArray⟩) := (by
          intro u hu
          refine (HS1 43 (.inr rfl) u (hmm.keep hu (Nat.le_refl _)) X2 hX2).mono ?_
          rintro e w2 ⟨rfl, h⟩
          exact ⟨_, rfl, hu.trans (h.mono hu.size), rfl⟩)
        clear HS1 hX1 hX2 hT1 hT2 c0 c1 c2 c3 c4 d0 d1 d2 hxl r1 r2 r3 r4 r5 r6 r7 r8 t1 t2
        refine wp_region_noPanic ?_
        refine wp_region_held_drew (S := fun u => Below Wm.heap.size Wm u) (by kernel_rfl) ((Below.refl _ Wm).drew) (fun hHeld => ?_)
        generalize Wm.drew = wd at hHeld ⊢
        refine go_take 0 41 _ (.string ⟨ac.toArray⟩) rfl (by kernel_rfl) (by kernel_rfl) (by kernel_rfl) (by kernel_rfl) (fun _ _ _ h => h) (Or.inl ⟨by kernel_rfl, fun u hu => by kernel_rfl⟩) hHeld ?_
        simp only [Act.put, List.setIfInBounds_toArray, List.set_cons_zero, List.set_cons_succ]
        refine go_take 1 42 _ (.string ⟨a1.toArray⟩) rfl (by kernel_rfl) (by kernel_rfl) (by kernel_rfl) (by kernel_rfl) (fun _ _ _ h => h) (Or.inl ⟨by kernel_rfl, fun u hu => cw_add q1 (.tmp 41) (.const (.string ⟨#[42, 42, 42, 42, 42, 42, 42, 42, 42, 42, 42, 42, 42, 42, 42]⟩)) (by kernel_rfl) (by kernel_rfl) (by kernel_rfl)⟩) hHeld ?_
        simp only [Act.put, List.setIfInBounds_toArray, List.set_cons_zero, List.set_cons_succ]
        refine go_take 2 43 _ (.string ⟨a2.toArray⟩) rfl (by kernel_rfl) (by kernel_rfl) (by kernel_rfl) (by kernel_rfl) (fun _ _ _ h => h) (Or.inl ⟨by kernel_rfl, fun u hu => cw_add q2 (.tmp 42) (.const (.string ⟨#[10, 42, 42, 42, 32]⟩)) (by kernel_rfl) (by kernel_rfl) (by kernel_rfl)⟩) hHeld ?_
        simp only [Act.put, List.setIfInBounds_toArray, List.set_cons_zero, List.set_cons_succ]
        refine go_take 3 44 _ (.pointer (some ⟨Mh, 0, none⟩)) rfl (by kernel_rfl) (by kernel_rfl) (by kernel_rfl) (by kernel_rfl) (fun _ _ _ h => h) (Or.inl ⟨by kernel_rfl, fun u hu => by kernel_rfl⟩) hHeld ?_
        simp only [Act.put, List.setIfInBounds_toArray, List.set_cons_zero, List.set_cons_succ]
        refine go_take 4 45 _ (.int .i64 A) rfl (by kernel_rfl) (by kernel_rfl) (by kernel_rfl) (by kernel_rfl) (fun _ _ _ h => h) (Or.inl ⟨by kernel_rfl, fun u hu => load_int (hHx.low hu).cells.1 (.tmp 44) (by kernel_rfl) (by kernel_rfl)⟩) hHeld ?_
        simp only [Act.put, List.setIfInBounds_toArray, List.set_cons_zero, List.set_cons_succ]
        refine go_take 5 46 _ (.pointer (some ⟨Mh, 1, none⟩)) rfl (by kernel_rfl) (by kernel_rfl) (by kernel_rfl) (by kernel_rfl) (fun _ _ _ h => h) (Or.inl ⟨by kernel_rfl, fun u hu => by kernel_rfl⟩) hHeld ?_
        simp only [Act.put, List.setIfInBounds_toArray, List.set_cons_zero, List.set_cons_succ]
        refine go_take 6 47 _ (.int .i64 AN) rfl (by kernel_rfl) (by kernel_rfl) (by kernel_rfl) (by kernel_rfl) (fun _ _ _ h => h) (Or.inl ⟨by kernel_rfl, fun u hu => load_int (hHx.low hu).cells.2.1 (.tmp 46) (by kernel_rfl) (by kernel_rfl)⟩) hHeld ?_
        simp only [Act.put, List.setIfInBounds_toArray, List.set_cons_zero, List.set_cons_succ]
        refine go_take 10 51 _ (.agg #[.int .i64 A, .int .i64 AN, .int .i64 Bn, .int .i64 BN, .slice yo ls.length yc]) rfl (by kernel_rfl) (by kernel_rfl) (by kernel_rfl) (by kernel_rfl) (fun _ _ _ h => h) (Or.inl ⟨by kernel_rfl, fun u hu => cw_hk (hHx.low hu) (.tmp 7) (by kernel_rfl) (by kernel_rfl)⟩) hHeld ?_
        simp only [Act.put, List.setIfInBounds_toArray, List.set_cons_zero, List.set_cons_succ]
        refine go_take 14 55 _ (.pointer (some ⟨Mh, 2, none⟩)) rfl (by kernel_rfl) (by kernel_rfl) (by kernel_rfl) (by kernel_rfl) (fun _ _ _ h => h) (Or.inl ⟨by kernel_rfl, fun u hu => by kernel_rfl⟩) hHeld ?_
        simp only [Act.put, List.setIfInBounds_toArray, List.set_cons_zero, List.set_cons_succ]
        refine go_take 15 56 _ (.int .i64 Bn) rfl (by kernel_rfl) (by kernel_rfl) (by kernel_rfl) (by kernel_rfl) (fun _ _ _ h => h) (Or.inl ⟨by kernel_rfl, fun u hu => load_int (hHx.low hu).cells.2.2.1 (.tmp 55) (by kernel_rfl) (by kernel_rfl)⟩) hHeld ?_
        simp only [Act.put, List.setIfInBounds_toArray, List.set_cons_zero, List.set_cons_succ]
        refine go_take 16 57 _ (.pointer (some ⟨Mh, 3, none⟩)) rfl (by kernel_rfl) (by kernel_rfl) (by kernel_rfl) (by kernel_rfl) (fun _ _ _ h => h) (Or.inl ⟨by kernel_rfl, fun u hu => by kernel_rfl⟩) hHeld ?_
        simp only [Act.put, List.setIfInBounds_toArray, List.set_cons_zero, List.set_cons_succ]
        refine go_take 17 58 _ (.int .i64 BN) rfl (by kernel_rfl) (by kernel_rfl) (by kernel_rfl) (by kernel_rfl) (fun _ _ _ h => h) (Or.inl ⟨by kernel_rfl, fun u hu => load_int (hHx.low hu).cells.2.2.2.1 (.tmp 57) (by kernel_rfl) (by kernel_rfl)⟩) hHeld ?_
        simp only [Act.put, List.setIfInBounds_toArray, List.set_cons_zero, List.set_cons_succ]
        refine go_take 21 62 _ (.agg #[.int .i64 A, .int .i64 AN, .int .i64 Bn, .int .i64 BN, .slice yo ls.length yc]) rfl (by kernel_rfl) (by kernel_rfl) (by kernel_rfl) (by kernel_rfl) (fun _ _ _ h => h) (Or.inl ⟨by kernel_rfl, fun u hu => cw_hk (hHx.low hu) (.tmp 7) (by kernel_rfl) (by kernel_rfl)⟩) hHeld ?_
        simp only [Act.put, List.setIfInBounds_toArray, List.set_cons_zero, List.set_cons_succ]
        refine go_callE 7 48 _ rfl (by kernel_rfl) (by kernel_rfl) (by kernel_rfl) 16 (.func 16) #[.tmp 45, .tmp 47] #[3, 3] (by kernel_rfl) #[] (by kernel_rfl) #[.int .i64 A, .int .i64 AN] (by kernel_rfl) (enters_of Tryd.func16 (by kernel_rfl) rfl) (fun v2 _ => v2 = .string ⟨T1.toArray⟩) ?_ ?_
        · exact HC1.out wd hHeld
        rintro _ w2 hw2 rfl
        simp only [Act.put, List.setIfInBounds_toArray, List.set_cons_zero, List.set_cons_succ]
        refine go_take 8 49 _ (.string ⟨a3.toArray⟩) rfl (by kernel_rfl) (by kernel_rfl) (by kernel_rfl) (by kernel_rfl) (fun _ _ _ h => h) (Or.inl ⟨by kernel_rfl, fun u hu => cw_add q3 (.tmp 43) (.tmp 48) (by kernel_rfl) (by kernel_rfl) (by kernel_rfl)⟩) hw2 ?_
        simp only [Act.put, List.setIfInBounds_toArray, List.set_cons_zero, List.set_cons_succ]
        refine go_take 9 50 _ (.string ⟨a4.toArray⟩) rfl (by kernel_rfl) (by kernel_rfl) (by kernel_rfl) (by kernel_rfl) (fun _ _ _ h => h) (Or.inl ⟨by kernel_rfl, fun u hu => cw_add q4 (.tmp 49) (.const (.string ⟨#[32, 42, 42, 42, 42, 10]⟩)) (by kernel_rfl) (by kernel_rfl) (by kernel_rfl)⟩) hw2 ?_
        simp only [Act.put, List.setIfInBounds_toArray, List.set_cons_zero, List.set_cons_succ]
        refine go_callE 11 52 _ rfl (by kernel_rfl) (by kernel_rfl) (by kernel_rfl) 17 (.func 17) #[.tmp 51, .const (.int .u8 45)] #[44, 5] (by kernel_rfl) #[] (by kernel_rfl) #[.agg #[.int .i64 A, .int .i64 AN, .int .i64 Bn, .int .i64 BN, .slice yo ls.length yc], .int .u8 45] (by kernel_rfl) (enters_of Tryd.func17 (by kernel_rfl) rfl) (fun v2 _ => v2 = .string ⟨X1.toArray⟩) ?_ ?_
        · exact HC2.out w2 hw2
        rintro _ w3 hw3 rfl
        simp only [Act.put, List.setIfInBounds_toArray, List.set_cons_zero, List.set_cons_succ]
        refine go_take 12 53 _ (.string ⟨a5.toArray⟩) rfl (by kernel_rfl) (by kernel_rfl) (by kernel_rfl) (by kernel_rfl) (fun _ _ _ h => h) (Or.inl ⟨by kernel_rfl, fun u hu => cw_add q5 (.tmp 50) (.tmp 52) (by kernel_rfl) (by kernel_rfl) (by kernel_rfl)⟩) hw3 ?_
        simp only [Act.put, List.setIfInBounds_toArray, List.set_cons_zero, List.set_cons_succ]
        refine go_take 13 54 _ (.string ⟨a6.toArray⟩) rfl (by kernel_rfl) (by kernel_rfl) (by kernel_rfl) (by kernel_rfl) (fun _ _ _ h => h) (Or.inl ⟨by kernel_rfl, fun u hu => cw_add q6 (.tmp 53) (.const (.string ⟨#[45, 45, 45, 32]⟩)) (by kernel_rfl) (by kernel_rfl) (by kernel_rfl)⟩) hw3 ?_
        simp only [Act.put, List.setIfInBounds_toArray, List.set_cons_zero, List.set_cons_succ]
        refine go_callE 18 59 _ rfl (by kernel_rfl) (by kernel_rfl) (by kernel_rfl) 16 (.func 16) #[.tmp 56, .tmp 58] #[3, 3] (by kernel_rfl) #[] (by kernel_rfl) #[.int .i64 Bn, .int .i64 BN] (by kernel_rfl) (enters_of Tryd.func16 (by kernel_rfl) rfl) (fun v2 _ => v2 = .string ⟨T2.toArray⟩) ?_ ?_
        · exact HC3.out w3 hw3
        rintro _ w4 hw4 rfl
        simp only [Act.put, List.setIfInBounds_toArray, List.set_cons_zero, List.set_cons_succ]
        refine go_take 19 60 _ (.string ⟨a7.toArray⟩) rfl (by kernel_rfl) (by kernel_rfl) (by kernel_rfl) (by kernel_rfl) (fun _ _ _ h => h) (Or.inl ⟨by kernel_rfl, fun u hu => cw_add q7 (.tmp 54) (.tmp 59) (by kernel_rfl) (by kernel_rfl) (by kernel_rfl)⟩) hw4 ?_
        simp only [Act.put, List.setIfInBounds_toArray, List.set_cons_zero, List.set_cons_succ]
        refine go_take 20 61 _ (.string ⟨a8.toArray⟩) rfl (by kernel_rfl) (by kernel_rfl) (by kernel_rfl) (by kernel_rfl) (fun _ _ _ h => h) (Or.inl ⟨by kernel_rfl, fun u hu => cw_add q8 (.tmp 60) (.const (.string ⟨#[32, 45, 45, 45, 45, 10]⟩)) (by kernel_rfl) (by kernel_rfl) (by kernel_rfl)⟩) hw4 ?_
        simp only [Act.put, List.setIfInBounds_toArray, List.set_cons_zero, List.set_cons_succ]
        refine go_callE 22 63 _ rfl (by kernel_rfl) (by kernel_rfl) (by kernel_rfl) 17 (.func 17) #[.tmp 62, .const (.int .u8 43)] #[44, 5] (by kernel_rfl) #[] (by kernel_rfl) #[.agg #[.int .i64 A, .int .i64 AN, .int .i64 Bn, .int .i64 BN, .slice yo ls.length yc], .int .u8 43] (by kernel_rfl) (enters_of Tryd.func17 (by kernel_rfl) rfl) (fun v2 _ => v2 = .string ⟨X2.toArray⟩) ?_ ?_
        · exact HC4.out w4 hw4
        rintro _ w5 hw5 rfl
        simp only [Act.put, List.setIfInBounds_toArray, List.set_cons_zero, List.set_cons_succ]
        refine go_take 23 64 _ (.string ⟨a9.toArray⟩) rfl (by kernel_rfl) (by kernel_rfl) (by kernel_rfl) (by kernel_rfl) (fun _ _ _ h => h) (Or.inl ⟨by kernel_rfl, fun u hu => cw_add q9 (.tmp 61) (.tmp 63) (by kernel_rfl) (by kernel_rfl) (by kernel_rfl)⟩) hw5 ?_
        simp only [Act.put, List.setIfInBounds_toArray, List.set_cons_zero, List.set_cons_succ]
        refine go_take 24 5 _ (.string ⟨a9.toArray⟩) rfl (by kernel_rfl) (by kernel_rfl) (by kernel_rfl) (by kernel_rfl) (fun _ _ _ h => h) (Or.inl ⟨by kernel_rfl, fun u hu => by kernel_rfl⟩) hw5 ?_
        simp only [Act.put, List.setIfInBounds_toArray, List.set_cons_zero, List.set_cons_succ]
        refine wpAnyH_done (by kernel_rfl) ?_ _
        refine NoPanic.normal ?_
        clear q1 q2 q3 q4 q5 q6 q7 q8 q9 HC1 HC2 HC3 HC4 hHeld hw2 hw3 hw4
        go_wp2
        exact ⟨⟨k + 1, a9, by omega, by go_num, rfl, hBm.trans (hw5.mono hBm.size), HI3⟩, by simp [intOf]; omega⟩
      · have hend : ¬ (k : Int) < (q.length : Int) := by omega
        have hE : ac = Z := (by
          have h := HI.out
          rw [List.drop_of_length_le (by rw [List.length_map]; omega)] at h
          simpa using h)
        subst hE
        clear HI
        go_wp2
        go_ret2
        exact ⟨rfl, hBw1.trans (hB.mono hBw1.size)⟩
  · rw [if_neg hr0] at hZZ
    have HE : Hid ([] = Z) := hZZ
    have e1 : (r != 0) = true := bne_iff_ne.2 hr0
    clear hZZ HZ HO hr0
    go_enter Tryd.func6, Tryd.ntmps6
    go_wp2_with fail
    refine hc.mono ?_
    rintro e w1 ⟨rfl, hB1⟩
    go_wp2
    go_ret2
    exact ⟨by rw [← HE.out]; rfl, hBm.trans (hB1.mono hBm.size)⟩
end Go.Proofs.YtgckmdncpkhiiaaDoor
