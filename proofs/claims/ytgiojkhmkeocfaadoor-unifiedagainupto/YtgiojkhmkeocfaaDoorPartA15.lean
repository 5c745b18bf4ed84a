/-
  Texts that belong together, joined: CwH, CwI, NpT, CrS, CpQ, CpW, CpX, CpY, UnMath.
-/
import Derived.Test.YtgiojkhmkeocfaaDoorPartA14
import Derived.Test.YtgiojkhmkeocfaaDoorPartA5
import Derived.Test.YtgiojkhmkeocfaaDoorPartA9
import Derived.Test.YtgiojkhmkeocfaaDoorPartA11
import Derived.Test.YtgiojkhmkeocfaaDoorPartA12
import Derived.Test.YtgiojkhmkeocfaaDoorPartA6

/- The code's text of a hunk, check and Print of layer 15, walked. -/
namespace Go.Proofs.YtgiojkhmkeocfaaDoor
open Go.RowKit Go.Proofs.YtgiojkhmkeocfaaDoor

theorem Hx.wr {B b : Nat} {v v' : Value} {w w' : World} {M : Nat} {h : Hk} {y : Value} (q : Hx w M h y) (hw : Wr B b v v' w w') (ho : Off M b v) : Hx w' M h y ∧ Off M b v' := hw.block q ho
theorem shown_keep {B b base : Nat} {v : Value} {w : World} {sv : Value} {n : Nat} {xs : List Value} (h : w.ownsRow base 5 1 sv n xs) (hb : b < base) (hv : ∀ g, v.ownBlock = some g → g < base) : ∀ (v' : Value) (u : World), Wr B b v v' w u → Holds u sv n xs := by
  intro v' u hw
  rcases h.2 with ⟨rfl, h0⟩ | ⟨g, cap, cur, rfl, hg, hgb, hnc, _⟩
  · exact .inl ⟨rfl, h0, List.eq_nil_of_length_eq_zero (by rw [h.1, h0, Nat.zero_mul])⟩
  · refine .inr ⟨⟨g, 0, none⟩, cap, rfl, hnc, fun j x hj => ?_⟩
    have h1 := h.cells (g := g) rfl j x hj
    obtain ⟨h2, _⟩ := hw.block hgb ⟨by omega, fun e => by have := hv g e; omega⟩
    rw [add_none] at h1 ⊢
    rw [World.cell?_of_block (w := w) (by show u.heap[g]? = w.heap[g]?; rw [h2, hgb])]
    exact h1
theorem shw_signs (l : List Mk) (h : ∀ m ∈ l, okS m.sg = true) : ∀ r a, ∀ x ∈ shwL r a l, 0 ≤ x ∧ x < 256 := by
  induction l with
  | nil => intro r a x hx; cases hx
  | cons m l ih =>
    intro r a x hx
    have hi := ih fun y hy => h y (by simp [hy])
    have hm := h m (by simp)
    have hc : m.sg = 32 ∨ m.sg = 45 ∨ m.sg = 43 := by simp [okS] at hm; omega
    simp only [shwL] at hx
    split at hx
    · rcases List.mem_cons.1 hx with rfl | hx
      · omega
      · exact hi _ _ x hx
    · rcases List.mem_cons.1 hx with rfl | hx
      · split <;> omega
      · exact hi _ _ x hx
theorem side_code0 (sg : Int) (l : List Mk) : (if hasM sg l = true then sidZ sg l (shwL false false l) else []) = sideL sg l := by
  unfold sideL
  rw [sid_shw]
  rfl
theorem chk_signs {h : Hk} (hc : chkH h = 0) : ∀ m ∈ h.ls, okS m.sg = true := by
  obtain ⟨_, hf, _⟩ := chk_out hc
  exact fun m hm => (((fld_iff _).1 hf).1 m hm).2
theorem row_len (e : UInt8) (T : List UInt8) : ([e, e, e, 32] ++ T ++ [32, e, e, e, e]).length = T.length + 9 := by simp
set_option maxHeartbeats 8000000 in
set_option maxRecDepth 100000 in
theorem chunk_f (B b : Nat) (v : Value) (h : Hk) (y : Value) (acc Z : List UInt8) (w : World) (hP : Pg B b v acc w) (hBw : B ≤ w.heap.size) (hll : h.ls.length ≤ 1099511627776) (HTx : Hid (∀ m ∈ h.ls, m.tx.length ≤ 1099511627776)) (HC : Hid (chkH h = 0))
    (HL : Hid (∀ u, Below B w u → HMk u y h.ls)) (HT : Hid (∀ u, Below B w u → Tab10 u)) (HZ : Hid (acc ++ (hkL h).flatten = Z)) (hZ : Z.length ≤ 70368744177664) :
    Calls Tryd.prog 54 #[.pointer (some ⟨b, 0, none⟩), hkV h y] w fun e w' => e = .returned (.tuple #[]) ∧ ∃ v', Pg B b v' Z w' ∧ Wr B b v v' w w' := by
  obtain ⟨lo, lc, rfl⟩ := HMk.form (HL.out w (Below.refl _ _))
  have HSg : Hid (∀ x ∈ shwL false false h.ls, 0 ≤ x ∧ x < 256) := shw_signs _ (chk_signs HC.out) _ _
  have hr := (chk_out HC.out).1
  obtain ⟨r1, r2, r3, r4, r5, r6, rx⟩ := rng_out hr
  clear rx
  obtain ⟨r7, r8⟩ := chk_hi hr
  have hSl := shw_len h.ls false false
  have HS45 := side_code0 45 h.ls
  have HS43 := side_code0 43 h.ls
  obtain ⟨A, AN, Bn, BN, ls⟩ := h
  dsimp only at hll r1 r2 r3 r4 r5 r6 r7 r8 hSl HS45 HS43
  obtain ⟨R, hR⟩ : ∃ R, shwL false false ls = R := ⟨_, rfl⟩
  obtain ⟨T1, hT1⟩ : ∃ T, spanT A AN = T := ⟨_, rfl⟩
  obtain ⟨T2, hT2⟩ : ∃ T, spanT Bn BN = T := ⟨_, rfl⟩
  have t1 := span_len (p := A) (n := AN) r1 r2 r7
  have t2 := span_len (p := Bn) (n := BN) r4 r5 r8
  rw [hT1] at t1
  rw [hT2] at t2
  obtain ⟨X1, hX1⟩ : ∃ X, (if hasM 45 ls = true then sidZ 45 ls R else []).flatten = X := ⟨_, rfl⟩
  obtain ⟨X2, hX2⟩ : ∃ X, (if hasM 43 ls = true then sidZ 43 ls R else []).flatten = X := ⟨_, rfl⟩
  obtain ⟨Z1, hZ1⟩ : ∃ Y, acc ++ starsT ++ [10] = Y := ⟨_, rfl⟩
  obtain ⟨U1, hU1⟩ : ∃ Y, [42, 42, 42, 32] ++ T1 = Y := ⟨_, rfl⟩
  obtain ⟨U2, hU2⟩ : ∃ Y, [45, 45, 45, 32] ++ T2 = Y := ⟨_, rfl⟩
  obtain ⟨V1, hV1⟩ : ∃ Y, U1 ++ [32, 42, 42, 42, 42] = Y := ⟨_, rfl⟩
  obtain ⟨V2, hV2⟩ : ∃ Y, U2 ++ [32, 45, 45, 45, 45] = Y := ⟨_, rfl⟩
  obtain ⟨Z2, hZ2⟩ : ∃ Y, Z1 ++ V1 ++ [10] = Y := ⟨_, rfl⟩
  obtain ⟨Z3, hZ3⟩ : ∃ Y, Z2 ++ X1 = Y := ⟨_, rfl⟩
  obtain ⟨Z4, hZ4⟩ : ∃ Y, Z3 ++ V2 ++ [10] = Y := ⟨_, rfl⟩
  have HE : Hid (Z4 ++ X2 = Z) := (by
    show _ = _
    rw [← HZ.out, ← hZ4, ← hZ3, ← hZ2, ← hZ1, ← hV1, ← hV2, ← hU1, ← hU2, ← hX1, ← hX2, ← hR, HS45, HS43, ← hT1, ← hT2]
    simp [hkL, rlT])
  have hE := congrArg List.length HE.out
  have l4 := congrArg List.length hZ4
  have l3 := congrArg List.length hZ3
  have l2 := congrArg List.length hZ2
  have l1 := congrArg List.length hZ1
  simp only [List.length_append] at hE l4 l3 l2 l1
  have b4 : Z4.length ≤ 70368744177664 := by omega
  have b3 : Z3.length ≤ 70368744177664 := by omega
  have b2 : Z2.length ≤ 70368744177664 := by omega
  have b1 : Z1.length ≤ 70368744177664 := by omega
  have u1 := congrArg List.length hU1
  have u2 := congrArg List.length hU2
  simp only [List.length_append, List.length_cons, List.length_nil] at u1 u2
  have q1 := add_fits (x := [42, 42, 42, 32]) (y := T1) (by unfold Fits; simp only [List.length_cons, List.length_nil]; omega) Tryd.prog
  have q2 := add_fits (x := U1) (y := [32, 42, 42, 42, 42]) (by unfold Fits; simp only [List.length_cons, List.length_nil]; omega) Tryd.prog
  have q3 := add_fits (x := [45, 45, 45, 32]) (y := T2) (by unfold Fits; simp only [List.length_cons, List.length_nil]; omega) Tryd.prog
  have q4 := add_fits (x := U2) (y := [32, 45, 45, 45, 45]) (by unfold Fits; simp only [List.length_cons, List.length_nil]; omega) Tryd.prog
  rw [hU1] at q1
  rw [hU2] at q3
  rw [hV1] at q2
  rw [hV2] at q4
  have HRl : Hid (ls.length = R.length) := (by show _ = _; rw [← hR, hSl])
  rw [hR] at HSg
  have HR : Hid (shwL false false ls = R) := hR
  have HT1 : Hid (spanT A AN = T1) := hT1
  have HT2 : Hid (spanT Bn BN = T2) := hT2
  have HX1 : Hid (Z2 ++ (if hasM 45 ls = true then sidZ 45 ls R else []).flatten = Z3) := (by show _ = _; rw [hX1]; exact hZ3)
  have HX2 : Hid (Z4 ++ (if hasM 43 ls = true then sidZ 43 ls R else []).flatten = Z) := (by show _ = _; rw [hX2]; exact HE.out)
  have HZ1 : Hid (acc ++ starsT ++ [10] = Z1) := hZ1
  have HZ2 : Hid (Z1 ++ V1 ++ [10] = Z2) := hZ2
  have HZ4 : Hid (Z3 ++ V2 ++ [10] = Z4) := hZ4
  have hBm : Below w.heap.size w (w.alloc (.cells #[.int .i64 A, .int .i64 AN, .int .i64 Bn, .int .i64 BN, .slice lo ls.length lc] 43)) := (Below.refl _ w).alloc (Nat.le_refl _) _
  have hMx : Hx (w.alloc (.cells #[.int .i64 A, .int .i64 AN, .int .i64 Bn, .int .i64 BN, .slice lo ls.length lc] 43)) w.heap.size ⟨A, AN, Bn, BN, ls⟩ (.slice lo ls.length lc) := heap_alloc_new w _
  have hOff : Off w.heap.size b v := ⟨by have := Bld.lt hP; omega, fun e => by have := (hP.2.2.1.lt _ e).2; omega⟩
  have hvl : Hid (∀ g, v.ownBlock = some g → g < w.heap.size) := fun g e => (hP.2.2.1.lt _ e).2
  have hbl := Bld.lt hP
  have hsm : Hid (w.heap.size < (w.alloc (.cells #[.int .i64 A, .int .i64 AN, .int .i64 Bn, .int .i64 BN, .slice lo ls.length lc] 43)).heap.size) := (by show _ < _; simp)
  have hPm := hP.low hBm
  have hWm : Wr B b v v w (w.alloc (.cells #[.int .i64 A, .int .i64 AN, .int .i64 Bn, .int .i64 BN, .slice lo ls.length lc] 43)) := Wr.low hBm hBw
  clear hE l1 l2 l3 l4 hX1 hX2 hZ1 hZ2 hZ3 hZ4 hT1 hT2 hR hV1 hV2 hU1 hU2 u1 u2 HS45 HS43 HZ HE hSl hr hP
  have e : hkV ⟨A, AN, Bn, BN, ls⟩ (.slice lo ls.length lc) = .agg #[.int .i64 A, .int .i64 AN, .int .i64 Bn, .int .i64 BN, .slice lo ls.length lc] := rfl
  rw [e]
  clear e
  go_enter Tryd.func54, Tryd.ntmps54
  go_wp2_with fail
  refine (cshown_f ls (.slice lo ls.length lc) _ (HL.out _ hWm.below) hll R HR).mono ?_
  generalize w.alloc (.cells #[.int .i64 A, .int .i64 AN, .int .i64 Bn, .int .i64 BN, .slice lo ls.length lc] 43) = Wm at hPm hWm hMx hsm hBm ⊢
  rintro e w1 ⟨sv, rfl, hown, hB1⟩
  have hW1 := hWm.trans (Wr.low hB1 (by have := hWm.size; omega))
  have hP1 := hPm.low hB1
  have hM1 := hMx.low hB1
  have hSK : ∀ (v' : Value) (u : World), Wr B b v v' w1 u → Holds u sv R.length (ucells R) := shown_keep hown (by have := hsm.out; omega) (fun g e => by have := hvl.out g e; have := hsm.out; omega)
  obtain ⟨so, sc, rfl⟩ := (holds_of hown).form
  clear hBm hPm hWm hMx hB1 hown hvl hbl hsm
  generalize w.heap.size = M at hM1 hOff
  obtain ⟨c0, c1, c2, c3, c4⟩ := hM1.cells
  have hz1 := hW1.size
  go_wp2_with fail
  refine (crow_f B b v acc starsT Z1 w1 hP1 (by omega) HZ1 b1).mono ?_
  rintro e w2 ⟨rfl, v2, hP2, hW2⟩
  obtain ⟨hM2, hO2⟩ := hM1.wr hW2 hOff
  have hW12 := hW1.trans hW2
  have hz2 := hW12.size
  clear c0 c1 c2 c3 c4
  obtain ⟨c0, c1, c2, c3, c4⟩ := hM2.cells
  go_wp2_with fail
  refine (crange_f A AN r1 (by omega) r3 (by omega) w2 (HT.out w2 hW12.below) T1 HT1).mono ?_
  rintro e w3 ⟨rfl, hB3⟩
  have hM3 := hM2.low hB3
  have hP3 := hP2.low hB3
  have hW13 := hW12.trans (Wr.low hB3 (by omega))
  have hW23 : Wr B b v2 v2 w2 w3 := Wr.low hB3 (by omega)
  have hz3 := hW13.size
  clear c0 c1 c2 c3 c4
  go_wp2_with fail
  refine (crow_f B b v2 Z1 V1 Z2 w3 hP3 (by omega) HZ2 b2).mono ?_
  rintro e w4 ⟨rfl, v4, hP4, hW4⟩
  obtain ⟨hM4, hO4⟩ := hM3.wr hW4 hO2
  have hW14 := hW13.trans hW4
  have hWs4 := (hW2.trans hW23).trans hW4
  have hz4 := hW14.size
  obtain ⟨c0, c1, c2, c3, c4⟩ := hM4.cells
  go_wp2_with fail
  refine (cside_f B b v4 45 ls R (.slice lo ls.length lc) (.slice so R.length sc) Z2 Z3 w4 hP4 (by omega) hll HRl HSg HTx (HL.out _ hW14.below) (fun v' u hu => HL.out u (hW14.trans hu).below) (fun v' u hu => hSK v' u (hWs4.trans hu)) HX1 b3).mono ?_
  rintro e w5 ⟨rfl, v5, hP5, hW5⟩
  obtain ⟨hM5, hO5⟩ := hM4.wr hW5 hO4
  have hW15 := hW14.trans hW5
  have hWs5 := hWs4.trans hW5
  have hz5 := hW15.size
  clear c0 c1 c2 c3 c4
  obtain ⟨c0, c1, c2, c3, c4⟩ := hM5.cells
  go_wp2_with fail
  refine (crange_f Bn BN r4 (by omega) r6 (by omega) w5 (HT.out w5 hW15.below) T2 HT2).mono ?_
  rintro e w6 ⟨rfl, hB6⟩
  have hM6 := hM5.low hB6
  have hP6 := hP5.low hB6
  have hW56 : Wr B b v5 v5 w5 w6 := Wr.low hB6 (by omega)
  have hW16 := hW15.trans hW56
  have hz6 := hW16.size
  clear c0 c1 c2 c3 c4
  go_wp2_with fail
  refine (crow_f B b v5 Z3 V2 Z4 w6 hP6 (by omega) HZ4 b4).mono ?_
  rintro e w7 ⟨rfl, v7, hP7, hW7⟩
  obtain ⟨hM7, hO7⟩ := hM6.wr hW7 hO5
  have hW17 := hW16.trans hW7
  have hWs7 := (hWs5.trans hW56).trans hW7
  have hz7 := hW17.size
  obtain ⟨c0, c1, c2, c3, c4⟩ := hM7.cells
  go_wp2_with fail
  refine (cside_f B b v7 43 ls R (.slice lo ls.length lc) (.slice so R.length sc) Z4 Z w7 hP7 (by omega) hll HRl HSg HTx (HL.out _ hW17.below) (fun v' u hu => HL.out u (hW17.trans hu).below) (fun v' u hu => hSK v' u (hWs7.trans hu)) HX2 hZ).mono ?_
  rintro e w8 ⟨rfl, v8, hP8, hW8⟩
  go_wp2
  first
    | go_end0
    | refine bodyPost_ret (results_none rfl _ _ _) rfl ?_
    | refine bodyPost_end (results_none rfl _ _ _) rfl ?_
  exact ⟨rfl, v8, hP8, hW17.trans hW8⟩
end Go.Proofs.YtgiojkhmkeocfaaDoor

/- The code's check and Print of layer 15, walked. -/
namespace Go.Proofs.YtgiojkhmkeocfaaDoor
open Go.RowKit Go.Proofs.YtgiojkhmkeocfaaDoor

/-- a patch as a value, as a variable -/
def ptV (p : Pth) (v : Value) : Value := .agg #[.string ⟨p.old.toArray⟩, .string ⟨p.new.toArray⟩, v]
def ptO (p : Pth) (v : Value) : Obj := .cells #[.string ⟨p.old.toArray⟩, .string ⟨p.new.toArray⟩, v] 46
def Px (u : World) (b : Nat) (p : Pth) (v : Value) : Prop := u.heap[b]? = some (ptO p v)
theorem Px.cells {u : World} {b : Nat} {p : Pth} {v : Value} (q : Px u b p v) : u.cell? ⟨b, 0, none⟩ = some (.string ⟨p.old.toArray⟩) ∧ u.cell? ⟨b, 1, none⟩ = some (.string ⟨p.new.toArray⟩) ∧ u.cell? ⟨b, 2, none⟩ = some v := by
  unfold Px ptO at q
  refine ⟨?_, ?_, ?_⟩ <;> rw [Lib.cell_of_heap q] <;> rfl
theorem Px.lt {u : World} {b : Nat} {p : Pth} {v : Value} (q : Px u b p v) : b < u.heap.size := (Array.getElem?_eq_some_iff.1 q).1
theorem Px.low {u u' : World} {b : Nat} {p : Pth} {v : Value} (q : Px u b p v) (hg : Below u.heap.size u u') : Px u' b p v := (hg.block b q.lt).trans q
theorem Px.wr {B b : Nat} {v v' : Value} {w w' : World} {M : Nat} {p : Pth} {y : Value} (q : Px w M p y) (hw : Wr B b v v' w w') (ho : Off M b v) : Px w' M p y ∧ Off M b v' := hw.block q ho
set_option maxHeartbeats 8000000 in
set_option maxRecDepth 10000 in
theorem ccheckP_f (p : Pth) (q : List (Hk × Value)) (HQ : Hid (q.map (·.1) = p.hs)) (v : Value) (w : World) (hv : HHp w v q) (hok : HOk q) (ho : p.old.length ≤ 1099511627776) (hn : p.new.length ≤ 1099511627776) (r : Int) (HR : Hid (wrgP p = r)) :
    Calls Tryd.prog 51 #[ptV p v] w fun e w' => e = .returned (.int .i64 r) ∧ Below w.heap.size w w' := by
  obtain ⟨lo, lc, rfl⟩ := Holds.form hv.row
  obtain ⟨old, new, hs⟩ := p
  dsimp only at HQ ho hn
  have hql : hs.length = q.length := (by rw [← HQ.out, List.length_map])
  have HRR := HR.out
  unfold wrgP at HRR
  dsimp only at HRR
  have hBm : Below w.heap.size w (w.alloc (.cells #[.string ⟨old.toArray⟩, .string ⟨new.toArray⟩, .slice lo q.length lc] 46)) := (Below.refl _ w).alloc (Nat.le_refl _) _
  have e : ptV ⟨old, new, hs⟩ (.slice lo q.length lc) = .agg #[.string ⟨old.toArray⟩, .string ⟨new.toArray⟩, .slice lo q.length lc] := rfl
  rw [e]
  clear e HR
  by_cases h1 : 64 < old.length ∨ 64 < new.length
  · rw [if_pos h1] at HRR
    have HE : Hid (253 = r) := HRR
    clear HRR hql
    by_cases h2 : 64 < old.length
    · have i1 : (64 : Int) < (old.length : Int) := by omega
      go_enter Tryd.func51, Tryd.ntmps51
      go_wp2
      go_ret
      exact ⟨by rw [← HE.out]; rfl, hBm⟩
    · have i1 : ¬ (64 : Int) < (old.length : Int) := by omega
      have i2 : (64 : Int) < (new.length : Int) := by omega
      go_enter Tryd.func51, Tryd.ntmps51
      go_wp2
      go_ret
      exact ⟨by rw [← HE.out]; rfl, hBm⟩
  · rw [if_neg h1] at HRR
    have i1 : ¬ (64 : Int) < (old.length : Int) := by omega
    have i2 : ¬ (64 : Int) < (new.length : Int) := by omega
    by_cases h2 : 4096 < hs.length
    · rw [if_pos h2] at HRR
      have HE : Hid (9 = r) := HRR
      have i3 : (4096 : Int) < (q.length : Int) := by omega
      clear HRR hql
      go_enter Tryd.func51, Tryd.ntmps51
      go_wp2
      go_ret
      exact ⟨by rw [← HE.out]; rfl, hBm⟩
    · rw [if_neg h2] at HRR
      have HE : Hid (errs ((q.map (·.1)).drop 0) = r) := (by show _ = _; rw [HQ.out, List.drop_zero]; exact HRR)
      have i3 : ¬ (4096 : Int) < (q.length : Int) := by omega
      have hq4 : q.length ≤ 4096 := by omega
      clear HRR hql h1 h2
      go_enter Tryd.func51, Tryd.ntmps51
      go_wp2
      go_loopw [23] (fun i wr => ∃ k : Nat, k ≤ q.length ∧ i = .int .i64 k ∧ Below w.heap.size w wr ∧ Hid (errs ((q.map (·.1)).drop k) = r)) (fun i _ => q.length - (intOf i).toNat)
      case atStart => exact ⟨0, Nat.zero_le _, by go_num, hBm, HE⟩
      case round =>
      clear HE hBm
      obtain ⟨k, hk, rfl, hB, HI⟩ := hrel
      by_cases hlt : k < q.length
      · obtain ⟨bk, off, rfl, hbk, _⟩ := hv.at (by omega)
        obtain ⟨h, y, hx⟩ : ∃ h y, q[k] = (h, y) := ⟨_, _, rfl⟩
        obtain ⟨⟨c0, c1, c2, c3, c4⟩, hm⟩ := HHp.take hv hB k hlt hx
        obtain ⟨o1, o2⟩ := hok.2 q[k] (List.getElem_mem hlt)
        rw [hx] at o1 o2
        dsimp only at o1 o2
        have HI2 := HI.out
        rw [errs_drop (by rw [List.length_map]; exact hlt), List.getElem_map, hx] at HI2
        dsimp only at HI2
        have i4 : (0 : Int) ≤ (k : Int) := by omega
        have i5 : (k : Int) < (q.length : Int) := by omega
        obtain ⟨z, hz⟩ : ∃ z, chkH h = z := ⟨_, rfl⟩
        rw [hz] at HI2
        have hBm := hB.alloc hB.size (.cells #[.int .i64 h.A, .int .i64 h.AN, .int .i64 h.B, .int .i64 h.BN, y] 43)
        have hmm := hm.keep ((Below.refl _ wr).alloc (Nat.le_refl _) (.cells #[.int .i64 h.A, .int .i64 h.AN, .int .i64 h.B, .int .i64 h.BN, y] 43)) (Nat.le_refl _)
        have hc := hCheck_f h y _ hmm o1 o2 z hz
        obtain ⟨yo, yc, rfl⟩ := HMk.form hm
        have e : hkV h (.slice yo h.ls.length yc) = .agg #[.int .i64 h.A, .int .i64 h.AN, .int .i64 h.B, .int .i64 h.BN, .slice yo h.ls.length yc] := rfl
        rw [e] at hc
        clear e hz HI hx hm hmm
        by_cases hz0 : z = 0
        · subst hz0
          rw [if_neg (by decide)] at HI2
          have HI3 : Hid (errs ((q.map (·.1)).drop (k + 1)) = r) := HI2
          clear HI2
          go_wp2_with fail
          refine hc.mono ?_
          rintro e w1 ⟨rfl, hB1⟩
          go_wp2
          exact ⟨⟨k + 1, by omega, by go_num, hBm.trans (hB1.mono hBm.size), HI3⟩, by simp [intOf]; omega⟩
        · rw [if_pos hz0] at HI2
          have HI3 : Hid (z = r) := HI2
          have e1 : (z != 0) = true := bne_iff_ne.2 hz0
          clear HI2 hz0
          go_wp2_with fail
          refine hc.mono ?_
          rintro e w1 ⟨rfl, hB1⟩
          go_wp2
          go_ret
          exact ⟨by rw [← HI3.out]; rfl, hBm.trans (hB1.mono hBm.size)⟩
      · have hend : decide ((k : Int) < (q.length : Int)) = false := decide_eq_false (by omega)
        have HE : Hid (0 = r) := (by
          have h := HI.out
          rw [List.drop_of_length_le (by rw [List.length_map]; omega)] at h
          exact h)
        clear HI
        go_wp2
        go_ret
        exact ⟨by rw [← HE.out]; rfl, hB⟩
set_option maxHeartbeats 8000000 in
set_option maxRecDepth 100000 in
theorem cPrint_f (p : Pth) (q : List (Hk × Value)) (HQ : Hid (q.map (·.1) = p.hs)) (v : Value) (w : World) (hv : HHp w v q) (hok : HOk q) (ho : p.old.length ≤ 1099511627776) (hn : p.new.length ≤ 1099511627776) (HT : Hid (Tab10 w)) (Z : List UInt8) (r : Int) (HR : Hid (wrgP p = r)) (HZ : Hid (ptT p = Z)) (hZ : Z.length ≤ 70368744177664) :
    Calls Tryd.prog 17 #[ptV p v] w fun e w' => e = .returned (.tuple #[.string ⟨Z.toArray⟩, .int .i64 r]) ∧ Below w.heap.size w w' := by
  obtain ⟨lo, lc, rfl⟩ := Holds.form hv.row
  have HO := fun h => (wrg_out (p := p) h)
  obtain ⟨old, new, hs⟩ := p
  dsimp only at HQ ho hn
  have hql : hs.length = q.length := (by rw [← HQ.out, List.length_map])
  have hZZ := HZ.out
  unfold ptT at hZZ
  rw [HR.out] at hZZ
  have hBm : Below w.heap.size w (w.alloc (.cells #[.string ⟨old.toArray⟩, .string ⟨new.toArray⟩, .slice lo q.length lc] 46)) := (Below.refl _ w).alloc (Nat.le_refl _) _
  have hMx : Px (w.alloc (.cells #[.string ⟨old.toArray⟩, .string ⟨new.toArray⟩, .slice lo q.length lc] 46)) w.heap.size ⟨old, new, hs⟩ (.slice lo q.length lc) := heap_alloc_new w _
  have hvm := hv.keep hBm (Nat.le_refl _)
  have hc := ccheckP_f ⟨old, new, hs⟩ q HQ (.slice lo q.length lc) _ hvm hok ho hn r HR
  have e : ptV ⟨old, new, hs⟩ (.slice lo q.length lc) = .agg #[.string ⟨old.toArray⟩, .string ⟨new.toArray⟩, .slice lo q.length lc] := rfl
  rw [e] at hc ⊢
  obtain ⟨d0, d1, d2⟩ := hMx.cells
  clear e hvm
  by_cases hr0 : r = 0
  · subst hr0
    rw [if_pos rfl] at hZZ
    obtain ⟨o1, o2, o3, o4⟩ := HO HR.out
    dsimp only at o1 o2 o3 o4
    have HCh : Hid (∀ x ∈ hs, chkH x = 0) := o4
    clear o4 HO
    by_cases hq0 : q.length = 0
    · have HE : Hid ([] = Z) := (by
        show _ = _
        rw [← hZZ]
        have : hs = [] := List.eq_nil_of_length_eq_zero (by omega)
        rw [this]
        rfl)
      have i1 : ((q.length : Int) == 0) = true := (by rw [hq0]; rfl)
      clear hZZ HZ hq0 hql
      go_enter Tryd.func17, Tryd.ntmps17
      go_wp2_with fail
      refine hc.mono ?_
      rintro e w1 ⟨rfl, hB1⟩
      have hM1 := hMx.low hB1
      clear d0 d1 d2
      obtain ⟨d0, d1, d2⟩ := hM1.cells
      go_wp2
      go_ret2
      exact ⟨by rw [← HE.out]; rfl, hBm.trans (hB1.mono hBm.size)⟩
    · have hne : hs ≠ [] := (by intro e; rw [e] at hql; simp at hql; omega)
      rw [pt_lines (p := ⟨old, new, hs⟩) hne] at hZZ
      dsimp only at hZZ
      obtain ⟨N1, hN1⟩ : ∃ Y, nameT old = Y := ⟨_, rfl⟩
      obtain ⟨N2, hN2⟩ : ∃ Y, nameT new = Y := ⟨_, rfl⟩
      obtain ⟨U1, hU1⟩ : ∃ Y, [42, 42, 42, 32] ++ N1 = Y := ⟨_, rfl⟩
      obtain ⟨U2, hU2⟩ : ∃ Y, [45, 45, 45, 32] ++ N2 = Y := ⟨_, rfl⟩
      obtain ⟨Z1, hZ1⟩ : ∃ Y, [] ++ U1 ++ [10] = Y := ⟨_, rfl⟩
      obtain ⟨Z2, hZ2⟩ : ∃ Y, Z1 ++ U2 ++ [10] = Y := ⟨_, rfl⟩
      have HE : Hid (Z2 ++ (((q.map (·.1)).drop 0).flatMap hkL).flatten = Z) := (by
        show _ = _
        rw [← hZZ, ← hZ2, ← hZ1, ← hU1, ← hU2, hN1, hN2, HQ.out, List.drop_zero]
        simp)
      have hE := congrArg List.length HE.out
      have l2 := congrArg List.length hZ2
      have l1 := congrArg List.length hZ1
      simp only [List.length_append] at hE l2 l1
      have b2 : Z2.length ≤ 70368744177664 := by omega
      have b1 : Z1.length ≤ 70368744177664 := by omega
      have n1 := name_len old
      have n2 := name_len new
      rw [hN1] at n1
      rw [hN2] at n2
      have q1 := add_fits (x := [42, 42, 42, 32]) (y := N1) (by unfold Fits; simp only [List.length_cons, List.length_nil]; omega) Tryd.prog
      have q2 := add_fits (x := [45, 45, 45, 32]) (y := N2) (by unfold Fits; simp only [List.length_cons, List.length_nil]; omega) Tryd.prog
      rw [hU1] at q1
      rw [hU2] at q2
      have HN1 : Hid (nameT old = N1) := hN1
      have HN2 : Hid (nameT new = N2) := hN2
      have HZ1 : Hid ([] ++ U1 ++ [10] = Z1) := hZ1
      have HZ2 : Hid (Z1 ++ U2 ++ [10] = Z2) := hZ2
      have HZne : Hid (Z ≠ []) := (by
        intro e
        have h := congrArg List.length e
        have h2 := congrArg List.length hU1
        simp only [List.length_append, List.length_cons, List.length_nil] at h h2
        omega)
      have i1 : ((q.length : Int) == 0) = false := beq_eq_false_iff_ne.2 (by omega)
      have hq4 : q.length ≤ 4096 := by omega
      clear hZZ HZ hq0 hql hE l1 l2 n1 n2 hN1 hN2 hU1 hU2 hZ1 hZ2 hne o3
      go_enter Tryd.func17, Tryd.ntmps17
      go_wp2_with fail
      refine hc.mono ?_
      rintro e w1 ⟨rfl, hB1⟩
      have hM1 := hMx.low hB1
      have hBw1 := hBm.trans (hB1.mono hBm.size)
      clear d0 d1 d2 hBm hMx hB1 hc
      have hM2 := hM1.low ((Below.refl _ w1).alloc (Nat.le_refl _) (.cells #[.pointer none, .slice none 0 0] 97))
      have hBw2 := hBw1.alloc hBw1.size (.cells #[.pointer none, .slice none 0 0] 97)
      have hP2 : Pg w.heap.size w1.heap.size (.slice none 0 0) [] (w1.alloc (.cells #[.pointer none, .slice none 0 0] 97)) := ⟨hBw1.size, ⟨_, .inl rfl, heap_alloc_new w1 _⟩, World.ownsRowF_nil _ _ _ _, by simp [Value.ownBlock]⟩
      have hO2 : Off w.heap.size w1.heap.size (.slice none 0 0) := ⟨by have := hM1.lt; omega, by simp [Value.ownBlock]⟩
      obtain ⟨f0, f1, f2⟩ := hM1.cells
      obtain ⟨d0, d1, d2⟩ := hM2.cells
      go_wp2_with fail
      refine (cname_f old _ ho N1 HN1).mono ?_
      generalize w1.alloc (.cells #[.pointer none, .slice none 0 0] 97) = W2 at hM2 hBw2 hP2 d0 d1 d2 ⊢
      generalize w1.heap.size = b at hP2 hO2 ⊢
      rintro e w3 ⟨rfl, hB3⟩
      have hM3 := hM2.low hB3
      have hP3 := hP2.low hB3
      have hBw3 := hBw2.trans (hB3.mono hBw2.size)
      clear d0 d1 d2 f0 f1 f2 hM2 hP2 hBw2 hB3 hM1 hBw1
      go_wp2_with fail
      refine (crow_f w.heap.size b (.slice none 0 0) [] U1 Z1 w3 hP3 hBw3.size HZ1 b1).mono ?_
      rintro e w4 ⟨rfl, v4, hP4, hW4⟩
      obtain ⟨hM4, hO4⟩ := hM3.wr hW4 hO2
      have hBw4 := hBw3.trans hW4.below
      obtain ⟨d0, d1, d2⟩ := hM4.cells
      clear hM3 hP3 hBw3 hO2 hW4
      go_wp2_with fail
      refine (cname_f new _ hn N2 HN2).mono ?_
      rintro e w5 ⟨rfl, hB5⟩
      have hM5 := hM4.low hB5
      have hP5 := hP4.low hB5
      have hBw5 := hBw4.trans (hB5.mono hBw4.size)
      clear d0 d1 d2 hM4 hP4 hBw4 hB5
      go_wp2_with fail
      refine (crow_f w.heap.size b v4 Z1 U2 Z2 w5 hP5 hBw5.size HZ2 b2).mono ?_
      rintro e w6 ⟨rfl, v6, hP6, hW6⟩
      obtain ⟨hM6, hO6⟩ := hM5.wr hW6 hO4
      have hBw6 := hBw5.trans hW6.below
      obtain ⟨d0, d1, d2⟩ := hM6.cells
      clear hM5 hP5 hBw5 hO4 hW6 q1 q2 HZ1 HZ2 HN1 HN2
      go_wp2
      go_loopw [30] (fun i wr => ∃ (k : Nat) (v1 : Value) (ac : List UInt8), k ≤ q.length ∧ i = .int .i64 k ∧ Pg w.heap.size b v1 ac wr ∧ Below w.heap.size w wr ∧ Hid (ac ++ (((q.map (·.1)).drop k).flatMap hkL).flatten = Z)) (fun i _ => q.length - (intOf i).toNat)
      case atStart => exact ⟨0, v6, Z2, Nat.zero_le _, by go_num, hP6, hBw6, HE⟩
      case round =>
      clear HE hP6 hBw6 hM6 hO6 d0 d1 d2
      obtain ⟨k, v1, ac, hk, rfl, hP, hB, HI⟩ := hrel
      by_cases hlt : k < q.length
      · obtain ⟨bk, off, rfl, hbk, _⟩ := hv.at (by omega)
        obtain ⟨h, y, hx⟩ : ∃ h y, q[k] = (h, y) := ⟨_, _, rfl⟩
        obtain ⟨⟨c0, c1, c2, c3, c4⟩, hm⟩ := HHp.take hv hB k hlt hx
        obtain ⟨x1, x2⟩ := hok.2 q[k] (List.getElem_mem hlt)
        have hins := hv.ins q[k] (List.getElem_mem hlt)
        have hch := HCh.out q[k].1 (by rw [← HQ.out]; exact List.mem_map_of_mem (List.getElem_mem hlt))
        rw [hx] at x1 x2 hins hch
        dsimp only at x1 x2 hins hch
        have HI2 := HI.out
        rw [List.drop_eq_getElem_cons (show k < (q.map (·.1)).length by rw [List.length_map]; exact hlt), List.getElem_map, hx, List.flatMap_cons, List.flatten_append, ← List.append_assoc] at HI2
        dsimp only at HI2
        obtain ⟨A2, hA2⟩ : ∃ Y, ac ++ (hkL h).flatten = Y := ⟨_, rfl⟩
        rw [hA2] at HI2
        have HI3 : Hid (A2 ++ (((q.map (·.1)).drop (k + 1)).flatMap hkL).flatten = Z) := HI2
        have hAl : A2.length ≤ 70368744177664 := (by have := congrArg List.length HI2; rw [List.length_append] at this; omega)
        have i4 : (0 : Int) ≤ (k : Int) := by omega
        have i5 : (k : Int) < (q.length : Int) := by omega
        have hBn : Below wr.heap.size wr (wr.alloc (.cells #[.int .i64 h.A, .int .i64 h.AN, .int .i64 h.B, .int .i64 h.BN, y] 43)) := (Below.refl _ wr).alloc (Nat.le_refl _) _
        have hBm := hB.trans (hBn.mono hB.size)
        have hPm := hP.low hBn
        have hc := chunk_f w.heap.size b v1 h y ac A2 _ hPm hBm.size x1 x2 hch (fun u hu => hins.keep (hBm.trans hu) (Nat.le_refl _)) (fun u hu => HT.out.on (hBm.trans hu)) hA2 hAl
        obtain ⟨yo, yc, rfl⟩ := HMk.form hm
        have e : hkV h (.slice yo h.ls.length yc) = .agg #[.int .i64 h.A, .int .i64 h.AN, .int .i64 h.B, .int .i64 h.BN, .slice yo h.ls.length yc] := rfl
        rw [e] at hc
        clear e HI HI2 hx hm hins hch hA2
        go_wp2_with fail
        refine hc.mono ?_
        rintro e w7 ⟨rfl, v7, hP7, hW7⟩
        go_wp2
        exact ⟨⟨k + 1, v7, A2, by omega, by go_num, hP7, hBm.trans hW7.below, HI3⟩, by simp [intOf]; omega⟩
      · have hend : decide ((k : Int) < (q.length : Int)) = false := decide_eq_false (by omega)
        have hE : ac = Z := (by
          have h := HI.out
          rw [List.drop_of_length_le (by rw [List.length_map]; omega)] at h
          simpa using h)
        subst hE
        clear HI
        go_wp2_with fail
        refine (cString_f w.heap.size b v1 ac HZne.out wr hP).mono ?_
        rintro e w7 ⟨rfl, hB7⟩
        go_wp2
        go_ret2
        exact ⟨rfl, hB.trans hB7⟩
  · rw [if_neg hr0] at hZZ
    have HE : Hid ([] = Z) := hZZ
    have e1 : (r != 0) = true := bne_iff_ne.2 hr0
    clear hZZ HZ HO hr0
    go_enter Tryd.func17, Tryd.ntmps17
    go_wp2_with fail
    refine hc.mono ?_
    rintro e w1 ⟨rfl, hB1⟩
    go_wp2
    go_ret2
    exact ⟨by rw [← HE.out]; rfl, hBm.trans (hB1.mono hBm.size)⟩
end Go.Proofs.YtgiojkhmkeocfaaDoor

/- The reference's Same of layer 11, walked for any two hunks. -/
namespace Go.Proofs.YtgiojkhmkeocfaaDoor
open Go.RowKit

/-- rows of hunks that are few enough -/
def HOw (p : List (Hk × Value)) : Prop := p.length ≤ 1099511627776 ∧ ∀ x ∈ p, x.1.ls.length ≤ 1099511627776
theorem hksC_few (l : List Hk) : l.length ≤ hksC l ∧ ∀ x ∈ l, x.ls.length ≤ hksC l := by
  induction l with
  | nil => exact ⟨Nat.le_refl _, fun x hx => by cases hx⟩
  | cons h l ih =>
    simp only [hksC, hkC1, List.length_cons]
    refine ⟨by omega, fun x hx => ?_⟩
    rcases List.mem_cons.1 hx with rfl | hx
    · omega
    · have := ih.2 x hx
      omega
theorem prs_few {t : List UInt8} {l : List Hk} (h : prsT t = .ok l) : l.length ≤ t.length ∧ ∀ x ∈ l, x.ls.length ≤ t.length := by
  have h1 := prs_count h
  have h2 := Ln.split_len t
  obtain ⟨h3, h4⟩ := hksC_few l
  exact ⟨by omega, fun x hx => by have := h4 x hx; omega⟩
theorem how_of {t : List UInt8} {p : List (Hk × Value)} (h : prsT t = .ok (p.map (·.1))) (ht : t.length ≤ 1099511627776) : HOw p := by
  obtain ⟨h1, h2⟩ := prs_few h
  rw [List.length_map] at h1
  exact ⟨by omega, fun x hx => by have := h2 x.1 (List.mem_map_of_mem hx); omega⟩
/-- what is read ends with a line feed -/
theorem take_feed {t : List UInt8} {l : List Hk} {j : Nat} (hj : j < t.length) (h : prsT (t.take (j + 1)) = .ok l) : t[j] = 10 := by
  rcases prs_feed h with h | h
  · have h1 := congrArg List.length h
    rw [List.length_take, List.length_nil, Nat.min_eq_left (by omega)] at h1
    omega
  · unfold fdB at h
    rw [beq_iff_eq, List.getLast?_eq_getElem?, List.length_take, Nat.min_eq_left (by omega), List.getElem?_take] at h
    simp at h
    obtain ⟨_, h⟩ := List.getElem?_eq_some_iff.1 h
    exact h
theorem hk_ext {A1 N1 B1 M1 A2 N2 B2 M2 : Int} {l1 l2 : List Mk} : (⟨A1, N1, B1, M1, l1⟩ : Hk) = ⟨A2, N2, B2, M2, l2⟩ ↔ A1 = A2 ∧ N1 = N2 ∧ B1 = B2 ∧ M1 = M2 ∧ l1 = l2 := by
  constructor
  · rintro h
    cases h
    exact ⟨rfl, rfl, rfl, rfl, rfl⟩
  · rintro ⟨rfl, rfl, rfl, rfl, rfl⟩
    rfl
set_option maxHeartbeats 8000000 in
theorem rSameG_f (h1 h2 : Hk) (v1 v2 : Value) (w : World) (hv1 : HMk w v1 h1.ls) (hv2 : HMk w v2 h2.ls) (hl1 : h1.ls.length ≤ 1099511627776) (r : Bool) (HR : Hid (r = true ↔ h1 = h2)) : Calls Tryd.prog 44 #[hkV h1 v1, hkV h2 v2] w fun e w' => e = .returned (.bool r) ∧ Below w.heap.size w w' := by
  obtain ⟨A1, N1, B1, M1, l1⟩ := h1
  obtain ⟨A2, N2, B2, M2, l2⟩ := h2
  dsimp only at hv1 hv2 hl1
  obtain ⟨o1, c1, rfl⟩ := HMk.form hv1
  obtain ⟨o2, c2, rfl⟩ := HMk.form hv2
  have hx1 := Hx.new w ⟨A1, N1, B1, M1, l1⟩ (.slice o1 l1.length c1)
  have hB1 : Below w.heap.size w (w.alloc (hkO ⟨A1, N1, B1, M1, l1⟩ (.slice o1 l1.length c1))) := (Below.refl _ w).alloc (Nat.le_refl _) _
  have hx2 : Hx ((w.alloc (hkO ⟨A1, N1, B1, M1, l1⟩ (.slice o1 l1.length c1))).alloc (hkO ⟨A2, N2, B2, M2, l2⟩ (.slice o2 l2.length c2))) (w.heap.size + 1) ⟨A2, N2, B2, M2, l2⟩ (.slice o2 l2.length c2) := alloc_second w _ _
  have hB2 : Below w.heap.size w ((w.alloc (hkO ⟨A1, N1, B1, M1, l1⟩ (.slice o1 l1.length c1))).alloc (hkO ⟨A2, N2, B2, M2, l2⟩ (.slice o2 l2.length c2))) := hB1.alloc (by simp) _
  have hx1' := hx1.low ((Below.refl _ (w.alloc (hkO ⟨A1, N1, B1, M1, l1⟩ (.slice o1 l1.length c1)))).alloc (Nat.le_refl _) (hkO ⟨A2, N2, B2, M2, l2⟩ (.slice o2 l2.length c2)))
  have hm1 := HMk.keep hv1 hB2 (Nat.le_refl _)
  have hm2 := HMk.keep hv2 hB2 (Nat.le_refl _)
  obtain ⟨x0, x1, x2, x3, x4⟩ := hx1'.cells
  obtain ⟨y0, y1, y2, y3, y4⟩ := hx2.cells
  unfold hkV
  dsimp only at x0 x1 x2 x3 x4 y0 y1 y2 y3 y4 ⊢
  have hW0 : (w.alloc (hkO ⟨A1, N1, B1, M1, l1⟩ (.slice o1 l1.length c1))).alloc (hkO ⟨A2, N2, B2, M2, l2⟩ (.slice o2 l2.length c2)) = (w.alloc (Obj.cells #[Value.int IntKind.i64 A1, Value.int IntKind.i64 N1, Value.int IntKind.i64 B1, Value.int IntKind.i64 M1, .slice o1 l1.length c1] 43)).alloc (Obj.cells #[Value.int IntKind.i64 A2, Value.int IntKind.i64 N2, Value.int IntKind.i64 B2, Value.int IntKind.i64 M2, .slice o2 l2.length c2] 43) := rfl
  clear hx1 hx2 hx1' hB1 hv1 hv2
  generalize (w.alloc (hkO ⟨A1, N1, B1, M1, l1⟩ (.slice o1 l1.length c1))).alloc (hkO ⟨A2, N2, B2, M2, l2⟩ (.slice o2 l2.length c2)) = W at *
  have hW := hW0.symm
  clear hW0
  have HN : Hid (¬ (A1 = A2 ∧ N1 = N2 ∧ B1 = B2 ∧ M1 = M2 ∧ l1.length = l2.length) → r = false) := (by
    intro h
    cases hr : r with
    | false => rfl
    | true => exact absurd (hk_ext.1 (HR.out.1 hr)) (fun e => h ⟨e.1, e.2.1, e.2.2.1, e.2.2.2.1, congrArg List.length e.2.2.2.2⟩))
  have HR2 : Hid (A1 = A2 ∧ N1 = N2 ∧ B1 = B2 ∧ M1 = M2 → (r = true ↔ l1 = l2)) := (by
    rintro ⟨rfl, rfl, rfl, rfl⟩
    rw [HR.out, hk_ext]
    simp)
  clear HR
  go_enter Tryd.func44, Tryd.ntmps44
  by_cases hA : A1 = A2
  · by_cases hN : N1 = N2
    · by_cases hB : B1 = B2
      · by_cases hM : M1 = M2
        · have HR3 : Hid (r = true ↔ l1 = l2) := HR2.out ⟨hA, hN, hB, hM⟩
          clear HR2
          subst hA hN hB hM
          by_cases hL : l1.length = l2.length
          · rw [← hL] at y4 hm2 hW ⊢
            have HL : Hid (l1.length = l2.length) := hL
            clear hL HN
            go_wp2
            clear hW
            go_loopw [5] (fun iv wr => ∃ k m : Nat, k ≤ l1.length ∧ iv = .int .i64 (k : Int) ∧ wr = W.drewN m ∧ Hid (r = true ↔ l1.drop k = l2.drop k)) (fun iv _ => l1.length - (intOf iv).toNat)
            case atStart => exact ⟨0, 0, Nat.zero_le _, by go_num, rfl, HR3⟩
            case round =>
              clear HR3
              obtain ⟨k, m, hk, rfl, rfl, HD⟩ := hrel
              have x4' : (W.drewN m).cell? ⟨w.heap.size, 4, none⟩ = some (.slice o1 l1.length c1) := x4
              have y4' : (W.drewN m).cell? ⟨w.heap.size + 1, 4, none⟩ = some (.slice o2 l1.length c2) := y4
              by_cases hlt : k < l1.length
              · have hlt2 : k < l2.length := by have := HL.out; omega
                obtain ⟨b1, f1, rfl, _, hc1⟩ := HMk.at hm1 (by omega)
                obtain ⟨b2, f2, rfl, _, hc2⟩ := HMk.at hm2 (by omega)
                obtain ⟨s0, s1⟩ := hc1 k hlt
                obtain ⟨t0, t1⟩ := hc2 k hlt2
                have hD := HD.out
                rw [List.drop_eq_getElem_cons hlt, List.drop_eq_getElem_cons hlt2, List.cons.injEq] at hD
                obtain ⟨q, hq⟩ : ∃ q, l1[k] = q := ⟨_, rfl⟩
                obtain ⟨p, hp⟩ : ∃ p, l2[k] = p := ⟨_, rfl⟩
                rw [hq] at s0 s1 hD
                rw [hp] at t0 t1 hD
                obtain ⟨sg, tx⟩ := q
                obtain ⟨sg2, tx2⟩ := p
                dsimp only at s0 s1 t0 t1
                have HD2 : Hid (r = true ↔ (⟨sg, tx⟩ : Mk) = ⟨sg2, tx2⟩ ∧ l1.drop (k + 1) = l2.drop (k + 1)) := hD
                clear hc1 hc2 hq hp hD HD
                have i1 : 0 ≤ (k : Int) := by omega
                have i2 : (k : Int) < (l1.length : Int) := by omega
                by_cases hs : sg = sg2
                · subst hs
                  by_cases ht : tx = tx2
                  · subst ht
                    have HD3 : Hid (r = true ↔ l1.drop (k + 1) = l2.drop (k + 1)) := (by show _ ↔ _; rw [HD2.out]; simp)
                    clear HD2
                    go_wp2_with fail
                    go_quiet (fail)
                    go_wp2
                    go_roundw
                    case rel => exact ⟨k + 1, _, by omega, by go_num, rfl, HD3⟩
                    case measure => simp [intOf]; omega
                  · have r0 : r = false := (by
                      cases hr : r with
                      | false => rfl
                      | true => exact absurd (HD2.out.1 hr).1 (fun e => ht (by cases e; rfl)))
                    subst r0
                    have e2 : (tx == tx2) = false := beq_eq_false_iff_ne.2 ht
                    clear HD2
                    go_wp2_with fail
                    go_quiet (fail)
                    go_wp2
                    go_ret
                    exact ⟨rfl, Below.dN (Below.dN hB2 _) _⟩
                · have r0 : r = false := (by
                    cases hr : r with
                    | false => rfl
                    | true => exact absurd (HD2.out.1 hr).1 (fun e => hs (by cases e; rfl)))
                  subst r0
                  have e1 : (sg == sg2) = false := beq_eq_false_iff_ne.2 hs
                  clear HD2
                  go_wp2_with fail
                  go_quiet (fail)
                  go_wp2
                  go_ret
                  exact ⟨rfl, Below.dN (Below.dN hB2 _) _⟩
              · have hend : decide ((k : Int) < (l1.length : Int)) = false := decide_eq_false (by omega)
                have r1 : r = true := HD.out.2 (by rw [List.drop_eq_nil_of_le (by omega), List.drop_eq_nil_of_le (by have := HL.out; omega)])
                subst r1
                go_wp2
                go_ret
                exact ⟨rfl, Below.dN hB2 _⟩
          · have r0 := HN.out (fun e => hL e.2.2.2.2)
            subst r0
            have e5 : ((l1.length : Int) == (l2.length : Int)) = false := beq_eq_false_iff_ne.2 (by omega)
            go_wp2
            go_ret
            exact ⟨rfl, hB2⟩
        · have r0 := HN.out (fun e => hM e.2.2.2.1)
          subst hA hN hB r0
          have e4 : (M1 == M2) = false := beq_eq_false_iff_ne.2 hM
          go_wp2
          go_ret
          exact ⟨rfl, hB2⟩
      · have r0 := HN.out (fun e => hB e.2.2.1)
        subst hA hN r0
        have e3 : (B1 == B2) = false := beq_eq_false_iff_ne.2 hB
        go_wp2
        go_ret
        exact ⟨rfl, hB2⟩
    · have r0 := HN.out (fun e => hN e.2.1)
      subst hA r0
      have e2 : (N1 == N2) = false := beq_eq_false_iff_ne.2 hN
      go_wp2
      go_ret
      exact ⟨rfl, hB2⟩
  · have r0 := HN.out (fun e => hA e.1)
    subst r0
    have e1 : (A1 == A2) = false := beq_eq_false_iff_ne.2 hA
    go_wp2
    go_ret
    exact ⟨rfl, hB2⟩
theorem hsameG_held {h1 h2 : Hk} {v1 v2 : Value} {W u : World} {r : Bool} (hv1 : HMk W v1 h1.ls) (hv2 : HMk W v2 h2.ls) (hl : h1.ls.length ≤ 1099511627776) (HR : Hid (r = true ↔ h1 = h2)) (hL : Low W u) : Calls Tryd.prog 44 (#[hkV h1 v1, hkV h2 v2] ++ #[]) u fun e w' => ∃ x, e = .returned x ∧ Low W w' ∧ x = .bool r := by
  refine (rSameG_f h1 h2 v1 v2 u (HMk.keep hv1 hL (Nat.le_refl _)) (HMk.keep hv2 hL (Nat.le_refl _)) hl r HR).mono ?_
  rintro e w' ⟨rfl, hB⟩
  exact ⟨_, rfl, hL.trans (hB.mono hL.size), rfl⟩
set_option maxRecDepth 10000 in
set_option maxHeartbeats 4000000 in
theorem rSameHunksG_f (p1 p2 : List (Hk × Value)) (v1 v2 : Value) (w : World) (hv1 : HHp w v1 p1) (hv2 : HHp w v2 p2) (hok : HOw p1) (r : Bool) (HR : Hid (r = true ↔ p1.map (·.1) = p2.map (·.1))) : Calls Tryd.prog 14 #[v1, v2] w fun e w' => e = .returned (.bool r) ∧ Below w.heap.size w w' := by
  obtain ⟨o1, c1, rfl⟩ := Holds.form hv1.row
  obtain ⟨o2, c2, rfl⟩ := Holds.form hv2.row
  have hpl : p1.length ≤ 1099511627776 := hok.1
  have HOK : Hid (HOw p1) := hok
  clear hok
  by_cases hl12 : p2.length = p1.length
  · have HL : Hid (p2.length = p1.length) := hl12
    rw [hl12] at hv2 ⊢
    clear hl12
    go_enter Tryd.func14, Tryd.ntmps14
    go_wp2
    go_loopw [5] (fun iv wr => ∃ k : Nat, k ≤ p1.length ∧ iv = .int .i64 (k : Int) ∧ Below w.heap.size w wr ∧ Hid (r = true ↔ (p1.map (·.1)).drop k = (p2.map (·.1)).drop k)) (fun iv _ => p1.length - (intOf iv).toNat)
    case atStart => exact ⟨0, Nat.zero_le _, by go_num, Below.refl _ _, HR⟩
    case round =>
      clear HR
      obtain ⟨k, hk, rfl, hB, HD⟩ := hrel
      by_cases hlt : k < p1.length
      · obtain ⟨b1, f1, rfl, _, _⟩ := hv1.at (by omega)
        obtain ⟨b2, f2, rfl, _, _⟩ := hv2.at (by have := HL.out; omega)
        obtain ⟨x, y, hxy⟩ : ∃ x y, p1[k] = (x, y) := ⟨_, _, rfl⟩
        obtain ⟨x', z, hxz⟩ : ∃ x z, p2[k]'(by have := HL.out; omega) = (x, z) := ⟨_, _, rfl⟩
        have hD := HD.out
        have hlt2 : k < p2.length := (by have := HL.out; omega)
        rw [List.drop_eq_getElem_cons (show k < (p1.map (·.1)).length by simpa using hlt), List.drop_eq_getElem_cons (show k < (p2.map (·.1)).length by simpa using hlt2), List.cons.injEq, List.getElem_map, List.getElem_map, hxy, hxz] at hD
        dsimp only at hD
        obtain ⟨r2, HR2⟩ : ∃ r2 : Bool, Hid (r2 = true ↔ x = x') := (by
          rcases Classical.em (x = x') with h | h
          · exact ⟨true, ⟨fun _ => h, fun _ => rfl⟩⟩
          · exact ⟨false, ⟨fun e => absurd e (by simp), fun e => absurd e h⟩⟩)
        have HD2 : Hid (r = true ↔ x = x' ∧ (p1.map (·.1)).drop (k + 1) = (p2.map (·.1)).drop (k + 1)) := hD
        clear hD HD
        obtain ⟨r1, hm1⟩ := hv1.take hB k hlt hxy
        obtain ⟨r2, hm2⟩ := hv2.take hB k (by have := HL.out; omega) hxz
        have hbd := HOK.out.2 _ (List.getElem_mem hlt)
        rw [hxy] at hbd
        dsimp only at hbd
        obtain ⟨yo, yc, rfl⟩ := hm1.form
        obtain ⟨zo, zc, rfl⟩ := hm2.form
        have hr1 : ∀ u : World, Low wr u → HkAt u b1 (f1 + k * 5) x (.slice yo x.ls.length yc) := fun u hu => HkAt.low r1 hu
        have hr2 : ∀ u : World, Low wr u → HkAt u b2 (f2 + k * 5) x' (.slice zo x'.ls.length zc) := fun u hu => HkAt.low r2 hu
        have i1 : 0 ≤ (k : Int) := by omega
        have i2 : (k : Int) < (p1.length : Int) := by omega
        clear hxy hxz r1 r2
        go_wp2_with fail
        refine wp_region_noPanic ?_
        refine wp_region_held_drew (S := fun u => Low wr u) (by kernel_rfl) (Below.dN (Below.refl _ wr) 1) (fun hHeld => ?_)
        refine go_take 0 17 _ (.slice (some ⟨b1, f1, none⟩) p1.length c1) rfl (by kernel_rfl) (by kernel_rfl) (by kernel_rfl) (by kernel_rfl) (fun _ _ _ h => h) (Or.inl ⟨by kernel_rfl, fun u hu => by kernel_rfl⟩) hHeld ?_
        simp only [Act.put, List.setIfInBounds_toArray, List.set_cons_zero, List.set_cons_succ]
        refine go_take 1 18 _ (.int .i64 (k : Int)) rfl (by kernel_rfl) (by kernel_rfl) (by kernel_rfl) (by kernel_rfl) (fun _ _ _ h => h) (Or.inl ⟨by kernel_rfl, fun u hu => by kernel_rfl⟩) hHeld ?_
        simp only [Act.put, List.setIfInBounds_toArray, List.set_cons_zero, List.set_cons_succ]
        refine go_take 2 19 _ (.pointer (some ⟨b1, f1 + k * 5, none⟩)) rfl (by kernel_rfl) (by kernel_rfl) (by kernel_rfl) (by kernel_rfl) (fun _ _ _ h => h) (Or.inl ⟨by kernel_rfl, fun u hu => exec_ixH (c := c1) hlt (.tmp 17) (.tmp 18) (by kernel_rfl) (by kernel_rfl) (by kernel_rfl)⟩) hHeld ?_
        simp only [Act.put, List.setIfInBounds_toArray, List.set_cons_zero, List.set_cons_succ]
        refine go_take 3 20 _ (hkV x (.slice yo x.ls.length yc)) rfl (by kernel_rfl) (by kernel_rfl) (by kernel_rfl) (by kernel_rfl) (fun _ _ _ h => h) (Or.inl ⟨by kernel_rfl, fun u hu => load_hkR (hr1 u hu) (.tmp 19) (by kernel_rfl) (by kernel_rfl)⟩) hHeld ?_
        simp only [Act.put, List.setIfInBounds_toArray, List.set_cons_zero, List.set_cons_succ]
        refine go_take 4 21 _ (.slice (some ⟨b2, f2, none⟩) p1.length c2) rfl (by kernel_rfl) (by kernel_rfl) (by kernel_rfl) (by kernel_rfl) (fun _ _ _ h => h) (Or.inl ⟨by kernel_rfl, fun u hu => by kernel_rfl⟩) hHeld ?_
        simp only [Act.put, List.setIfInBounds_toArray, List.set_cons_zero, List.set_cons_succ]
        refine go_take 5 22 _ (.int .i64 (k : Int)) rfl (by kernel_rfl) (by kernel_rfl) (by kernel_rfl) (by kernel_rfl) (fun _ _ _ h => h) (Or.inl ⟨by kernel_rfl, fun u hu => by kernel_rfl⟩) hHeld ?_
        simp only [Act.put, List.setIfInBounds_toArray, List.set_cons_zero, List.set_cons_succ]
        refine go_take 6 23 _ (.pointer (some ⟨b2, f2 + k * 5, none⟩)) rfl (by kernel_rfl) (by kernel_rfl) (by kernel_rfl) (by kernel_rfl) (fun _ _ _ h => h) (Or.inl ⟨by kernel_rfl, fun u hu => exec_ixH (c := c2) hlt (.tmp 21) (.tmp 22) (by kernel_rfl) (by kernel_rfl) (by kernel_rfl)⟩) hHeld ?_
        simp only [Act.put, List.setIfInBounds_toArray, List.set_cons_zero, List.set_cons_succ]
        refine go_take 7 24 _ (hkV x' (.slice zo x'.ls.length zc)) rfl (by kernel_rfl) (by kernel_rfl) (by kernel_rfl) (by kernel_rfl) (fun _ _ _ h => h) (Or.inl ⟨by kernel_rfl, fun u hu => load_hkR (hr2 u hu) (.tmp 23) (by kernel_rfl) (by kernel_rfl)⟩) hHeld ?_
        simp only [Act.put, List.setIfInBounds_toArray, List.set_cons_zero, List.set_cons_succ]
        refine go_callE 8 25 _ rfl (by kernel_rfl) (by kernel_rfl) (by kernel_rfl) 44 (.func 44) #[.tmp 20, .tmp 24] #[43, 43] (by kernel_rfl) #[] (by kernel_rfl) #[hkV x (.slice yo x.ls.length yc), hkV x' (.slice zo x'.ls.length zc)] (by kernel_rfl) (enters_of Tryd.func44 (by kernel_rfl) rfl) _ (hsameG_held hm1 hm2 hbd HR2 hHeld) ?_
        rintro _ u8 hHeld rfl
        simp only [Act.put, List.setIfInBounds_toArray, List.set_cons_zero, List.set_cons_succ]
        refine go_take 9 26 _ (.bool (!r2)) rfl (by kernel_rfl) (by kernel_rfl) (by kernel_rfl) (by kernel_rfl) (fun _ _ _ h => h) (Or.inl ⟨by kernel_rfl, fun u hu => by kernel_rfl⟩) hHeld ?_
        simp only [Act.put, List.setIfInBounds_toArray, List.set_cons_zero, List.set_cons_succ]
        refine wpAnyH_done (by kernel_rfl) ?_ _
        refine NoPanic.normal ?_
        have hB2 := hB.trans (Below.mono hHeld hB.size)
        cases hr2 : r2 with
        | true =>
          have HD3 : Hid (r = true ↔ (p1.map (·.1)).drop (k + 1) = (p2.map (·.1)).drop (k + 1)) := (by show _ ↔ _; rw [HD2.out]; simp [HR2.out.1 hr2])
          clear HD2 HR2
          subst hr2
          go_wp2
          exact ⟨⟨k + 1, by omega, by go_num, hB2, HD3⟩, by simp [intOf]; omega⟩
        | false =>
          have r0 : r = false := (by
            cases hr : r with
            | false => rfl
            | true => exact absurd (HR2.out.2 (HD2.out.1 hr).1) (by simp [hr2]))
          clear HD2 HR2
          subst hr2 r0
          go_wp2
          go_ret
          exact ⟨rfl, hB2⟩
      · have hend : decide ((k : Int) < (p1.length : Int)) = false := decide_eq_false (by omega)
        have r1 : r = true := HD.out.2 (by rw [List.drop_eq_nil_of_le (by simp; omega), List.drop_eq_nil_of_le (by have := HL.out; simp; omega)])
        subst r1
        go_wp2
        go_ret
        exact ⟨rfl, hB⟩
  · have r0 : r = false := (by
      cases hr : r with
      | false => rfl
      | true => exact absurd (by have := congrArg List.length (HR.out.1 hr); simpa using this.symm) hl12)
    subst r0
    have e1 : ((p1.length : Int) == (p2.length : Int)) = false := beq_eq_false_iff_ne.2 (by omega)
    go_enter Tryd.func14, Tryd.ntmps14
    go_wp2
    go_ret
    exact ⟨rfl, Below.refl _ _⟩
end Go.Proofs.YtgiojkhmkeocfaaDoor

/- The reference's Same of patches of layer 15, walked. -/
namespace Go.Proofs.YtgiojkhmkeocfaaDoor
open Go.RowKit

theorem pth_ext {a b c d : List UInt8} {x y : List Hk} : (⟨a, b, x⟩ : Pth) = ⟨c, d, y⟩ ↔ a = c ∧ b = d ∧ x = y := by
  constructor
  · intro h
    injection h with h1 h2 h3
    exact ⟨h1, h2, h3⟩
  · rintro ⟨rfl, rfl, rfl⟩
    rfl
set_option maxHeartbeats 4000000 in
set_option maxRecDepth 10000 in
theorem rSamePt_f (p1 p2 : Pth) (q1 q2 : List (Hk × Value)) (H1 : Hid (q1.map (·.1) = p1.hs)) (H2 : Hid (q2.map (·.1) = p2.hs)) (v1 v2 : Value) (w : World) (hv1 : HHp w v1 q1) (hv2 : HHp w v2 q2) (hok : HOw q1) (r : Bool) (HR : Hid (r = true ↔ p1 = p2)) :
    Calls Tryd.prog 19 #[ptV p1 v1, ptV p2 v2] w fun e w' => e = .returned (.bool r) ∧ Below w.heap.size w w' := by
  obtain ⟨o1, n1, s1⟩ := p1
  obtain ⟨o2, n2, s2⟩ := p2
  dsimp only at H1 H2
  obtain ⟨lo1, lc1, rfl⟩ := Holds.form hv1.row
  obtain ⟨lo2, lc2, rfl⟩ := Holds.form hv2.row
  rw [pth_ext] at HR
  have hBa : Below w.heap.size w (w.alloc (.cells #[.string ⟨o1.toArray⟩, .string ⟨n1.toArray⟩, .slice lo1 q1.length lc1] 46)) := (Below.refl _ w).alloc (Nat.le_refl _) _
  have hBb := hBa.alloc hBa.size (.cells #[.string ⟨o2.toArray⟩, .string ⟨n2.toArray⟩, .slice lo2 q2.length lc2] 46)
  have e1 : ptV ⟨o1, n1, s1⟩ (.slice lo1 q1.length lc1) = .agg #[.string ⟨o1.toArray⟩, .string ⟨n1.toArray⟩, .slice lo1 q1.length lc1] := rfl
  have e2 : ptV ⟨o2, n2, s2⟩ (.slice lo2 q2.length lc2) = .agg #[.string ⟨o2.toArray⟩, .string ⟨n2.toArray⟩, .slice lo2 q2.length lc2] := rfl
  rw [e1, e2]
  clear e1 e2
  by_cases h1 : o1 = o2
  · subst h1
    by_cases h2 : n1 = n2
    · subst h2
      have HRR : Hid (r = true ↔ q1.map (·.1) = q2.map (·.1)) := (by
        show (_ ↔ _)
        rw [H1.out, H2.out]
        have h := HR.out
        simpa using h)
      have hc := rSameHunksG_f q1 q2 _ _ _ (hv1.keep hBb (Nat.le_refl _)) (hv2.keep hBb (Nat.le_refl _)) hok r HRR
      clear HR HRR
      go_enter Tryd.func19, Tryd.ntmps19
      go_wp2_with fail
      refine hc.mono ?_
      rintro e w1 ⟨rfl, hB1⟩
      go_wp2
      go_ret
      exact ⟨rfl, hBb.trans (hB1.mono hBb.size)⟩
    · have HE : Hid (false = r) := (by
        cases r with
        | false => rfl
        | true => exact absurd (HR.out.1 rfl).2.1 h2)
      have j1 : (n1 == n2) = false := beq_eq_false_iff_ne.2 h2
      clear HR h2
      go_enter Tryd.func19, Tryd.ntmps19
      go_wp2
      go_ret
      exact ⟨by rw [← HE.out]; rfl, hBb⟩
  · have HE : Hid (false = r) := (by
      cases r with
      | false => rfl
      | true => exact absurd (HR.out.1 rfl).1 h1)
    have j1 : (o1 == o2) = false := beq_eq_false_iff_ne.2 h1
    clear HR h1
    go_enter Tryd.func19, Tryd.ntmps19
    go_wp2
    go_ret
    exact ⟨by rw [← HE.out]; rfl, hBb⟩
end Go.Proofs.YtgiojkhmkeocfaaDoor

/- Rows of patches; the reference's SameAll of layer 15, walked for rows that are the same. -/
namespace Go.Proofs.YtgiojkhmkeocfaaDoor
open Go.RowKit

/-- a row of patches -/
structure HPp (w : World) (v : Value) (F : List Pfd) : Prop where
  row : Holds w v F.length (pxcells F)
  ins : ∀ f ∈ F, f.hs.map (·.1) = f.x.hs ∧ HHp w f.v f.hs
theorem Pw.holds {w u : World} {v : Value} {F : List Pfd} (h : Pw w v F u) : HPp u v F := ⟨holds_of h.own, fun f hf => ⟨(h.ins f hf).eq.symm, holds_of (h.ins f hf).own, fun y hy => holds_of ((h.ins f hf).ins y hy)⟩⟩
theorem HPp.keep {w u : World} {v : Value} {F : List Pfd} (h : HPp w v F) (hb : Below w.heap.size w u) : HPp u v F := ⟨Holds.keep h.row fun k hk => hb.block k hk, fun f hf => ⟨(h.ins f hf).1, (h.ins f hf).2.keep hb (Nat.le_refl _)⟩⟩
theorem pxcells_length (F : List Pfd) : (pxcells F).length = F.length * 3 := by
  induction F with
  | nil => rfl
  | cons f F ih =>
    simp only [pxcells, List.flatMap_cons, List.length_append, List.length_cons] at ih ⊢
    rw [ih]
    simp [pxC]
    omega
theorem pxcells_at (F : List Pfd) : ∀ (k : Nat) (hk : k < F.length), (pxcells F)[k * 3]? = some (.string ⟨F[k].x.old.toArray⟩) ∧ (pxcells F)[k * 3 + 1]? = some (.string ⟨F[k].x.new.toArray⟩) ∧ (pxcells F)[k * 3 + 2]? = some F[k].v := by
  induction F with
  | nil => intro k hk; cases hk
  | cons f F ih =>
    intro k hk
    have e : pxcells (f :: F) = pxC f ++ pxcells F := by simp [pxcells]
    rw [e]
    cases k with
    | zero => exact ⟨rfl, rfl, rfl⟩
    | succ k =>
      obtain ⟨h1, h2, h3⟩ := ih k (by simpa using hk)
      have e0 : (k + 1) * 3 = 3 + k * 3 := by omega
      have l3 : (pxC f).length = 3 := rfl
      refine ⟨?_, ?_, ?_⟩
      · rw [e0, List.getElem?_append_right (by rw [l3]; omega), l3, show 3 + k * 3 - 3 = k * 3 by omega]; exact h1
      · rw [e0, List.getElem?_append_right (by rw [l3]; omega), l3, show 3 + k * 3 + 1 - 3 = k * 3 + 1 by omega]; exact h2
      · rw [e0, List.getElem?_append_right (by rw [l3]; omega), l3, show 3 + k * 3 + 2 - 3 = k * 3 + 2 by omega]; exact h3
theorem HPp.at {w : World} {ao : Option Addr} {n c : Nat} {F : List Pfd} (h : HPp w (.slice ao n c) F) (h0 : 0 < F.length) : ∃ b off, ao = some ⟨b, off, none⟩ ∧ b < w.heap.size ∧
    ∀ k (hk : k < F.length), w.cell? ⟨b, off + k * 3, none⟩ = some (.string ⟨F[k].x.old.toArray⟩) ∧ w.cell? ⟨b, off + k * 3 + 1, none⟩ = some (.string ⟨F[k].x.new.toArray⟩) ∧ w.cell? ⟨b, off + k * 3 + 2, none⟩ = some F[k].v := by
  obtain ⟨b, off, c', hv, hb, hc⟩ := Holds.at h.row (by rw [pxcells_length]; omega)
  cases hv
  refine ⟨b, off, rfl, hb, fun k hk => ?_⟩
  obtain ⟨h1, h2, h3⟩ := pxcells_at F k hk
  have hcc : ∀ j u, (pxcells F)[j]? = some u → w.cell? ⟨b, off + j, none⟩ = some u := fun j u hj => by
    obtain ⟨hj1, hj2⟩ := List.getElem?_eq_some_iff.1 hj
    rw [hc j hj1, hj2]
  exact ⟨hcc _ _ h1, by rw [Nat.add_assoc]; exact hcc _ _ h2, by rw [Nat.add_assoc]; exact hcc _ _ h3⟩
set_option maxHeartbeats 4000000 in
theorem rSameAll_t (F G : List Pfd) (va vb : Value) (w : World) (ha : HPp w va F) (hb : HPp w vb G) (HE : Hid (F.map (·.x) = G.map (·.x))) (HO : Hid (∀ f ∈ F, HOw f.hs)) (hl : F.length ≤ 1099511627776) :
    Calls Tryd.prog 67 #[va, vb] w fun e w' => e = .returned (.bool true) ∧ Below w.heap.size w w' := by
  obtain ⟨ao, ac, rfl⟩ := Holds.form ha.row
  obtain ⟨bo, bc, rfl⟩ := Holds.form hb.row
  have hlen : F.length = G.length := (by have := congrArg List.length HE.out; simpa using this)
  have hne : ((F.length : Int) != (G.length : Int)) = false := (by rw [hlen]; simp)
  go_enter Tryd.func67, Tryd.ntmps67
  go_wp2
  go_loopw [5] (fun i wr => ∃ k : Nat, k ≤ F.length ∧ i = .int .i64 k ∧ Below w.heap.size w wr) (fun i _ => F.length - (intOf i).toNat)
  case atStart => exact ⟨0, Nat.zero_le _, by go_num, Below.refl _ _⟩
  case round =>
  obtain ⟨k, hk, rfl, hB⟩ := hrel
  by_cases hlt : k < F.length
  · have hak := ha.keep hB
    have hbk := hb.keep hB
    obtain ⟨b1, o1, rfl, hb1, hc1⟩ := HPp.at hak (by omega)
    obtain ⟨b2, o2, rfl, hb2, hc2⟩ := HPp.at hbk (by omega)
    obtain ⟨x0, x1, x2⟩ := hc1 k hlt
    obtain ⟨y0, y1, y2⟩ := hc2 k (by omega)
    have i1 : (0 : Int) ≤ (k : Int) := by omega
    have i2 : (k : Int) < (F.length : Int) := by omega
    have i3 : (k : Int) < (G.length : Int) := by omega
    have i4 : (k : Int).toNat = k := by omega
    obtain ⟨f, hf⟩ : ∃ f, F[k] = f := ⟨_, rfl⟩
    obtain ⟨g, hg⟩ : ∃ g, G[k]'(by omega) = g := ⟨_, rfl⟩
    have hfm : f ∈ F := (by rw [← hf]; exact List.getElem_mem _)
    have hgm : g ∈ G := (by rw [← hg]; exact List.getElem_mem _)
    have hxe : f.x = g.x := (by
      have h1 : (F.map (·.x))[k]? = (G.map (·.x))[k]? := by rw [HE.out]
      rw [List.getElem?_map, List.getElem?_map, List.getElem?_eq_getElem hlt, List.getElem?_eq_getElem (by omega), hf, hg] at h1
      simpa using h1)
    rw [hf] at x0 x1 x2
    rw [hg] at y0 y1 y2
    have hcall := fun u (hu : Below w.heap.size w u) => rSamePt_f f.x g.x f.hs g.hs (ha.ins f hfm).1 (hb.ins g hgm).1 f.v g.v u ((ha.ins f hfm).2.keep hu (Nat.le_refl _)) ((hb.ins g hgm).2.keep hu (Nat.le_refl _)) (HO.out f hfm) true (show Hid (true = true ↔ f.x = g.x) from ⟨fun _ => hxe, fun _ => rfl⟩)
    obtain ⟨fo, fc, hfv⟩ := Holds.form ((ha.ins f hfm).2).row
    obtain ⟨go, gc, hgv⟩ := Holds.form ((hb.ins g hgm).2).row
    unfold ptV at hcall
    rw [hfv] at x2 hcall
    rw [hgv] at y2 hcall
    clear hc1 hc2 hak hbk hxe hf hg hfm hgm hfv hgv
    go_wp2_with fail
    go_region_with (go_at_call 19; refine (hcall _ hB.drew).mono ?_; rintro e w2 ⟨rfl, hB2⟩)
    all_goals (
      have hB3 := hB.drew.trans (hB2.mono hB.drew.size)
      first
      | exact ⟨⟨k + 1, by omega, by go_num, hB3⟩, by simp [intOf]; omega⟩
      | (go_wp2; exact ⟨⟨k + 1, by omega, by go_num, hB3⟩, by simp [intOf]; omega⟩))
  · have hend : decide ((k : Int) < (F.length : Int)) = false := decide_eq_false (by omega)
    go_wp2
    go_ret
    exact ⟨rfl, hB⟩
end Go.Proofs.YtgiojkhmkeocfaaDoor

/- What works() of redlinelaw15 prints and reads; plain. -/
namespace Go.Proofs.YtgiojkhmkeocfaaDoor
open Ln

def wkP : Pth := ⟨[97], [98], [⟨1, 3, 1, 3, [⟨32, [49, 10]⟩, ⟨45, [50, 10]⟩, ⟨43, [120, 10]⟩, ⟨32, [51, 10]⟩]⟩]⟩
def wkT : List UInt8 := [42, 42, 42, 32, 97, 10, 45, 45, 45, 32, 98, 10, 42, 42, 42, 42, 42, 42, 42, 42, 42, 42, 42, 42, 42, 42, 42, 10, 42, 42, 42, 32, 49, 44, 51, 32, 42, 42, 42, 42, 10, 32, 32, 49, 10, 33, 32, 50, 10, 32, 32, 51, 10, 45, 45, 45, 32, 49, 44, 51, 32, 45, 45, 45, 45, 10, 32, 32, 49, 10, 33, 32, 120, 10, 32, 32, 51, 10]
theorem wk_wrg : wrgP wkP = 0 := by decide
theorem wk_it1 : Lib.itoa 1 = [49] := by
  simp [Lib.itoa]
  rw [Lib.decDigits]
  simp
theorem wk_it3 : Lib.itoa 3 = [51] := by
  simp [Lib.itoa]
  rw [Lib.decDigits]
  simp
theorem wk_text : ptT wkP = wkT := by
  have h : spanT 1 3 = [49, 44, 51] := by
    unfold spanT
    rw [if_neg (by decide), show (1 + 3 - 1 : Int) = 3 by decide, wk_it1, wk_it3]
    rfl
  unfold ptT
  rw [if_pos wk_wrg]
  unfold ptL
  rw [if_neg (by decide)]
  have hn : ∀ c : UInt8, c = 97 ∨ c = 98 → nameT [c] = [c] := by
    rintro c (rfl | rfl) <;> decide
  have hk : ∀ h : Hk, hkL h = (starsT ++ [10]) :: rlT 42 h.A h.AN :: (sideL 45 h.ls ++ rlT 45 h.B h.BN :: sideL 43 h.ls) := fun _ => rfl
  have hr : ∀ e : UInt8, rlT e 1 3 = [e, e, e, 32] ++ [49, 44, 51] ++ [32, e, e, e, e, 10] := by
    intro e
    unfold rlT
    rw [h]
  show List.flatten (([42, 42, 42, 32] ++ nameT [97] ++ [10]) :: ([45, 45, 45, 32] ++ nameT [98] ++ [10]) :: (hkL ⟨1, 3, 1, 3, [⟨32, [49, 10]⟩, ⟨45, [50, 10]⟩, ⟨43, [120, 10]⟩, ⟨32, [51, 10]⟩]⟩ ++ [])) = wkT
  rw [hn 97 (.inl rfl), hn 98 (.inr rfl), hk]
  dsimp only
  rw [hr, hr]
  decide
/-- what works reads of it -/
theorem wk_read (hg : Gp wkP) : cxT wkT = .ok [wkP] := by
  have hl : [wkP].flatMap ptT = wkT := by
    show ptT wkP ++ [] = wkT
    rw [List.append_nil, wk_text]
  have h1 : ∀ q ∈ [wkP], Gp q := fun q hq => by rw [List.mem_singleton.1 hq]; exact hg
  rw [pts_text h1] at hl
  have := cx_back h1 (by simp) (by rw [hl]; decide)
  rw [hl] at this
  exact this
theorem wk_gp : Gp wkP := by
  refine ⟨by decide, by decide, by decide, by decide, ?_⟩
  intro h hh
  rw [List.mem_singleton.1 hh]
  exact ⟨by decide, by simp [Nf], by decide, by decide⟩
end Go.Proofs.YtgiojkhmkeocfaaDoor

/- How large what is read of a text in the context form is; plain mathematics. -/
namespace Go.Proofs.YtgiojkhmkeocfaaDoor
open Ln

/-- the bytes of lines, and one a line -/
def szL : List (List UInt8) → Nat
  | [] => 0
  | s :: r => s.length + 1 + szL r
theorem szl_tail (l : List (List UInt8)) : szL l.tail ≤ szL l := by
  cases l with
  | nil => exact Nat.le_refl _
  | cons s r => simp only [List.tail_cons, szL]; omega
theorem szl_len (l : List (List UInt8)) : szL l = l.flatten.length + l.length := by
  induction l with
  | nil => rfl
  | cons s r ih =>
    simp only [szL, List.flatten_cons, List.length_append, List.length_cons, ih]
    omega
def szS (x : Sde) : Nat := szL (x.map (·.2))
theorem szs_cons (y : UInt8 × List UInt8) (x : Sde) : szS (y :: x) = y.2.length + 1 + szS x := rfl
theorem szs_kept (x : Sde) : szS (keptS x) ≤ szS x := by
  induction x with
  | nil => exact Nat.le_refl _
  | cons y x ih =>
    unfold keptS at ih ⊢
    rw [List.filter_cons]
    split
    · rw [szs_cons, szs_cons]
      omega
    · rw [szs_cons]
      omega
theorem rd_sz {sg : UInt8} (ls : List (List UInt8)) : ∀ {p p1 : Nat} {r : List (List UInt8)} {x : Sde}, rdS sg p ls = .ok (x, p1, r) → szS x + szL r ≤ szL ls := by
  induction ls with
  | nil =>
    intro p p1 r x h
    simp only [rdS] at h
    cases h
    exact Nat.le_refl _
  | cons s ls ih =>
    intro p p1 r x h
    simp only [rdS] at h
    split at h
    · split at h
      · split at h
        · cases h
          have := szl_tail ls
          rw [szs_cons]
          simp only [szL, szS, List.map_nil, List.length_dropLast, List.length_drop]
          omega
        · split at h
          · cases h
          · rename_i hr
            have := ih hr
            cases h
            rw [szs_cons]
            simp only [szL, List.length_drop]
            omega
      · cases h
    · cases h
      show 0 + _ ≤ _
      omega
theorem nxt_sz {p : Nat} {ls r : List (List UInt8)} {s : List UInt8} (h : nxt p ls = .ok (s, r)) : szL r + 1 ≤ szL ls := by
  cases ls with
  | nil => cases h
  | cons t l =>
    simp only [nxt] at h
    split at h
    · cases h
      simp only [szL]
      omega
    · cases h
theorem rng_sz {e : UInt8} {p : Nat} {ls r : List (List UInt8)} {q : Int × Int} (h : rngP e p ls = .ok (q, r)) : szL r + 1 ≤ szL ls := by
  unfold rngP at h
  split at h
  · cases h
  · rename_i hn
    split at h
    · cases h
    · split at h
      · cases h
      · cases h
        exact nxt_sz hn
theorem mk_sz {l : List Mk} (h : ∀ m ∈ l, okS m.sg = true) : l.length + txS l ≤ szL (pkL 43 l) + szL (pkL 45 l) := by
  induction l with
  | nil => exact Nat.le_refl _
  | cons m l ih =>
    have h1 := ih fun x hx => h x (by simp [hx])
    have h2 := h m (by simp)
    simp only [pkL, txS, List.length_cons]
    by_cases h3 : m.sg = 43
    · rw [if_neg (by simp [h3]), if_pos ⟨by rw [h3]; decide, h2⟩]
      simp only [szL]
      omega
    · rw [if_pos ⟨h3, h2⟩]
      split
      · simp only [szL]
        omega
      · simp only [szL]
        omega
theorem fin_sz {a0 a1 a2 : Nat} {po no pw nw : Int} {o w : Sde} {h : Hk} (hf : finH a0 a1 a2 po no pw nw o w = .ok h) : h.ls.length + txS h.ls ≤ 2 * (szS o + szS w) := by
  unfold finH at hf
  split at hf
  · cases hf
  split at hf
  · cases hf
  split at hf
  · cases hf
  split at hf
  · cases hf
  split at hf
  · cases hf
  split at hf
  · cases hf
  · rename_i l hj
    cases hf
    obtain ⟨_, b, c, d, _⟩ := jn_ok _ hj
    have := mk_sz b
    rw [c, d] at this
    have e1 : szL ((oldF o w).map (·.2)) ≤ szS o + szS w := by
      show szS (oldF o w) ≤ _
      unfold oldF
      split
      · have := szs_kept w
        omega
      · omega
    have e2 : szL ((newF o w).map (·.2)) ≤ szS o + szS w := by
      show szS (newF o w) ≤ _
      unfold newF
      split
      · have := szs_kept o
        omega
      · omega
    dsimp only
    omega
theorem cxh_sz {k p p1 : Nat} {ls r : List (List UInt8)} {h : Hk} (hh : cxH k p ls = .ok (h, p1, r)) : h.ls.length + txS h.ls + 2 * szL r + 6 ≤ 2 * szL ls := by
  unfold cxH at hh
  split at hh
  · cases hh
  · rename_i s r0 hn
    have a1 := nxt_sz hn
    split at hh
    · split at hh
      · cases hh
      · split at hh
        · cases hh
        · rename_i po no r1 h1
          have b1 := rng_sz h1
          split at hh
          · cases hh
          · rename_i o p2 r2 h2
            have c1 := rd_sz _ h2
            split at hh
            · cases hh
            · rename_i pw nw r3 h3
              have d1 := rng_sz h3
              split at hh
              · cases hh
              · rename_i w p4 r4 h4
                have e1 := rd_sz _ h4
                split at hh
                · cases hh
                · rename_i h5 hf
                  cases hh
                  have := fin_sz hf
                  omega
    · cases hh
theorem cxhs_sz (f : Nat) : ∀ {k p p1 : Nat} {ls r : List (List UInt8)} {hs : List Hk}, cxHs f k p ls = .ok (hs, p1, r) → hsS hs + 208 * szL r ≤ 208 * szL ls := by
  induction f with
  | zero => intro k p p1 ls r hs h; cases h
  | succ f ih =>
    intro k p p1 ls r hs h
    simp only [cxHs] at h
    split at h
    · cases h
    · rename_i h0 q1 r1 h1
      have a := cxh_sz h1
      split at h
      · split at h
        · cases h
        · rename_i l q2 r2 h2
          have b := ih h2
          cases h
          simp only [hsS]
          omega
      · cases h
        simp only [hsS]
        omega
/-- the size of patches -/
def ptM : List Pth → Nat
  | [] => 0
  | p :: L => 416 + hsS p.hs + ptM L
theorem nam_sz {ah n : List UInt8} {p : Nat} {ls r : List (List UInt8)} (h : namP ah p ls = .ok (n, r)) : szL r + 1 ≤ szL ls := by
  unfold namP at h
  split at h
  · cases h
  · rename_i s r0 hn
    have := nxt_sz hn
    split at h
    · split at h
      · cases h
      · cases h
        exact this
    · cases h
theorem cxps_sz (f : Nat) : ∀ {k p : Nat} {ls : List (List UInt8)} {L : List Pth}, cxPs f k p ls = .ok L → ptM L ≤ 208 * szL ls := by
  induction f with
  | zero =>
    intro k p ls L h
    simp only [cxPs] at h
    cases h
    exact Nat.zero_le _
  | succ f ih =>
    intro k p ls L h
    simp only [cxPs] at h
    split at h
    · cases h
      exact Nat.zero_le _
    · split at h
      · cases h
      · rename_i n1 r1 h1
        have a1 := nam_sz h1
        split at h
        · cases h
        · split at h
          · cases h
          · rename_i n2 r2 h2
            have b1 := nam_sz h2
            split at h
            · cases h
            · rename_i hs p3 r3 h3
              have c1 := cxhs_sz _ h3
              split at h
              · cases h
              · rename_i l h4
                have d1 := ih h4
                cases h
                simp only [ptM]
                omega
theorem cx_size {t : List UInt8} {L : List Pth} (h : cxT t = .ok L) : ptM L ≤ 436207616 := by
  unfold cxT at h
  split at h
  · cases h
  · rename_i hl
    have := cxps_sz _ h
    rw [szl_len, split_join] at this
    have h2 := split_len t
    omega
theorem pts_len (L : List Pth) : (L.flatMap ptT).length ≤ ptM L := by
  induction L with
  | nil => exact Nat.le_refl _
  | cons p L ih =>
    rw [List.flatMap_cons, List.length_append, ptM]
    have := pt_len p
    omega
theorem ptM_mem {L : List Pth} {p : Pth} (h : p ∈ L) : 416 + hsS p.hs ≤ ptM L := by
  induction L with
  | nil => cases h
  | cons q L ih =>
    simp only [ptM]
    rcases List.mem_cons.1 h with rfl | h
    · omega
    · have := ih h
      omega
theorem hsS_mem {l : List Hk} {x : Hk} (h : x ∈ l) : x.ls.length + txS x.ls ≤ hsS l := by
  induction l with
  | nil => cases h
  | cons q l ih =>
    simp only [hsS]
    rcases List.mem_cons.1 h with rfl | h
    · omega
    · have := ih h
      omega
theorem hsS_len (l : List Hk) : l.length ≤ hsS l := by
  induction l with
  | nil => exact Nat.le_refl _
  | cons q l ih =>
    simp only [hsS, List.length_cons]
    omega
theorem txS_mem {l : List Mk} {m : Mk} (h : m ∈ l) : m.tx.length ≤ txS l := by
  induction l with
  | nil => cases h
  | cons q l ih =>
    simp only [txS]
    rcases List.mem_cons.1 h with rfl | h
    · omega
    · have := ih h
      omega
theorem hok_size {p : List (Hk × Value)} (h : hsS (p.map (·.1)) ≤ 436207616) : HOk p := by
  refine ⟨?_, fun x hx => ?_⟩
  · have := hsS_len (p.map (·.1))
    rw [List.length_map] at this
    omega
  · have := hsS_mem (List.mem_map_of_mem (f := (·.1)) hx)
    refine ⟨by omega, fun m hm => ?_⟩
    have := txS_mem hm
    omega
end Go.Proofs.YtgiojkhmkeocfaaDoor

/- The laws' own works of layer 15, walked. -/
namespace Go.Proofs.YtgiojkhmkeocfaaDoor
open Go.RowKit

def wkM : Obj := .cells #[.int .u8 32, .string ⟨#[49, 10]⟩, .int .u8 45, .string ⟨#[50, 10]⟩, .int .u8 43, .string ⟨#[120, 10]⟩, .int .u8 32, .string ⟨#[51, 10]⟩] 91
def wkH (b : Nat) : Obj := .cells #[.int .i64 1, .int .i64 3, .int .i64 1, .int .i64 3, .slice (some ⟨b, 0, none⟩) 4 4] 43
def wkK : Hk := ⟨1, 3, 1, 3, [⟨32, [49, 10]⟩, ⟨45, [50, 10]⟩, ⟨43, [120, 10]⟩, ⟨32, [51, 10]⟩]⟩
theorem wk_hh (w : World) (n m : Nat) (hn : w.heap.size = n) (hm : n + 1 = m) : HHp ((w.alloc wkM).alloc (wkH n)) (.slice (some ⟨m, 0, none⟩) 1 1) [(wkK, .slice (some ⟨n, 0, none⟩) 4 4)] := by
  have hz : (w.alloc wkM).heap.size = m := by rw [← hm, ← hn]; simp
  refine ⟨?_, ?_⟩
  · exact new_holds_at (w.alloc wkM) m hz #[.int .i64 1, .int .i64 3, .int .i64 1, .int .i64 3, .slice (some ⟨n, 0, none⟩) 4 4] 43 1 1 (by simp)
  · intro y hy
    rw [List.mem_singleton.1 hy]
    have h := new_holds_at w n hn #[.int .u8 32, .string ⟨#[49, 10]⟩, .int .u8 45, .string ⟨#[50, 10]⟩, .int .u8 43, .string ⟨#[120, 10]⟩, .int .u8 32, .string ⟨#[51, 10]⟩] 91 4 4 (by decide)
    have h2 : HMk (w.alloc wkM) (.slice (some ⟨n, 0, none⟩) 4 4) wkK.ls := h
    exact h2.keep ((Below.refl _ _).alloc (Nat.le_refl _) _) (Nat.le_refl _)
theorem wk_one {F : List Pfd} {p0 : Pth} (h : F.map (·.x) = [p0]) : ∃ f, F = [f] ∧ f.x = p0 := by
  match F, h with
  | [f], h =>
    simp at h
    exact ⟨f, rfl, h⟩
theorem wk_hok (v : Value) : HOk [(wkK, v)] := by
  refine ⟨show 1 ≤ _ by decide, fun x hx => ?_⟩
  rw [List.mem_singleton.1 hx]
  exact ⟨show wkK.ls.length ≤ _ by decide, show ∀ m ∈ wkK.ls, m.tx.length ≤ 1099511627776 by decide⟩
theorem load_ptc {u : World} {b f : Nat} {a0 a1 : ByteArray} {o : Option Addr} {n c : Nat} (h0 : u.cell? ⟨b, f, none⟩ = some (.string a0)) (h1 : u.cell? ⟨b, f + 1, none⟩ = some (.string a1)) (h2 : u.cell? ⟨b, f + 2, none⟩ = some (.slice o n c)) {op : Oper} (x : Operand) (ho : op.op = .load 46 x) {ev : Operand → Value} (hx : ev x = .pointer (some ⟨b, f, none⟩)) :
    (execOp ev op).run Tryd.prog u = .ok (.value (.agg #[.string a0, .string a1, .slice o n c])) u := by
  simp only [execOp, ho, hx]
  go_simp
end Go.Proofs.YtgiojkhmkeocfaaDoor

/- The unified form as texts and as lines: how it is written, how it is read; plain mathematics. -/
namespace Go.Proofs.YtgiojkhmkeocfaaDoor
open Ln

/-- a count of lines behind a number -/
def ucT (p n : Int) : List UInt8 := if n = 1 then Lib.itoa p else Lib.itoa p ++ 44 :: Lib.itoa n
/-- the line that begins a hunk -/
def uhT (h : Hk) : List UInt8 := [64, 64, 32, 45] ++ (ucT h.A h.AN ++ ([32, 43] ++ (ucT h.B h.BN ++ [32, 64, 64])))
/-- a line of a hunk, as lines -/
def umL (m : Mk) : List (List UInt8) := lnL [UInt8.ofNat m.sg.toNat] m.tx
/-- a hunk, as lines -/
def uhL (h : Hk) : List (List UInt8) := (uhT h ++ [10]) :: h.ls.flatMap umL
/-- a patch, as lines -/
def upL (p : Pth) : List (List UInt8) := if p.hs = [] then [] else ([45, 45, 45, 32] ++ nameT p.old ++ [10]) :: ([43, 43, 43, 32] ++ nameT p.new ++ [10]) :: p.hs.flatMap uhL
/-- Print's text -/
def upT (p : Pth) : List UInt8 := if wrgP p = 0 then (upL p).flatten else []

/-- a text up to some bytes, and what is behind them -/
def cutS (x : List UInt8) : List UInt8 → Option (List UInt8 × List UInt8)
  | [] => if x.isPrefixOf [] = true then some ([], []) else none
  | c :: t => if x.isPrefixOf (c :: t) = true then some ([], (c :: t).drop x.length) else match cutS x t with
    | none => none
    | some (a, b) => some (c :: a, b)
/-- a number, and a count behind a comma -/
def cntP (s : List UInt8) : Option (Int × Int) := match spB isK s with
  | some (x, _, y) => if Pn.parseE x = 0 ∧ Pn.parseE y = 0 then some (Pn.parseV x, Pn.parseV y) else none
  | none => if Pn.parseE s = 0 then some (Pn.parseV s, 1) else none
/-- may that stand behind a hunk's head? -/
def tlB : List UInt8 → Bool
  | [] => true
  | c :: _ => c == 32
/-- a line that begins a hunk: A, AN, B, BN -/
def uhdP (s : List UInt8) : Option (Int × Int × Int × Int) :=
  if ([64, 64, 32, 45] : List UInt8).isPrefixOf s = true then match cutS [32, 43] (s.drop 4) with
    | none => none
    | some (o, r) => match cutS [32, 64, 64] r with
      | none => none
      | some (f, t) => if tlB t = true then match cntP o, cntP f with
        | some (A, AN), some (B, BN) => some (A, AN, B, BN)
        | _, _ => none else none
  else none
/-- how many old, how many new lines a line with a sign is -/
def tkO (c : UInt8) : Nat := if c = 43 then 0 else 1
def tkN (c : UInt8) : Nat := if c = 45 then 0 else 1
def okC (c : UInt8) : Bool := c == 32 || c == 45 || c == 43
/-- is a line the last one on each of its sides? -/
def uendB (c : UInt8) (a b : Nat) : Bool := (c == 43 || a == 0) && (c == 45 || b == 0)
/-- a line of a hunk, of which a old and b new lines are left -/
def ulnP (a b p : Nat) (ls : List (List UInt8)) : Except (Nat × Int) (Mk × Nat × List (List UInt8)) :=
  match nxt p ls with
  | .error e => .error e
  | .ok ([], _) => .error (p + 1, 3)
  | .ok (c :: t, r) => if okC c = true ∧ tkO c ≤ a ∧ tkN c ≤ b then
      if uendB c (a - tkO c) (b - tkN c) = true ∧ t ≠ [] ∧ pkM r = true then .ok (⟨c.toNat, t⟩, p + 2, r.tail) else .ok (⟨c.toNat, t ++ [10]⟩, p + 1, r)
    else .error (p + 1, 3)
def sgO (m : Mk) : Nat := if m.sg = 43 then 0 else 1
def sgN (m : Mk) : Nat := if m.sg = 45 then 0 else 1
/-- the lines of a hunk -/
def urdP : Nat → Nat → Nat → Nat → List (List UInt8) → Except (Nat × Int) (List Mk × Nat × List (List UInt8))
  | 0, _, _, p, ls => .ok ([], p, ls)
  | n + 1, a, b, p, ls => if a + b = 0 then .ok ([], p, ls) else match ulnP a b p ls with
    | .error e => .error e
    | .ok (m, p1, r) => match urdP n (a - sgO m) (b - sgN m) p1 r with
      | .error e => .error e
      | .ok (l, p2, r2) => .ok (m :: l, p2, r2)
/-- is no line changed? -/
def smB (l : List Mk) : Bool := l.all fun m => decide (m.sg = 32)
/-- a hunk; so many are ahead of it -/
def uhkP (k p : Nat) (ls : List (List UInt8)) : Except (Nat × Int) (Hk × Nat × List (List UInt8)) :=
  match nxt p ls with
  | .error e => .error e
  | .ok (s, r) => match uhdP s with
    | none => .error (p + 1, 3)
    | some (A, AN, B, BN) => if 4096 ≤ k then .error (p + 1, 9) else if A = 0 ∧ 0 < AN ∨ B = 0 ∧ 0 < BN then .error (p + 1, 2) else
      match urdP (AN.toNat + BN.toNat) AN.toNat BN.toNat (p + 1) r with
      | .error e => .error e
      | .ok (l, p1, r1) => if smB l = true then .error (p + 1, 50) else .ok (⟨A, AN, B, BN, l⟩, p1, r1)
/-- does the next line begin with these bytes? -/
def pkU (x : List UInt8) : List (List UInt8) → Bool
  | [] => false
  | s :: _ => x.isPrefixOf s
/-- the hunks of a patch, by as many steps as there are lines; x: the bytes by which a line shows that it begins one -/
def uhsP (x : List UInt8) : Nat → Nat → Nat → List (List UInt8) → Except (Nat × Int) (List Hk × Nat × List (List UInt8))
  | 0, _, p, _ => .error (p + 1, 1)
  | f + 1, k, p, ls => match uhkP k p ls with
    | .error e => .error e
    | .ok (h, p1, r) => if pkU x r = true then match uhsP x f (k + 1) p1 r with
        | .error e => .error e
        | .ok (l, p2, r2) => .ok (h :: l, p2, r2)
      else .ok ([h], p1, r)
/-- all patches -/
def upsP (x : List UInt8) : Nat → Nat → Nat → List (List UInt8) → Except (Nat × Int) (List Pth)
  | 0, _, _, _ => .ok []
  | f + 1, k, p, ls => if ls = [] then .ok [] else match namP [45, 45, 45, 32] p ls with
    | .error e => .error e
    | .ok (n1, r1) => if 64 ≤ k then .error (p + 1, 9) else match namP [43, 43, 43, 32] (p + 1) r1 with
      | .error e => .error e
      | .ok (n2, r2) => match uhsP x (r2.length + 1) 0 (p + 2) r2 with
        | .error e => .error e
        | .ok (hs, p3, r3) => match upsP x f (k + 1) p3 r3 with
          | .error e => .error e
          | .ok l => .ok (⟨n1, n2, hs⟩ :: l)
/-- a text is read -/
def unT (x t : List UInt8) : Except (Nat × Int) (List Pth) := if 1048576 < t.length then .error (0, 9) else upsP x (splitL t).length 0 0 (splitL t)
def atR : List UInt8 := [64, 64]
def atC : List UInt8 := [64, 64, 32, 45]
end Go.Proofs.YtgiojkhmkeocfaaDoor
