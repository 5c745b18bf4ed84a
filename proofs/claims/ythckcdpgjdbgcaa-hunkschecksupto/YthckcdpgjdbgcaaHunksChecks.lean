/-
  HunksChecks, walked: which hunks are right, their lines, and the way back.
-/
import Derived.Test.YthckcdpgjdbgcaaPartC2
import Derived.Test.YthckcdpgjdbgcaaPartA6
import Derived.Test.YthckcdpgjdbgcaaPartB1
namespace Go.Proofs.Ythckcdpgjdbgcaa
open Go.RowKit

theorem hold {h : Hk} {v : Value} {W u : World} (hv : HMk W v h.ls) (hl : h.ls.length ≤ 274877906944) {R : List (List UInt8)} (HR : Hid (oldL h = R)) (hL : Low W u) : Calls Try.prog 14 (#[hkV h v] ++ #[]) u fun e w' => ∃ x, e = .returned x ∧ Low W w' ∧ (HS w' x R ∧ Below u.heap.size u w') := by
  refine (hOld_f h v u (HMk.keep hv hL (Nat.le_refl _)) (by omega) R HR).mono ?_
  rintro e w' ⟨x, rfl, hx, hB⟩
  exact ⟨_, rfl, hL.trans (hB.mono hL.size), hx, hB⟩
theorem hnew {h : Hk} {v : Value} {W u : World} (hv : HMk W v h.ls) (hl : h.ls.length ≤ 274877906944) {R : List (List UInt8)} (HR : Hid (newL h = R)) (hL : Low W u) : Calls Try.prog 15 (#[hkV h v] ++ #[]) u fun e w' => ∃ x, e = .returned x ∧ Low W w' ∧ (HS w' x R ∧ Below u.heap.size u w') := by
  refine (hNew_f h v u (HMk.keep hv hL (Nat.le_refl _)) (by omega) R HR).mono ?_
  rintro e w' ⟨x, rfl, hx, hB⟩
  exact ⟨_, rfl, hL.trans (hB.mono hL.size), hx, hB⟩

theorem hchk {h : Hk} {v : Value} {W u : World} (hv : HMk W v h.ls) (hl : h.ls.length ≤ 274877906944) (htx : ∀ m ∈ h.ls, m.tx.length ≤ 1099511627776) {r : Int} (HR : Hid (chkH h = r)) (hL : Low W u) : Calls Try.prog 16 (#[hkV h v] ++ #[]) u fun e w' => ∃ x, e = .returned x ∧ Low W w' ∧ x = .int .i64 r := by
  refine (hCheck_f h v u (HMk.keep hv hL (Nat.le_refl _)) (by omega) htx r HR).mono ?_
  rintro e w' ⟨rfl, hB⟩
  exact ⟨_, rfl, hL.trans (hB.mono hL.size), rfl⟩
theorem rchk {h : Hk} {v : Value} {W u : World} (hv : HMk W v h.ls) (hl : h.ls.length ≤ 274877906944) (htx : ∀ m ∈ h.ls, m.tx.length ≤ 1099511627776) {r : Int} (HR : Hid (chkH h = r)) (hL : Low W u) : Calls Try.prog 17 (#[hkV h v] ++ #[]) u fun e w' => ∃ x, e = .returned x ∧ Low W w' ∧ x = .int .i64 r := by
  refine (rhCheck_f h v u (HMk.keep hv hL (Nat.le_refl _)) (by omega) htx r HR).mono ?_
  rintro e w' ⟨rfl, hB⟩
  exact ⟨_, rfl, hL.trans (hB.mono hL.size), rfl⟩
theorem rold {h : Hk} {v : Value} {W u : World} (hv : HMk W v h.ls) (hl : h.ls.length ≤ 274877906944) {R : List (List UInt8)} (HR : Hid (oldL h = R)) (hL : Low W u) : Calls Try.prog 18 (#[hkV h v] ++ #[]) u fun e w' => ∃ x, e = .returned x ∧ Low W w' ∧ HS w' x R := by
  refine (rOld_f h v u (HMk.keep hv hL (Nat.le_refl _)) (by omega) R HR).mono ?_
  rintro e w' ⟨x, rfl, hx, hB⟩
  exact ⟨_, rfl, hL.trans (hB.mono hL.size), hx⟩
theorem rnew {h : Hk} {v : Value} {W u : World} (hv : HMk W v h.ls) (hl : h.ls.length ≤ 274877906944) {R : List (List UInt8)} (HR : Hid (newL h = R)) (hL : Low W u) : Calls Try.prog 19 (#[hkV h v] ++ #[]) u fun e w' => ∃ x, e = .returned x ∧ Low W w' ∧ HS w' x R := by
  refine (rNew_f h v u (HMk.keep hv hL (Nat.le_refl _)) (by omega) R HR).mono ?_
  rintro e w' ⟨x, rfl, hx, hB⟩
  exact ⟨_, rfl, hL.trans (hB.mono hL.size), hx⟩
theorem sames {va vb : Value} {l : List (List UInt8)} {W u : World} (hlen : l.length ≤ 4398046511104) (ha : HS u va l) (hb : HS u vb l) (hL : Low W u) : Calls Try.prog 12 (#[va, vb] ++ #[]) u fun e w' => ∃ x, e = .returned x ∧ Low W w' ∧ x = .bool true := by
  refine (SameS_any va vb l u hlen ha hb).mono ?_
  rintro e w' ⟨rfl, hB⟩
  exact ⟨_, rfl, hL.trans (hB.mono hL.size), rfl⟩

theorem rinv {h : Hk} {v : Value} {W u : World} (hv : HMk W v h.ls) (hl : h.ls.length ≤ 274877906944) {R : List Mk} (HR : Hid (invG [] h.ls = R)) (hL : Low W u) : Calls Try.prog 22 (#[hkV h v] ++ #[]) u fun e w' => ∃ x, e = .returned x ∧ Low W w' ∧ ∃ o c, x = hkV ⟨h.B, h.BN, h.A, h.AN, R⟩ (.slice o R.length c) ∧ HMk w' (.slice o R.length c) R := by
  refine (rhInvert_f h v u (HMk.keep hv hL (Nat.le_refl _)) (by omega) R HR).mono ?_
  rintro e w' ⟨x, rfl, hx, hB⟩
  obtain ⟨o, c, rfl⟩ := (holds_of hx).form
  exact ⟨_, rfl, hL.trans (hB.mono hL.size), o, c, rfl, holds_of hx⟩
theorem sameh {h : Hk} {v1 v2 : Value} {W u : World} (hv1 : HMk u v1 h.ls) (hv2 : HMk u v2 h.ls) (hl : h.ls.length ≤ 1099511627776) (hL : Low W u) : Calls Try.prog 21 (#[hkV h v1, hkV h v2] ++ #[]) u fun e w' => ∃ x, e = .returned x ∧ Low W w' ∧ x = .bool true := by
  refine (rSame_f h v1 v2 u hv1 hv2 hl).mono ?_
  rintro e w' ⟨rfl, hB⟩
  exact ⟨_, rfl, hL.trans (hB.mono hL.size), rfl⟩
theorem box_ne {u : World} {b g B s : Nat} {h : Hk} {v : Value} {n cap : Nat} {Y : List Value} (q : Hx u b h v) (ho : u.ownsRow B 46 s (.slice (some ⟨g, 0, none⟩) n cap) n Y) : b ≠ g := by
  rintro rfl
  rcases ho.2 with ⟨e, _⟩ | ⟨g', cap', cur, e, _, hb, _⟩
  · cases e
  · cases e
    unfold Hx hkO at q
    rw [q] at hb
    simp at hb
theorem inv_len (l : List Mk) : ∀ x, (invG x l).length = x.length + l.length := by
  induction l with
  | nil => intro x; simp [invG]
  | cons m l ih =>
    intro x
    simp only [invG, List.length_cons]
    split
    · simp only [List.length_cons, ih]; omega
    · split
      · rw [ih]; simp; omega
      · simp only [List.length_append, List.length_cons, ih, List.length_nil]; omega

set_option maxRecDepth 10000 in
set_option maxHeartbeats 16000000 in
theorem HunksChecks_any (h : Hk) (v : Value) (w : World) (hv : HMk w v h.ls) (hl : h.ls.length ≤ 274877906944) (htx : ∀ m ∈ h.ls, m.tx.length ≤ 1099511627776) : Calls Try.prog 4 #[hkV h v] w fun e w' => e = .returned (.bool true) ∧ Below w.heap.size w w' := by
  obtain ⟨A, AN, B, BN, ls⟩ := h
  dsimp only at hv hl htx
  obtain ⟨lo, lc, rfl⟩ := HMk.form hv
  have HTX : Hid (∀ m ∈ ls, m.tx.length ≤ 1099511627776) := htx
  have hx := Hx.new w ⟨A, AN, B, BN, ls⟩ (.slice lo ls.length lc)
  have hB0 : Below w.heap.size w (w.alloc (hkO ⟨A, AN, B, BN, ls⟩ (.slice lo ls.length lc))) := (Below.refl _ w).alloc (Nat.le_refl _) _
  have hm0 := HMk.keep hv hB0 (Nat.le_refl _)
  have e : hkV ⟨A, AN, B, BN, ls⟩ (.slice lo ls.length lc) = .agg #[.int .i64 A, .int .i64 AN, .int .i64 B, .int .i64 BN, .slice lo ls.length lc] := rfl
  have hW0 : w.alloc (Obj.cells #[Value.int IntKind.i64 A, Value.int IntKind.i64 AN, Value.int IntKind.i64 B, Value.int IntKind.i64 BN, .slice lo ls.length lc] 39) = w.alloc (hkO ⟨A, AN, B, BN, ls⟩ (.slice lo ls.length lc)) := rfl
  rw [e]
  clear htx hv e
  generalize w.alloc (hkO ⟨A, AN, B, BN, ls⟩ (.slice lo ls.length lc)) = W0 at *
  have hB1 : Below W0.heap.size W0 (W0.alloc (hkO ⟨A, AN, B, BN, ls⟩ (.slice lo ls.length lc))) := (Below.refl _ W0).alloc (Nat.le_refl _) _
  have hm1 := HMk.keep hm0 hB1 (Nat.le_refl _)
  have hx1 := hx.low hB1
  have hr1 : HHp (W0.alloc (hkO ⟨A, AN, B, BN, ls⟩ (.slice lo ls.length lc))) (.slice (some ⟨W0.heap.size, 0, none⟩) 1 1) [(⟨A, AN, B, BN, ls⟩, .slice lo ls.length lc)] := ⟨one_row W0 _ _, fun x hx => by rw [List.mem_singleton.1 hx]; exact hm1⟩
  have hW1 : W0.alloc (Obj.cells #[Value.int IntKind.i64 A, Value.int IntKind.i64 AN, Value.int IntKind.i64 B, Value.int IntKind.i64 BN, .slice lo ls.length lc] 39) = W0.alloc (hkO ⟨A, AN, B, BN, ls⟩ (.slice lo ls.length lc)) := rfl
  have hB01 := hB0.trans (hB1.mono hB0.size)
  obtain ⟨x0, x1, x2, x3, x4⟩ := hx.cells
  dsimp only at x0 x1 x2 x3 x4
  go_enter Try.func4, Try.ntmps4
  go_wp2_with fail
  generalize W0.alloc (hkO ⟨A, AN, B, BN, ls⟩ (.slice lo ls.length lc)) = W1 at *
  refine (rCopy_f [(⟨A, AN, B, BN, ls⟩, .slice lo ls.length lc)] _ W1 hr1 ⟨by simp, fun x hx => by rw [List.mem_singleton.1 hx]; exact ⟨by dsimp only; omega, HTX.out⟩⟩).mono ?_
  rintro e W2 ⟨v2, P, rfl, hS2, hPm⟩
  obtain ⟨y, rfl⟩ : ∃ y, P = [(⟨A, AN, B, BN, ls⟩, y)] := (by
    match P, hPm with
    | [(x, y)], hPm =>
      simp at hPm
      exact ⟨y, by rw [hPm]⟩)
  clear hPm hW0 hW1 hr1
  have hmy := hS2.holds.ins _ (List.mem_singleton.2 rfl)
  dsimp only at hmy
  obtain ⟨yo, yc, rfl⟩ := hmy.form
  obtain ⟨o2, c2, rfl⟩ := (holds_of hS2.own).form
  obtain ⟨q, qf, rfl, _, hcc⟩ := hS2.holds.at (by simp)
  obtain ⟨k0, k1, k2, k3, k4⟩ := hcc 0 (by simp)
  simp only [List.getElem_cons_zero, Nat.zero_mul, Nat.add_zero] at k0 k1 k2 k3 k4
  have hx2 := hx1.low hS2.low
  have hm2 := HMk.keep hm1 hS2.low (Nat.le_refl _)
  have hB02 := hB01.trans (hS2.low.mono hB01.size)
  have hB3 : Below W2.heap.size W2 (W2.alloc (hkO ⟨A, AN, B, BN, ls⟩ (.slice yo ls.length yc))) := (Below.refl _ W2).alloc (Nat.le_refl _) _
  have hxo := Hx.new W2 ⟨A, AN, B, BN, ls⟩ (.slice yo ls.length yc)
  have hx3 := hx2.low hB3
  have hm3 := HMk.keep hm2 hB3 (Nat.le_refl _)
  have hmo := HMk.keep hmy hB3 (Nat.le_refl _)
  have hB03 := hB02.trans (hB3.mono hB02.size)
  have hW3 : W2.alloc (Obj.cells #[Value.int IntKind.i64 A, Value.int IntKind.i64 AN, Value.int IntKind.i64 B, Value.int IntKind.i64 BN, .slice yo ls.length yc] 39) = W2.alloc (hkO ⟨A, AN, B, BN, ls⟩ (.slice yo ls.length yc)) := rfl
  clear hcc x0 x1 x2 x3 x4 hx hx1 hm0 hm1 hB01 hB0
  go_upto_region 2 with fail
  generalize W2.alloc (hkO ⟨A, AN, B, BN, ls⟩ (.slice yo ls.length yc)) = W3 at *
  clear hW3 k0 k1 k2 k3 k4 hmy hS2 hx2 hm2 hB3
  obtain ⟨OL, hOL⟩ : ∃ OL, oldL ⟨A, AN, B, BN, ls⟩ = OL := ⟨_, rfl⟩
  obtain ⟨NL, hNL⟩ : ∃ NL, newL ⟨A, AN, B, BN, ls⟩ = NL := ⟨_, rfl⟩
  have HO : Hid (oldL ⟨A, AN, B, BN, ls⟩ = OL) := hOL
  have HN : Hid (newL ⟨A, AN, B, BN, ls⟩ = NL) := hNL
  clear hOL hNL
  go_cut [4, 5] from 13 to 16 (fun x y wz => (∃ o c, x = .slice o OL.length c) ∧ (∃ o c, y = .slice o NL.length c) ∧ Low W3 wz ∧ HS wz x OL ∧ HS wz y NL)
  case first =>
    refine wp_region_noPanic ?_
    refine wp_region_held_drew (S := fun u => Low W3 u) (by kernel_rfl) (Below.dN (Below.refl _ W3) 1) (fun hHeld => ?_)
    refine go_take 0 13 _ (hkV ⟨A, AN, B, BN, ls⟩ (.slice yo ls.length yc)) rfl (by kernel_rfl) (by kernel_rfl) (by kernel_rfl) (by kernel_rfl) (fun _ _ _ h => h) (Or.inl ⟨by kernel_rfl, fun u hu => load_hk (hxo.low hu) (.tmp 3) (by kernel_rfl) (by kernel_rfl)⟩) hHeld ?_
    simp only [Act.put, List.setIfInBounds_toArray, List.set_cons_zero, List.set_cons_succ]
    refine go_take 2 15 _ (hkV ⟨A, AN, B, BN, ls⟩ (.slice yo ls.length yc)) rfl (by kernel_rfl) (by kernel_rfl) (by kernel_rfl) (by kernel_rfl) (fun _ _ _ h => h) (Or.inl ⟨by kernel_rfl, fun u hu => load_hk (hxo.low hu) (.tmp 3) (by kernel_rfl) (by kernel_rfl)⟩) hHeld ?_
    simp only [Act.put, List.setIfInBounds_toArray, List.set_cons_zero, List.set_cons_succ]
    refine go_callE 1 14 _ rfl (by kernel_rfl) (by kernel_rfl) (by kernel_rfl) 14 (.func 14) #[.tmp 13] #[39] (by kernel_rfl) #[] (by kernel_rfl) #[hkV ⟨A, AN, B, BN, ls⟩ (.slice yo ls.length yc)] (by kernel_rfl) (enters_of Try.func14 (by kernel_rfl) rfl) _ (hold hmo hl HO hHeld) ?_
    rintro v4 u4 hHeld1 ⟨hs4, hb4⟩
    obtain ⟨o4, c4, rfl⟩ := Holds.form hs4
    simp only [Act.put, List.setIfInBounds_toArray, List.set_cons_zero, List.set_cons_succ]
    refine go_callE 3 16 _ rfl (by kernel_rfl) (by kernel_rfl) (by kernel_rfl) 15 (.func 15) #[.tmp 15] #[39] (by kernel_rfl) #[] (by kernel_rfl) #[hkV ⟨A, AN, B, BN, ls⟩ (.slice yo ls.length yc)] (by kernel_rfl) (enters_of Try.func15 (by kernel_rfl) rfl) _ (hnew hmo hl HN hHeld1) ?_
    rintro v5 u5 hHeld2 ⟨hs5, hb5⟩
    obtain ⟨o5, c5, rfl⟩ := Holds.form hs5
    simp only [Act.put, List.setIfInBounds_toArray, List.set_cons_zero, List.set_cons_succ]
    refine go_take 4 4 _ (.slice o4 OL.length c4) rfl (by kernel_rfl) (by kernel_rfl) (by kernel_rfl) (by kernel_rfl) (fun _ _ _ h => h) (Or.inl ⟨by kernel_rfl, fun u hu => by kernel_rfl⟩) hHeld2 ?_
    simp only [Act.put, List.setIfInBounds_toArray, List.set_cons_zero, List.set_cons_succ]
    refine go_take 5 5 _ (.slice o5 NL.length c5) rfl (by kernel_rfl) (by kernel_rfl) (by kernel_rfl) (by kernel_rfl) (fun _ _ _ h => h) (Or.inl ⟨by kernel_rfl, fun u hu => by kernel_rfl⟩) hHeld2 ?_
    simp only [Act.put, List.setIfInBounds_toArray, List.set_cons_zero, List.set_cons_succ]
    refine wpAnyH_done (by kernel_rfl) ?_ _
    refine NoPanic.normal ?_
    go_wp2_with fail
    go_meet
    case rel => exact ⟨⟨_, _, rfl⟩, ⟨_, _, rfl⟩, hHeld2, HS.keep hs4 hb5 (Nat.le_refl _), hs5⟩
  case rest =>
    obtain ⟨⟨o4, c4, rfl⟩, ⟨o5, c5, rfl⟩, hL5, hs4, hs5⟩ := hcut
    generalize wc = W5 at *
    have hxo5 := hxo.low hL5
    have hx5 := hx3.low hL5
    have hmo5 := HMk.keep hmo hL5 (Nat.le_refl _)
    have hm5 := HMk.keep hm3 hL5 (Nat.le_refl _)
    have hB05 := hB03.trans (Below.mono hL5 hB03.size)
    have hoL : OL.length ≤ 4398046511104 := by rw [← HO.out]; have := pkL_length 43 ls; show (pkL 43 ls).length ≤ _; omega
    have hnL : NL.length ≤ 4398046511104 := by rw [← HN.out]; have := pkL_length 45 ls; show (pkL 45 ls).length ≤ _; omega
    obtain ⟨z, hz⟩ : ∃ z, chkH ⟨A, AN, B, BN, ls⟩ = z := ⟨_, rfl⟩
    have HZ : Hid (chkH ⟨A, AN, B, BN, ls⟩ = z) := hz
    clear hz hxo hx3 hmo hm3 hL5
    go_upto_region 3 with fail
    go_cut [35] from 17 to 35 (fun c wz => c = .bool false ∧ Low W5 wz)
    case first =>
      refine wp_region_noPanic ?_
      refine wp_region_held_drew (S := fun u => Low W5 u) (by kernel_rfl) (Below.dN (Below.refl _ W5) 1) (fun hHeld => ?_)
      refine go_take 0 17 _ (hkV ⟨A, AN, B, BN, ls⟩ (.slice yo ls.length yc)) rfl (by kernel_rfl) (by kernel_rfl) (by kernel_rfl) (by kernel_rfl) (fun _ _ _ h => h) (Or.inl ⟨by kernel_rfl, fun u hu => load_hk (hxo5.low hu) (.tmp 3) (by kernel_rfl) (by kernel_rfl)⟩) hHeld ?_
      simp only [Act.put, List.setIfInBounds_toArray, List.set_cons_zero, List.set_cons_succ]
      refine go_take 2 19 _ (hkV ⟨A, AN, B, BN, ls⟩ (.slice lo ls.length lc)) rfl (by kernel_rfl) (by kernel_rfl) (by kernel_rfl) (by kernel_rfl) (fun _ _ _ h => h) (Or.inl ⟨by kernel_rfl, fun u hu => load_hk (hx5.low hu) (.tmp 1) (by kernel_rfl) (by kernel_rfl)⟩) hHeld ?_
      simp only [Act.put, List.setIfInBounds_toArray, List.set_cons_zero, List.set_cons_succ]
      refine go_callE 1 18 _ rfl (by kernel_rfl) (by kernel_rfl) (by kernel_rfl) 16 (.func 16) #[.tmp 17] #[39] (by kernel_rfl) #[] (by kernel_rfl) #[hkV ⟨A, AN, B, BN, ls⟩ (.slice yo ls.length yc)] (by kernel_rfl) (enters_of Try.func16 (by kernel_rfl) rfl) _ (hchk hmo5 hl HTX.out HZ hHeld) ?_
      rintro _ u6 hHeld rfl
      simp only [Act.put, List.setIfInBounds_toArray, List.set_cons_zero, List.set_cons_succ]
      refine go_callE 3 20 _ rfl (by kernel_rfl) (by kernel_rfl) (by kernel_rfl) 17 (.func 17) #[.tmp 19] #[39] (by kernel_rfl) #[] (by kernel_rfl) #[hkV ⟨A, AN, B, BN, ls⟩ (.slice lo ls.length lc)] (by kernel_rfl) (enters_of Try.func17 (by kernel_rfl) rfl) _ (rchk hm5 hl HTX.out HZ hHeld) ?_
      rintro _ u7 hHeld rfl
      simp only [Act.put, List.setIfInBounds_toArray, List.set_cons_zero, List.set_cons_succ]
      refine go_take 4 21 _ (.bool (z != z)) rfl (by kernel_rfl) (by kernel_rfl) (by kernel_rfl) (by kernel_rfl) (fun _ _ _ h => h) (Or.inl ⟨by kernel_rfl, fun u hu => by kernel_rfl⟩) hHeld ?_
      simp only [Act.put, List.setIfInBounds_toArray, List.set_cons_zero, List.set_cons_succ]
      simp only [bne_self_eq_false]
      refine go_take 5 22 _ (.bool false) rfl (by kernel_rfl) (by kernel_rfl) (by kernel_rfl) (by kernel_rfl) (fun _ _ _ h => h) (Or.inl ⟨by kernel_rfl, fun u hu => by kernel_rfl⟩) hHeld ?_
      simp only [Act.put, List.setIfInBounds_toArray, List.set_cons_zero, List.set_cons_succ]
      refine go_take 6 23 _ (.slice o4 OL.length c4) rfl (by kernel_rfl) (by kernel_rfl) (by kernel_rfl) (by kernel_rfl) (fun _ _ _ h => h) (Or.inl ⟨by kernel_rfl, fun u hu => by kernel_rfl⟩) hHeld ?_
      simp only [Act.put, List.setIfInBounds_toArray, List.set_cons_zero, List.set_cons_succ]
      refine go_take 7 24 _ (hkV ⟨A, AN, B, BN, ls⟩ (.slice lo ls.length lc)) rfl (by kernel_rfl) (by kernel_rfl) (by kernel_rfl) (by kernel_rfl) (fun _ _ _ h => h) (Or.inl ⟨by kernel_rfl, fun u hu => load_hk (hx5.low hu) (.tmp 1) (by kernel_rfl) (by kernel_rfl)⟩) hHeld ?_
      simp only [Act.put, List.setIfInBounds_toArray, List.set_cons_zero, List.set_cons_succ]
      refine go_callE 8 25 _ rfl (by kernel_rfl) (by kernel_rfl) (by kernel_rfl) 18 (.func 18) #[.tmp 24] #[39] (by kernel_rfl) #[] (by kernel_rfl) #[hkV ⟨A, AN, B, BN, ls⟩ (.slice lo ls.length lc)] (by kernel_rfl) (enters_of Try.func18 (by kernel_rfl) rfl) _ (rold hm5 hl HO hHeld) ?_
      rintro v8 u8 hHeld hs8
      obtain ⟨o8, c8, rfl⟩ := Holds.form hs8
      simp only [Act.put, List.setIfInBounds_toArray, List.set_cons_zero, List.set_cons_succ]
      refine go_callE 9 26 _ rfl (by kernel_rfl) (by kernel_rfl) (by kernel_rfl) 12 (.func 12) #[.tmp 23, .tmp 25] #[23, 23] (by kernel_rfl) #[] (by kernel_rfl) #[.slice o4 OL.length c4, .slice o8 OL.length c8] (by kernel_rfl) (enters_of Try.func12 (by kernel_rfl) rfl) _ (sames hoL (HS.keep hs4 hHeld (Nat.le_refl _)) hs8 hHeld) ?_
      rintro _ u9 hHeld rfl
      simp only [Act.put, List.setIfInBounds_toArray, List.set_cons_zero, List.set_cons_succ]
      refine go_take 10 27 _ (.bool false) rfl (by kernel_rfl) (by kernel_rfl) (by kernel_rfl) (by kernel_rfl) (fun _ _ _ h => h) (Or.inl ⟨by kernel_rfl, fun u hu => by kernel_rfl⟩) hHeld ?_
      simp only [Act.put, List.setIfInBounds_toArray, List.set_cons_zero, List.set_cons_succ]
      refine go_take 11 28 _ (.bool false) rfl (by kernel_rfl) (by kernel_rfl) (by kernel_rfl) (by kernel_rfl) (fun _ _ _ h => h) (Or.inl ⟨by kernel_rfl, fun u hu => by kernel_rfl⟩) hHeld ?_
      simp only [Act.put, List.setIfInBounds_toArray, List.set_cons_zero, List.set_cons_succ]
      refine go_take 12 29 _ (.bool false) rfl (by kernel_rfl) (by kernel_rfl) (by kernel_rfl) (by kernel_rfl) (fun _ _ _ h => h) (Or.inl ⟨by kernel_rfl, fun u hu => by kernel_rfl⟩) hHeld ?_
      simp only [Act.put, List.setIfInBounds_toArray, List.set_cons_zero, List.set_cons_succ]
      refine go_take 13 30 _ (.slice o5 NL.length c5) rfl (by kernel_rfl) (by kernel_rfl) (by kernel_rfl) (by kernel_rfl) (fun _ _ _ h => h) (Or.inl ⟨by kernel_rfl, fun u hu => by kernel_rfl⟩) hHeld ?_
      simp only [Act.put, List.setIfInBounds_toArray, List.set_cons_zero, List.set_cons_succ]
      refine go_take 14 31 _ (hkV ⟨A, AN, B, BN, ls⟩ (.slice lo ls.length lc)) rfl (by kernel_rfl) (by kernel_rfl) (by kernel_rfl) (by kernel_rfl) (fun _ _ _ h => h) (Or.inl ⟨by kernel_rfl, fun u hu => load_hk (hx5.low hu) (.tmp 1) (by kernel_rfl) (by kernel_rfl)⟩) hHeld ?_
      simp only [Act.put, List.setIfInBounds_toArray, List.set_cons_zero, List.set_cons_succ]
      refine go_callE 15 32 _ rfl (by kernel_rfl) (by kernel_rfl) (by kernel_rfl) 19 (.func 19) #[.tmp 31] #[39] (by kernel_rfl) #[] (by kernel_rfl) #[hkV ⟨A, AN, B, BN, ls⟩ (.slice lo ls.length lc)] (by kernel_rfl) (enters_of Try.func19 (by kernel_rfl) rfl) _ (rnew hm5 hl HN hHeld) ?_
      rintro v10 u10 hHeld hs10
      obtain ⟨o10, c10, rfl⟩ := Holds.form hs10
      simp only [Act.put, List.setIfInBounds_toArray, List.set_cons_zero, List.set_cons_succ]
      refine go_callE 16 33 _ rfl (by kernel_rfl) (by kernel_rfl) (by kernel_rfl) 12 (.func 12) #[.tmp 30, .tmp 32] #[23, 23] (by kernel_rfl) #[] (by kernel_rfl) #[.slice o5 NL.length c5, .slice o10 NL.length c10] (by kernel_rfl) (enters_of Try.func12 (by kernel_rfl) rfl) _ (sames hnL (HS.keep hs5 hHeld (Nat.le_refl _)) hs10 hHeld) ?_
      rintro _ u11 hHeld rfl
      simp only [Act.put, List.setIfInBounds_toArray, List.set_cons_zero, List.set_cons_succ]
      refine go_take 17 34 _ (.bool false) rfl (by kernel_rfl) (by kernel_rfl) (by kernel_rfl) (by kernel_rfl) (fun _ _ _ h => h) (Or.inl ⟨by kernel_rfl, fun u hu => by kernel_rfl⟩) hHeld ?_
      simp only [Act.put, List.setIfInBounds_toArray, List.set_cons_zero, List.set_cons_succ]
      refine go_take 18 35 _ (.bool false) rfl (by kernel_rfl) (by kernel_rfl) (by kernel_rfl) (by kernel_rfl) (fun _ _ _ h => h) (Or.inl ⟨by kernel_rfl, fun u hu => by kernel_rfl⟩) hHeld ?_
      simp only [Act.put, List.setIfInBounds_toArray, List.set_cons_zero, List.set_cons_succ]
      refine wpAnyH_done (by kernel_rfl) ?_ _
      refine NoPanic.normal ?_
      go_wp2_with fail
      go_meet
      case rel => exact ⟨rfl, hHeld⟩
    case rest =>
      obtain ⟨rfl, hL6⟩ := hcut
      generalize wc = W6 at *
      have hxo6 := hxo5.low hL6
      have hx6 := hx5.low hL6
      have hmo6 := HMk.keep hmo5 hL6 (Nat.le_refl _)
      have hm6 := HMk.keep hm5 hL6 (Nat.le_refl _)
      have hB06 := hB05.trans (Below.mono hL6 hB05.size)
      obtain ⟨RI, hRI⟩ : ∃ RI, invG [] ls = RI := ⟨_, rfl⟩
      have HRI : Hid (invG [] ls = RI) := hRI
      have hRIl : RI.length = ls.length := by rw [← hRI, inv_len]; simp
      have HRL : Hid (RI.length = ls.length) := hRIl
      have hRIb : RI.length ≤ 274877906944 := by omega
      obtain ⟨y0, y1, y2, y3, y4⟩ := hxo6.cells
      dsimp only at y0 y1 y2 y3 y4
      clear hRI hRIl hxo5 hx5 hmo5 hm5 hL6 hs4 hs5 HO HN HZ hoL hnL
      go_wp2_with fail
      refine (hInvert_f ⟨A, AN, B, BN, ls⟩ _ W6 hmo6 (by dsimp only; omega) RI HRI).mono ?_
      rintro e W7 ⟨v7, rfl, hown7, hB7⟩
      dsimp only
      have hxo7 := hxo6.low hB7
      have hx7 := hx6.low hB7
      have hm7 := HMk.keep hm6 hB7 (Nat.le_refl _)
      obtain ⟨o7, c7, rfl⟩ := (holds_of hown7).form
      have hB8 : Below W7.heap.size W7 (W7.alloc (hkO ⟨B, BN, A, AN, RI⟩ (.slice o7 RI.length c7))) := (Below.refl _ W7).alloc (Nat.le_refl _) _
      have hxx := Hx.new W7 ⟨B, BN, A, AN, RI⟩ (.slice o7 RI.length c7)
      have hx8 := hx7.low hB8
      have hm8 := HMk.keep hm7 hB8 (Nat.le_refl _)
      have hown8 := hown7.alloc (hkO ⟨B, BN, A, AN, RI⟩ (.slice o7 RI.length c7))
      have hmx8 : HMk (W7.alloc (hkO ⟨B, BN, A, AN, RI⟩ (.slice o7 RI.length c7))) (.slice o7 RI.length c7) RI := holds_of hown8
      have hL68 : Below W6.heap.size W6 (W7.alloc (hkO ⟨B, BN, A, AN, RI⟩ (.slice o7 RI.length c7))) := hB7.alloc hB7.size _
      have hW8 : W7.alloc (Obj.cells #[Value.int IntKind.i64 B, Value.int IntKind.i64 BN, Value.int IntKind.i64 A, Value.int IntKind.i64 AN, .slice o7 RI.length c7] 39) = W7.alloc (hkO ⟨B, BN, A, AN, RI⟩ (.slice o7 RI.length c7)) := rfl
      unfold hkV
      clear y0 y1 y2 y3 y4 hx7 hm7 hxo7
      go_upto_region 6 with fail
      generalize W7.alloc (hkO ⟨B, BN, A, AN, RI⟩ (.slice o7 RI.length c7)) = W8 at *
      clear hW8
      go_cut [42] from 38 to 42 (fun c wz => c = .bool false ∧ Low W8 wz)
      case first =>
        refine wp_region_noPanic ?_
        refine wp_region_held_drew (S := fun u => Low W8 u) (by kernel_rfl) (Below.dN (Below.refl _ W8) 1) (fun hHeld => ?_)
        refine go_take 0 38 _ (hkV ⟨B, BN, A, AN, RI⟩ (.slice o7 RI.length c7)) rfl (by kernel_rfl) (by kernel_rfl) (by kernel_rfl) (by kernel_rfl) (fun _ _ _ h => h) (Or.inl ⟨by kernel_rfl, fun u hu => load_hk (hxx.low hu) (.tmp 6) (by kernel_rfl) (by kernel_rfl)⟩) hHeld ?_
        simp only [Act.put, List.setIfInBounds_toArray, List.set_cons_zero, List.set_cons_succ]
        refine go_take 1 39 _ (hkV ⟨A, AN, B, BN, ls⟩ (.slice lo ls.length lc)) rfl (by kernel_rfl) (by kernel_rfl) (by kernel_rfl) (by kernel_rfl) (fun _ _ _ h => h) (Or.inl ⟨by kernel_rfl, fun u hu => load_hk (hx8.low hu) (.tmp 1) (by kernel_rfl) (by kernel_rfl)⟩) hHeld ?_
        simp only [Act.put, List.setIfInBounds_toArray, List.set_cons_zero, List.set_cons_succ]
        refine go_callE 2 40 _ rfl (by kernel_rfl) (by kernel_rfl) (by kernel_rfl) 22 (.func 22) #[.tmp 39] #[39] (by kernel_rfl) #[] (by kernel_rfl) #[hkV ⟨A, AN, B, BN, ls⟩ (.slice lo ls.length lc)] (by kernel_rfl) (enters_of Try.func22 (by kernel_rfl) rfl) _ (rinv hm8 hl HRI hHeld) ?_
        rintro _ u9 hHeld ⟨o9, c9, rfl, hm9⟩
        simp only [Act.put, List.setIfInBounds_toArray, List.set_cons_zero, List.set_cons_succ]
        refine go_callE 3 41 _ rfl (by kernel_rfl) (by kernel_rfl) (by kernel_rfl) 21 (.func 21) #[.tmp 38, .tmp 40] #[39, 39] (by kernel_rfl) #[] (by kernel_rfl) #[hkV ⟨B, BN, A, AN, RI⟩ (.slice o7 RI.length c7), hkV ⟨B, BN, A, AN, RI⟩ (.slice o9 RI.length c9)] (by kernel_rfl) (enters_of Try.func21 (by kernel_rfl) rfl) _ (sameh (HMk.keep hmx8 hHeld (Nat.le_refl _)) hm9 (by dsimp only; omega) hHeld) ?_
        rintro _ u10 hHeld rfl
        simp only [Act.put, List.setIfInBounds_toArray, List.set_cons_zero, List.set_cons_succ]
        refine go_take 4 42 _ (.bool false) rfl (by kernel_rfl) (by kernel_rfl) (by kernel_rfl) (by kernel_rfl) (fun _ _ _ h => h) (Or.inl ⟨by kernel_rfl, fun u hu => by kernel_rfl⟩) hHeld ?_
        simp only [Act.put, List.setIfInBounds_toArray, List.set_cons_zero, List.set_cons_succ]
        refine wpAnyH_done (by kernel_rfl) ?_ _
        refine NoPanic.normal ?_
        go_wp2_with fail
        go_meet
        case rel => exact ⟨rfl, hHeld⟩
      case rest =>
        obtain ⟨rfl, hL9⟩ := hcut
        generalize wc = W9 at *
        have hxx9 := hxx.low hL9
        have hown9 := owns_keep hown8 hL9
        have hL69 := hL68.trans (Below.mono hL9 hL68.size)
        have hB8lt : Hid (W6.heap.size ≤ W7.heap.size) := hB7.size
        clear hxx hown8 hown7 hmx8 hm8 hx8 hL9 hL68 hB8 hB7
        go_wp2
        go_loopw [7] (fun iv wr => ∃ (i : Nat) (Y : List Value), i ≤ RI.length ∧ iv = .int .i64 (i : Int) ∧ wr.ownsRow W6.heap.size 46 2 (.slice o7 RI.length c7) RI.length Y ∧ Hx wr W7.heap.size ⟨B, BN, A, AN, RI⟩ (.slice o7 RI.length c7) ∧ Below W6.heap.size W6 wr) (fun iv _ => RI.length - (intOf iv).toNat)
        case atStart => exact ⟨0, _, Nat.zero_le _, by go_num, hown9, hxx9, hL69⟩
        case round =>
          obtain ⟨i, Y, hi, rfl, hown, hbx, hlow⟩ := hrel
          obtain ⟨t0, t1, t2, t3, t4⟩ := hbx.cells
          clear t0 t1 t2 t3 hown9 hxx9 hL69
          by_cases hlt : i < RI.length
          · obtain ⟨g, rfl⟩ : ∃ g, o7 = some ⟨g, 0, none⟩ := (by
              rcases hown.2 with ⟨_, h0⟩ | ⟨g, cap, cur, e, _⟩
              · omega
              · cases e; exact ⟨g, rfl⟩)
            have hYl : Y.length = RI.length * 2 := hown.1
            have hcl := hown.cellAt (i * 2 + 1) (by omega)
            obtain ⟨yv, hyv⟩ : ∃ yv, Y[i * 2 + 1]? = some yv := ⟨_, List.getElem?_eq_getElem (by omega)⟩
            rw [hyv] at hcl
            have hfr := hown.frozenAt (i * 2 + 1)
            obtain ⟨hst1, hst2⟩ := hown.stored (i * 2 + 1) (.string ⟨#[115, 112, 111, 105, 108, 116]⟩)
            have hbx2 := hbx.keep hst2 (fun e => box_ne hbx hown (Option.some.inj e))
            have hlow2 := hlow.grown hst2 hlow.size (fun j hj => by cases hj; exact owns_ge hown rfl)
            have i1 : 0 ≤ (i : Int) := by omega
            have i2 : (i : Int) < (RI.length : Int) := by omega
            clear hyv hYl
            go_wp2
            exact ⟨⟨i + 1, _, by omega, by go_num, hst1, hbx2, hlow2⟩, by simp [intOf]; omega⟩
          · have hend : decide ((i : Int) < (RI.length : Int)) = false := decide_eq_false (by omega)
            have hxoF := hxo6.low hlow
            have hxF := hx6.low hlow
            have hmoF := HMk.keep hmo6 hlow (Nat.le_refl _)
            have hmF := HMk.keep hm6 hlow (Nat.le_refl _)
            have hBF := hB06.trans (hlow.mono hB06.size)
            obtain ⟨a0, a1, a2, a3, a4⟩ := hxoF.cells
            obtain ⟨b0, b1, b2, b3, b4⟩ := hxF.cells
            dsimp only at a0 a1 a2 a3 a4 b0 b1 b2 b3 b4
            go_wp2_with fail
            refine (rSame_f ⟨A, AN, B, BN, ls⟩ _ _ wr hmoF hmF (by dsimp only; omega)).mono ?_
            rintro e wz ⟨rfl, hBz⟩
            go_wp2
            go_ret
            exact ⟨rfl, hBF.trans (hBz.mono hBF.size)⟩
end Go.Proofs.Ythckcdpgjdbgcaa
namespace Go.Proofs.Ythckcdpgjdbgcaa.hunksChecks
open Go.ChangeShapes Go.WideShapes Go.ChangeAt Go.RowKit
theorem walk (h : Hk) (v : Value) (w : World) (hb : mb h.ls + 1 ≤ 1048576) (hv : HMk w v h.ls) : Calls Try.prog 4 #[hkV h v] w fun e w' => e = .returned (.bool true) ∧ Below w.heap.size w w' :=
  HunksChecks_any h v w hv (by have := mb_len h.ls; omega) (fun m hm => by have := mb_mem h.ls m hm; omega)

set_option maxRecDepth 20000 in
theorem contract (H : Type) (enc : TypeId × Value → H) (W : World) (base : Nat) (args : Array Value) (ds gs : List (DataW H)) (before : List MemPlace)
    (hval : ∀ (j : Nat) t v, Try.f4.params[j]? = some t → args[j]? = some v → Value.okWide Try.prog W .any base t v)
    (hW : DataW.Whole enc Try.prog Try.f4.params.toList Rows.hunksChecksSpec.vars false W args.toList ds gs before) (hk : Rows.uptoSmall H (ds ++ gs) = true) :
    Calls Try.prog 4 args W fun e W' => ∃ v, e = .returned v ∧ Rows.hunksChecksSpec.post enc Try.prog Try.f4 false true false false W args v W' := by
  have hW' := hW
  obtain ⟨p, q, hA0, hV, rfl, hfz, hnd⟩ := hW
  have hA : DataW.TrodAll enc Try.prog W 0 (fun _ => true) true Try.f4.params.toList args.toList ds p := hA0
  rw [Try.params4] at hA hval
  obtain ⟨v0, vs0, d0, ds0, p0, q0, hargs, rfl, rfl, h0, r0⟩ := trodAll_cons hA
  obtain ⟨rfl, rfl, rfl⟩ := trodAll_nil r0
  obtain rfl : args = #[v0] := by cases args; simp_all
  obtain ⟨rfl, rfl⟩ := trodVars_none hV
  obtain ⟨cs0, rfl, _⟩ := okWide_struct Try.underlying39 (hval 0 39 v0 rfl rfl)
  have k0 := h0
  have lt0 : ∀ x ∈ p0, x.block < W.heap.size := by obtain ⟨m, hm⟩ := k0; exact DataW.trod_lt m _ _ _ hm
  clear hA0
  simp only [List.append_nil] at hk
  have hbk : Rows.uptoBulkAll [d0] ≤ 1048576 := of_decide_eq_true hk
  simp only [Rows.uptoBulkAll] at hbk
  obtain ⟨f0, hf0⟩ := h0
  obtain ⟨ws0, y0, hcs0, hv0, hwl0, _, _⟩ := open_hkc hf0
  have hvv0 : Value.agg cs0 = hkV ws0 y0 := by cases cs0; simp [Value.cells] at hcs0; subst hcs0; rfl
  rw [hvv0] at k0 hW' ⊢
  have hw := walk ws0 y0 W (by omega) hv0
  refine hw.mono fun e W' ⟨he, bel⟩ => ?_
  subst he
  exact ⟨_, rfl, _, _, _, [], _, [], hW', trodAll_mk1 (shut_bool Try.underlying4 _), trodAll_cons_mk (Below.trod laidOut (by kernel_rfl) (of_decide_eq_true (by kernel_rfl)) k0 bel lt0) trodAll_mk0, rfl, bel.frame _, fun h => by cases h⟩

set_option maxRecDepth 100000 in
theorem lifted (os : Os) (started : os.Started) (H : Type) (enc : TypeId × Value → H) (F : Stop.Interp) :
    ReturnsInHanded {} Try.checked os 4 .any ((Rows.OpenSpec.upto Rows.hunksChecksSpec).pre6 enc Try.prog Try.f4 Rows.hunksChecksUptoRow.domain false) (((Rows.OpenSpec.upto Rows.hunksChecksSpec).at F).post enc Try.prog Try.f4 false true false false) := by
  refine returnsInHanded_of_cond (C := Try.checked) (s := Rows.OpenSpec.upto Rows.hunksChecksSpec) (k := Rows.uptoSmall) rfl own started (by kernel_rfl) Try.func4
    (OpenSpec.witness (enc := enc) (C := Try.checked) (s := Rows.OpenSpec.upto Rows.hunksChecksSpec) (k := Rows.uptoSmall) rfl false ⟨#[], #[.agg #[.int .i64 0, .int .i64 0, .int .i64 0, .int .i64 0, .slice none 0 0]], []⟩ 8 (by kernel_rfl) (by kernel_rfl) (by kernel_rfl)
      (x := ([.agg [.lit (.int .i64 0), .lit (.int .i64 0), .lit (.int .i64 0), .lit (.int .i64 0), .nil]], [], [])) (by kernel_rfl) rfl (by kernel_rfl)) ?_
  intro W base args ds gs before hval hW _ hk _
  exact contract H enc W base args ds gs before hval hW hk

theorem proved : Rows.HunksChecksUptoSaid :=
  OpenClaim.holds_of_cond 4 Try.f4 rfl rfl rfl rfl rfl rfl rfl ⟨rfl, rfl, rfl, rfl, rfl⟩ rfl rfl rfl rfl rfl (by kernel_rfl) Try.func4 (by kernel_rfl)
    (of_decide_eq_true (by kernel_rfl)) (by unfold Func.isWrapper; first | (rw [if_pos (by decide +kernel)]; kernel_rfl) | (rw [if_neg (by decide +kernel)]; exact ⟨rfl, rfl⟩))
    (fun os started H enc _ F => lifted os started H enc F)
#print axioms proved
end Go.Proofs.Ythckcdpgjdbgcaa.hunksChecks
