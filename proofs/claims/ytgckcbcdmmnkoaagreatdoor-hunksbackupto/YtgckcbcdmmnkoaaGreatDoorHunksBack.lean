/-
  For every hunk, all lists of lines a and b, of together at most 1048576 letters and values, and every number, the law HunksBack returns true and leaves its arguments as they were: the hunk that goes back wants the new lines and makes the old ones, is right just if the hunk is, and going back twice changes nothing of what went back, nor of hunks that were made of two texts. The variables that the start lays are the listed ones.
-/
import Derived.Test.YtgckcbcdmmnkoaaGreatDoorPartA18
import Derived.Test.YtgckcbcdmmnkoaaGreatDoorPartB2
import Derived.Test.YtgckcbcdmmnkoaaGreatDoorPartD1
import Derived.Test.YtgckcbcdmmnkoaaGreatDoorPartA2
set_option maxRecDepth 20000
namespace Go.Proofs.YtgckcbcdmmnkoaaGreatDoor.hunksBack
open Go.ChangeShapes Go.WideShapes Go.ChangeAt Go.RowKit

set_option maxRecDepth 10000 in
set_option maxHeartbeats 16000000 in
theorem walk (h : Hk) (a b : List (List UInt8)) (k : Int) (v va vb : Value) (w : World) (hb0 : mb h.ls + 1 ≤ 1048576) (hla : ∀ l ∈ a, l.length ≤ 137438953472) (hlb : ∀ l ∈ b, l.length ≤ 137438953472) (hv : HMk w v h.ls) (ha : HS w va a) (hb : HS w vb b) :
    Calls Tryz.prog 4 #[hkV h v, va, vb, .int .i64 k] w fun e w' => e = .returned (.bool true) ∧ Below w.heap.size w w' := by
  obtain ⟨lo, lc, rfl⟩ := HMk.form hv
  obtain ⟨ao, ac, rfl⟩ := Holds.form ha
  obtain ⟨bo, bc, rfl⟩ := Holds.form hb
  have HLA : Hid (∀ l ∈ a, l.length ≤ 137438953472) := hla
  have HLB : Hid (∀ l ∈ b, l.length ≤ 137438953472) := hlb
  have hl : h.ls.length ≤ 1099511627776 := by have := mb_len h.ls; omega
  have hl2 : h.ls.length ≤ 549755813888 := by have := mb_len h.ls; omega
  have HTX : Hid (∀ m ∈ h.ls, m.tx.length ≤ 1099511627776) := fun m hm => (by have := mb_mem h.ls m hm; omega)
  obtain ⟨X, hX⟩ : ∃ X, invH h = X := ⟨_, rfl⟩
  obtain ⟨Y, hY⟩ : ∃ Y, invH X = Y := ⟨_, rfl⟩
  obtain ⟨Z, hZ⟩ : ∃ Z, invH Y = Z := ⟨_, rfl⟩
  have hbX := inv_bound hX HTX.out
  have hbY := inv_bound hY hbX.2
  have hbZ := inv_bound hZ hbY.2
  have hXl : X.ls.length ≤ 1099511627776 := by omega
  have hXl2 : X.ls.length ≤ 549755813888 := by omega
  have hYl : Y.ls.length ≤ 549755813888 := by omega
  have hZl : Z.ls.length ≤ 549755813888 := by omega
  have HTXX : Hid (∀ m ∈ X.ls, m.tx.length ≤ 1099511627776) := hbX.2
  have HX : Hid (invH h = X) := hX
  have HY : Hid (invH X = Y) := hY
  have HZ : Hid (invH Y = Z) := hZ
  have HY4 : Hid (invH Z = Y) := (by show _ = _; rw [← hZ, ← hY, ← hX]; exact invH_four h)
  obtain ⟨RN, hRN⟩ : ∃ R, newL h = R := ⟨_, rfl⟩
  obtain ⟨RO, hRO⟩ : ∃ R, oldL h = R := ⟨_, rfl⟩
  have HNh : Hid (newL h = RN) := hRN
  have HOh : Hid (oldL h = RO) := hRO
  have HOX : Hid (oldL X = RN) := (by show _ = _; rw [← hX, invH_old, hRN])
  have HNX : Hid (newL X = RO) := (by show _ = _; rw [← hX, invH_new, hRO])
  have hRNl : RN.length ≤ 1099511627776 := by rw [← hRN]; have := pkL_length 45 h.ls; simp only [newL]; omega
  have hROl : RO.length ≤ 1099511627776 := by rw [← hRO]; have := pkL_length 43 h.ls; simp only [oldL]; omega
  obtain ⟨z1, hz1v⟩ : ∃ z, chkH h = z := ⟨_, rfl⟩
  obtain ⟨z2, hz2v⟩ : ∃ z, chkH X = z := ⟨_, rfl⟩
  have HZ1 : Hid (chkH h = z1) := hz1v
  have HZ2 : Hid (chkH X = z2) := hz2v
  obtain ⟨r, hr⟩ : ∃ r, (z1 == 0) = r := ⟨_, rfl⟩
  have hr2 : (z2 == 0) = r := (by
    rw [← hr, Bool.eq_iff_iff, beq_iff_eq, beq_iff_eq, ← hz1v, ← hz2v, ← hX]
    exact chk_inv h)
  have HQ : Hid ((z1 == 0) = r ∧ (z2 == 0) = r) := ⟨hr, hr2⟩
  clear hla hlb hb0 hX hY hZ hbX hbY hbZ hRN hRO hz1v hz2v hr hr2
  have hB1 : Below w.heap.size w (w.alloc (hkO h (.slice lo h.ls.length lc))) := (Below.refl _ w).alloc (Nat.le_refl _) _
  have hxh := Hx.new w h (.slice lo h.ls.length lc)
  have hmh := HMk.keep hv hB1 (Nat.le_refl _)
  have ha1 := HS.keep ha hB1 (Nat.le_refl _)
  have hb1 := HS.keep hb hB1 (Nat.le_refl _)
  have hW1 : w.alloc (Obj.cells #[Value.int IntKind.i64 h.A, Value.int IntKind.i64 h.AN, Value.int IntKind.i64 h.B, Value.int IntKind.i64 h.BN, .slice lo h.ls.length lc] 39) = w.alloc (hkO h (.slice lo h.ls.length lc)) := rfl
  generalize w.alloc (hkO h (.slice lo h.ls.length lc)) = w1 at *
  clear hv
  have eh : hkV h (.slice lo h.ls.length lc) = .agg #[.int .i64 h.A, .int .i64 h.AN, .int .i64 h.B, .int .i64 h.BN, .slice lo h.ls.length lc] := rfl
  rw [eh]
  go_enter Tryz.func4, Tryz.ntmps4
  go_wp2_with fail
  clear hW1 eh
  refine (hworks_f w1).mono ?_
  rintro e w2 ⟨rfl, hB2⟩
  have hxh2 := hxh.low hB2
  have hmh2 := HMk.keep hmh hB2 (Nat.le_refl _)
  have hB02 := hB1.trans (hB2.mono hB1.size)
  obtain ⟨x0, x1, x2, x3, x4⟩ := hxh2.cells
  clear hB1 hB2 hxh hmh ha1 hb1
  go_wp2_with fail
  refine (hinv_f hmh2 hl2 HX).mono ?_
  rintro e w3 ⟨xo, xc, rfl, hmX3, hB3⟩
  have hB03 := hB02.trans (hB3.mono hB02.size)
  have hxh3 := hxh2.low hB3
  have hmh3 := HMk.keep hmh2 hB3 (Nat.le_refl _)
  have hBx : Below w3.heap.size w3 (w3.alloc (hkO X (.slice xo X.ls.length xc))) := (Below.refl _ w3).alloc (Nat.le_refl _) _
  have hxX4 := Hx.new w3 X (.slice xo X.ls.length xc)
  have hmX4 := HMk.keep hmX3 hBx (Nat.le_refl _)
  have hxh4 := hxh3.low hBx
  have hmh4 := HMk.keep hmh3 hBx (Nat.le_refl _)
  have hB04 := hB03.trans (hBx.mono hB03.size)
  obtain ⟨y0, y1, y2, y3, y4⟩ := hxX4.cells
  have hW4 : w3.alloc (Obj.cells #[Value.int IntKind.i64 X.A, Value.int IntKind.i64 X.AN, Value.int IntKind.i64 X.B, Value.int IntKind.i64 X.BN, .slice xo X.ls.length xc] 39) = w3.alloc (hkO X (.slice xo X.ls.length xc)) := rfl
  clear x0 x1 x2 x3 x4 hB02 hB3 hxh2 hmh2 hB03 hxh3 hmh3 hmX3 hBx
  generalize w3.alloc (hkO X (.slice xo X.ls.length xc)) = w4 at *
  unfold hkV
  go_wp2_with fail
  clear hW4 y0 y1 y2 y3 y4
  generalize w3.heap.size = bX at *
  refine (hinv_f hmX4 hXl2 HY).mono ?_
  rintro e w5 ⟨yo, yc, rfl, hmY5, hB5⟩
  have hB05 := hB04.trans (hB5.mono hB04.size)
  have hxh5 := hxh4.low hB5
  have hmh5 := HMk.keep hmh4 hB5 (Nat.le_refl _)
  have hxX5 := hxX4.low hB5
  have hmX5 := HMk.keep hmX4 hB5 (Nat.le_refl _)
  have hBy : Below w5.heap.size w5 (w5.alloc (hkO Y (.slice yo Y.ls.length yc))) := (Below.refl _ w5).alloc (Nat.le_refl _) _
  have hxY6 := Hx.new w5 Y (.slice yo Y.ls.length yc)
  have hmY := HMk.keep hmY5 hBy (Nat.le_refl _)
  have hxh6 := hxh5.low hBy
  have hmh := HMk.keep hmh5 hBy (Nat.le_refl _)
  have hxX6 := hxX5.low hBy
  have hmX := HMk.keep hmX5 hBy (Nat.le_refl _)
  have hB06 := hB05.trans (hBy.mono hB05.size)
  have hW6 : w5.alloc (Obj.cells #[Value.int IntKind.i64 Y.A, Value.int IntKind.i64 Y.AN, Value.int IntKind.i64 Y.B, Value.int IntKind.i64 Y.BN, .slice yo Y.ls.length yc] 39) = w5.alloc (hkO Y (.slice yo Y.ls.length yc)) := rfl
  clear hB04 hB5 hxh4 hmh4 hxX4 hmX4 hB05 hxh5 hmh5 hxX5 hmX5 hmY5 hBy
  generalize w5.alloc (hkO Y (.slice yo Y.ls.length yc)) = W at *
  unfold hkV
  go_upto_region 5 with fail
  clear hW6
  generalize w5.heap.size = bY at *
  have hxh : ∀ u : World, Low W u → Hx u w.heap.size h (.slice lo h.ls.length lc) := fun u hu => hxh6.low hu
  have hxX : ∀ u : World, Low W u → Hx u bX X (.slice xo X.ls.length xc) := fun u hu => hxX6.low hu
  have hxY : ∀ u : World, Low W u → Hx u bY Y (.slice yo Y.ls.length yc) := fun u hu => hxY6.low hu
  have hlow : Low W (W.drewN 1) := Below.dN (Below.refl _ W) 1
  have hz1 := HQ.out.1
  have hz2 := HQ.out.2
  refine wp_region_noPanic ?_
  refine wp_region_held_drew (S := fun u => Low W u) (by kernel_rfl) hlow (fun hHeld => ?_)
  refine go_take 0 22 _ (hkV X (.slice xo X.ls.length xc)) rfl (by kernel_rfl) (by kernel_rfl) (by kernel_rfl) (by kernel_rfl) (fun _ _ _ h => h) (Or.inl ⟨by kernel_rfl, fun u hu => load_hk (hxX u hu) (.tmp 9) (by kernel_rfl) (by kernel_rfl)⟩) hHeld ?_
  simp only [Act.put, List.setIfInBounds_toArray, List.set_cons_zero, List.set_cons_succ]
  refine go_take 2 24 _ (hkV h (.slice lo h.ls.length lc)) rfl (by kernel_rfl) (by kernel_rfl) (by kernel_rfl) (by kernel_rfl) (fun _ _ _ h => h) (Or.inl ⟨by kernel_rfl, fun u hu => load_hk (hxh u hu) (.tmp 4) (by kernel_rfl) (by kernel_rfl)⟩) hHeld ?_
  simp only [Act.put, List.setIfInBounds_toArray, List.set_cons_zero, List.set_cons_succ]
  refine go_callE 1 23 _ rfl (by kernel_rfl) (by kernel_rfl) (by kernel_rfl) 13 (.func 13) #[.tmp 22] #[39] (by kernel_rfl) #[] (by kernel_rfl) #[hkV X (.slice xo X.ls.length xc)] (by kernel_rfl) (enters_of Tryz.func13 (by kernel_rfl) rfl) _ (hold_held hmX hXl HOX hHeld) ?_
  rintro vA u1 hH1 ⟨hvA, hBA⟩
  obtain ⟨aO, aC, rfl⟩ := Holds.form hvA
  simp only [Act.put, List.setIfInBounds_toArray, List.set_cons_zero, List.set_cons_succ]
  refine go_callE 3 25 _ rfl (by kernel_rfl) (by kernel_rfl) (by kernel_rfl) 14 (.func 14) #[.tmp 24] #[39] (by kernel_rfl) #[] (by kernel_rfl) #[hkV h (.slice lo h.ls.length lc)] (by kernel_rfl) (enters_of Tryz.func14 (by kernel_rfl) rfl) _ (hnew_held hmh hl HNh hH1) ?_
  rintro vB u2 hH2 ⟨hvB, hBB⟩
  obtain ⟨bO, bC, rfl⟩ := Holds.form hvB
  simp only [Act.put, List.setIfInBounds_toArray, List.set_cons_zero, List.set_cons_succ]
  refine go_callH 4 26 _ rfl (by kernel_rfl) (by kernel_rfl) (by kernel_rfl) 12 #[.tmp 23, .tmp 25] #[22, 22] (by kernel_rfl) #[.slice aO RN.length aC, .slice bO RN.length bC] (by kernel_rfl) (enters_of Tryz.func12 (by kernel_rfl) rfl) (.bool true) ((SameS_any _ _ RN u2 (by omega) (HS.keep hvA hBB (Nat.le_refl _)) hvB).mono (fun _ _ h => ⟨h.1, Below.trans hH2 (h.2.mono (Below.size hH2))⟩)) ?_
  intro u3 hH3
  simp only [Act.put, List.setIfInBounds_toArray, List.set_cons_zero, List.set_cons_succ]
  refine go_take 5 27 _ (.bool false) rfl (by kernel_rfl) (by kernel_rfl) (by kernel_rfl) (by kernel_rfl) (fun _ _ _ h => h) (Or.inl ⟨by kernel_rfl, fun u hu => by kernel_rfl⟩) hH3 ?_
  simp only [Act.put, List.setIfInBounds_toArray, List.set_cons_zero, List.set_cons_succ]
  refine go_take 6 28 _ (.bool false) rfl (by kernel_rfl) (by kernel_rfl) (by kernel_rfl) (by kernel_rfl) (fun _ _ _ h => h) (Or.inl ⟨by kernel_rfl, fun u hu => by kernel_rfl⟩) hH3 ?_
  simp only [Act.put, List.setIfInBounds_toArray, List.set_cons_zero, List.set_cons_succ]
  refine go_take 7 29 _ (hkV X (.slice xo X.ls.length xc)) rfl (by kernel_rfl) (by kernel_rfl) (by kernel_rfl) (by kernel_rfl) (fun _ _ _ h => h) (Or.inl ⟨by kernel_rfl, fun u hu => load_hk (hxX u hu) (.tmp 9) (by kernel_rfl) (by kernel_rfl)⟩) hH3 ?_
  simp only [Act.put, List.setIfInBounds_toArray, List.set_cons_zero, List.set_cons_succ]
  refine go_take 9 31 _ (hkV h (.slice lo h.ls.length lc)) rfl (by kernel_rfl) (by kernel_rfl) (by kernel_rfl) (by kernel_rfl) (fun _ _ _ h => h) (Or.inl ⟨by kernel_rfl, fun u hu => load_hk (hxh u hu) (.tmp 4) (by kernel_rfl) (by kernel_rfl)⟩) hH3 ?_
  simp only [Act.put, List.setIfInBounds_toArray, List.set_cons_zero, List.set_cons_succ]
  refine go_callE 8 30 _ rfl (by kernel_rfl) (by kernel_rfl) (by kernel_rfl) 14 (.func 14) #[.tmp 29] #[39] (by kernel_rfl) #[] (by kernel_rfl) #[hkV X (.slice xo X.ls.length xc)] (by kernel_rfl) (enters_of Tryz.func14 (by kernel_rfl) rfl) _ (hnew_held hmX hXl HNX hH3) ?_
  rintro vC u4 hH4 ⟨hvC, hBC⟩
  obtain ⟨cO, cC, rfl⟩ := Holds.form hvC
  simp only [Act.put, List.setIfInBounds_toArray, List.set_cons_zero, List.set_cons_succ]
  refine go_callE 10 32 _ rfl (by kernel_rfl) (by kernel_rfl) (by kernel_rfl) 13 (.func 13) #[.tmp 31] #[39] (by kernel_rfl) #[] (by kernel_rfl) #[hkV h (.slice lo h.ls.length lc)] (by kernel_rfl) (enters_of Tryz.func13 (by kernel_rfl) rfl) _ (hold_held hmh hl HOh hH4) ?_
  rintro vD u5 hH5 ⟨hvD, hBD⟩
  obtain ⟨dO, dC, rfl⟩ := Holds.form hvD
  simp only [Act.put, List.setIfInBounds_toArray, List.set_cons_zero, List.set_cons_succ]
  refine go_callH 11 33 _ rfl (by kernel_rfl) (by kernel_rfl) (by kernel_rfl) 12 #[.tmp 30, .tmp 32] #[22, 22] (by kernel_rfl) #[.slice cO RO.length cC, .slice dO RO.length dC] (by kernel_rfl) (enters_of Tryz.func12 (by kernel_rfl) rfl) (.bool true) ((SameS_any _ _ RO u5 (by omega) (HS.keep hvC hBD (Nat.le_refl _)) hvD).mono (fun _ _ h => ⟨h.1, Below.trans hH5 (h.2.mono (Below.size hH5))⟩)) ?_
  intro u6 hH6
  simp only [Act.put, List.setIfInBounds_toArray, List.set_cons_zero, List.set_cons_succ]
  refine go_take 12 34 _ (.bool false) rfl (by kernel_rfl) (by kernel_rfl) (by kernel_rfl) (by kernel_rfl) (fun _ _ _ h => h) (Or.inl ⟨by kernel_rfl, fun u hu => by kernel_rfl⟩) hH6 ?_
  simp only [Act.put, List.setIfInBounds_toArray, List.set_cons_zero, List.set_cons_succ]
  refine go_take 13 35 _ (.bool false) rfl (by kernel_rfl) (by kernel_rfl) (by kernel_rfl) (by kernel_rfl) (fun _ _ _ h => h) (Or.inl ⟨by kernel_rfl, fun u hu => by kernel_rfl⟩) hH6 ?_
  simp only [Act.put, List.setIfInBounds_toArray, List.set_cons_zero, List.set_cons_succ]
  refine go_take 14 36 _ (.bool false) rfl (by kernel_rfl) (by kernel_rfl) (by kernel_rfl) (by kernel_rfl) (fun _ _ _ h => h) (Or.inl ⟨by kernel_rfl, fun u hu => by kernel_rfl⟩) hH6 ?_
  simp only [Act.put, List.setIfInBounds_toArray, List.set_cons_zero, List.set_cons_succ]
  refine go_take 15 37 _ (hkV Y (.slice yo Y.ls.length yc)) rfl (by kernel_rfl) (by kernel_rfl) (by kernel_rfl) (by kernel_rfl) (fun _ _ _ h => h) (Or.inl ⟨by kernel_rfl, fun u hu => load_hk (hxY u hu) (.tmp 10) (by kernel_rfl) (by kernel_rfl)⟩) hH6 ?_
  simp only [Act.put, List.setIfInBounds_toArray, List.set_cons_zero, List.set_cons_succ]
  refine go_take 18 40 _ (hkV Y (.slice yo Y.ls.length yc)) rfl (by kernel_rfl) (by kernel_rfl) (by kernel_rfl) (by kernel_rfl) (fun _ _ _ h => h) (Or.inl ⟨by kernel_rfl, fun u hu => load_hk (hxY u hu) (.tmp 10) (by kernel_rfl) (by kernel_rfl)⟩) hH6 ?_
  simp only [Act.put, List.setIfInBounds_toArray, List.set_cons_zero, List.set_cons_succ]
  refine go_callE 16 38 _ rfl (by kernel_rfl) (by kernel_rfl) (by kernel_rfl) 19 (.func 19) #[.tmp 37] #[39] (by kernel_rfl) #[] (by kernel_rfl) #[hkV Y (.slice yo Y.ls.length yc)] (by kernel_rfl) (enters_of Tryz.func19 (by kernel_rfl) rfl) _ (hinv_held (HMk.keep hmY hH6 (Nat.le_refl _)) hYl HZ hH6) ?_
  rintro _ u7 hH7 ⟨zo, zc, rfl, hmZ, hBZ⟩
  simp only [Act.put, List.setIfInBounds_toArray, List.set_cons_zero, List.set_cons_succ]
  refine go_callE 17 39 _ rfl (by kernel_rfl) (by kernel_rfl) (by kernel_rfl) 19 (.func 19) #[.tmp 38] #[39] (by kernel_rfl) #[] (by kernel_rfl) #[hkV Z (.slice zo Z.ls.length zc)] (by kernel_rfl) (enters_of Tryz.func19 (by kernel_rfl) rfl) _ (hinv_held hmZ hZl HY4 hH7) ?_
  rintro _ u8 hH8 ⟨yo2, yc2, rfl, hmY2, hBY2⟩
  simp only [Act.put, List.setIfInBounds_toArray, List.set_cons_zero, List.set_cons_succ]
  refine go_callH 19 41 _ rfl (by kernel_rfl) (by kernel_rfl) (by kernel_rfl) 20 #[.tmp 39, .tmp 40] #[39, 39] (by kernel_rfl) #[hkV Y (.slice yo2 Y.ls.length yc2), hkV Y (.slice yo Y.ls.length yc)] (by kernel_rfl) (enters_of Tryz.func20 (by kernel_rfl) rfl) (.bool true) ((rSame_f Y _ _ u8 hmY2 (HMk.keep hmY hH8 (Nat.le_refl _)) (by omega)).mono (fun _ _ h => ⟨h.1, Below.trans hH8 (h.2.mono (Below.size hH8))⟩)) ?_
  intro u9 hH9
  simp only [Act.put, List.setIfInBounds_toArray, List.set_cons_zero, List.set_cons_succ]
  refine go_take 20 42 _ (.bool false) rfl (by kernel_rfl) (by kernel_rfl) (by kernel_rfl) (by kernel_rfl) (fun _ _ _ h => h) (Or.inl ⟨by kernel_rfl, fun u hu => by kernel_rfl⟩) hH9 ?_
  simp only [Act.put, List.setIfInBounds_toArray, List.set_cons_zero, List.set_cons_succ]
  refine go_take 21 43 _ (.bool false) rfl (by kernel_rfl) (by kernel_rfl) (by kernel_rfl) (by kernel_rfl) (fun _ _ _ h => h) (Or.inl ⟨by kernel_rfl, fun u hu => by kernel_rfl⟩) hH9 ?_
  simp only [Act.put, List.setIfInBounds_toArray, List.set_cons_zero, List.set_cons_succ]
  refine go_take 22 44 _ (.bool false) rfl (by kernel_rfl) (by kernel_rfl) (by kernel_rfl) (by kernel_rfl) (fun _ _ _ h => h) (Or.inl ⟨by kernel_rfl, fun u hu => by kernel_rfl⟩) hH9 ?_
  simp only [Act.put, List.setIfInBounds_toArray, List.set_cons_zero, List.set_cons_succ]
  refine go_take 23 45 _ (hkV h (.slice lo h.ls.length lc)) rfl (by kernel_rfl) (by kernel_rfl) (by kernel_rfl) (by kernel_rfl) (fun _ _ _ h => h) (Or.inl ⟨by kernel_rfl, fun u hu => load_hk (hxh u hu) (.tmp 4) (by kernel_rfl) (by kernel_rfl)⟩) hH9 ?_
  simp only [Act.put, List.setIfInBounds_toArray, List.set_cons_zero, List.set_cons_succ]
  refine go_take 26 48 _ (hkV X (.slice xo X.ls.length xc)) rfl (by kernel_rfl) (by kernel_rfl) (by kernel_rfl) (by kernel_rfl) (fun _ _ _ h => h) (Or.inl ⟨by kernel_rfl, fun u hu => load_hk (hxX u hu) (.tmp 9) (by kernel_rfl) (by kernel_rfl)⟩) hH9 ?_
  simp only [Act.put, List.setIfInBounds_toArray, List.set_cons_zero, List.set_cons_succ]
  refine go_callH 24 46 _ rfl (by kernel_rfl) (by kernel_rfl) (by kernel_rfl) 21 #[.tmp 45] #[39] (by kernel_rfl) #[hkV h (.slice lo h.ls.length lc)] (by kernel_rfl) (enters_of Tryz.func21 (by kernel_rfl) rfl) (.int .i64 z1) ((hCheck_f h _ u9 (HMk.keep hmh hH9 (Nat.le_refl _)) hl HTX.out z1 HZ1).mono (fun _ _ h => ⟨h.1, Below.trans hH9 (h.2.mono (Below.size hH9))⟩)) ?_
  intro u10 hH10
  simp only [Act.put, List.setIfInBounds_toArray, List.set_cons_zero, List.set_cons_succ]
  refine go_take 25 47 _ (.bool r) rfl (by kernel_rfl) (by kernel_rfl) (by kernel_rfl) (by kernel_rfl) (fun _ _ _ h => h) (Or.inl ⟨by kernel_rfl, fun u hu => exec_eqE hz1 (.tmp 46) (.const (.int .i64 0)) (by kernel_rfl) (by kernel_rfl) (by kernel_rfl)⟩) hH10 ?_
  simp only [Act.put, List.setIfInBounds_toArray, List.set_cons_zero, List.set_cons_succ]
  refine go_callH 27 49 _ rfl (by kernel_rfl) (by kernel_rfl) (by kernel_rfl) 21 #[.tmp 48] #[39] (by kernel_rfl) #[hkV X (.slice xo X.ls.length xc)] (by kernel_rfl) (enters_of Tryz.func21 (by kernel_rfl) rfl) (.int .i64 z2) ((hCheck_f X _ u10 (HMk.keep hmX hH10 (Nat.le_refl _)) hXl HTXX.out z2 HZ2).mono (fun _ _ h => ⟨h.1, Below.trans hH10 (h.2.mono (Below.size hH10))⟩)) ?_
  intro u11 hH11
  simp only [Act.put, List.setIfInBounds_toArray, List.set_cons_zero, List.set_cons_succ]
  refine go_take 28 50 _ (.bool r) rfl (by kernel_rfl) (by kernel_rfl) (by kernel_rfl) (by kernel_rfl) (fun _ _ _ h => h) (Or.inl ⟨by kernel_rfl, fun u hu => exec_eqE hz2 (.tmp 49) (.const (.int .i64 0)) (by kernel_rfl) (by kernel_rfl) (by kernel_rfl)⟩) hH11 ?_
  simp only [Act.put, List.setIfInBounds_toArray, List.set_cons_zero, List.set_cons_succ]
  refine go_take 29 51 _ (.bool false) rfl (by kernel_rfl) (by kernel_rfl) (by kernel_rfl) (by kernel_rfl) (fun _ _ _ h => h) (Or.inl ⟨by kernel_rfl, fun u hu => exec_neB (r := r) (.tmp 47) (.tmp 50) (by kernel_rfl) (by kernel_rfl) (by kernel_rfl)⟩) hH11 ?_
  simp only [Act.put, List.setIfInBounds_toArray, List.set_cons_zero, List.set_cons_succ]
  refine go_take 30 52 _ (.bool false) rfl (by kernel_rfl) (by kernel_rfl) (by kernel_rfl) (by kernel_rfl) (fun _ _ _ h => h) (Or.inl ⟨by kernel_rfl, fun u hu => by kernel_rfl⟩) hH11 ?_
  simp only [Act.put, List.setIfInBounds_toArray, List.set_cons_zero, List.set_cons_succ]
  refine wpAnyH_done (by kernel_rfl) ?_ _
  refine NoPanic.normal ?_
  have hB07 := hB06.trans (Below.mono hH11 hB06.size)
  clear hz1 hz2 HQ hxh hxX hxY hxh6 hxX6 hxY6 hmh hmX hmY hlow hHeld hH1 hH2 hH3 hH4 hH5 hH6 hH7 hH8 hH9 hH10 hvA hBA hvB hBB hvC hBC hvD hBD hmZ hBZ hmY2 hBY2 hB06
  have ha7 := HS.keep ha hB07 (Nat.le_refl _)
  have hb7 := HS.keep hb hB07 (Nat.le_refl _)
  generalize u11 = w7 at *
  by_cases hsm : a.length ≤ 200 ∧ b.length ≤ 200
  · have HSM : Hid ((decide (a.length ≤ 200) && decide (b.length ≤ 200)) = true) := (by show _ = _; simp [hsm])
    go_wp2_with fail
    refine (lsmall_f a b _ _ w7 ha7 hb7 true HSM).mono ?_
    rintro e w8 ⟨rfl, rfl⟩
    obtain ⟨c, hc, hcb⟩ := ctx_of k 6 (by omega) (by omega)
    obtain ⟨L, hL⟩ : ∃ L, mkL (eng 2 (clx ig0 a b) (cly ig0 a b)) b.length = L := ⟨_, rfl⟩
    have HL : Hid (mkL (eng 2 (clx ig0 a b) (cly ig0 a b)) b.length = L) := hL
    obtain ⟨hS, hhU, hLl⟩ := eng_hun 2 a b (by omega) (by omega) hL
    obtain ⟨R1, hR1⟩ : ∃ R, mkR L a b c = R := ⟨_, rfl⟩
    have HR1 : Hid (mkR L a b c = R1) := hR1
    have HE1 : Hid (grpE L a.length b.length c = 0) := (mkR_eq hS (by omega)).2
    have hse := script_each (ctx := c) hS hhU (by omega)
    rw [hR1] at hse
    have HNF : Hid (∀ x ∈ R1, Nf false x.ls) := fun x hx => (hse x hx).2.2.2.2
    have HSC : Hid (Script L a.length b.length) := hS
    have hLb : L.length ≤ 1099511627776 := by omega
    clear hL hS hR1 hse hhU
    go_wp2_with fail
    refine (En_f 2 ig0 a b _ _ w8 ha7 hb7 (by omega) (by omega) (by omega) HLA.out HLB.out L HL).mono ?_
    rintro e w9 ⟨v9, rfl, hv9, hB9⟩
    obtain ⟨o9, c9, rfl⟩ := Holds.form hv9
    have hB09 := hB07.trans (hB9.mono hB07.size)
    have ha9 := HS.keep ha hB09 (Nat.le_refl _)
    have hb9 := HS.keep hb hB09 (Nat.le_refl _)
    clear ha7 hb7 hB07 hB9
    go_wp2_with fail
    rw [hc]
    clear hc
    refine (hMake_f L a b c _ _ _ w9 hv9 ha9 hb9 hLb (by omega) (by omega) 0 HE1 R1 HR1).mono ?_
    rintro e w10 ⟨v10, P, rfl, hP, hPm⟩
    obtain ⟨o10, pc, rfl⟩ := (holds_of hP.own).form
    have hB10 := hP.low
    have hB010 := hB09.trans (hB10.mono hB09.size)
    have hPh := hP.holds
    have HPM : Hid (P.map (·.1) = R1) := hPm
    have hokP : HOk P := made_ok (ctx := c) HSC.out (by omega) hLb (by omega) HLA.out HLB.out (by rw [HPM.out, HR1.out])
    have hml := (made_len (ctx := c) HSC.out (by omega)).2
    rw [HR1.out] at hml
    have HML : Hid (∀ x ∈ R1, x.ls.length ≤ 400) := fun x hx => (by have := (hml x hx).1; omega)
    have hpl : P.length ≤ 1099511627776 := hokP.1
    clear hv9 ha9 hb9 hB09 hB10 hP hPm hml
    go_wp2
    go_loopw [15] (fun iv wr => ∃ i : Nat, i ≤ P.length ∧ iv = .int .i64 (i : Int) ∧ Below w10.heap.size w10 wr) (fun iv _ => P.length - (intOf iv).toNat)
    case atStart => exact ⟨0, Nat.zero_le _, by go_num, Below.refl _ _⟩
    case round =>
      obtain ⟨i, hi, rfl, hBr⟩ := hrel
      have hBw := hB010.trans (hBr.mono hB010.size)
      by_cases hlt : i < P.length
      · obtain ⟨pb, pf, rfl, _, _⟩ := hPh.at (by omega)
        obtain ⟨x, y, hxy⟩ : ∃ x y, P[i] = (x, y) := ⟨_, _, rfl⟩
        obtain ⟨hAt, hmk⟩ := hPh.take hBr i hlt hxy
        have hmem : x ∈ R1 := (by rw [← HPM.out]; exact List.mem_map.2 ⟨(x, y), by rw [← hxy]; exact List.getElem_mem hlt, rfl⟩)
        have hxl := HML.out x hmem
        obtain ⟨ko, kc, rfl⟩ := hmk.form
        obtain ⟨J, hJ⟩ : ∃ J, invH x = J := ⟨_, rfl⟩
        have HJ : Hid (invH x = J) := hJ
        have HK2 : Hid (invH J = x) := (by show _ = _; rw [← hJ]; exact invH_nf (HNF.out x hmem))
        have hJl : J.ls.length ≤ 549755813888 := (by rw [← hJ]; simp only [invH, invG_len, List.length_nil]; omega)
        have hkl : x.ls.length ≤ 549755813888 := by omega
        have i1 : (0 : Int) ≤ (i : Int) := by omega
        have i2 : (i : Int) < (P.length : Int) := by omega
        have hlow : Low wr (wr.drewN 1) := Below.dN (Below.refl _ wr) 1
        clear hJ hmem hxy
        go_upto_region 16 with fail
        refine wp_region_noPanic ?_
        refine wp_region_held_drew (S := fun u => Low wr u) (by kernel_rfl) hlow (fun hHeld => ?_)
        refine go_take 0 87 _ (.slice (some ⟨pb, pf, none⟩) P.length pc) rfl (by kernel_rfl) (by kernel_rfl) (by kernel_rfl) (by kernel_rfl) (fun _ _ _ h => h) (Or.inl ⟨by kernel_rfl, fun u hu => by kernel_rfl⟩) hHeld ?_
        simp only [Act.put, List.setIfInBounds_toArray, List.set_cons_zero, List.set_cons_succ]
        refine go_take 1 88 _ (.int .i64 (i : Int)) rfl (by kernel_rfl) (by kernel_rfl) (by kernel_rfl) (by kernel_rfl) (fun _ _ _ h => h) (Or.inl ⟨by kernel_rfl, fun u hu => by kernel_rfl⟩) hHeld ?_
        simp only [Act.put, List.setIfInBounds_toArray, List.set_cons_zero, List.set_cons_succ]
        refine go_take 2 89 _ (.pointer (some ⟨pb, pf + i * 5, none⟩)) rfl (by kernel_rfl) (by kernel_rfl) (by kernel_rfl) (by kernel_rfl) (fun _ _ _ h => h) (Or.inl ⟨by kernel_rfl, fun u hu => exec_ixH (c := pc) (i := i) hlt (.tmp 87) (.tmp 88) (by kernel_rfl) (by kernel_rfl) (by kernel_rfl)⟩) hHeld ?_
        simp only [Act.put, List.setIfInBounds_toArray, List.set_cons_zero, List.set_cons_succ]
        refine go_take 3 90 _ (hkV x (.slice ko x.ls.length kc)) rfl (by kernel_rfl) (by kernel_rfl) (by kernel_rfl) (by kernel_rfl) (fun _ _ _ h => h) (Or.inl ⟨by kernel_rfl, fun u hu => load_hkR (HkAt.low hAt hu) (.tmp 89) (by kernel_rfl) (by kernel_rfl)⟩) hHeld ?_
        simp only [Act.put, List.setIfInBounds_toArray, List.set_cons_zero, List.set_cons_succ]
        refine go_take 6 93 _ (.slice (some ⟨pb, pf, none⟩) P.length pc) rfl (by kernel_rfl) (by kernel_rfl) (by kernel_rfl) (by kernel_rfl) (fun _ _ _ h => h) (Or.inl ⟨by kernel_rfl, fun u hu => by kernel_rfl⟩) hHeld ?_
        simp only [Act.put, List.setIfInBounds_toArray, List.set_cons_zero, List.set_cons_succ]
        refine go_take 7 94 _ (.int .i64 (i : Int)) rfl (by kernel_rfl) (by kernel_rfl) (by kernel_rfl) (by kernel_rfl) (fun _ _ _ h => h) (Or.inl ⟨by kernel_rfl, fun u hu => by kernel_rfl⟩) hHeld ?_
        simp only [Act.put, List.setIfInBounds_toArray, List.set_cons_zero, List.set_cons_succ]
        refine go_take 8 95 _ (.pointer (some ⟨pb, pf + i * 5, none⟩)) rfl (by kernel_rfl) (by kernel_rfl) (by kernel_rfl) (by kernel_rfl) (fun _ _ _ h => h) (Or.inl ⟨by kernel_rfl, fun u hu => exec_ixH (c := pc) (i := i) hlt (.tmp 93) (.tmp 94) (by kernel_rfl) (by kernel_rfl) (by kernel_rfl)⟩) hHeld ?_
        simp only [Act.put, List.setIfInBounds_toArray, List.set_cons_zero, List.set_cons_succ]
        refine go_take 9 96 _ (hkV x (.slice ko x.ls.length kc)) rfl (by kernel_rfl) (by kernel_rfl) (by kernel_rfl) (by kernel_rfl) (fun _ _ _ h => h) (Or.inl ⟨by kernel_rfl, fun u hu => load_hkR (HkAt.low hAt hu) (.tmp 95) (by kernel_rfl) (by kernel_rfl)⟩) hHeld ?_
        simp only [Act.put, List.setIfInBounds_toArray, List.set_cons_zero, List.set_cons_succ]
        refine go_callE 4 91 _ rfl (by kernel_rfl) (by kernel_rfl) (by kernel_rfl) 19 (.func 19) #[.tmp 90] #[39] (by kernel_rfl) #[] (by kernel_rfl) #[hkV x (.slice ko x.ls.length kc)] (by kernel_rfl) (enters_of Tryz.func19 (by kernel_rfl) rfl) _ (hinv_held (HMk.keep hmk hHeld (Nat.le_refl _)) hkl HJ hHeld) ?_
        rintro _ u1 hH1 ⟨jo, jc, rfl, hmJ, hBJ⟩
        simp only [Act.put, List.setIfInBounds_toArray, List.set_cons_zero, List.set_cons_succ]
        refine go_callE 5 92 _ rfl (by kernel_rfl) (by kernel_rfl) (by kernel_rfl) 19 (.func 19) #[.tmp 91] #[39] (by kernel_rfl) #[] (by kernel_rfl) #[hkV J (.slice jo J.ls.length jc)] (by kernel_rfl) (enters_of Tryz.func19 (by kernel_rfl) rfl) _ (hinv_held hmJ hJl HK2 hH1) ?_
        rintro _ u2 hH2 ⟨ko2, kc2, rfl, hmk2, hBk2⟩
        simp only [Act.put, List.setIfInBounds_toArray, List.set_cons_zero, List.set_cons_succ]
        refine go_callH 10 97 _ rfl (by kernel_rfl) (by kernel_rfl) (by kernel_rfl) 20 #[.tmp 92, .tmp 96] #[39, 39] (by kernel_rfl) #[hkV x (.slice ko2 x.ls.length kc2), hkV x (.slice ko x.ls.length kc)] (by kernel_rfl) (enters_of Tryz.func20 (by kernel_rfl) rfl) (.bool true) ((rSame_f x _ _ u2 hmk2 (HMk.keep hmk hH2 (Nat.le_refl _)) (by omega)).mono (fun _ _ h => ⟨h.1, Below.trans hH2 (h.2.mono (Below.size hH2))⟩)) ?_
        intro u3 hH3
        simp only [Act.put, List.setIfInBounds_toArray, List.set_cons_zero, List.set_cons_succ]
        refine go_take 11 98 _ (.bool false) rfl (by kernel_rfl) (by kernel_rfl) (by kernel_rfl) (by kernel_rfl) (fun _ _ _ h => h) (Or.inl ⟨by kernel_rfl, fun u hu => by kernel_rfl⟩) hH3 ?_
        simp only [Act.put, List.setIfInBounds_toArray, List.set_cons_zero, List.set_cons_succ]
        refine wpAnyH_done (by kernel_rfl) ?_ _
        refine NoPanic.normal ?_
        have hBr2 := hBr.trans (Below.mono hH3 hBr.size)
        clear hHeld hH1 hH2 hmJ hBJ hmk2 hBk2 hlow
        go_wp2
        exact ⟨⟨i + 1, by omega, by go_num, hBr2⟩, by simp [intOf]; omega⟩
      · have hend : decide ((i : Int) < (P.length : Int)) = false := decide_eq_false (by omega)
        go_wp2
        go_ret
        exact ⟨rfl, hBw⟩
  · have HSM : Hid ((decide (a.length ≤ 200) && decide (b.length ≤ 200)) = false) := (by show _ = _; simp only [Bool.and_eq_false_iff, decide_eq_false_iff_not]; omega)
    go_wp2_with fail
    refine (lsmall_f a b _ _ w7 ha7 hb7 false HSM).mono ?_
    rintro e w8 ⟨rfl, rfl⟩
    go_wp2
    go_ret
    exact ⟨rfl, hB07⟩

set_option maxRecDepth 100000 in
theorem contract (H : Type) (enc : TypeId × Value → H) (W : World) (base : Nat) (args : Array Value) (ds gs : List (DataW H)) (before : List MemPlace)
    (hval : ∀ (j : Nat) t v, Tryz.f4.params[j]? = some t → args[j]? = some v → Value.okWide Tryz.prog W .any base t v)
    (hW : DataW.Whole enc Tryz.prog Tryz.f4.params.toList Rows.hunksBackSpec.vars false W args.toList ds gs before) (hk : Rows.uptoSmall H (ds ++ gs) = true) :
    Calls Tryz.prog 4 args W fun e W' => ∃ v, e = .returned v ∧ Rows.hunksBackSpec.post enc Tryz.prog Tryz.f4 false true false false W args v W' := by
  have hW' := hW
  obtain ⟨p, q, hA0, hV, rfl, hfz, hnd⟩ := hW
  have hA : DataW.TrodAll enc Tryz.prog W 0 (fun _ => true) true Tryz.f4.params.toList args.toList ds p := hA0
  rw [Tryz.params4] at hA hval
  obtain ⟨v0, vs0, d0, ds0, p0, q0, hargs, rfl, rfl, h0, r0⟩ := trodAll_cons hA
  obtain ⟨v1, vs1, d1, ds1, p1, q1, rfl, rfl, rfl, h1, r1⟩ := trodAll_cons r0
  obtain ⟨v2, vs2, d2, ds2, p2, q2, rfl, rfl, rfl, h2, r2⟩ := trodAll_cons r1
  obtain ⟨v3, vs3, d3, ds3, p3, q3, rfl, rfl, rfl, h3, r3⟩ := trodAll_cons r2
  obtain ⟨rfl, rfl, rfl⟩ := trodAll_nil r3
  obtain rfl : args = #[v0, v1, v2, v3] := by cases args; simp_all
  obtain ⟨rfl, rfl⟩ := trodVars_none hV
  obtain ⟨a1, len1, cap1, rfl⟩ := okWide_slice Tryz.underlying22 (hval 1 22 v1 rfl rfl)
  have k1 := h1
  have lt1 : ∀ x ∈ p1, x.block < W.heap.size := by obtain ⟨m, hm⟩ := k1; exact DataW.trod_lt m _ _ _ hm
  obtain ⟨a2, len2, cap2, rfl⟩ := okWide_slice Tryz.underlying22 (hval 2 22 v2 rfl rfl)
  have k2 := h2
  have lt2 : ∀ x ∈ p2, x.block < W.heap.size := by obtain ⟨m, hm⟩ := k2; exact DataW.trod_lt m _ _ _ hm
  obtain ⟨cs0, rfl, _⟩ := okWide_struct Tryz.underlying39 (hval 0 39 v0 rfl rfl)
  have k0 := h0
  have lt0 : ∀ x ∈ p0, x.block < W.heap.size := by obtain ⟨m, hm⟩ := k0; exact DataW.trod_lt m _ _ _ hm
  obtain ⟨n3, rfl, rfl, rfl, wn3⟩ := open_int Tryz.underlying3 (hval 3 3 v3 rfl rfl) h3
  clear hA0
  simp only [List.append_nil] at hk
  have hbk : Rows.uptoBulkAll [d0, d1, d2, .lit (.int .i64 n3)] ≤ 1048576 := of_decide_eq_true hk
  simp only [Rows.uptoBulkAll] at hbk
  obtain ⟨f0, hf0⟩ := h0
  obtain ⟨ws0, y0, hcs0, hv0, hwl0, _, _⟩ := open_hkc hf0
  have hvv0 : Value.agg cs0 = hkV ws0 y0 := by cases cs0; simp [Value.cells] at hcs0; subst hcs0; rfl
  rw [hvv0] at k0 hW' ⊢
  obtain ⟨f1, hf1⟩ := h1
  obtain ⟨ws1, hv1, hwl1⟩ := Tx.open_texts (by simpa [Value.cells] using hf1)
  have he1 : ∀ a ∈ ws1, a.length ≤ 137438953472 := fun a ha => by have := Tx.each_le a ha; omega
  obtain ⟨f2, hf2⟩ := h2
  obtain ⟨ws2, hv2, hwl2⟩ := Tx.open_texts (by simpa [Value.cells] using hf2)
  have he2 : ∀ a ∈ ws2, a.length ≤ 137438953472 := fun a ha => by have := Tx.each_le a ha; omega
  have hw := walk ws0 ws1 ws2 n3 y0 (.slice a1 len1 cap1) (.slice a2 len2 cap2) W (by omega) he1 he2 hv0 (hs_of hv1) (hs_of hv2)
  refine hw.mono fun e W' ⟨he, bel⟩ => ?_
  subst he
  exact ⟨_, rfl, _, _, _, [], _, [], hW', trodAll_mk1 (shut_bool Tryz.underlying4 _), trodAll_cons_mk (Below.trod Tx.laidOut (by kernel_rfl) (of_decide_eq_true (by kernel_rfl)) k0 bel lt0) (trodAll_cons_mk (Below.trod Tx.laidOut (by kernel_rfl) (of_decide_eq_true (by kernel_rfl)) k1 bel lt1) (trodAll_cons_mk (Below.trod Tx.laidOut (by kernel_rfl) (of_decide_eq_true (by kernel_rfl)) k2 bel lt2) (trodAll_cons_mk (shut_int Tryz.underlying3 wn3) trodAll_mk0))), rfl, bel.frame _, fun h => by cases h⟩

theorem laid_met (os : Os) : laidMet Tryz.prog Rows.hunksBackUptoRow.laid ((Tx.laidOnU (World.holding Tryz.prog os ⟨#[], #[], []⟩)).forCall (fun _ _ => 0) ⟨#[], #[.agg #[.int .i64 0, .int .i64 0, .int .i64 0, .int .i64 0, .slice none 0 0], .slice none 0 0, .slice none 0 0, .int .i64 0], []⟩).memory :=
  laidMet_of_run' 8 (by kernel_rfl) (by kernel_rfl)
theorem reads (os : Os) {H : Type} (enc : TypeId × Value → H) : ∃ places, DataW.whole enc Tryz.prog ((Tx.laidOnU (World.holding Tryz.prog os ⟨#[], #[], []⟩)).forCall (fun _ _ => 0) ⟨#[], #[.agg #[.int .i64 0, .int .i64 0, .int .i64 0, .int .i64 0, .slice none 0 0], .slice none 0 0, .slice none 0 0, .int .i64 0], []⟩).memory Tryz.f4.params.toList Rows.hunksBackSpec.vars false #[Value.agg #[.int .i64 0, .int .i64 0, .int .i64 0, .int .i64 0, .slice none 0 0], Value.slice none 0 0, Value.slice none 0 0, Value.int .i64 0].toList 8 = some ([.agg [.lit (.int .i64 0), .lit (.int .i64 0), .lit (.int .i64 0), .lit (.int .i64 0), .nil], .nil, .nil, .lit (.int .i64 0)], [], places) :=
  ⟨[], by kernel_rfl⟩

set_option maxRecDepth 100000 in
theorem lifted (os : Os) (started : os.Started) (H : Type) (enc : TypeId × Value → H) (F : Stop.Interp) :
    ReturnsInHanded {} Tryz.checked os 4 .any ((Rows.OpenSpec.upto Rows.hunksBackSpec).preRow enc Tryz.prog Tryz.f4 Rows.hunksBackUptoRow.domain false Rows.hunksBackUptoRow.laid) (((Rows.OpenSpec.upto Rows.hunksBackSpec).at F).post enc Tryz.prog Tryz.f4 false true false false) := by
  obtain ⟨places, hx⟩ := reads os enc
  refine returnsInHanded_of_row (C := Tryz.checked) (s := Rows.OpenSpec.upto Rows.hunksBackSpec) Tx.own started (by kernel_rfl) Tryz.func4
    (witness_row_at (enc := enc) (C := Tryz.checked) false (Tx.laidOnU (World.holding Tryz.prog os ⟨#[], #[], []⟩)) #[.agg #[.int .i64 0, .int .i64 0, .int .i64 0, .int .i64 0, .slice none 0 0], .slice none 0 0, .slice none 0 0, .int .i64 0] rfl (by kernel_rfl) (by kernel_rfl) (by kernel_rfl)
      (OpenSpec.preRow_of_cond 8 hx (by kernel_rfl) (fun k hk => by cases hk; kernel_rfl) (by kernel_rfl) (laid_met os))) ?_
  intro W base args ds gs before hval hW _ hcond _ _ _ _
  exact contract H enc W base args ds gs before hval hW (hcond _ rfl)

theorem said : Rows.HunksBackUptoSaid :=
  OpenClaim.holds_of_cond 4 Tryz.f4 rfl rfl rfl rfl rfl rfl rfl ⟨rfl, rfl, rfl, rfl, rfl⟩ rfl rfl rfl rfl rfl (by kernel_rfl) Tryz.func4 (by kernel_rfl)
    (of_decide_eq_true (by kernel_rfl)) (by unfold Func.isWrapper; first | (rw [if_pos (by decide +kernel)]; kernel_rfl) | (rw [if_neg (by decide +kernel)]; exact ⟨rfl, rfl⟩))
    (fun os started H enc _ F => by rw [OpenClaim.pre_eq_preRow]; exact lifted os started H enc F)

theorem plain (f : FuncId) (fn : Func) (hf : Tryz.pinned.checked.prog.funcNamed "redline/redlinelaw11.HunksBack" = some f) (hfn : Tryz.pinned.checked.prog.funcs[f]? = some fn) :
    false = Tryz.pinned.checked.prog.looks [] ∧ ∀ (j : Nat) t, fn.params[j]? = some t → Tryz.pinned.checked.prog.wantsStandIn t = false := by
  obtain rfl : f = 4 := Option.some.inj ((show Tryz.prog.funcNamed "redline/redlinelaw11.HunksBack" = some 4 by kernel_rfl).symm.trans hf) |>.symm
  obtain rfl : fn = Tryz.f4 := (Option.some.inj (Tryz.func4.symm.trans hfn)).symm
  refine ⟨by kernel_rfl, fun j t ht => ?_⟩
  rw [Tryz.params4] at ht
  have hm : t = 39 ∨ t = 22 ∨ t = 22 ∨ t = 3 := by simpa using Array.mem_of_getElem? ht
  rcases hm with rfl | rfl | rfl | rfl
  · exact (show Tryz.prog.wantsStandIn 39 = false by kernel_rfl)
  · exact (show Tryz.prog.wantsStandIn 22 = false by kernel_rfl)
  · exact (show Tryz.prog.wantsStandIn 22 = false by kernel_rfl)
  · exact (show Tryz.prog.wantsStandIn 3 = false by kernel_rfl)

theorem card : Rows.HunksBackUptoCardSaid :=
  Claim7.holds_tied_plain_at .later [] _ _ _ _ said (fun _ h => by cases h) (by kernel_rfl) (fun _ h => by cases h) hunksBackUpto_row_tie rfl ⟨rfl, rfl⟩ (by kernel_rfl) rfl plain (by kernel_rfl)
#print axioms card
end Go.Proofs.YtgckcbcdmmnkoaaGreatDoor.hunksBack
