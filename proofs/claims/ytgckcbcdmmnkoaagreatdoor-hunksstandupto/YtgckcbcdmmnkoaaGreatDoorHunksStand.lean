/-
  For every engine, all lists of lines a and b of together at most 1048576 letters and values and every number, the law HunksStand returns true and leaves its arguments as they were: the hunks of two texts stand in order, their old and new lines are what stands at their places, and they are the edit script again. The variables that the start lays are the listed ones.
-/
import Derived.Test.YtgckcbcdmmnkoaaGreatDoorPartC3
import Derived.Test.YtgckcbcdmmnkoaaGreatDoorPartA2
set_option maxRecDepth 20000
namespace Go.Proofs.YtgckcbcdmmnkoaaGreatDoor.hunksStand
open Go.ChangeShapes Go.WideShapes Go.ChangeAt Go.RowKit
attribute [local go_sem] bat ByteArray.extract_mk

set_option maxRecDepth 10000 in
set_option maxHeartbeats 16000000 in
theorem walk (k0 : Int) (a b : List (List UInt8)) (k : Int) (va vb : Value) (w : World) (hla : ∀ l ∈ a, l.length ≤ 137438953472) (hlb : ∀ l ∈ b, l.length ≤ 137438953472) (ha : HS w va a) (hb : HS w vb b) :
    Calls Tryz.prog 3 #[.int .i64 k0, va, vb, .int .i64 k] w fun e w' => e = .returned (.bool true) ∧ Below w.heap.size w w' := by
  obtain ⟨ao, ac, rfl⟩ := Holds.form ha
  obtain ⟨bo, bc, rfl⟩ := Holds.form hb
  have HLA : Hid (∀ l ∈ a, l.length ≤ 137438953472) := hla
  have HLB : Hid (∀ l ∈ b, l.length ≤ 137438953472) := hlb
  clear hla hlb
  go_enter Tryz.func3, Tryz.ntmps3
  go_wp2_with fail
  refine (hworks_f w).mono ?_
  rintro e w0 ⟨rfl, hB0⟩
  have ha0 := HS.keep ha hB0 (Nat.le_refl _)
  have hb0 := HS.keep hb hB0 (Nat.le_refl _)
  by_cases hsm : a.length ≤ 200 ∧ b.length ≤ 200
  · have HSM : Hid ((decide (a.length ≤ 200) && decide (b.length ≤ 200)) = true) := (by show _ = _; simp [hsm])
    go_wp2_with fail
    refine (lsmall_f a b _ _ w0 ha0 hb0 true HSM).mono ?_
    rintro e w1 ⟨rfl, rfl⟩
    obtain ⟨c, hc, hcb⟩ := ctx_of k 12 (by omega) (by omega)
    obtain ⟨K, hK, hkk⟩ := kind_of k0
    obtain ⟨L, hL⟩ : ∃ L, mkL (eng K (clx ig0 a b) (cly ig0 a b)) b.length = L := ⟨_, rfl⟩
    have HL : Hid (mkL (eng K (clx ig0 a b) (cly ig0 a b)) b.length = L) := hL
    obtain ⟨hS, hhU, hLl⟩ := eng_hun K a b (by omega) (by omega) hL
    obtain ⟨R1, hR1⟩ : ∃ R, mkR L a b c = R := ⟨_, rfl⟩
    have HR1 : Hid (mkR L a b c = R1) := hR1
    have HE1 : Hid (grpE L a.length b.length c = 0) := (mkR_eq hS (by omega)).2
    have hse := script_each (ctx := c) hS hhU (by omega)
    rw [hR1] at hse
    have HSE : Hid (∀ x ∈ R1, (0 ≤ atA x ∧ 0 ≤ x.AN ∧ atA x + x.AN ≤ a.length) ∧ (0 ≤ atB x ∧ 0 ≤ x.BN ∧ atB x + x.BN ≤ b.length) ∧ oldL x = cut a (atA x) x.AN ∧ newL x = cut b (atB x) x.BN ∧ Nf false x.ls) := hse
    have HSO : Hid ((∀ t, t ∈ a ∨ t ∈ b → t ≠ []) → abl a = true → abl b = true → (ordH R1 = 0 ∧ chR R1 = L) ∨ (ordH R1 = 6 ∧ innL (a ++ b) = true)) := (by
      intro h1 h2 h3
      have := script_order (ctx := c) hS hhU (by omega) (by omega) (by omega) h1 h2 h3
      rw [hR1] at this
      exact this)
    have HSC : Hid (Script L a.length b.length) := hS
    have hLb : L.length ≤ 1099511627776 := by omega
    clear hL hS hR1 hse hhU
    go_wp2_with fail
    rw [hc, hK]
    clear hK
    refine (En_f K ig0 a b _ _ w1 ha0 hb0 hkk (by omega) (by omega) HLA.out HLB.out L HL).mono ?_
    rintro e w9 ⟨v9, rfl, hv9, hB9⟩
    obtain ⟨o9, c9, rfl⟩ := Holds.form hv9
    have hB09 := hB0.trans (hB9.mono hB0.size)
    have ha9 := HS.keep ha hB09 (Nat.le_refl _)
    have hb9 := HS.keep hb hB09 (Nat.le_refl _)
    clear ha0 hb0 hB0 hB9 hc
    go_wp2_with fail
    refine (hMake_f L a b c _ _ _ w9 hv9 ha9 hb9 hLb (by omega) (by omega) 0 HE1 R1 HR1).mono ?_
    rintro e w10 ⟨v10, P, rfl, hP, hPm⟩
    obtain ⟨o10, pc, rfl⟩ := (holds_of hP.own).form
    have hB10 := hP.low
    have hB010 := hB09.trans (hB10.mono hB09.size)
    have hv10 := HCh.keep hv9 hB10 (Nat.le_refl _)
    have hPh := hP.holds
    have HPM : Hid (P.map (·.1) = R1) := hPm
    have hokP : HOk P := made_ok (ctx := c) HSC.out (by omega) hLb (by omega) HLA.out HLB.out (by rw [HPM.out, HR1.out])
    have hml := made_len (ctx := c) HSC.out (by omega)
    rw [HR1.out] at hml
    have HML : Hid (∀ x ∈ R1, x.ls.length ≤ 400) := fun x hx => (by have := (hml.2 x hx).1; omega)
    have hRl : R1.length ≤ 201 := by have := hml.1; omega
    have HTT : Hid (tot R1 ≤ 1099511627776) := (by
      have h1 := tot_le HML.out
      have h2 : R1.length * 400 ≤ 201 * 400 := Nat.mul_le_mul_right _ hRl
      show _ ≤ _
      omega)
    have hpl : P.length ≤ 1099511627776 := hokP.1
    have HOKP : Hid (HOk P) := hokP
    clear hv9 ha9 hb9 hB09 hB10 hP hPm hml hRl hokP
    go_wp2
    go_loopw [13] (fun iv wr => ∃ i : Nat, i ≤ P.length ∧ iv = .int .i64 (i : Int) ∧ Below w10.heap.size w10 wr) (fun iv _ => P.length - (intOf iv).toNat)
    case atStart => exact ⟨0, Nat.zero_le _, by go_num, Below.refl _ _⟩
    case round =>
      obtain ⟨i, hi, rfl, hBr⟩ := hrel
      have hBw := hB010.trans (hBr.mono hB010.size)
      by_cases hlt : i < P.length
      · obtain ⟨pb, pf, rfl, _, _⟩ := hPh.at (by omega)
        obtain ⟨x, y, hxy⟩ : ∃ x y, P[i] = (x, y) := ⟨_, _, rfl⟩
        obtain ⟨hAt0, hmk0⟩ := hPh.take hBr i hlt hxy
        have hmem : x ∈ R1 := (by rw [← HPM.out]; exact List.mem_map.2 ⟨(x, y), by rw [← hxy]; exact List.getElem_mem hlt, rfl⟩)
        have hxl := HML.out x hmem
        have hx := HSE.out x hmem
        obtain ⟨ko, kc, rfl⟩ := hmk0.form
        obtain ⟨U, hU⟩ : ∃ U, atA x = U := ⟨_, rfl⟩
        obtain ⟨V, hV⟩ : ∃ V, atB x = V := ⟨_, rfl⟩
        rw [hU, hV] at hx
        have HU : Hid (atA x = U) := hU
        have HV : Hid (atB x = V) := hV
        obtain ⟨RO, hRO⟩ : ∃ R, oldL x = R := ⟨_, rfl⟩
        obtain ⟨RN, hRN⟩ : ∃ R, newL x = R := ⟨_, rfl⟩
        have HOx : Hid (oldL x = RO) := hRO
        have HNx : Hid (newL x = RN) := hRN
        have hkl : x.ls.length ≤ 1099511627776 := by omega
        have hROl : RO.length ≤ 1099511627776 := by rw [← hRO]; have := pkL_length 43 x.ls; simp only [oldL]; omega
        have hRNl : RN.length ≤ 1099511627776 := by rw [← hRN]; have := pkL_length 45 x.ls; simp only [newL]; omega
        have hxn : (-4611686018427387904 ≤ x.A ∧ x.A ≤ 9223372036854775807) ∧ (-4611686018427387904 ≤ x.B ∧ x.B ≤ 9223372036854775807) := (by
          have h1 := hU
          have h2 := hV
          unfold atA at h1
          unfold atB at h2
          split at h1 <;> split at h2 <;> omega)
        obtain ⟨c0, c1, c2, c3, c4⟩ := hAt0
        have i1 : (0 : Int) ≤ (i : Int) := by omega
        have i2 : (i : Int) < (P.length : Int) := by omega
        have hx1 := hx.1
        have hx2 := hx.2.1
        have HCA : Hid (RO = cut a U x.AN) := (by show _ = _; rw [← hRO]; exact hx.2.2.1)
        have HCB : Hid (RN = cut b V x.BN) := (by show _ = _; rw [← hRN]; exact hx.2.2.2.1)
        clear hmem hx hU hV hRO hRN
        go_wp2_with fail
        refine (rAt_f x _ wr hxn.1.1 hxn.2.1 hxn.1.2 hxn.2.2 U V HU HV).mono ?_
        rintro e wq ⟨rfl, hBq⟩
        have hBr1 := hBr.trans (hBq.mono hBr.size)
        obtain ⟨hAt, hmk⟩ := hPh.take hBr1 i hlt hxy
        have hBw1 := hB010.trans (hBr1.mono hB010.size)
        have haq := HS.keep ha hBw1 (Nat.le_refl _)
        have hbq := HS.keep hb hBw1 (Nat.le_refl _)
        obtain ⟨sA, r1, h1⟩ := run_cut a ao ac U x.AN hx1.1 hx1.2.1 hx1.2.2 wq haq
        obtain ⟨sB, r2, h2⟩ := run_cut b bo bc V x.BN hx2.1 hx2.2.1 hx2.2.2 wq hbq
        have t1 := h1 wq haq
        have t2 := h2 wq hbq
        rw [← HCA.out] at t1
        rw [← HCB.out] at t2
        obtain ⟨s1o, s1c, rfl⟩ := Holds.form t1
        obtain ⟨s2o, s2c, rfl⟩ := Holds.form t2
        have hwU : IntKind.i64.wrap (U + x.AN) = U + x.AN := wrap_s (by omega) (by omega)
        have hwV : IntKind.i64.wrap (V + x.BN) = V + x.BN := wrap_s (by omega) (by omega)
        have hgU : decide ((a.length : Int) < U + x.AN) = false := decide_eq_false (by omega)
        have hgV : decide ((b.length : Int) < V + x.BN) = false := decide_eq_false (by omega)
        clear c0 c1 c2 c3 c4 hBr hBw h1 h2 haq hbq hmk0 HCA HCB HU HV hxn hBq
        go_upto_region 14 with fail
        generalize wq = wr at *
        have hlow : Low wr (wr.drewN 1) := Below.dN (Below.refl _ wr) 1
        refine wp_region_noPanic ?_
        refine wp_region_held_drew (S := fun u => Low wr u) (by kernel_rfl) hlow (fun hHeld => ?_)
        refine go_take 0 70 _ (.int .i64 U) rfl (by kernel_rfl) (by kernel_rfl) (by kernel_rfl) (by kernel_rfl) (fun _ _ _ h => h) (Or.inl ⟨by kernel_rfl, fun u hu => by kernel_rfl⟩) hHeld ?_
        simp only [Act.put, List.setIfInBounds_toArray, List.set_cons_zero, List.set_cons_succ]
        refine go_take 1 71 _ (.slice (some ⟨pb, pf, none⟩) P.length pc) rfl (by kernel_rfl) (by kernel_rfl) (by kernel_rfl) (by kernel_rfl) (fun _ _ _ h => h) (Or.inl ⟨by kernel_rfl, fun u hu => by kernel_rfl⟩) hHeld ?_
        simp only [Act.put, List.setIfInBounds_toArray, List.set_cons_zero, List.set_cons_succ]
        refine go_take 2 72 _ (.int .i64 (i : Int)) rfl (by kernel_rfl) (by kernel_rfl) (by kernel_rfl) (by kernel_rfl) (fun _ _ _ h => h) (Or.inl ⟨by kernel_rfl, fun u hu => by kernel_rfl⟩) hHeld ?_
        simp only [Act.put, List.setIfInBounds_toArray, List.set_cons_zero, List.set_cons_succ]
        refine go_take 3 73 _ (.pointer (some ⟨pb, pf + i * 5, none⟩)) rfl (by kernel_rfl) (by kernel_rfl) (by kernel_rfl) (by kernel_rfl) (fun _ _ _ h => h) (Or.inl ⟨by kernel_rfl, fun u hu => exec_ixH (c := pc) (i := i) hlt (.tmp 71) (.tmp 72) (by kernel_rfl) (by kernel_rfl) (by kernel_rfl)⟩) hHeld ?_
        simp only [Act.put, List.setIfInBounds_toArray, List.set_cons_zero, List.set_cons_succ]
        refine go_take 4 74 _ (.pointer (some ⟨pb, pf + i * 5 + 1, none⟩)) rfl (by kernel_rfl) (by kernel_rfl) (by kernel_rfl) (by kernel_rfl) (fun _ _ _ h => h) (Or.inl ⟨by kernel_rfl, fun u hu => by kernel_rfl⟩) hHeld ?_
        simp only [Act.put, List.setIfInBounds_toArray, List.set_cons_zero, List.set_cons_succ]
        refine go_take 5 75 _ (.int .i64 x.AN) rfl (by kernel_rfl) (by kernel_rfl) (by kernel_rfl) (by kernel_rfl) (fun _ _ _ h => h) (Or.inl ⟨by kernel_rfl, fun u hu => load_int (HkAt.low hAt hu).2.1 (.tmp 74) (by kernel_rfl) (by kernel_rfl)⟩) hHeld ?_
        simp only [Act.put, List.setIfInBounds_toArray, List.set_cons_zero, List.set_cons_succ]
        refine go_take 6 76 _ (.int .i64 (U + x.AN)) rfl (by kernel_rfl) (by kernel_rfl) (by kernel_rfl) (by kernel_rfl) (fun _ _ _ h => h) (Or.inl ⟨by kernel_rfl, fun u hu => exec_addI hwU (.tmp 70) (.tmp 75) (by kernel_rfl) (by kernel_rfl) (by kernel_rfl)⟩) hHeld ?_
        simp only [Act.put, List.setIfInBounds_toArray, List.set_cons_zero, List.set_cons_succ]
        refine go_take 7 77 _ (.slice ao a.length ac) rfl (by kernel_rfl) (by kernel_rfl) (by kernel_rfl) (by kernel_rfl) (fun _ _ _ h => h) (Or.inl ⟨by kernel_rfl, fun u hu => by kernel_rfl⟩) hHeld ?_
        simp only [Act.put, List.setIfInBounds_toArray, List.set_cons_zero, List.set_cons_succ]
        refine go_take 8 78 _ (.int .i64 (a.length : Int)) rfl (by kernel_rfl) (by kernel_rfl) (by kernel_rfl) (by kernel_rfl) (fun _ _ _ h => h) (Or.inl ⟨by kernel_rfl, fun u hu => by kernel_rfl⟩) hHeld ?_
        simp only [Act.put, List.setIfInBounds_toArray, List.set_cons_zero, List.set_cons_succ]
        refine go_take 9 79 _ (.bool false) rfl (by kernel_rfl) (by kernel_rfl) (by kernel_rfl) (by kernel_rfl) (fun _ _ _ h => h) (Or.inl ⟨by kernel_rfl, fun u hu => exec_gtI hgU (.tmp 76) (.tmp 78) (by kernel_rfl) (by kernel_rfl) (by kernel_rfl)⟩) hHeld ?_
        simp only [Act.put, List.setIfInBounds_toArray, List.set_cons_zero, List.set_cons_succ]
        refine go_take 10 80 _ (.bool false) rfl (by kernel_rfl) (by kernel_rfl) (by kernel_rfl) (by kernel_rfl) (fun _ _ _ h => h) (Or.inl ⟨by kernel_rfl, fun u hu => by kernel_rfl⟩) hHeld ?_
        simp only [Act.put, List.setIfInBounds_toArray, List.set_cons_zero, List.set_cons_succ]
        refine go_take 11 81 _ (.int .i64 V) rfl (by kernel_rfl) (by kernel_rfl) (by kernel_rfl) (by kernel_rfl) (fun _ _ _ h => h) (Or.inl ⟨by kernel_rfl, fun u hu => by kernel_rfl⟩) hHeld ?_
        simp only [Act.put, List.setIfInBounds_toArray, List.set_cons_zero, List.set_cons_succ]
        refine go_take 12 82 _ (.slice (some ⟨pb, pf, none⟩) P.length pc) rfl (by kernel_rfl) (by kernel_rfl) (by kernel_rfl) (by kernel_rfl) (fun _ _ _ h => h) (Or.inl ⟨by kernel_rfl, fun u hu => by kernel_rfl⟩) hHeld ?_
        simp only [Act.put, List.setIfInBounds_toArray, List.set_cons_zero, List.set_cons_succ]
        refine go_take 13 83 _ (.int .i64 (i : Int)) rfl (by kernel_rfl) (by kernel_rfl) (by kernel_rfl) (by kernel_rfl) (fun _ _ _ h => h) (Or.inl ⟨by kernel_rfl, fun u hu => by kernel_rfl⟩) hHeld ?_
        simp only [Act.put, List.setIfInBounds_toArray, List.set_cons_zero, List.set_cons_succ]
        refine go_take 14 84 _ (.pointer (some ⟨pb, pf + i * 5, none⟩)) rfl (by kernel_rfl) (by kernel_rfl) (by kernel_rfl) (by kernel_rfl) (fun _ _ _ h => h) (Or.inl ⟨by kernel_rfl, fun u hu => exec_ixH (c := pc) (i := i) hlt (.tmp 82) (.tmp 83) (by kernel_rfl) (by kernel_rfl) (by kernel_rfl)⟩) hHeld ?_
        simp only [Act.put, List.setIfInBounds_toArray, List.set_cons_zero, List.set_cons_succ]
        refine go_take 15 85 _ (.pointer (some ⟨pb, pf + i * 5 + 3, none⟩)) rfl (by kernel_rfl) (by kernel_rfl) (by kernel_rfl) (by kernel_rfl) (fun _ _ _ h => h) (Or.inl ⟨by kernel_rfl, fun u hu => by kernel_rfl⟩) hHeld ?_
        simp only [Act.put, List.setIfInBounds_toArray, List.set_cons_zero, List.set_cons_succ]
        refine go_take 16 86 _ (.int .i64 x.BN) rfl (by kernel_rfl) (by kernel_rfl) (by kernel_rfl) (by kernel_rfl) (fun _ _ _ h => h) (Or.inl ⟨by kernel_rfl, fun u hu => load_int (HkAt.low hAt hu).2.2.2.1 (.tmp 85) (by kernel_rfl) (by kernel_rfl)⟩) hHeld ?_
        simp only [Act.put, List.setIfInBounds_toArray, List.set_cons_zero, List.set_cons_succ]
        refine go_take 17 87 _ (.int .i64 (V + x.BN)) rfl (by kernel_rfl) (by kernel_rfl) (by kernel_rfl) (by kernel_rfl) (fun _ _ _ h => h) (Or.inl ⟨by kernel_rfl, fun u hu => exec_addI hwV (.tmp 81) (.tmp 86) (by kernel_rfl) (by kernel_rfl) (by kernel_rfl)⟩) hHeld ?_
        simp only [Act.put, List.setIfInBounds_toArray, List.set_cons_zero, List.set_cons_succ]
        refine go_take 18 88 _ (.slice bo b.length bc) rfl (by kernel_rfl) (by kernel_rfl) (by kernel_rfl) (by kernel_rfl) (fun _ _ _ h => h) (Or.inl ⟨by kernel_rfl, fun u hu => by kernel_rfl⟩) hHeld ?_
        simp only [Act.put, List.setIfInBounds_toArray, List.set_cons_zero, List.set_cons_succ]
        refine go_take 19 89 _ (.int .i64 (b.length : Int)) rfl (by kernel_rfl) (by kernel_rfl) (by kernel_rfl) (by kernel_rfl) (fun _ _ _ h => h) (Or.inl ⟨by kernel_rfl, fun u hu => by kernel_rfl⟩) hHeld ?_
        simp only [Act.put, List.setIfInBounds_toArray, List.set_cons_zero, List.set_cons_succ]
        refine go_take 20 90 _ (.bool false) rfl (by kernel_rfl) (by kernel_rfl) (by kernel_rfl) (by kernel_rfl) (fun _ _ _ h => h) (Or.inl ⟨by kernel_rfl, fun u hu => exec_gtI hgV (.tmp 87) (.tmp 89) (by kernel_rfl) (by kernel_rfl) (by kernel_rfl)⟩) hHeld ?_
        simp only [Act.put, List.setIfInBounds_toArray, List.set_cons_zero, List.set_cons_succ]
        refine go_take 21 91 _ (.bool false) rfl (by kernel_rfl) (by kernel_rfl) (by kernel_rfl) (by kernel_rfl) (fun _ _ _ h => h) (Or.inl ⟨by kernel_rfl, fun u hu => by kernel_rfl⟩) hHeld ?_
        simp only [Act.put, List.setIfInBounds_toArray, List.set_cons_zero, List.set_cons_succ]
        refine go_take 22 92 _ (.bool false) rfl (by kernel_rfl) (by kernel_rfl) (by kernel_rfl) (by kernel_rfl) (fun _ _ _ h => h) (Or.inl ⟨by kernel_rfl, fun u hu => by kernel_rfl⟩) hHeld ?_
        simp only [Act.put, List.setIfInBounds_toArray, List.set_cons_zero, List.set_cons_succ]
        refine go_take 23 93 _ (.slice (some ⟨pb, pf, none⟩) P.length pc) rfl (by kernel_rfl) (by kernel_rfl) (by kernel_rfl) (by kernel_rfl) (fun _ _ _ h => h) (Or.inl ⟨by kernel_rfl, fun u hu => by kernel_rfl⟩) hHeld ?_
        simp only [Act.put, List.setIfInBounds_toArray, List.set_cons_zero, List.set_cons_succ]
        refine go_take 24 94 _ (.int .i64 (i : Int)) rfl (by kernel_rfl) (by kernel_rfl) (by kernel_rfl) (by kernel_rfl) (fun _ _ _ h => h) (Or.inl ⟨by kernel_rfl, fun u hu => by kernel_rfl⟩) hHeld ?_
        simp only [Act.put, List.setIfInBounds_toArray, List.set_cons_zero, List.set_cons_succ]
        refine go_take 25 95 _ (.pointer (some ⟨pb, pf + i * 5, none⟩)) rfl (by kernel_rfl) (by kernel_rfl) (by kernel_rfl) (by kernel_rfl) (fun _ _ _ h => h) (Or.inl ⟨by kernel_rfl, fun u hu => exec_ixH (c := pc) (i := i) hlt (.tmp 93) (.tmp 94) (by kernel_rfl) (by kernel_rfl) (by kernel_rfl)⟩) hHeld ?_
        simp only [Act.put, List.setIfInBounds_toArray, List.set_cons_zero, List.set_cons_succ]
        refine go_take 26 96 _ (hkV x (.slice ko x.ls.length kc)) rfl (by kernel_rfl) (by kernel_rfl) (by kernel_rfl) (by kernel_rfl) (fun _ _ _ h => h) (Or.inl ⟨by kernel_rfl, fun u hu => load_hkR (HkAt.low hAt hu) (.tmp 95) (by kernel_rfl) (by kernel_rfl)⟩) hHeld ?_
        simp only [Act.put, List.setIfInBounds_toArray, List.set_cons_zero, List.set_cons_succ]
        refine go_take 28 98 _ (.slice ao a.length ac) rfl (by kernel_rfl) (by kernel_rfl) (by kernel_rfl) (by kernel_rfl) (fun _ _ _ h => h) (Or.inl ⟨by kernel_rfl, fun u hu => by kernel_rfl⟩) hHeld ?_
        simp only [Act.put, List.setIfInBounds_toArray, List.set_cons_zero, List.set_cons_succ]
        refine go_take 29 99 _ (.int .i64 U) rfl (by kernel_rfl) (by kernel_rfl) (by kernel_rfl) (by kernel_rfl) (fun _ _ _ h => h) (Or.inl ⟨by kernel_rfl, fun u hu => by kernel_rfl⟩) hHeld ?_
        simp only [Act.put, List.setIfInBounds_toArray, List.set_cons_zero, List.set_cons_succ]
        refine go_take 30 100 _ (.int .i64 U) rfl (by kernel_rfl) (by kernel_rfl) (by kernel_rfl) (by kernel_rfl) (fun _ _ _ h => h) (Or.inl ⟨by kernel_rfl, fun u hu => by kernel_rfl⟩) hHeld ?_
        simp only [Act.put, List.setIfInBounds_toArray, List.set_cons_zero, List.set_cons_succ]
        refine go_take 31 101 _ (.slice (some ⟨pb, pf, none⟩) P.length pc) rfl (by kernel_rfl) (by kernel_rfl) (by kernel_rfl) (by kernel_rfl) (fun _ _ _ h => h) (Or.inl ⟨by kernel_rfl, fun u hu => by kernel_rfl⟩) hHeld ?_
        simp only [Act.put, List.setIfInBounds_toArray, List.set_cons_zero, List.set_cons_succ]
        refine go_take 32 102 _ (.int .i64 (i : Int)) rfl (by kernel_rfl) (by kernel_rfl) (by kernel_rfl) (by kernel_rfl) (fun _ _ _ h => h) (Or.inl ⟨by kernel_rfl, fun u hu => by kernel_rfl⟩) hHeld ?_
        simp only [Act.put, List.setIfInBounds_toArray, List.set_cons_zero, List.set_cons_succ]
        refine go_take 33 103 _ (.pointer (some ⟨pb, pf + i * 5, none⟩)) rfl (by kernel_rfl) (by kernel_rfl) (by kernel_rfl) (by kernel_rfl) (fun _ _ _ h => h) (Or.inl ⟨by kernel_rfl, fun u hu => exec_ixH (c := pc) (i := i) hlt (.tmp 101) (.tmp 102) (by kernel_rfl) (by kernel_rfl) (by kernel_rfl)⟩) hHeld ?_
        simp only [Act.put, List.setIfInBounds_toArray, List.set_cons_zero, List.set_cons_succ]
        refine go_take 34 104 _ (.pointer (some ⟨pb, pf + i * 5 + 1, none⟩)) rfl (by kernel_rfl) (by kernel_rfl) (by kernel_rfl) (by kernel_rfl) (fun _ _ _ h => h) (Or.inl ⟨by kernel_rfl, fun u hu => by kernel_rfl⟩) hHeld ?_
        simp only [Act.put, List.setIfInBounds_toArray, List.set_cons_zero, List.set_cons_succ]
        refine go_take 35 105 _ (.int .i64 x.AN) rfl (by kernel_rfl) (by kernel_rfl) (by kernel_rfl) (by kernel_rfl) (fun _ _ _ h => h) (Or.inl ⟨by kernel_rfl, fun u hu => load_int (HkAt.low hAt hu).2.1 (.tmp 104) (by kernel_rfl) (by kernel_rfl)⟩) hHeld ?_
        simp only [Act.put, List.setIfInBounds_toArray, List.set_cons_zero, List.set_cons_succ]
        refine go_take 36 106 _ (.int .i64 (U + x.AN)) rfl (by kernel_rfl) (by kernel_rfl) (by kernel_rfl) (by kernel_rfl) (fun _ _ _ h => h) (Or.inl ⟨by kernel_rfl, fun u hu => exec_addI hwU (.tmp 100) (.tmp 105) (by kernel_rfl) (by kernel_rfl) (by kernel_rfl)⟩) hHeld ?_
        simp only [Act.put, List.setIfInBounds_toArray, List.set_cons_zero, List.set_cons_succ]
        refine go_take 37 107 _ (.slice s1o RO.length s1c) rfl (by kernel_rfl) (by kernel_rfl) (by kernel_rfl) (by kernel_rfl) (fun _ _ _ h => h) (Or.inl ⟨by kernel_rfl, fun u hu => exec_slHu r1 (.tmp 98) (.tmp 99) (.tmp 106) (by kernel_rfl) (by kernel_rfl) (by kernel_rfl) (by kernel_rfl)⟩) hHeld ?_
        simp only [Act.put, List.setIfInBounds_toArray, List.set_cons_zero, List.set_cons_succ]
        refine go_callE 27 97 _ rfl (by kernel_rfl) (by kernel_rfl) (by kernel_rfl) 13 (.func 13) #[.tmp 96] #[39] (by kernel_rfl) #[] (by kernel_rfl) #[hkV x (.slice ko x.ls.length kc)] (by kernel_rfl) (enters_of Tryz.func13 (by kernel_rfl) rfl) _ (hold_held hmk hkl HOx hHeld) ?_
        rintro vA u1 hH1 ⟨hvA, hBA⟩
        obtain ⟨aO, aC, rfl⟩ := Holds.form hvA
        simp only [Act.put, List.setIfInBounds_toArray, List.set_cons_zero, List.set_cons_succ]
        refine go_callH 38 108 _ rfl (by kernel_rfl) (by kernel_rfl) (by kernel_rfl) 12 #[.tmp 97, .tmp 107] #[22, 22] (by kernel_rfl) #[.slice aO RO.length aC, .slice s1o RO.length s1c] (by kernel_rfl) (enters_of Tryz.func12 (by kernel_rfl) rfl) (.bool true) ((SameS_any _ _ RO u1 (by omega) hvA (HS.keep t1 hH1 (Nat.le_refl _))).mono (fun _ _ h => ⟨h.1, Below.trans hH1 (h.2.mono (Below.size hH1))⟩)) ?_
        intro u2 hH2
        simp only [Act.put, List.setIfInBounds_toArray, List.set_cons_zero, List.set_cons_succ]
        refine go_take 39 109 _ (.bool false) rfl (by kernel_rfl) (by kernel_rfl) (by kernel_rfl) (by kernel_rfl) (fun _ _ _ h => h) (Or.inl ⟨by kernel_rfl, fun u hu => by kernel_rfl⟩) hH2 ?_
        simp only [Act.put, List.setIfInBounds_toArray, List.set_cons_zero, List.set_cons_succ]
        refine go_take 40 110 _ (.bool false) rfl (by kernel_rfl) (by kernel_rfl) (by kernel_rfl) (by kernel_rfl) (fun _ _ _ h => h) (Or.inl ⟨by kernel_rfl, fun u hu => by kernel_rfl⟩) hH2 ?_
        simp only [Act.put, List.setIfInBounds_toArray, List.set_cons_zero, List.set_cons_succ]
        refine go_take 41 111 _ (.bool false) rfl (by kernel_rfl) (by kernel_rfl) (by kernel_rfl) (by kernel_rfl) (fun _ _ _ h => h) (Or.inl ⟨by kernel_rfl, fun u hu => by kernel_rfl⟩) hH2 ?_
        simp only [Act.put, List.setIfInBounds_toArray, List.set_cons_zero, List.set_cons_succ]
        refine go_take 42 112 _ (.slice (some ⟨pb, pf, none⟩) P.length pc) rfl (by kernel_rfl) (by kernel_rfl) (by kernel_rfl) (by kernel_rfl) (fun _ _ _ h => h) (Or.inl ⟨by kernel_rfl, fun u hu => by kernel_rfl⟩) hH2 ?_
        simp only [Act.put, List.setIfInBounds_toArray, List.set_cons_zero, List.set_cons_succ]
        refine go_take 43 113 _ (.int .i64 (i : Int)) rfl (by kernel_rfl) (by kernel_rfl) (by kernel_rfl) (by kernel_rfl) (fun _ _ _ h => h) (Or.inl ⟨by kernel_rfl, fun u hu => by kernel_rfl⟩) hH2 ?_
        simp only [Act.put, List.setIfInBounds_toArray, List.set_cons_zero, List.set_cons_succ]
        refine go_take 44 114 _ (.pointer (some ⟨pb, pf + i * 5, none⟩)) rfl (by kernel_rfl) (by kernel_rfl) (by kernel_rfl) (by kernel_rfl) (fun _ _ _ h => h) (Or.inl ⟨by kernel_rfl, fun u hu => exec_ixH (c := pc) (i := i) hlt (.tmp 112) (.tmp 113) (by kernel_rfl) (by kernel_rfl) (by kernel_rfl)⟩) hH2 ?_
        simp only [Act.put, List.setIfInBounds_toArray, List.set_cons_zero, List.set_cons_succ]
        refine go_take 45 115 _ (hkV x (.slice ko x.ls.length kc)) rfl (by kernel_rfl) (by kernel_rfl) (by kernel_rfl) (by kernel_rfl) (fun _ _ _ h => h) (Or.inl ⟨by kernel_rfl, fun u hu => load_hkR (HkAt.low hAt hu) (.tmp 114) (by kernel_rfl) (by kernel_rfl)⟩) hH2 ?_
        simp only [Act.put, List.setIfInBounds_toArray, List.set_cons_zero, List.set_cons_succ]
        refine go_take 47 117 _ (.slice bo b.length bc) rfl (by kernel_rfl) (by kernel_rfl) (by kernel_rfl) (by kernel_rfl) (fun _ _ _ h => h) (Or.inl ⟨by kernel_rfl, fun u hu => by kernel_rfl⟩) hH2 ?_
        simp only [Act.put, List.setIfInBounds_toArray, List.set_cons_zero, List.set_cons_succ]
        refine go_take 48 118 _ (.int .i64 V) rfl (by kernel_rfl) (by kernel_rfl) (by kernel_rfl) (by kernel_rfl) (fun _ _ _ h => h) (Or.inl ⟨by kernel_rfl, fun u hu => by kernel_rfl⟩) hH2 ?_
        simp only [Act.put, List.setIfInBounds_toArray, List.set_cons_zero, List.set_cons_succ]
        refine go_take 49 119 _ (.int .i64 V) rfl (by kernel_rfl) (by kernel_rfl) (by kernel_rfl) (by kernel_rfl) (fun _ _ _ h => h) (Or.inl ⟨by kernel_rfl, fun u hu => by kernel_rfl⟩) hH2 ?_
        simp only [Act.put, List.setIfInBounds_toArray, List.set_cons_zero, List.set_cons_succ]
        refine go_take 50 120 _ (.slice (some ⟨pb, pf, none⟩) P.length pc) rfl (by kernel_rfl) (by kernel_rfl) (by kernel_rfl) (by kernel_rfl) (fun _ _ _ h => h) (Or.inl ⟨by kernel_rfl, fun u hu => by kernel_rfl⟩) hH2 ?_
        simp only [Act.put, List.setIfInBounds_toArray, List.set_cons_zero, List.set_cons_succ]
        refine go_take 51 121 _ (.int .i64 (i : Int)) rfl (by kernel_rfl) (by kernel_rfl) (by kernel_rfl) (by kernel_rfl) (fun _ _ _ h => h) (Or.inl ⟨by kernel_rfl, fun u hu => by kernel_rfl⟩) hH2 ?_
        simp only [Act.put, List.setIfInBounds_toArray, List.set_cons_zero, List.set_cons_succ]
        refine go_take 52 122 _ (.pointer (some ⟨pb, pf + i * 5, none⟩)) rfl (by kernel_rfl) (by kernel_rfl) (by kernel_rfl) (by kernel_rfl) (fun _ _ _ h => h) (Or.inl ⟨by kernel_rfl, fun u hu => exec_ixH (c := pc) (i := i) hlt (.tmp 120) (.tmp 121) (by kernel_rfl) (by kernel_rfl) (by kernel_rfl)⟩) hH2 ?_
        simp only [Act.put, List.setIfInBounds_toArray, List.set_cons_zero, List.set_cons_succ]
        refine go_take 53 123 _ (.pointer (some ⟨pb, pf + i * 5 + 3, none⟩)) rfl (by kernel_rfl) (by kernel_rfl) (by kernel_rfl) (by kernel_rfl) (fun _ _ _ h => h) (Or.inl ⟨by kernel_rfl, fun u hu => by kernel_rfl⟩) hH2 ?_
        simp only [Act.put, List.setIfInBounds_toArray, List.set_cons_zero, List.set_cons_succ]
        refine go_take 54 124 _ (.int .i64 x.BN) rfl (by kernel_rfl) (by kernel_rfl) (by kernel_rfl) (by kernel_rfl) (fun _ _ _ h => h) (Or.inl ⟨by kernel_rfl, fun u hu => load_int (HkAt.low hAt hu).2.2.2.1 (.tmp 123) (by kernel_rfl) (by kernel_rfl)⟩) hH2 ?_
        simp only [Act.put, List.setIfInBounds_toArray, List.set_cons_zero, List.set_cons_succ]
        refine go_take 55 125 _ (.int .i64 (V + x.BN)) rfl (by kernel_rfl) (by kernel_rfl) (by kernel_rfl) (by kernel_rfl) (fun _ _ _ h => h) (Or.inl ⟨by kernel_rfl, fun u hu => exec_addI hwV (.tmp 119) (.tmp 124) (by kernel_rfl) (by kernel_rfl) (by kernel_rfl)⟩) hH2 ?_
        simp only [Act.put, List.setIfInBounds_toArray, List.set_cons_zero, List.set_cons_succ]
        refine go_take 56 126 _ (.slice s2o RN.length s2c) rfl (by kernel_rfl) (by kernel_rfl) (by kernel_rfl) (by kernel_rfl) (fun _ _ _ h => h) (Or.inl ⟨by kernel_rfl, fun u hu => exec_slHu r2 (.tmp 117) (.tmp 118) (.tmp 125) (by kernel_rfl) (by kernel_rfl) (by kernel_rfl) (by kernel_rfl)⟩) hH2 ?_
        simp only [Act.put, List.setIfInBounds_toArray, List.set_cons_zero, List.set_cons_succ]
        refine go_callE 46 116 _ rfl (by kernel_rfl) (by kernel_rfl) (by kernel_rfl) 14 (.func 14) #[.tmp 115] #[39] (by kernel_rfl) #[] (by kernel_rfl) #[hkV x (.slice ko x.ls.length kc)] (by kernel_rfl) (enters_of Tryz.func14 (by kernel_rfl) rfl) _ (hnew_held hmk hkl HNx hH2) ?_
        rintro vB u3 hH3 ⟨hvB, hBB⟩
        obtain ⟨bO, bC, rfl⟩ := Holds.form hvB
        simp only [Act.put, List.setIfInBounds_toArray, List.set_cons_zero, List.set_cons_succ]
        refine go_callH 57 127 _ rfl (by kernel_rfl) (by kernel_rfl) (by kernel_rfl) 12 #[.tmp 116, .tmp 126] #[22, 22] (by kernel_rfl) #[.slice bO RN.length bC, .slice s2o RN.length s2c] (by kernel_rfl) (enters_of Tryz.func12 (by kernel_rfl) rfl) (.bool true) ((SameS_any _ _ RN u3 (by omega) hvB (HS.keep t2 hH3 (Nat.le_refl _))).mono (fun _ _ h => ⟨h.1, Below.trans hH3 (h.2.mono (Below.size hH3))⟩)) ?_
        intro u4 hH4
        simp only [Act.put, List.setIfInBounds_toArray, List.set_cons_zero, List.set_cons_succ]
        refine go_take 58 128 _ (.bool false) rfl (by kernel_rfl) (by kernel_rfl) (by kernel_rfl) (by kernel_rfl) (fun _ _ _ h => h) (Or.inl ⟨by kernel_rfl, fun u hu => by kernel_rfl⟩) hH4 ?_
        simp only [Act.put, List.setIfInBounds_toArray, List.set_cons_zero, List.set_cons_succ]
        refine go_take 59 129 _ (.bool false) rfl (by kernel_rfl) (by kernel_rfl) (by kernel_rfl) (by kernel_rfl) (fun _ _ _ h => h) (Or.inl ⟨by kernel_rfl, fun u hu => by kernel_rfl⟩) hH4 ?_
        simp only [Act.put, List.setIfInBounds_toArray, List.set_cons_zero, List.set_cons_succ]
        refine wpAnyH_done (by kernel_rfl) ?_ _
        refine NoPanic.normal ?_
        have hBr2 := hBr1.trans (Below.mono hH4 hBr1.size)
        clear hHeld hH1 hH2 hH3 hvA hBA hvB hBB hlow
        go_wp2
        go_roundw
        case rel => exact ⟨i + 1, by omega, by go_num, hBr2⟩
        case measure => simp [intOf]; omega
      · have hend : decide ((i : Int) < (P.length : Int)) = false := decide_eq_false (by omega)
        have hB11 := hBr
        clear hBw hBr HSE HML
        generalize wr = w11 at *
        go_wp2
        go_loopw [16] (fun iv wr => ∃ i : Nat, i ≤ a.length ∧ iv = .int .i64 (i : Int) ∧ Below w10.heap.size w10 wr ∧ Hid (∀ (j : Nat) (hj : j < a.length), j < i → a[j] ≠ [] ∧ (j + 1 < a.length → fdB a[j] = true))) (fun iv _ => a.length - (intOf iv).toNat)
        case atStart => exact ⟨0, Nat.zero_le _, by go_num, hB11, fun j _ h => by omega⟩
        case round =>
          obtain ⟨i, hi, rfl, hBr, HAJ⟩ := hrel
          have hBw := hB010.trans (hBr.mono hB010.size)
          by_cases hlt : i < a.length
          · obtain ⟨tb, tf, hto, _, htc⟩ := HS.at (HS.keep ha hBw (Nat.le_refl _)) (by omega)
            subst hto
            obtain ⟨s, hs⟩ : ∃ s, a[i] = s := ⟨_, rfl⟩
            have d0 := htc i hlt
            rw [hs] at d0
            have HNX : Hid (s ≠ [] → (i + 1 < a.length → fdB s = true) → ∀ (j : Nat) (hj : j < a.length), j < i + 1 → a[j] ≠ [] ∧ (j + 1 < a.length → fdB a[j] = true)) := fun h1 h2 j hj hji => (by
              by_cases e : j = i
              · subst e
                rw [hs]
                exact ⟨h1, h2⟩
              · exact HAJ.out j hj (by omega))
            have i1 : (0 : Int) ≤ (i : Int) := by omega
            have i2 : (i : Int) < (a.length : Int) := by omega
            have hsb : s.length ≤ 137438953472 := HLA.out s (by rw [← hs]; exact List.getElem_mem hlt)
            have hw0 : IntKind.i64.wrap ((a.length : Int) - 1) = (a.length : Int) - 1 := wrap_s (by omega) (by omega)
            clear htc hs HAJ
            by_cases hs0 : s = []
            · subst hs0
              go_upto_region 19 with fail
              go_quiet (fail)
              go_wp2
              go_ret
              exact ⟨rfl, Below.dN hBw _⟩
            · have hs1 : 0 < s.length := List.length_pos_iff.2 hs0
              have z0 : ((s.length : Int) == 0) = false := (by rw [beq_eq_false_iff_ne]; omega)
              by_cases hil : i + 1 < a.length
              · have g1 : decide ((i : Int) < (a.length : Int) - 1) = true := decide_eq_true (by omega)
                have k1 : (0 : Int) ≤ (s.length : Int) - 1 := by omega
                have k2 : (s.length : Int) - 1 < (s.length : Int) := by omega
                have k3 : IntKind.i64.wrap ((s.length : Int) - 1) = (s.length : Int) - 1 := wrap_s (by omega) (by omega)
                have k4 := idx_s s ((s.length : Int) - 1) (s.length - 1) (by omega) (by omega)
                have hfd := fd_last hs1
                by_cases h10 : s[s.length - 1] = 10
                · have hb10 := not_ne_feed h10
                  have HA2 := HNX.out hs0 (fun _ => by rw [hfd, h10]; rfl)
                  have HAH : Hid (∀ (j : Nat) (hj : j < a.length), j < i + 1 → a[j] ≠ [] ∧ (j + 1 < a.length → fdB a[j] = true)) := HA2
                  clear HNX HA2 hfd h10 hs0
                  go_upto_region 19 with fail
                  go_quiet (fail)
                  go_wp2
                  go_roundw
                  case rel => exact ⟨i + 1, by omega, by go_num, Below.dN hBr _, HAH⟩
                  case measure => simp [intOf]; omega
                · have hb10 := ne_feed h10
                  clear HNX hfd h10 hs0
                  go_upto_region 19 with fail
                  go_quiet (fail)
                  go_wp2
                  go_ret
                  exact ⟨rfl, Below.dN hBw _⟩
              · have g1 : decide ((i : Int) < (a.length : Int) - 1) = false := decide_eq_false (by omega)
                have HA2 := HNX.out hs0 (fun h => absurd h hil)
                have HAH : Hid (∀ (j : Nat) (hj : j < a.length), j < i + 1 → a[j] ≠ [] ∧ (j + 1 < a.length → fdB a[j] = true)) := HA2
                clear HNX HA2 hs0
                go_upto_region 19 with fail
                go_quiet (fail)
                go_wp2
                go_roundw
                case rel => exact ⟨i + 1, by omega, by go_num, Below.dN hBr _, HAH⟩
                case measure => simp [intOf]; omega
          · have HAL : Hid (∀ (j : Nat) (hj : j < a.length), a[j] ≠ [] ∧ (j + 1 < a.length → fdB a[j] = true)) := fun j hj => HAJ.out j hj (by omega)
            have hend : decide ((i : Int) < (a.length : Int)) = false := decide_eq_false (by omega)
            have hB12 := hBr
            clear HAJ hBr
            generalize wr = w12 at *
            clear hBw
            go_wp2
            go_loopw [17] (fun iv wr => ∃ i : Nat, i ≤ b.length ∧ iv = .int .i64 (i : Int) ∧ Below w10.heap.size w10 wr ∧ Hid (∀ (j : Nat) (hj : j < b.length), j < i → b[j] ≠ [] ∧ (j + 1 < b.length → fdB b[j] = true))) (fun iv _ => b.length - (intOf iv).toNat)
            case atStart => exact ⟨0, Nat.zero_le _, by go_num, hB12, fun j _ h => by omega⟩
            case round =>
              obtain ⟨i, hi, rfl, hBr, HAJ⟩ := hrel
              have hBw := hB010.trans (hBr.mono hB010.size)
              by_cases hlt : i < b.length
              · obtain ⟨tb, tf, hto, _, htc⟩ := HS.at (HS.keep hb hBw (Nat.le_refl _)) (by omega)
                subst hto
                obtain ⟨s, hs⟩ : ∃ s, b[i] = s := ⟨_, rfl⟩
                have d0 := htc i hlt
                rw [hs] at d0
                have HNX : Hid (s ≠ [] → (i + 1 < b.length → fdB s = true) → ∀ (j : Nat) (hj : j < b.length), j < i + 1 → b[j] ≠ [] ∧ (j + 1 < b.length → fdB b[j] = true)) := fun h1 h2 j hj hji => (by
                  by_cases e : j = i
                  · subst e
                    rw [hs]
                    exact ⟨h1, h2⟩
                  · exact HAJ.out j hj (by omega))
                have i1 : (0 : Int) ≤ (i : Int) := by omega
                have i2 : (i : Int) < (b.length : Int) := by omega
                have hsb : s.length ≤ 137438953472 := HLB.out s (by rw [← hs]; exact List.getElem_mem hlt)
                have hw0 : IntKind.i64.wrap ((b.length : Int) - 1) = (b.length : Int) - 1 := wrap_s (by omega) (by omega)
                clear htc hs HAJ
                by_cases hs0 : s = []
                · subst hs0
                  go_upto_region 24 with fail
                  go_quiet (fail)
                  go_wp2
                  go_ret
                  exact ⟨rfl, Below.dN hBw _⟩
                · have hs1 : 0 < s.length := List.length_pos_iff.2 hs0
                  have z0 : ((s.length : Int) == 0) = false := (by rw [beq_eq_false_iff_ne]; omega)
                  by_cases hil : i + 1 < b.length
                  · have g1 : decide ((i : Int) < (b.length : Int) - 1) = true := decide_eq_true (by omega)
                    have k1 : (0 : Int) ≤ (s.length : Int) - 1 := by omega
                    have k2 : (s.length : Int) - 1 < (s.length : Int) := by omega
                    have k3 : IntKind.i64.wrap ((s.length : Int) - 1) = (s.length : Int) - 1 := wrap_s (by omega) (by omega)
                    have k4 := idx_s s ((s.length : Int) - 1) (s.length - 1) (by omega) (by omega)
                    have hfd := fd_last hs1
                    by_cases h10 : s[s.length - 1] = 10
                    · have hb10 := not_ne_feed h10
                      have HA2 := HNX.out hs0 (fun _ => by rw [hfd, h10]; rfl)
                      have HAH : Hid (∀ (j : Nat) (hj : j < b.length), j < i + 1 → b[j] ≠ [] ∧ (j + 1 < b.length → fdB b[j] = true)) := HA2
                      clear HNX HA2 hfd h10 hs0
                      go_upto_region 24 with fail
                      go_quiet (fail)
                      go_wp2
                      go_roundw
                      case rel => exact ⟨i + 1, by omega, by go_num, Below.dN hBr _, HAH⟩
                      case measure => simp [intOf]; omega
                    · have hb10 := ne_feed h10
                      clear HNX hfd h10 hs0
                      go_upto_region 24 with fail
                      go_quiet (fail)
                      go_wp2
                      go_ret
                      exact ⟨rfl, Below.dN hBw _⟩
                  · have g1 : decide ((i : Int) < (b.length : Int) - 1) = false := decide_eq_false (by omega)
                    have HA2 := HNX.out hs0 (fun h => absurd h hil)
                    have HAH : Hid (∀ (j : Nat) (hj : j < b.length), j < i + 1 → b[j] ≠ [] ∧ (j + 1 < b.length → fdB b[j] = true)) := HA2
                    clear HNX HA2 hs0
                    go_upto_region 24 with fail
                    go_quiet (fail)
                    go_wp2
                    go_roundw
                    case rel => exact ⟨i + 1, by omega, by go_num, Below.dN hBr _, HAH⟩
                    case measure => simp [intOf]; omega
              · have HBL : Hid (∀ (j : Nat) (hj : j < b.length), b[j] ≠ [] ∧ (j + 1 < b.length → fdB b[j] = true)) := fun j hj => HAJ.out j hj (by omega)
                have hend : decide ((i : Int) < (b.length : Int)) = false := decide_eq_false (by omega)
                have hB14 := hBr
                clear HAJ hBr
                generalize wr = w14 at *
                clear hBw
                have hBw := hB010.trans (hB14.mono hB010.size)
                have hso := HSO.out (fun t ht => (by
                  rcases ht with ht | ht
                  · obtain ⟨j, hj, rfl⟩ := List.mem_iff_getElem.1 ht
                    exact (HAL.out j hj).1
                  · obtain ⟨j, hj, rfl⟩ := List.mem_iff_getElem.1 ht
                    exact (HBL.out j hj).1)) (abl_of fun j hj h => (HAL.out j hj).2 h) (abl_of fun j hj h => (HBL.out j hj).2 h)
                obtain ⟨z, hz⟩ : ∃ z, ordH R1 = z := ⟨_, rfl⟩
                obtain ⟨RC, hRC⟩ : ∃ R, chR R1 = R := ⟨_, rfl⟩
                have HZ : Hid (ordH (P.map (·.1)) = z) := (by show _ = _; rw [HPM.out]; exact hz)
                have HRC : Hid (chR (P.map (·.1)) = RC) := (by show _ = _; rw [HPM.out]; exact hRC)
                rw [hz, hRC] at hso
                have HSF : Hid ((z = 0 ∧ RC = L) ∨ (z = 6 ∧ innL (a ++ b) = true)) := hso
                have hP14 := hPh.keep hB14 (Nat.le_refl _)
                clear hso hz hRC HSO HAL HBL
                go_wp2_with fail
                refine (hChanges_f P _ w14 hP14 HOKP.out (by rw [HPM.out]; exact HTT.out) z HZ RC HRC).mono ?_
                rintro e w15 ⟨v15, rfl, hv15, hB15⟩
                obtain ⟨o15, c15, rfl⟩ := Holds.form hv15
                have hB16 := hB14.trans (hB15.mono hB14.size)
                have hBw2 := hB010.trans (hB16.mono hB010.size)
                rcases HSF.out with ⟨hz0, hRL⟩ | ⟨hz6, hin⟩
                · subst hz0 hRL
                  have hP15 := hPh.keep hB16 (Nat.le_refl _)
                  have hv16 := HCh.keep hv10 hB16 (Nat.le_refl _)
                  go_wp2_with fail
                  refine (hOrder_f P _ w15 hP15 HOKP.out 0 HZ).mono ?_
                  rintro e w17 ⟨rfl, hB17⟩
                  have hBw3 := hBw2.trans (hB17.mono hBw2.size)
                  have hva := HCh.keep hv15 hB17 (Nat.le_refl _)
                  have hvb := HCh.keep hv16 hB17 (Nat.le_refl _)
                  go_wp2_with fail
                  refine (SameC_any _ _ RC w17 hLb hva hvb).mono ?_
                  rintro e w18 ⟨rfl, hB18⟩
                  go_wp2
                  go_ret
                  exact ⟨ret_bool (by simp), hBw3.trans (hB18.mono hBw3.size)⟩
                · subst hz6
                  have HIN : Hid (innL (a ++ b) = true) := hin
                  clear hin
                  go_wp2_with fail
                  refine (linner_f a b _ _ w15 (HS.keep ha hBw2 (Nat.le_refl _)) (HS.keep hb hBw2 (Nat.le_refl _)) (by omega) (by omega) HLA.out HLB.out HIN).mono ?_
                  rintro e w17 ⟨rfl, hB17⟩
                  go_wp2
                  go_ret
                  exact ⟨ret_bool (by simp), hBw2.trans (hB17.mono hBw2.size)⟩
  · have HSM : Hid ((decide (a.length ≤ 200) && decide (b.length ≤ 200)) = false) := (by show _ = _; simp only [Bool.and_eq_false_iff, decide_eq_false_iff_not]; omega)
    go_wp2_with fail
    refine (lsmall_f a b _ _ w0 ha0 hb0 false HSM).mono ?_
    rintro e w1 ⟨rfl, rfl⟩
    go_wp2
    go_ret
    exact ⟨rfl, hB0⟩

set_option maxRecDepth 100000 in
theorem contract (H : Type) (enc : TypeId × Value → H) (W : World) (base : Nat) (args : Array Value) (ds gs : List (DataW H)) (before : List MemPlace)
    (hval : ∀ (j : Nat) t v, Tryz.f3.params[j]? = some t → args[j]? = some v → Value.okWide Tryz.prog W .any base t v)
    (hW : DataW.Whole enc Tryz.prog Tryz.f3.params.toList Rows.hunksStandSpec.vars false W args.toList ds gs before) (hk : Rows.uptoSmall H (ds ++ gs) = true) :
    Calls Tryz.prog 3 args W fun e W' => ∃ v, e = .returned v ∧ Rows.hunksStandSpec.post enc Tryz.prog Tryz.f3 false true false false W args v W' := by
  have hW' := hW
  obtain ⟨p, q, hA0, hV, rfl, hfz, hnd⟩ := hW
  have hA : DataW.TrodAll enc Tryz.prog W 0 (fun _ => true) true Tryz.f3.params.toList args.toList ds p := hA0
  rw [Tryz.params3] at hA hval
  obtain ⟨v0, vs0, d0, ds0, p0, q0, hargs, rfl, rfl, h0, r0⟩ := trodAll_cons hA
  obtain ⟨v1, vs1, d1, ds1, p1, q1, rfl, rfl, rfl, h1, r1⟩ := trodAll_cons r0
  obtain ⟨v2, vs2, d2, ds2, p2, q2, rfl, rfl, rfl, h2, r2⟩ := trodAll_cons r1
  obtain ⟨v3, vs3, d3, ds3, p3, q3, rfl, rfl, rfl, h3, r3⟩ := trodAll_cons r2
  obtain ⟨rfl, rfl, rfl⟩ := trodAll_nil r3
  obtain rfl : args = #[v0, v1, v2, v3] := by cases args; simp_all
  obtain ⟨rfl, rfl⟩ := trodVars_none hV
  obtain ⟨a1, len1, cap1, rfl⟩ := okWide_slice Tryz.underlying22 (hval 1 22 v1 rfl rfl)
  have k1 := h1
  have lt1 : ∀ x ∈ p1, x.block < W.heap.size := by obtain ⟨m, hm⟩ := k1; exact DataW.trod_lt m _ _ _ hm
  obtain ⟨a2, len2, cap2, rfl⟩ := okWide_slice Tryz.underlying22 (hval 2 22 v2 rfl rfl)
  have k2 := h2
  have lt2 : ∀ x ∈ p2, x.block < W.heap.size := by obtain ⟨m, hm⟩ := k2; exact DataW.trod_lt m _ _ _ hm
  obtain ⟨n0, rfl, rfl, rfl, wn0⟩ := open_int Tryz.underlying3 (hval 0 3 v0 rfl rfl) h0
  obtain ⟨n3, rfl, rfl, rfl, wn3⟩ := open_int Tryz.underlying3 (hval 3 3 v3 rfl rfl) h3
  clear hA0
  simp only [List.append_nil] at hk
  have hbk : Rows.uptoBulkAll [.lit (.int .i64 n0), d1, d2, .lit (.int .i64 n3)] ≤ 1048576 := of_decide_eq_true hk
  simp only [Rows.uptoBulkAll] at hbk
  obtain ⟨f1, hf1⟩ := h1
  obtain ⟨ws1, hv1, hwl1⟩ := Tx.open_texts (by simpa [Value.cells] using hf1)
  have he1 : ∀ a ∈ ws1, a.length ≤ 137438953472 := fun a ha => by have := Tx.each_le a ha; omega
  obtain ⟨f2, hf2⟩ := h2
  obtain ⟨ws2, hv2, hwl2⟩ := Tx.open_texts (by simpa [Value.cells] using hf2)
  have he2 : ∀ a ∈ ws2, a.length ≤ 137438953472 := fun a ha => by have := Tx.each_le a ha; omega
  have hw := walk n0 ws1 ws2 n3 (.slice a1 len1 cap1) (.slice a2 len2 cap2) W he1 he2 (hs_of hv1) (hs_of hv2)
  refine hw.mono fun e W' ⟨he, bel⟩ => ?_
  subst he
  exact ⟨_, rfl, _, _, _, [], _, [], hW', trodAll_mk1 (shut_bool Tryz.underlying4 _), trodAll_cons_mk (shut_int Tryz.underlying3 wn0) (trodAll_cons_mk (Below.trod Tx.laidOut (by kernel_rfl) (of_decide_eq_true (by kernel_rfl)) k1 bel lt1) (trodAll_cons_mk (Below.trod Tx.laidOut (by kernel_rfl) (of_decide_eq_true (by kernel_rfl)) k2 bel lt2) (trodAll_cons_mk (shut_int Tryz.underlying3 wn3) trodAll_mk0))), rfl, bel.frame _, fun h => by cases h⟩

theorem laid_met (os : Os) : laidMet Tryz.prog Rows.hunksStandUptoRow.laid ((Tx.laidOnU (World.holding Tryz.prog os ⟨#[], #[], []⟩)).forCall (fun _ _ => 0) ⟨#[], #[.int .i64 0, .slice none 0 0, .slice none 0 0, .int .i64 0], []⟩).memory :=
  laidMet_of_run' 8 (by kernel_rfl) (by kernel_rfl)
theorem reads (os : Os) {H : Type} (enc : TypeId × Value → H) : ∃ places, DataW.whole enc Tryz.prog ((Tx.laidOnU (World.holding Tryz.prog os ⟨#[], #[], []⟩)).forCall (fun _ _ => 0) ⟨#[], #[.int .i64 0, .slice none 0 0, .slice none 0 0, .int .i64 0], []⟩).memory Tryz.f3.params.toList Rows.hunksStandSpec.vars false #[Value.int .i64 0, Value.slice none 0 0, Value.slice none 0 0, Value.int .i64 0].toList 8 = some ([.lit (.int .i64 0), .nil, .nil, .lit (.int .i64 0)], [], places) :=
  ⟨[], by kernel_rfl⟩

set_option maxRecDepth 100000 in
theorem lifted (os : Os) (started : os.Started) (H : Type) (enc : TypeId × Value → H) (F : Stop.Interp) :
    ReturnsInHanded {} Tryz.checked os 3 .any ((Rows.OpenSpec.upto Rows.hunksStandSpec).preRow enc Tryz.prog Tryz.f3 Rows.hunksStandUptoRow.domain false Rows.hunksStandUptoRow.laid) (((Rows.OpenSpec.upto Rows.hunksStandSpec).at F).post enc Tryz.prog Tryz.f3 false true false false) := by
  obtain ⟨places, hx⟩ := reads os enc
  refine returnsInHanded_of_row (C := Tryz.checked) (s := Rows.OpenSpec.upto Rows.hunksStandSpec) Tx.own started (by kernel_rfl) Tryz.func3
    (witness_row_at (enc := enc) (C := Tryz.checked) false (Tx.laidOnU (World.holding Tryz.prog os ⟨#[], #[], []⟩)) #[.int .i64 0, .slice none 0 0, .slice none 0 0, .int .i64 0] rfl (by kernel_rfl) (by kernel_rfl) (by kernel_rfl)
      (OpenSpec.preRow_of_cond 8 hx (by kernel_rfl) (fun k hk => by cases hk; kernel_rfl) (by kernel_rfl) (laid_met os))) ?_
  intro W base args ds gs before hval hW _ hcond _ _ _ _
  exact contract H enc W base args ds gs before hval hW (hcond _ rfl)

theorem said : Rows.HunksStandUptoSaid :=
  OpenClaim.holds_of_cond 3 Tryz.f3 rfl rfl rfl rfl rfl rfl rfl ⟨rfl, rfl, rfl, rfl, rfl⟩ rfl rfl rfl rfl rfl (by kernel_rfl) Tryz.func3 (by kernel_rfl)
    (of_decide_eq_true (by kernel_rfl)) (by unfold Func.isWrapper; first | (rw [if_pos (by decide +kernel)]; kernel_rfl) | (rw [if_neg (by decide +kernel)]; exact ⟨rfl, rfl⟩))
    (fun os started H enc _ F => by rw [OpenClaim.pre_eq_preRow]; exact lifted os started H enc F)

theorem plain (f : FuncId) (fn : Func) (hf : Tryz.pinned.checked.prog.funcNamed "redline/redlinelaw11.HunksStand" = some f) (hfn : Tryz.pinned.checked.prog.funcs[f]? = some fn) :
    false = Tryz.pinned.checked.prog.looks [] ∧ ∀ (j : Nat) t, fn.params[j]? = some t → Tryz.pinned.checked.prog.wantsStandIn t = false := by
  obtain rfl : f = 3 := Option.some.inj ((show Tryz.prog.funcNamed "redline/redlinelaw11.HunksStand" = some 3 by kernel_rfl).symm.trans hf) |>.symm
  obtain rfl : fn = Tryz.f3 := (Option.some.inj (Tryz.func3.symm.trans hfn)).symm
  refine ⟨by kernel_rfl, fun j t ht => ?_⟩
  rw [Tryz.params3] at ht
  have hm : t = 3 ∨ t = 22 ∨ t = 22 ∨ t = 3 := by simpa using Array.mem_of_getElem? ht
  rcases hm with rfl | rfl | rfl | rfl
  · exact (show Tryz.prog.wantsStandIn 3 = false by kernel_rfl)
  · exact (show Tryz.prog.wantsStandIn 22 = false by kernel_rfl)
  · exact (show Tryz.prog.wantsStandIn 22 = false by kernel_rfl)
  · exact (show Tryz.prog.wantsStandIn 3 = false by kernel_rfl)

theorem card : Rows.HunksStandUptoCardSaid :=
  Claim7.holds_tied_plain_at .later [] _ _ _ _ said (fun _ h => by cases h) (by kernel_rfl) (fun _ h => by cases h) hunksStandUpto_row_tie rfl ⟨rfl, rfl⟩ (by kernel_rfl) rfl plain (by kernel_rfl)
#print axioms card
end Go.Proofs.YtgckcbcdmmnkoaaGreatDoor.hunksStand
