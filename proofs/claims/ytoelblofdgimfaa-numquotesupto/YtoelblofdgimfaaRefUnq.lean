/-
  The plain Unquote of the reference, walked: what it returns is what the plain function unquote says.
-/
import Derived.Test.YtoelblofdgimfaaUnq
import Derived.Deep.QuietTactic
import Derived.BigQuiet
namespace Go.Proofs.Ytoelblofdgimfaa
open Q Go.RowKit Go.Shelf
attribute [local go_sem] ba_at ByteArray.extract_mk

theorem digit_same (n : Int) (w : World) : Calls Try.prog 12 #[.int .u8 n] w fun e w' => e = .returned (.int .i64 (digitI n)) ∧ w' = w := (digit_any n w).mono fun _ _ h => ⟨h.1, h.2.symm⟩
theorem plain_same (n : Int) (w : World) : Calls Try.prog 11 #[.int .u8 n] w fun e w' => e = .returned (.bool (plainI n)) ∧ w' = w := (plain_any n w).mono fun _ _ h => ⟨h.1, h.2.symm⟩

set_option maxHeartbeats 4000000 in
set_option maxRecDepth 100000 in
theorem refUnquote_body (L : List UInt8) (w : World) (hl : L.length ≤ 1099511627777) (h0 : 0 < L.length) (h34 : ((L[0].toNat : Int) != 34) = false) (HU : Hid (unquote L = body (L.drop 1))) :
    Calls Try.prog 5 #[.string ⟨L.toArray⟩] w fun e w' => e = .returned (.tuple #[.string ⟨(uqa L).toArray⟩, .string ⟨(uqb L).toArray⟩, .int .i64 (uqe L)]) ∧ Below w.heap.size w w' := by
  obtain ⟨i0, hi, hz0, hz1, hz2⟩ := info_parts infoU8
  have hnb : ((L.length : Int) == 0) = false := beq_eq_false_iff_ne.2 (by omega)
  go_enter Try.func5, Try.ntmps5
  go_wp2
  go_loopw [5, 6] (fun out i wr => ∃ (k : Nat) (acc : List UInt8), 1 ≤ k ∧ k ≤ L.length ∧ i = .int .i64 k ∧ wr.ownsRowF w.heap.size 5 1 out acc.length (Lib.byteCells acc) ∧ Below w.heap.size w wr ∧ body (L.drop 1) = (body (L.drop k)).map (fun p => (acc ++ p.1, p.2)) ∧ acc.length ≤ k) (fun _ i _ => L.length - (intOf i).toNat)
  case atStart => exact ⟨1, [], by omega, by omega, rfl, World.ownsRowF_nil _ _ _ _, Below.refl _ _, by simp, by simp⟩
  case round =>
    obtain ⟨k, acc, hk1, hk, rfl, hown, hbr, hbody, hal⟩ := hrel
    have HB : Hid (body (L.drop 1) = (body (L.drop k)).map (fun p => (acc ++ p.1, p.2))) := hbody
    clear hbody
    by_cases hlt : k < L.length
    · have hdk : L.drop k = L[k] :: L.drop (k + 1) := List.drop_eq_getElem_cons hlt
      have hc := L[k].toNat_lt
      by_cases h34' : L[k].toNat = 34
      · have hb : ((L[k].toNat : Int) == 34) = true := by simp; omega
        have HE : Hid (unquote L = some (acc, L.drop (k + 1))) := by
          show unquote L = _
          rw [HU.out, HB.out, hdk, body_end _ h34']; simp
        clear hdk h34'
        have hcs := fun nq => conv_string (P := Try.prog) (wr.drewN nq) 28 9 5 w.heap.size u5 acc Try.underlying28 Try.underlying5 Try.underlying9 hown
        have hcs2 := conv_string (P := Try.prog) wr.drew 28 9 5 w.heap.size u5 acc Try.underlying28 Try.underlying5 Try.underlying9 hown
        go_wp2_with fail
        go_region
        go_wp2
        go_ret3
        rw [List.take_of_length_le (by simp)]
        exact ⟨ret_uq (uq_some HE.out), hbr.drew⟩
      · have hb : ((L[k].toNat : Int) == 34) = false := by simp; omega
        cases hpl : plainI L[k].toNat
        · by_cases h92 : L[k].toNat = 92
          · have hb2 : ((L[k].toNat : Int) == 92) = true := by simp; omega
            by_cases hk2 : k + 2 < L.length
            · have hdk' : L.drop (k + 1) = L[k + 1] :: L[k + 2] :: L.drop (k + 3) := by
                rw [List.drop_eq_getElem_cons (by omega), List.drop_eq_getElem_cons (by omega)]
              rw [hdk'] at hdk
              have H1 : Hid (pairOk L[k + 1] L[k + 2] = false → unquote L = none) := by
                intro hno
                rw [HU.out, HB.out, hdk, body_pair_no _ h92 hno]; rfl
              have H2 : Hid (pairOk L[k + 1] L[k + 2] = true → body (L.drop 1) = (body (L.drop (k + 3))).map (fun p => (acc ++ [UInt8.ofNat (pairI L[k + 1] L[k + 2]).toNat] ++ p.1, p.2))) := by
                intro hyes
                rw [HB.out, hdk, body_pair _ h92 hyes]; simp [Function.comp_def]
              clear hdk hdk' h92 h34'
              obtain ⟨ha, ha'⟩ := digitI_ge L[k + 1].toNat
              obtain ⟨hb', hb''⟩ := digitI_ge L[k + 2].toNat
              have g1 : (k : Int) + 2 < (L.length : Int) := by omega
              have g2 : (k : Int) + 1 < (L.length : Int) := by omega
              have x1 := fun u : World => idx_str (P := Try.prog) 9 Try.underlying9 L ((k : Int) + 1) (k + 1) (by omega) (by omega) u
              have x2 := fun u : World => idx_str (P := Try.prog) 9 Try.underlying9 L ((k : Int) + 2) (k + 2) (by omega) (by omega) u
              have w1 : IntKind.i64.wrap ((k : Int) + 1) = (k : Int) + 1 := wrap_i64 (by omega) (by omega)
              have w2 : IntKind.i64.wrap ((k : Int) + 2) = (k : Int) + 2 := wrap_i64 (by omega) (by omega)
              by_cases h1 : digitI L[k + 1].toNat < 0
              · have d1 : decide (0 ≤ digitI L[k + 1].toNat) = false := by simp; omega
                go_wp2_with fail
                refine (plain_any _ _).mono ?_
                rintro e w' ⟨rfl, rfl⟩
                go_wp2_with fail
                go_quiet ((first | (go_at_call 12; exact Calls.quiet_of_same (digit_same _ _)) | (go_at_call 11; exact Calls.quiet_of_same (plain_same _ _))))
                go_wp2
                go_ret3
                exact ⟨ret_uq (uq_none (H1.out (pairOk_lo h1))), below_drewN hbr _⟩
              · have d1 : decide (0 ≤ digitI L[k + 1].toNat) = true := by simp; omega
                by_cases h2 : digitI L[k + 2].toNat < 0
                · have d2 : decide (0 ≤ digitI L[k + 2].toNat) = false := by simp; omega
                  go_wp2_with fail
                  refine (plain_any _ _).mono ?_
                  rintro e w' ⟨rfl, rfl⟩
                  go_wp2_with fail
                  go_quiet ((first | (go_at_call 12; exact Calls.quiet_of_same (digit_same _ _)) | (go_at_call 11; exact Calls.quiet_of_same (plain_same _ _))))
                  go_wp2
                  go_ret3
                  exact ⟨ret_uq (uq_none (H1.out (pairOk_hi h2))), below_drewN hbr _⟩
                · have d2 : decide (0 ≤ digitI L[k + 2].toNat) = true := by simp; omega
                  have HM : Hid (pairOk L[k + 1] L[k + 2] = !plainI (16 * digitI L[k + 1].toNat + digitI L[k + 2].toNat)) := pairOk_mid h1 h2
                  have m1 : IntKind.i64.wrap (16 * digitI L[k + 1].toNat) = 16 * digitI L[k + 1].toNat := wrap_i64 (by omega) (by omega)
                  have m2 : IntKind.i64.wrap (16 * digitI L[k + 1].toNat + digitI L[k + 2].toNat) = 16 * digitI L[k + 1].toNat + digitI L[k + 2].toNat := wrap_i64 (by omega) (by omega)
                  have m3 : IntKind.u8.wrap (16 * digitI L[k + 1].toNat + digitI L[k + 2].toNat) = 16 * digitI L[k + 1].toNat + digitI L[k + 2].toNat := wrap_u8 (by omega) (by omega)
                  have m4 : (16 * digitI L[k + 1].toNat + digitI L[k + 2].toNat) % 256 = 16 * digitI L[k + 1].toNat + digitI L[k + 2].toNat := by omega
                  cases hpp : plainI (16 * digitI L[k + 1].toNat + digitI L[k + 2].toNat)
                  · have hyes : pairOk L[k + 1] L[k + 2] = true := by rw [HM.out, hpp]; rfl
                    have H3 := H2.out hyes
                    have HE : Hid (body (L.drop 1) = (body (L.drop (k + 3))).map (fun p => (acc ++ [UInt8.ofNat (pairI L[k + 1] L[k + 2]).toNat] ++ p.1, p.2))) := H3
                    have HV : Hid (((UInt8.ofNat (pairI L[k + 1] L[k + 2]).toNat).toNat : Int) = 16 * digitI L[k + 1].toNat + digitI L[k + 2].toNat) := by
                      have hpb := pairI_byte hyes
                      show ((UInt8.ofNat (pairI L[k + 1] L[k + 2]).toNat).toNat : Int) = pairI L[k + 1] L[k + 2]
                      simp only [UInt8.toNat_ofNat']
                      omega
                    clear H1 H2 H3 HM hyes
                    go_wp2_with fail
                    refine (plain_any _ _).mono ?_
                    rintro e w' ⟨rfl, rfl⟩
                    go_wp2_with fail
                    go_quiet ((first | (go_at_call 12; exact Calls.quiet_of_same (digit_same _ _)) | (go_at_call 11; exact Calls.quiet_of_same (plain_same _ _))))
                    go_wp2_with fail
                    have hown2 : (wr.drewN nq).drew.ownsRowF w.heap.size 5 1 u5 acc.length (Lib.byteCells acc) := hown
                    have hbr2 : Below w.heap.size w (wr.drewN nq).drew := (below_drewN hbr nq).drew
                    generalize wr.drewN nq = wq at hown2 hbr2 ⊢
                    have hbz := hbr2.size
                    go_region_law (first | (refine step_append_ownX rfl (.tmp 88) (.tmp 102) 28 rfl w.heap.size 5 i0 (.int .u8 0) 1 1 Try.underlying28 hi hz0 hz1 hz2 rfl (by decide) u5 acc.length (Lib.byteCells acc) rfl (hown2.alloc _) ⟨wq.heap.size, 0, none⟩ 1 1 [.int .u8 (16 * digitI L[k + 1].toNat + digitI L[k + 2].toNat)] rfl rfl (new_cells _ _ _) (one_cell _ _) (by unfold maxLen; omega) (by omega) (by simp at hbz ⊢; omega) ?_; intro v' w2 hown' hgrow hfr) | (refine step_call1 rfl 12 (.tmp 92) #[5] rfl (enters_of Try.func12 (by kernel_rfl) rfl) (.int .u8 (L[k + 1].toNat : Int)) _ rfl (digit_same _ _) ?_) | (refine step_call1 rfl 12 (.tmp 98) #[5] rfl (enters_of Try.func12 (by kernel_rfl) rfl) (.int .u8 (L[k + 2].toNat : Int)) _ rfl (digit_same _ _) ?_))
                    all_goals
                      go_wp2
                      refine ⟨⟨k + 3, acc ++ [UInt8.ofNat (pairI L[k + 1] L[k + 2]).toNat], by omega, by omega, by go_num, ?_, (hbr2.alloc hbr2.size _).grown hgrow (by simp at hbz ⊢; omega) (fun j hj => (hown2.lt j hj).1), HE.out, by simp; omega⟩, by simp [intOf]; omega⟩
                      rw [byteCells_snoc, HV.out]
                      simpa using hown'
                  · have hno : pairOk L[k + 1] L[k + 2] = false := by rw [HM.out, hpp]; rfl
                    have H3 : Hid (unquote L = none) := H1.out hno
                    clear H1 H2 HM hno
                    go_wp2_with fail
                    refine (plain_any _ _).mono ?_
                    rintro e w' ⟨rfl, rfl⟩
                    go_wp2_with fail
                    go_quiet ((first | (go_at_call 12; exact Calls.quiet_of_same (digit_same _ _)) | (go_at_call 11; exact Calls.quiet_of_same (plain_same _ _))))
                    go_wp2
                    go_ret3
                    exact ⟨ret_uq (uq_none H3.out), below_drewN hbr _⟩
            · have g1 : ¬ (k : Int) + 2 < (L.length : Int) := by omega
              have gd : decide ((k : Int) + 2 < (L.length : Int)) = false := by simp; omega
              have w2 : IntKind.i64.wrap ((k : Int) + 2) = (k : Int) + 2 := wrap_i64 (by omega) (by omega)
              have HE : Hid (unquote L = none) := by
                show unquote L = _
                rw [HU.out, HB.out, hdk, body_none _ h34' hpl (by simp; omega)]; rfl
              clear hdk h92 h34'
              go_wp2_with fail
              refine (plain_any _ _).mono ?_
              rintro e w' ⟨rfl, rfl⟩
              go_wp2_with fail
              go_quiet ((first | (go_at_call 12; exact Calls.quiet_of_same (digit_same _ _)) | (go_at_call 11; exact Calls.quiet_of_same (plain_same _ _))))
              go_wp2
              go_ret3
              exact ⟨ret_uq (uq_none HE.out), below_drewN hbr _⟩
          · have hb2 : ((L[k].toNat : Int) == 92) = false := by simp; omega
            have HE : Hid (unquote L = none) := by
              show unquote L = _
              rw [HU.out, HB.out, hdk, body_none _ h34' hpl (by omega)]; rfl
            clear hdk h92 h34'
            go_wp2_with fail
            refine (plain_any _ _).mono ?_
            rintro e w' ⟨rfl, rfl⟩
            go_wp2_with fail
            go_quiet ((first | (go_at_call 12; exact Calls.quiet_of_same (digit_same _ _)) | (go_at_call 11; exact Calls.quiet_of_same (plain_same _ _))))
            go_wp2
            go_ret3
            exact ⟨ret_uq (uq_none HE.out), below_drewN hbr _⟩
        · have HE : Hid (body (L.drop 1) = (body (L.drop (k + 1))).map (fun p => (acc ++ [L[k]] ++ p.1, p.2))) := by
            show body (L.drop 1) = _
            rw [HB.out, hdk, body_plain _ hpl]; simp [Function.comp_def]
          clear hdk h34'
          go_wp2_with fail
          refine (plain_any _ _).mono ?_
          rintro e w' ⟨rfl, rfl⟩
          go_wp2_with (at_builtin; refine wpList_append_ownX _ rfl _ _ 28 rfl w.heap.size 5 i0 (.int .u8 0) 1 1 Try.underlying28 hi hz0 hz1 hz2 rfl (by decide) _ _ _ rfl (hown.alloc _) ⟨wr.heap.size, 0, none⟩ 1 1 [.int .u8 (L[k].toNat : Int)] rfl rfl (new_cells _ _ _) (one_cell _ _) ?c3 ?c4 ?c5 ?_)
          case c3 => unfold maxLen; omega
          case c4 => omega
          case c5 => have := hbr.size; simp; omega
          intro v' w2 hown' hgrow hfr
          go_wp2
          go_roundw
          case rel => exact ⟨k + 1, acc ++ [L[k]], by omega, by omega, by go_num, by rw [byteCells_snoc]; simpa using hown', (hbr.alloc hbr.size _).grown hgrow (by have := hbr.size; simp; omega) (fun j hj => (hown.lt j hj).1), HE.out, by simp; omega⟩
          case measure => simp [intOf]; omega
    · have HE : Hid (unquote L = none) := by
        show unquote L = _
        rw [HU.out, HB.out, List.drop_eq_nil_of_le (by omega)]; rfl
      go_wp2
      go_ret3
      exact ⟨ret_uq (uq_none HE.out), hbr⟩

set_option maxHeartbeats 1000000 in
theorem refUnquote_any (l : List UInt8) (w : World) (hl : l.length ≤ 1099511627776) :
    Calls Try.prog 5 #[.string ⟨l.toArray⟩] w fun e w' => e = .returned (.tuple #[.string ⟨(uqa l).toArray⟩, .string ⟨(uqb l).toArray⟩, .int .i64 (uqe l)]) ∧ Below w.heap.size w w' := by
  match l, hl with
  | [], _ =>
    go_enter Try.func5, Try.ntmps5
    go_wp2
    go_ret3
    exact ⟨ret_uq (uq_none rfl), Below.refl _ _⟩
  | c :: t, hl =>
    by_cases h : c.toNat = 34
    · have hb : ((c.toNat : Int) != 34) = false := by simp; omega
      have HU : Hid (unquote (c :: t) = body ((c :: t).drop 1)) := by show unquote (c :: t) = body t; simp [unquote, h]
      exact refUnquote_body (c :: t) w (by omega) (by simp) hb HU
    · have hb : ((c.toNat : Int) != 34) = true := by simp; omega
      have hb0 : (((t.length : Int) + 1) == 0) = false := beq_eq_false_iff_ne.2 (by omega)
      have HU : Hid (unquote (c :: t) = none) := by show unquote (c :: t) = none; simp [unquote, h]
      clear h
      go_enter Try.func5, Try.ntmps5
      go_wp2
      go_ret3
      exact ⟨ret_uq (uq_none HU.out), Below.refl _ _⟩
end Go.Proofs.Ytoelblofdgimfaa
