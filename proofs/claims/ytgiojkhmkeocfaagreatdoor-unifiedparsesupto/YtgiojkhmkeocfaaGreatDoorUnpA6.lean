/-
  Texts that belong together, joined: CqS, CrG, NoPs, NoLs, CrK, CrM, NoMk, NpE, NpM, NpF, NpG, NpH, NpN, NpX, NpC, CxC, CxC2, CpA, CpB, CpC, CpD, CpE, CpF, CpG, CpH, CpI, CpJ, CpK, CpL.
-/
import Derived.Test.YtgiojkhmkeocfaaGreatDoorUnpA5
import Derived.Deep.QuietTactic
import Derived.BigQuiet
import Derived.Test.YtgiojkhmkeocfaaGreatDoorUnpA4
import Derived.WalkLawsBesides
import Derived.Test.YtgiojkhmkeocfaaGreatDoorUnpA3
import Derived.Lib.OthersKept
import Derived.Laws.RangeAny
import Derived.Lib.IndexAny
import Derived.Deep.CutBlock
import Derived.Deep.DeepCutAuto
import Derived.Laws.StructEq
import Derived.Test.YtgiojkhmkeocfaaGreatDoorUnpA2

/- The plain Unquote of the reference, walked: what it returns is what the plain function unquote says. -/
set_option maxRecDepth 20000
namespace Go.Proofs.YtgiojkhmkeocfaaGreatDoor
open Q Go.RowKit Go.Proofs.YtgiojkhmkeocfaaGreatDoor.Tx Go.Shelf
attribute [local go_sem] ba_at ByteArray.extract_mk

theorem digit_same (n : Int) (w : World) : Calls Tryz.prog 218 #[.int .u8 n] w fun e w' => e = .returned (.int .i64 (digitI n)) ∧ w' = w := (digit_any n w).mono fun _ _ h => ⟨h.1, h.2.symm⟩
theorem plain_same (n : Int) (w : World) : Calls Tryz.prog 217 #[.int .u8 n] w fun e w' => e = .returned (.bool (plainI n)) ∧ w' = w := (plain_any n w).mono fun _ _ h => ⟨h.1, h.2.symm⟩

set_option maxHeartbeats 4000000 in
set_option maxRecDepth 100000 in
theorem refUnquote_body (L : List UInt8) (w : World) (hl : L.length ≤ 1099511627777) (h0 : 0 < L.length) (h34 : ((L[0].toNat : Int) != 34) = false) (HU : Hid (unquote L = body (L.drop 1))) :
    Calls Tryz.prog 157 #[.string ⟨L.toArray⟩] w fun e w' => e = .returned (.tuple #[.string ⟨(uqa L).toArray⟩, .string ⟨(uqb L).toArray⟩, .int .i64 (uqe L)]) ∧ Below w.heap.size w w' := by
  obtain ⟨i0, hi, hz0, hz1, hz2⟩ := info_parts infoU8
  have hnb : ((L.length : Int) == 0) = false := beq_eq_false_iff_ne.2 (by omega)
  go_enter Tryz.func157, Tryz.ntmps157
  go_wp2
  go_loopw [5, 6] (fun out i wr => ∃ (k : Nat) (acc : List UInt8), 1 ≤ k ∧ k ≤ L.length ∧ i = .int .i64 k ∧ wr.ownsRowF w.heap.size 5 1 out acc.length (Lib.byteCells acc) ∧ Below w.heap.size w wr ∧ body (L.drop 1) = (body (L.drop k)).map (fun p => (acc ++ p.1, p.2)) ∧ acc.length ≤ k) (fun _ i _ => L.length - (intOf i).toNat)
  case atStart => exact ⟨1, [], by omega, by omega, rfl, World.ownsRowF_nil _ _ _ _, Below.refl _ _, by simp, by simp⟩
  case round =>
    obtain ⟨k, acc, hk1, hk, rfl, hown, hbr, hbody, hal⟩ := hrel
    have HB : Hid (body (L.drop 1) = (body (L.drop k)).map (fun p => (acc ++ p.1, p.2))) := hbody
    clear hbody
    by_cases hlt : k < L.length
    · have hdk : L.drop k = L[k] :: L.drop (k + 1) := List.drop_eq_getElem_cons hlt
      have hc := L[k].toNat_lt
      by_cases h34' : L[k].toNat = 34
      · have hb : ((L[k].toNat : Int) == 34) = true := by simp; omega
        have HE : Hid (unquote L = some (acc, L.drop (k + 1))) := by
          show unquote L = _
          rw [HU.out, HB.out, hdk, body_end _ h34']; simp
        clear hdk h34'
        have hcs := fun nq => conv_string (P := Tryz.prog) (wr.drewN nq) 75 9 5 w.heap.size u5 acc Tryz.underlying75 Tryz.underlying5 Tryz.underlying9 hown
        have hcs2 := conv_string (P := Tryz.prog) wr.drew 75 9 5 w.heap.size u5 acc Tryz.underlying75 Tryz.underlying5 Tryz.underlying9 hown
        go_wp2_with fail
        go_region
        go_wp2
        go_ret3
        rw [List.take_of_length_le (by simp)]
        exact ⟨ret_uq (uq_some HE.out), hbr.drew⟩
      · have hb : ((L[k].toNat : Int) == 34) = false := by simp; omega
        cases hpl : plainI L[k].toNat
        · by_cases h92 : L[k].toNat = 92
          · have hb2 : ((L[k].toNat : Int) == 92) = true := by simp; omega
            by_cases hk2 : k + 2 < L.length
            · have hdk' : L.drop (k + 1) = L[k + 1] :: L[k + 2] :: L.drop (k + 3) := by
                rw [List.drop_eq_getElem_cons (by omega), List.drop_eq_getElem_cons (by omega)]
              rw [hdk'] at hdk
              have H1 : Hid (pairOk L[k + 1] L[k + 2] = false → unquote L = none) := by
                intro hno
                rw [HU.out, HB.out, hdk, body_pair_no _ h92 hno]; rfl
              have H2 : Hid (pairOk L[k + 1] L[k + 2] = true → body (L.drop 1) = (body (L.drop (k + 3))).map (fun p => (acc ++ [UInt8.ofNat (pairI L[k + 1] L[k + 2]).toNat] ++ p.1, p.2))) := by
                intro hyes
                rw [HB.out, hdk, body_pair _ h92 hyes]; simp [Function.comp_def]
              clear hdk hdk' h92 h34'
              obtain ⟨ha, ha'⟩ := digitI_ge L[k + 1].toNat
              obtain ⟨hb', hb''⟩ := digitI_ge L[k + 2].toNat
              have g1 : (k : Int) + 2 < (L.length : Int) := by omega
              have g2 : (k : Int) + 1 < (L.length : Int) := by omega
              have x1 := fun u : World => idx_str (P := Tryz.prog) 9 Tryz.underlying9 L ((k : Int) + 1) (k + 1) (by omega) (by omega) u
              have x2 := fun u : World => idx_str (P := Tryz.prog) 9 Tryz.underlying9 L ((k : Int) + 2) (k + 2) (by omega) (by omega) u
              have w1 : IntKind.i64.wrap ((k : Int) + 1) = (k : Int) + 1 := wrap_i64 (by omega) (by omega)
              have w2 : IntKind.i64.wrap ((k : Int) + 2) = (k : Int) + 2 := wrap_i64 (by omega) (by omega)
              by_cases h1 : digitI L[k + 1].toNat < 0
              · have d1 : decide (0 ≤ digitI L[k + 1].toNat) = false := by simp; omega
                go_wp2_with fail
                refine (plain_any _ _).mono ?_
                rintro e w' ⟨rfl, rfl⟩
                go_wp2_with fail
                go_quiet ((first | (go_at_call 218; exact Calls.quiet_of_same (digit_same _ _)) | (go_at_call 217; exact Calls.quiet_of_same (plain_same _ _))))
                go_wp2
                go_ret3
                exact ⟨ret_uq (uq_none (H1.out (pairOk_lo h1))), below_drewN hbr _⟩
              · have d1 : decide (0 ≤ digitI L[k + 1].toNat) = true := by simp; omega
                by_cases h2 : digitI L[k + 2].toNat < 0
                · have d2 : decide (0 ≤ digitI L[k + 2].toNat) = false := by simp; omega
                  go_wp2_with fail
                  refine (plain_any _ _).mono ?_
                  rintro e w' ⟨rfl, rfl⟩
                  go_wp2_with fail
                  go_quiet ((first | (go_at_call 218; exact Calls.quiet_of_same (digit_same _ _)) | (go_at_call 217; exact Calls.quiet_of_same (plain_same _ _))))
                  go_wp2
                  go_ret3
                  exact ⟨ret_uq (uq_none (H1.out (pairOk_hi h2))), below_drewN hbr _⟩
                · have d2 : decide (0 ≤ digitI L[k + 2].toNat) = true := by simp; omega
                  have HM : Hid (pairOk L[k + 1] L[k + 2] = !plainI (16 * digitI L[k + 1].toNat + digitI L[k + 2].toNat)) := pairOk_mid h1 h2
                  have m1 : IntKind.i64.wrap (16 * digitI L[k + 1].toNat) = 16 * digitI L[k + 1].toNat := wrap_i64 (by omega) (by omega)
                  have m2 : IntKind.i64.wrap (16 * digitI L[k + 1].toNat + digitI L[k + 2].toNat) = 16 * digitI L[k + 1].toNat + digitI L[k + 2].toNat := wrap_i64 (by omega) (by omega)
                  have m3 : IntKind.u8.wrap (16 * digitI L[k + 1].toNat + digitI L[k + 2].toNat) = 16 * digitI L[k + 1].toNat + digitI L[k + 2].toNat := wrap_u8 (by omega) (by omega)
                  have m4 : (16 * digitI L[k + 1].toNat + digitI L[k + 2].toNat) % 256 = 16 * digitI L[k + 1].toNat + digitI L[k + 2].toNat := by omega
                  cases hpp : plainI (16 * digitI L[k + 1].toNat + digitI L[k + 2].toNat)
                  · have hyes : pairOk L[k + 1] L[k + 2] = true := by rw [HM.out, hpp]; rfl
                    have H3 := H2.out hyes
                    have HE : Hid (body (L.drop 1) = (body (L.drop (k + 3))).map (fun p => (acc ++ [UInt8.ofNat (pairI L[k + 1] L[k + 2]).toNat] ++ p.1, p.2))) := H3
                    have HV : Hid (((UInt8.ofNat (pairI L[k + 1] L[k + 2]).toNat).toNat : Int) = 16 * digitI L[k + 1].toNat + digitI L[k + 2].toNat) := by
                      have hpb := pairI_byte hyes
                      show ((UInt8.ofNat (pairI L[k + 1] L[k + 2]).toNat).toNat : Int) = pairI L[k + 1] L[k + 2]
                      simp only [UInt8.toNat_ofNat']
                      omega
                    clear H1 H2 H3 HM hyes
                    go_wp2_with fail
                    refine (plain_any _ _).mono ?_
                    rintro e w' ⟨rfl, rfl⟩
                    go_wp2_with fail
                    go_quiet ((first | (go_at_call 218; exact Calls.quiet_of_same (digit_same _ _)) | (go_at_call 217; exact Calls.quiet_of_same (plain_same _ _))))
                    go_wp2_with fail
                    have hown2 : (wr.drewN nq).drew.ownsRowF w.heap.size 5 1 u5 acc.length (Lib.byteCells acc) := hown
                    have hbr2 : Below w.heap.size w (wr.drewN nq).drew := (below_drewN hbr nq).drew
                    generalize wr.drewN nq = wq at hown2 hbr2 ⊢
                    have hbz := hbr2.size
                    go_region_law (first | (refine step_append_ownX rfl (.tmp 88) (.tmp 102) 75 rfl w.heap.size 5 i0 (.int .u8 0) 1 1 Tryz.underlying75 hi hz0 hz1 hz2 rfl (by decide) u5 acc.length (Lib.byteCells acc) rfl (hown2.alloc _) ⟨wq.heap.size, 0, none⟩ 1 1 [.int .u8 (16 * digitI L[k + 1].toNat + digitI L[k + 2].toNat)] rfl rfl (new_cells _ _ _) (one_cell _ _) (by unfold maxLen; omega) (by omega) (by simp at hbz ⊢; omega) ?_; intro v' w2 hown' hgrow hfr) | (refine step_call1 rfl 218 (.tmp 92) #[5] rfl (enters_of Tryz.func218 (by kernel_rfl) rfl) (.int .u8 (L[k + 1].toNat : Int)) _ rfl (digit_same _ _) ?_) | (refine step_call1 rfl 218 (.tmp 98) #[5] rfl (enters_of Tryz.func218 (by kernel_rfl) rfl) (.int .u8 (L[k + 2].toNat : Int)) _ rfl (digit_same _ _) ?_))
                    all_goals
                      go_wp2
                      refine ⟨⟨k + 3, acc ++ [UInt8.ofNat (pairI L[k + 1] L[k + 2]).toNat], by omega, by omega, by go_num, ?_, (hbr2.alloc hbr2.size _).grown hgrow (by simp at hbz ⊢; omega) (fun j hj => (hown2.lt j hj).1), HE.out, by simp; omega⟩, by simp [intOf]; omega⟩
                      rw [byteCells_snoc, HV.out]
                      simpa using hown'
                  · have hno : pairOk L[k + 1] L[k + 2] = false := by rw [HM.out, hpp]; rfl
                    have H3 : Hid (unquote L = none) := H1.out hno
                    clear H1 H2 HM hno
                    go_wp2_with fail
                    refine (plain_any _ _).mono ?_
                    rintro e w' ⟨rfl, rfl⟩
                    go_wp2_with fail
                    go_quiet ((first | (go_at_call 218; exact Calls.quiet_of_same (digit_same _ _)) | (go_at_call 217; exact Calls.quiet_of_same (plain_same _ _))))
                    go_wp2
                    go_ret3
                    exact ⟨ret_uq (uq_none H3.out), below_drewN hbr _⟩
            · have g1 : ¬ (k : Int) + 2 < (L.length : Int) := by omega
              have gd : decide ((k : Int) + 2 < (L.length : Int)) = false := by simp; omega
              have w2 : IntKind.i64.wrap ((k : Int) + 2) = (k : Int) + 2 := wrap_i64 (by omega) (by omega)
              have HE : Hid (unquote L = none) := by
                show unquote L = _
                rw [HU.out, HB.out, hdk, body_none _ h34' hpl (by simp; omega)]; rfl
              clear hdk h92 h34'
              go_wp2_with fail
              refine (plain_any _ _).mono ?_
              rintro e w' ⟨rfl, rfl⟩
              go_wp2_with fail
              go_quiet ((first | (go_at_call 218; exact Calls.quiet_of_same (digit_same _ _)) | (go_at_call 217; exact Calls.quiet_of_same (plain_same _ _))))
              go_wp2
              go_ret3
              exact ⟨ret_uq (uq_none HE.out), below_drewN hbr _⟩
          · have hb2 : ((L[k].toNat : Int) == 92) = false := by simp; omega
            have HE : Hid (unquote L = none) := by
              show unquote L = _
              rw [HU.out, HB.out, hdk, body_none _ h34' hpl (by omega)]; rfl
            clear hdk h92 h34'
            go_wp2_with fail
            refine (plain_any _ _).mono ?_
            rintro e w' ⟨rfl, rfl⟩
            go_wp2_with fail
            go_quiet ((first | (go_at_call 218; exact Calls.quiet_of_same (digit_same _ _)) | (go_at_call 217; exact Calls.quiet_of_same (plain_same _ _))))
            go_wp2
            go_ret3
            exact ⟨ret_uq (uq_none HE.out), below_drewN hbr _⟩
        · have HE : Hid (body (L.drop 1) = (body (L.drop (k + 1))).map (fun p => (acc ++ [L[k]] ++ p.1, p.2))) := by
            show body (L.drop 1) = _
            rw [HB.out, hdk, body_plain _ hpl]; simp [Function.comp_def]
          clear hdk h34'
          go_wp2_with fail
          refine (plain_any _ _).mono ?_
          rintro e w' ⟨rfl, rfl⟩
          go_wp2_with (at_builtin; refine wpList_append_ownX _ rfl _ _ 75 rfl w.heap.size 5 i0 (.int .u8 0) 1 1 Tryz.underlying75 hi hz0 hz1 hz2 rfl (by decide) _ _ _ rfl (hown.alloc _) ⟨wr.heap.size, 0, none⟩ 1 1 [.int .u8 (L[k].toNat : Int)] rfl rfl (new_cells _ _ _) (one_cell _ _) ?c3 ?c4 ?c5 ?_)
          case c3 => unfold maxLen; omega
          case c4 => omega
          case c5 => have := hbr.size; simp; omega
          intro v' w2 hown' hgrow hfr
          go_wp2
          go_roundw
          case rel => exact ⟨k + 1, acc ++ [L[k]], by omega, by omega, by go_num, by rw [byteCells_snoc]; simpa using hown', (hbr.alloc hbr.size _).grown hgrow (by have := hbr.size; simp; omega) (fun j hj => (hown.lt j hj).1), HE.out, by simp; omega⟩
          case measure => simp [intOf]; omega
    · have HE : Hid (unquote L = none) := by
        show unquote L = _
        rw [HU.out, HB.out, List.drop_eq_nil_of_le (by omega)]; rfl
      go_wp2
      go_ret3
      exact ⟨ret_uq (uq_none HE.out), hbr⟩

set_option maxHeartbeats 1000000 in
theorem refUnquote_any (l : List UInt8) (w : World) (hl : l.length ≤ 1099511627776) :
    Calls Tryz.prog 157 #[.string ⟨l.toArray⟩] w fun e w' => e = .returned (.tuple #[.string ⟨(uqa l).toArray⟩, .string ⟨(uqb l).toArray⟩, .int .i64 (uqe l)]) ∧ Below w.heap.size w w' := by
  match l, hl with
  | [], _ =>
    go_enter Tryz.func157, Tryz.ntmps157
    go_wp2
    go_ret3
    exact ⟨ret_uq (uq_none rfl), Below.refl _ _⟩
  | c :: t, hl =>
    by_cases h : c.toNat = 34
    · have hb : ((c.toNat : Int) != 34) = false := by simp; omega
      have HU : Hid (unquote (c :: t) = body ((c :: t).drop 1)) := by show unquote (c :: t) = body t; simp [unquote, h]
      exact refUnquote_body (c :: t) w (by omega) (by simp) hb HU
    · have hb : ((c.toNat : Int) != 34) = true := by simp; omega
      have hb0 : (((t.length : Int) + 1) == 0) = false := beq_eq_false_iff_ne.2 (by omega)
      have HU : Hid (unquote (c :: t) = none) := by show unquote (c :: t) = none; simp [unquote, h]
      clear h
      go_enter Tryz.func157, Tryz.ntmps157
      go_wp2
      go_ret3
      exact ⟨ret_uq (uq_none HU.out), Below.refl _ _⟩
end Go.Proofs.YtgiojkhmkeocfaaGreatDoor

/- The reference's names of layer 15, read: walked. -/
set_option maxRecDepth 20000
namespace Go.Proofs.YtgiojkhmkeocfaaGreatDoor
open Go.RowKit Go.Proofs.YtgiojkhmkeocfaaGreatDoor.Tx
attribute [local go_sem] ByteArray.extract_mk no_at

/-- a fault, unless one stands -/
def flS (e : Int) : Except (Nat × Int) Nat → Except (Nat × Int) Nat
  | .error x => .error x
  | .ok p => .error (p, e)
theorem gFail_f {R : Nat} {vL : Value} {st : Except (Nat × Int) Nat} (e : Int) (he : e ≠ 0) (w : World) (q : RdZ w R vL st) :
    Calls Tryz.prog 55 #[.pointer (some ⟨R, 0, none⟩), .int .i64 e] w fun x w' => x = .returned (.tuple #[]) ∧ RdZ w' R vL (flS e st) ∧ w.grownBy w' (some R) := by
  match st, q with
  | .error (a, z), ⟨⟨p', q⟩, hz⟩ =>
    refine (rFail_no e w q hz).mono ?_
    rintro x w' ⟨rfl, rfl⟩
    exact ⟨rfl, ⟨⟨p', q⟩, hz⟩, ⟨rfl, rfl, rfl, Nat.le_refl _, fun _ _ _ => rfl⟩⟩
  | .ok p, q =>
    refine (rFail_ok e w q).mono ?_
    rintro x w' ⟨rfl, h1, h2⟩
    exact ⟨rfl, ⟨⟨p, h1⟩, he⟩, h2⟩
/-- what a name is read as -/
def nmV (N : Option (List UInt8)) : List UInt8 := N.getD []
def nmE (N : Option (List UInt8)) : Int := if N.isSome = true then 0 else 253
theorem nm_none : nmV none = [] ∧ nmE none = 253 := ⟨rfl, rfl⟩
theorem nm_some (n : List UInt8) : nmV (some n) = n ∧ nmE (some n) = 0 := ⟨rfl, rfl⟩
theorem ret_nm {N : Option (List UInt8)} {v : List UInt8} {e : Int} (h : nmV N = v ∧ nmE N = e) : Ending.returned (.tuple #[.string ⟨v.toArray⟩, .int .i64 e]) = .returned (.tuple #[.string ⟨(nmV N).toArray⟩, .int .i64 (nmE N)]) := by rw [h.1, h.2]
set_option maxHeartbeats 4000000 in
set_option maxRecDepth 10000 in
theorem rNamed_f (s : List UInt8) (hs : s.length ≤ 1099511627776) (w : World) (N : Option (List UInt8)) (HN : Hid (namedP s = N)) :
    Calls Tryz.prog 99 #[.string ⟨s.toArray⟩] w fun e w' => e = .returned (.tuple #[.string ⟨(nmV N).toArray⟩, .int .i64 (nmE N)]) ∧ Below w.heap.size w w' := by
  by_cases h1 : s = devN
  · subst h1
    have hN : N = some [] := (by rw [← HN.out]; rfl)
    subst hN
    have HT : Hid (nameT [] = devN) := rfl
    clear HN
    go_enter Tryz.func99, Tryz.ntmps99
    unfold devN
    go_wp2_with fail
    refine (rName_f [] w (by decide) devN HT).mono ?_
    rintro e w1 ⟨rfl, hB1⟩
    unfold devN
    go_wp2
    go_ret2
    exact ⟨rfl, hB1⟩
  · have e1 : (s == [47, 100, 101, 118, 47, 110, 117, 108, 108]) = false := beq_eq_false_iff_ne.2 h1
    by_cases h0 : s = []
    · subst h0
      have hN : N = none := (by rw [← HN.out]; rfl)
      subst hN
      have HT : Hid (nameT [] = devN) := rfl
      clear HN e1
      go_enter Tryz.func99, Tryz.ntmps99
      go_wp2_with fail
      refine (rName_f [] w (by decide) devN HT).mono ?_
      rintro e w1 ⟨rfl, hB1⟩
      unfold devN
      go_wp2
      go_ret2
      exact ⟨ret_nm nm_none, hB1⟩
    · have hps : 0 < s.length := List.length_pos_iff.2 h0
      have hpos : (0 : Int) < (s.length : Int) := by omega
      have hN := HN.out
      unfold namedP unN at hN
      rw [if_neg h1] at hN
      obtain ⟨c, hc⟩ : ∃ c, s[0] = c := ⟨_, rfl⟩
      have hhd : s.head? = some c := (by rw [← hc, List.head?_eq_getElem?, List.getElem?_eq_getElem hps])
      rw [hhd] at hN
      have e0 : s.isEmpty = false := (by cases s with | nil => exact absurd rfl h0 | cons _ _ => rfl)
      clear HN h1 h0 hhd
      by_cases h2 : c = 34
      · have h5 : ((c.toNat : Int) == 34) = true := (by rw [h2]; rfl)
        rw [if_pos (by rw [h2])] at hN
        clear h2
        have hq := refUnquote_any s w hs
        cases hu : Q.unquote s with
        | none =>
          rw [hu] at hN
          subst hN
          have hu2 := Q.uq_none hu
          rw [hu2.1, hu2.2.1, hu2.2.2] at hq
          clear hu hu2
          go_enter Tryz.func99, Tryz.ntmps99
          go_wp2_with fail
          refine hq.mono ?_
          rintro e w1 ⟨rfl, hB1⟩
          go_wp2
          go_ret2
          exact ⟨ret_nm nm_none, hB1⟩
        | some z =>
          obtain ⟨n, r⟩ := z
          have hu2 := Q.uq_some hu
          rw [hu2.1, hu2.2.1, hu2.2.2] at hq
          rw [hu] at hN
          clear hu hu2
          cases r with
          | cons d r =>
            subst hN
            go_enter Tryz.func99, Tryz.ntmps99
            go_wp2_with fail
            refine hq.mono ?_
            rintro e w1 ⟨rfl, hB1⟩
            go_wp2
            go_ret2
            exact ⟨ret_nm nm_none, hB1⟩
          | nil =>
            dsimp only at hN
            by_cases h3 : n.length ≤ 64
            · obtain ⟨T, hT⟩ : ∃ T, nameT n = T := ⟨_, rfl⟩
              have HT : Hid (nameT n = T) := hT
              rw [hT] at hN
              have j1 : ¬ (64 : Int) < (n.length : Int) := by omega
              clear hT
              by_cases h4 : T = s
              · rw [if_pos ⟨h3, h4⟩] at hN
                subst hN
                have HT2 : Hid (nameT n = s) := (by show _ = _; rw [← h4]; exact HT.out)
                clear h4 HT
                go_enter Tryz.func99, Tryz.ntmps99
                go_wp2_with fail
                refine hq.mono ?_
                rintro e w1 ⟨rfl, hB1⟩
                go_wp2_with fail
                refine (rName_f n w1 (by omega) s HT2).mono ?_
                rintro e w2 ⟨rfl, hB2⟩
                go_wp2
                go_ret2
                exact ⟨ret_nm (nm_some n), hB1.trans (hB2.mono hB1.size)⟩
              · rw [if_neg (fun q => h4 q.2)] at hN
                subst hN
                have j2 : (T == s) = false := beq_eq_false_iff_ne.2 h4
                clear h4
                go_enter Tryz.func99, Tryz.ntmps99
                go_wp2_with fail
                refine hq.mono ?_
                rintro e w1 ⟨rfl, hB1⟩
                go_wp2_with fail
                refine (rName_f n w1 (by omega) T HT).mono ?_
                rintro e w2 ⟨rfl, hB2⟩
                go_wp2
                go_ret2
                exact ⟨ret_nm nm_none, hB1.trans (hB2.mono hB1.size)⟩
            · rw [if_neg (fun q => h3 q.1)] at hN
              subst hN
              have j1 : (64 : Int) < (n.length : Int) := by omega
              go_enter Tryz.func99, Tryz.ntmps99
              go_wp2_with fail
              refine hq.mono ?_
              rintro e w1 ⟨rfl, hB1⟩
              go_wp2
              go_ret2
              exact ⟨ret_nm nm_none, hB1⟩
      · rw [if_neg (fun q => h2 (Option.some.inj q))] at hN
        have h5 : ((c.toNat : Int) == 34) = false := (by
          refine beq_eq_false_iff_ne.2 fun q => h2 ?_
          exact UInt8.toNat_inj.1 (by rw [show (34 : UInt8).toNat = 34 from rfl]; omega))
        clear h2
        dsimp only at hN
        by_cases h3 : s.length ≤ 64
        · obtain ⟨T, hT⟩ : ∃ T, nameT s = T := ⟨_, rfl⟩
          have HT : Hid (nameT s = T) := hT
          rw [hT] at hN
          have j1 : ¬ (64 : Int) < (s.length : Int) := by omega
          clear hT
          by_cases h4 : T = s
          · rw [if_pos ⟨h3, h4⟩] at hN
            subst hN
            have HT2 : Hid (nameT s = s) := (by show _ = _; exact HT.out.trans h4)
            clear h4 HT
            go_enter Tryz.func99, Tryz.ntmps99
            go_wp2_with fail
            refine (rName_f s w hs s HT2).mono ?_
            rintro e w2 ⟨rfl, hB2⟩
            go_wp2
            go_ret2
            exact ⟨ret_nm (nm_some _), hB2⟩
          · rw [if_neg (fun q => h4 q.2)] at hN
            subst hN
            have j2 : (T == s) = false := beq_eq_false_iff_ne.2 h4
            clear h4
            go_enter Tryz.func99, Tryz.ntmps99
            go_wp2_with fail
            refine (rName_f s w hs T HT).mono ?_
            rintro e w2 ⟨rfl, hB2⟩
            go_wp2
            go_ret2
            exact ⟨ret_nm nm_none, hB2⟩
        · rw [if_neg (fun q => h3 q.1)] at hN
          subst hN
          have j1 : (64 : Int) < (s.length : Int) := by omega
          go_enter Tryz.func99, Tryz.ntmps99
          go_wp2
          go_ret2
          exact ⟨ret_nm nm_none, Below.refl _ _⟩
end Go.Proofs.YtgiojkhmkeocfaaGreatDoor

/- The plain Parse of the reference, walked anew over the normal form's texts. -/
set_option maxRecDepth 20000
namespace Go.Proofs.YtgiojkhmkeocfaaGreatDoor
open Pn Go.RowKit
attribute [local go_sem] no_at

theorem ret_pair {k k' : IntKind} {a b a' b' : Int} (h : a = a') (h' : b = b') : Ending.returned (.tuple #[.int k a, .int k' b]) = .returned (.tuple #[.int k a', .int k' b']) := by rw [h, h']
set_option maxHeartbeats 2000000 in
theorem rParse_loop (L : List UInt8) (w : World) (hl : L.length ≤ maxLen) (h0 : 0 < L.length) (hz : ((L.length : Int) ≤ 1) ∨ ((1 < (L.length : Int)) ∧ (((L[0].toNat : Int) == 48) = false)))
    (HY : Hid ((∀ k (hk : k < L.length), 48 ≤ L[k].toNat ∧ L[k].toNat ≤ 57) → isNum L = true)) :
    Calls Tryz.prog 159 #[.string ⟨L.toArray⟩] w fun e w' => e = .returned (.tuple #[.int .i64 (parseV L), .int .i64 (parseE L)]) ∧ Below w.heap.size w w' := by
  unfold maxLen at hl
  have hne : ((L.length : Int) == 0) = false := beq_eq_false_iff_ne.2 (by omega)
  rcases hz with hz | ⟨hz, hz1⟩
  all_goals
    go_enter Tryz.func159, Tryz.ntmps159
    go_wp2
    go_loop [4, 5] (fun n i => ∃ (pos : Nat) (v : Int), pos ≤ L.length ∧ i = .int .i64 pos ∧ n = .int .i64 v ∧ 0 ≤ v ∧ v ≤ 2147483648 ∧ sat v (L.drop pos) = sat 0 L ∧ (∀ k (hk : k < L.length), k < pos → 48 ≤ L[k].toNat ∧ L[k].toNat ≤ 57)) (fun _ i => L.length - (intOf i).toNat)
    case atStart => exact ⟨0, 0, Nat.zero_le _, rfl, rfl, by omega, by omega, rfl, fun k _ h => by omega⟩
    case round =>
      obtain ⟨pos, v, hp, rfl, rfl, hv0, hv1, hsat, hall⟩ := hrel
      have HA : Hid (∀ k (hk : k < L.length), k < pos → 48 ≤ L[k].toNat ∧ L[k].toNat ≤ 57) := hall
      have HS : Hid (sat v (L.drop pos) = sat 0 L) := hsat
      clear hall hsat
      by_cases hlt : pos < L.length
      · have hc := L[pos].toNat_lt
        by_cases hd : 48 ≤ L[pos].toNat ∧ L[pos].toNat ≤ 57
        · obtain ⟨hd1, hd2⟩ := hd
          have HS2 : Hid (sat (min (v * 10 + ((L[pos].toNat : Int) - 48)) 2147483648) (L.drop (pos + 1)) = sat 0 L) := by
            show sat _ _ = _
            rw [← sat_step hlt]; exact HS.out
          have HA2 : Hid (∀ k (hk : k < L.length), k < pos + 1 → 48 ≤ L[k].toNat ∧ L[k].toNat ≤ 57) := by
            intro k hk h
            by_cases e : k = pos
            · subst e; exact ⟨hd1, hd2⟩
            · exact HA.out k hk (by omega)
          go_wp2
          have e : (if 2147483648 < v * 10 + ((L[pos].toNat : Int) - 48) then 2147483648 else v * 10 + ((L[pos].toNat : Int) - 48)) = min (v * 10 + ((L[pos].toNat : Int) - 48)) 2147483648 := by split <;> omega
          try rw [e]
          exact ⟨⟨pos + 1, _, by omega, by go_num, rfl, by omega, by omega, HS2.out, HA2.out⟩, by simp [intOf]; omega⟩
        · have HN : Hid (isNum L = false) := isNum_bad pos hlt hd
          by_cases hd1 : L[pos].toNat < 48
          · clear hd
            go_wp2
            go_ret2
            have h := parse_no HN.out
            exact ⟨ret_pair h.1 h.2, Below.refl _ _⟩
          · have hd2 : 57 < L[pos].toNat := by omega
            clear hd
            go_wp2
            go_ret2
            have h := parse_no HN.out
            exact ⟨ret_pair h.1 h.2, Below.refl _ _⟩
      · have HN : Hid (isNum L = true) := HY.out fun k hk => HA.out k hk (by omega)
        have HF : Hid (sat 0 L = v) := by
          have h := HS.out
          rw [List.drop_eq_nil_of_le (by omega)] at h
          exact h.symm
        by_cases hfar : 2147483647 < v
        · go_wp2
          go_ret2
          have h := parse_far HN.out (by rw [HF.out]; omega)
          exact ⟨ret_pair h.1 h.2, Below.refl _ _⟩
        · go_wp2
          go_ret2
          have h := parse_ok HN.out HF.out (by omega)
          exact ⟨ret_pair h.1 h.2, Below.refl _ _⟩

set_option maxHeartbeats 1000000 in
theorem rParse_f (l : List UInt8) (w : World) (hl : l.length ≤ maxLen) :
    Calls Tryz.prog 159 #[.string ⟨l.toArray⟩] w fun e w' => e = .returned (.tuple #[.int .i64 (parseV l), .int .i64 (parseE l)]) ∧ Below w.heap.size w w' := by
  match l, hl with
  | [], _ =>
    go_enter Tryz.func159, Tryz.ntmps159
    go_wp2
    go_ret2
    exact ⟨rfl, Below.refl _ _⟩
  | [c], hl => exact rParse_loop [c] w hl (by simp) (.inl (by simp)) (isNum_yes (by simp))
  | c :: d :: t, hl =>
    by_cases h : c.toNat = 48
    · have hb : ((c.toNat : Int) == 48) = true := by simp; omega
      have HN : Hid (isNum (c :: d :: t) = false) := isNum_zero h
      have hl2 : (1 : Int) < (t.length : Int) + 1 + 1 := by omega
      have hl3 : (((t.length : Int) + 1 + 1) == 0) = false := beq_eq_false_iff_ne.2 (by omega)
      clear h
      go_enter Tryz.func159, Tryz.ntmps159
      go_wp2
      go_ret2
      have h := parse_no HN.out
      exact ⟨ret_pair h.1 h.2, Below.refl _ _⟩
    · refine rParse_loop (c :: d :: t) w hl (by simp) (.inr ⟨by simp; omega, ?_⟩) (isNum_yes (by simp [h]))
      simp; omega
end Go.Proofs.YtgiojkhmkeocfaaGreatDoor

/- The reference's range of lines, walked. -/
set_option maxRecDepth 20000
namespace Go.Proofs.YtgiojkhmkeocfaaGreatDoor
open Go.RowKit
attribute [local go_sem] ByteArray.extract_mk no_at

theorem spB_at {q : UInt8 → Bool} : ∀ (s : List UInt8) (i : Nat) (hi : i < s.length), q s[i] = true → (∀ j (hj : j < i), q (s[j]'(by omega)) = false) → spB q s = some (s.take i, s[i], s.drop (i + 1))
  | [], _, hi, _, _ => by simp at hi
  | c :: t, 0, _, hq, _ => by
    simp only [List.getElem_cons_zero] at hq
    simp [spB, hq]
  | c :: t, i + 1, hi, hq, h => by
    have h0 := h 0 (by omega)
    simp only [List.getElem_cons_zero] at h0
    have ih := spB_at t i (by simpa using hi) (by simpa using hq) (fun j hj => by have := h (j + 1) (by omega); simpa using this)
    simp [spB, h0, ih]
theorem spB_off {q : UInt8 → Bool} : ∀ (s : List UInt8), (∀ j (hj : j < s.length), q s[j] = false) → spB q s = none
  | [], _ => rfl
  | c :: t, h => by
    have h0 := h 0 (by simp)
    simp only [List.getElem_cons_zero] at h0
    have ih := spB_off t (fun j hj => by have := h (j + 1) (by simp; omega); simpa using this)
    simp [spB, h0, ih]
/-- what a range of lines is read as -/
def LnsP (s : List UInt8) (x : Ending) : Prop :=
  match lnsP s with
  | some (A, N) => x = .returned (.tuple #[.int .i64 A, .int .i64 N, .bool true])
  | none => ∃ A N, x = .returned (.tuple #[.int .i64 A, .int .i64 N, .bool false])
theorem LnsP.mk0 {s : List UInt8} (h2 : ∀ j (hj : j < s.length), isK s[j] = false) {b : Bool} (hb : (decide (Pn.parseE s = 0) && decide (1 ≤ Pn.parseV s)) = b) :
    LnsP s (.returned (.tuple #[.int .i64 (Pn.parseV s), .int .i64 1, .bool b])) := by
  unfold LnsP lnsP
  rw [spB_off s h2]
  dsimp only
  cases b with
  | true =>
    simp only [Bool.and_eq_true, decide_eq_true_eq] at hb
    rw [if_pos hb]
  | false =>
    rw [if_neg (by intro hq; simp [hq] at hb)]
    exact ⟨_, _, rfl⟩
end Go.Proofs.YtgiojkhmkeocfaaGreatDoor

/- The reference's lines with ranges of layer 15, read: walked. -/
set_option maxRecDepth 20000
namespace Go.Proofs.YtgiojkhmkeocfaaGreatDoor
open Go.RowKit
attribute [local go_sem] ByteArray.extract_mk no_at

/-- a side's variable -/
abbrev ptO5 (a p n : Int) (vk vl : Value) : Obj := .cells #[.int .i64 a, .int .i64 p, .int .i64 n, vk, vl] 158
def Bp5 (u : World) (b : Nat) (a p n : Int) (vk vl : Value) : Prop := u.heap[b]? = some (ptO5 a p n vk vl)
section
variable {u u' : World} {b : Nat} {a p n : Int} {vk vl : Value}
theorem Bp5.cells (q : Bp5 u b a p n vk vl) : u.cell? ⟨b, 0, none⟩ = some (.int .i64 a) ∧ u.cell? ⟨b, 1, none⟩ = some (.int .i64 p) ∧ u.cell? ⟨b, 2, none⟩ = some (.int .i64 n) ∧ u.cell? ⟨b, 3, none⟩ = some vk ∧ u.cell? ⟨b, 4, none⟩ = some vl := by
  unfold Bp5 ptO5 at q
  refine ⟨?_, ?_, ?_, ?_, ?_⟩ <;> rw [Lib.cell_of_heap q] <;> rfl
theorem Bp5.frozen (q : Bp5 u b a p n vk vl) (j : Nat) : u.frozen? ⟨b, j, none⟩ = false := Lib.frozen_of_heap q j
theorem Bp5.lt (q : Bp5 u b a p n vk vl) : b < u.heap.size := (Array.getElem?_eq_some_iff.1 q).1
theorem Bp5.off (q : Bp5 u b a p n vk vl) {g : Option Nat} (hg : u.grownBy u' g) (hr : some b ≠ g) : Bp5 u' b a p n vk vl := (hg.block b q.lt hr).trans q
theorem Bp5.low (q : Bp5 u b a p n vk vl) (hb : Below u.heap.size u u') : Bp5 u' b a p n vk vl := (hb.block b q.lt).trans q
end
/-- what a range leaves behind -/
def RgR (R : Nat) (vL : Value) (Z : Except (Nat × Int) ((Int × Int) × Nat)) (a p n : Int) (w' : World) : Prop :=
  match Z with
  | .error x => RdZ w' R vL (.error x)
  | .ok (q, p1) => a = (p1 : Int) ∧ p = q.1 ∧ n = q.2 ∧ RdZ w' R vL (.ok p1)
/-- where a reader is: two variables of one's own, and the reader -/
theorem RdZ.at {u : World} {R : Nat} {vL : Value} {st : Except (Nat × Int) Nat} (h : RdZ u R vL st) : ∃ p' : Nat, u.cell? ⟨R, 1, none⟩ = some (.int .i64 (p' : Int)) ∧ ∀ p, st = .ok p → p' = p := by
  match st, h with
  | .ok p, h => exact ⟨p, (Rx.cells h).2.1, fun _ q => by cases q; rfl⟩
  | .error (_, _), ⟨⟨p', h⟩, _⟩ => exact ⟨p', (Rx.cells h).2.1, fun _ q => by cases q⟩
end Go.Proofs.YtgiojkhmkeocfaaGreatDoor

/- The reference's sides of layer 15: is no line changed, what a range says, runs of changed lines; walked. -/
set_option maxRecDepth 20000
namespace Go.Proofs.YtgiojkhmkeocfaaGreatDoor
open Go.RowKit

/-- a row of bytes -/
def kcells (x : Sde) : List Value := x.map fun y => .int .u8 (y.1.toNat : Int)
def HK (w : World) (v : Value) (x : Sde) : Prop := Holds w v x.length (kcells x)
theorem kcells_length (x : Sde) : (kcells x).length = x.length := by simp [kcells]
theorem HK.at {w : World} {ao : Option Addr} {n c : Nat} {x : Sde} (h : HK w (.slice ao n c) x) (h0 : 0 < x.length) : ∃ b off, ao = some ⟨b, off, none⟩ ∧ b < w.heap.size ∧ ∀ k (hk : k < x.length), w.cell? ⟨b, off + k, none⟩ = some (.int .u8 (x[k].1.toNat : Int)) := by
  obtain ⟨b, off, c', hv, hb, hc⟩ := Holds.at h (by rw [kcells_length]; exact h0)
  cases hv
  refine ⟨b, off, rfl, hb, fun k hk => ?_⟩
  have := hc k (by rw [kcells_length]; exact hk)
  simpa [kcells] using this
theorem HK.keep {w w' : World} {v : Value} {x : Sde} (h : HK w v x) (hb : Below w.heap.size w w') : HK w' v x := Holds.keep h fun k hk => hb.block k hk
/-- a side in memory -/
structure Hsd (w : World) (vk vl : Value) (x : Sde) : Prop where
  k : HK w vk x
  l : HS w vl (x.map (·.2))
theorem Hsd.keep {w w' : World} {vk vl : Value} {x : Sde} (h : Hsd w vk vl x) (hb : Below w.heap.size w w') : Hsd w' vk vl x := ⟨h.k.keep hb, HS.keep h.l hb (Nat.le_refl _)⟩
theorem Hsd.form {w : World} {vk vl : Value} {x : Sde} (h : Hsd w vk vl x) : ∃ ko kc lo lc, vk = .slice ko x.length kc ∧ vl = .slice lo x.length lc := by
  obtain ⟨ko, kc, h1⟩ := Holds.form h.k
  obtain ⟨lo, lc, h2⟩ := Holds.form h.l
  rw [List.length_map] at h2
  exact ⟨ko, kc, lo, lc, h1, h2⟩
end Go.Proofs.YtgiojkhmkeocfaaGreatDoor

/- The reference's reader, walked: a line with a sign, behind which the mark may stand. -/
set_option maxRecDepth 20000
namespace Go.Proofs.YtgiojkhmkeocfaaGreatDoor
open Go.RowKit
attribute [local go_sem] ByteArray.extract_mk no_at

end Go.Proofs.YtgiojkhmkeocfaaGreatDoor

/- The code's reader of lines, walked: what is wrong is thrown; the next line; the line between. -/
set_option maxRecDepth 20000
namespace Go.Proofs.YtgiojkhmkeocfaaGreatDoor
open Go.RowKit
attribute [local go_sem] ByteArray.extract_mk no_at

/-- a reader: its lines, how many are read -/
def ryO (vL : Value) (p : Int) : Obj := .cells #[vL, .int .i64 p] 138
def Ry (u : World) (R : Nat) (vL : Value) (p : Int) : Prop := u.heap[R]? = some (ryO vL p)
/-- a fault -/
def fltO (a z : Int) : Obj := .cells #[.int .i64 a, .iface 26 (.int .i64 z)] 88
section
variable {u u' : World} {R : Nat} {vL : Value} {p : Int}
theorem Ry.cells (q : Ry u R vL p) : u.cell? ⟨R, 0, none⟩ = some vL ∧ u.cell? ⟨R, 1, none⟩ = some (.int .i64 p) := by
  unfold Ry ryO at q
  refine ⟨?_, ?_⟩ <;> rw [Lib.cell_of_heap q] <;> rfl
theorem Ry.frozen (q : Ry u R vL p) (j : Nat) : u.frozen? ⟨R, j, none⟩ = false := Lib.frozen_of_heap q j
theorem Ry.lt (q : Ry u R vL p) : R < u.heap.size := (Array.getElem?_eq_some_iff.1 q).1
theorem Ry.dN (q : Ry u R vL p) (n : Nat) : Ry (u.drewN n) R vL p := q
theorem Ry.at (q : Ry u R vL p) (p' : Int) : Ry (u.setCell ⟨R, 1, none⟩ (.int .i64 p')) R vL p' := heap_setCell_same u R 1 _ _ (.int .i64 p') q
theorem Ry.low (q : Ry u R vL p) (hg : Below u.heap.size u u') : Ry u' R vL p := (hg.block R q.lt).trans q
theorem Ry.keep (q : Ry u R vL p) {g : Option Nat} (hg : u.grownBy u' g) (hr : some R ≠ g) : Ry u' R vL p := (hg.block R q.lt hr).trans q
end
/-- what is wrong is thrown -/
def Thr (a z : Int) (x : Ending) (w' : World) : Prop := ∃ g, x = .panicked [{ v := .iface 86 (.pointer (some ⟨g, 0, none⟩)), recovered := false }] ∧ w'.heap[g]? = some (fltO a z)
/-- what a line that is read leaves behind -/
def LnQ (R : Nat) (_vL : Value) (_p : Nat) (X : Except (Nat × Int) (List UInt8 × List (List UInt8))) (w : World) (x : Ending) (w' : World) : Prop :=
  match X with
  | .error (a, e) => Thr (a : Int) e x w' ∧ w.grownBy w' (some R)
  | .ok (s, _) => x = .returned (.string ⟨(s ++ [10]).toArray⟩) ∧ ∃ n, w' = w.drewN n
theorem drop_feed {s : List UInt8} (h : fdB s = true) : s.dropLast ++ [10] = s := (fd_form h).symm
end Go.Proofs.YtgiojkhmkeocfaaGreatDoor

/- The normal form as the code reads it, and that it is read as the plain reader does; plain mathematics. -/
set_option maxRecDepth 20000
namespace Go.Proofs.YtgiojkhmkeocfaaGreatDoor
open Ln

theorem mark_eq {s : List UInt8} (hp : ∀ c ∈ s.dropLast, c ≠ 10) (h : markT.isPrefixOf s = true) : s = markT := by
  rw [List.isPrefixOf_iff_prefix] at h
  obtain ⟨t, rfl⟩ := h
  cases t with
  | nil => simp
  | cons c t =>
    exfalso
    have h1 : (10 : UInt8) ∈ (markT ++ c :: t).dropLast := by
      rw [List.dropLast_append_of_ne_nil (by simp)]
      exact List.mem_append_left _ (by decide)
    exact hp 10 h1 rfl
end Go.Proofs.YtgiojkhmkeocfaaGreatDoor

/- The code's reader, walked: the line between, the end of a side, a side. -/
set_option maxRecDepth 20000
namespace Go.Proofs.YtgiojkhmkeocfaaGreatDoor
open Go.RowKit
attribute [local go_sem] ByteArray.extract_mk no_at

/-- all below B but the reader's block is as it was -/
structure Fr (B R : Nat) (w w' : World) : Prop where
  os : w'.os = w.os
  tape : w'.tape = w.tape
  output : w'.output = w.output
  size : w.heap.size ≤ w'.heap.size
  block : ∀ k, k < B → k ≠ R → w'.heap[k]? = w.heap[k]?
theorem Fr.refl (B R : Nat) (w : World) : Fr B R w w := ⟨rfl, rfl, rfl, Nat.le_refl _, fun _ _ _ => rfl⟩
theorem Fr.trans {B R : Nat} {w u v : World} (h : Fr B R w u) (h' : Fr B R u v) : Fr B R w v := ⟨h'.os.trans h.os, h'.tape.trans h.tape, h'.output.trans h.output, Nat.le_trans h.size h'.size, fun k h1 h2 => (h'.block k h1 h2).trans (h.block k h1 h2)⟩
theorem Fr.of {B R : Nat} {w u : World} (h : w.grownBy u (some R)) (hB : B ≤ w.heap.size) : Fr B R w u := ⟨h.os, h.tape, h.output, h.size, fun k h1 h2 => h.block k (Nat.lt_of_lt_of_le h1 hB) (fun e => h2 (Option.some.inj e))⟩
theorem Fr.own {B R : Nat} {w u : World} {g : Option Nat} (h : w.grownBy u g) (hB : B ≤ w.heap.size) (hg : ∀ j, g = some j → B ≤ j) : Fr B R w u := ⟨h.os, h.tape, h.output, h.size, fun k h1 _ => h.block k (Nat.lt_of_lt_of_le h1 hB) (fun e => by have := hg k e.symm; omega)⟩
theorem Fr.low {B R : Nat} {w u : World} (h : Below w.heap.size w u) (hB : B ≤ w.heap.size) : Fr B R w u := Fr.of (low_grown h _) hB
theorem Fr.grown {R : Nat} {w u : World} (h : Fr w.heap.size R w u) : w.grownBy u (some R) := ⟨h.os, h.tape, h.output, h.size, fun k h1 h2 => h.block k h1 (fun e => h2 (by rw [e]))⟩
end Go.Proofs.YtgiojkhmkeocfaaGreatDoor

/- The code's reader, walked: the end of a side. -/
set_option maxRecDepth 20000
namespace Go.Proofs.YtgiojkhmkeocfaaGreatDoor
open Go.RowKit
attribute [local go_sem] ByteArray.extract_mk no_at

theorem pkM_at {L : List (List UInt8)} (hP : Plain L) {p : Nat} (h : p < L.length) : pkM (L.drop p) = (L[p] == markT) := by
  rw [List.drop_eq_getElem_cons h]
  unfold pkM
  rw [Bool.eq_iff_iff, beq_iff_eq]
  constructor
  · intro q
    exact mark_eq (hP _ (List.getElem_mem h)) q
  · intro q
    rw [q]
    show markT.isPrefixOf markT = true
    decide
end Go.Proofs.YtgiojkhmkeocfaaGreatDoor

/- The code's reader, walked: a side of a hunk. -/
set_option maxRecDepth 20000
namespace Go.Proofs.YtgiojkhmkeocfaaGreatDoor
open Go.RowKit
attribute [local go_sem] ByteArray.extract_mk no_at

theorem owns_fr {w u : World} {B R : Nat} {e : TypeId} {s : Nat} {v : Value} {n : Nat} {xs : List Value} (h : w.ownsRow B e s v n xs) (hg : w.grownBy u (some R)) (hR : R < B) : u.ownsRow B e s v n xs := by
  refine ⟨h.1, ?_⟩
  rcases h.2 with q | ⟨g, cap, cur, rfl, q2, q3, q4⟩
  · exact .inl q
  · refine .inr ⟨g, cap, cur, rfl, q2, ?_, q4⟩
    rw [hg.block g (Array.getElem?_eq_some_iff.1 q3).1 (fun e => by cases e; omega)]
    exact q3
theorem nxt_rest {p : Nat} {L r : List (List UInt8)} {s : List UInt8} (h : nxt p (L.drop p) = .ok (s, r)) : r = L.drop (p + 1) ∧ p < L.length ∧ ∃ hp : p < L.length, L[p] = s ++ [10] := by
  have h1 := nxt_ok h
  have hp : p < L.length := by
    by_cases h2 : p < L.length
    · exact h2
    · rw [List.drop_eq_nil_of_le (by omega)] at h1
      cases h1
  have h3 := List.drop_eq_getElem_cons hp
  rw [h3] at h1
  injection h1 with h4 h5
  exact ⟨h5.symm, hp, hp, h4⟩
end Go.Proofs.YtgiojkhmkeocfaaGreatDoor

/- The code's isNumber and Parse of layer 1, walked anew over the normal form's texts: what they return is what the plain functions isNum, parseV and parseE say. -/
set_option maxRecDepth 20000
namespace Go.Proofs.YtgiojkhmkeocfaaGreatDoor
open Pn Go.RowKit
attribute [local go_sem] no_at

set_option maxHeartbeats 2000000 in
theorem nisNumber_loop (L : List UInt8) (w : World) (hl : L.length ≤ maxLen) (h0 : 0 < L.length) (hz : (((L[0].toNat : Int) == 48) = false) ∨ ((((L[0].toNat : Int) == 48) = true) ∧ (L.length : Int) ≤ 1))
    (HY : Hid ((∀ k (hk : k < L.length), 48 ≤ L[k].toNat ∧ L[k].toNat ≤ 57) → isNum L = true)) :
    Calls Tryz.prog 275 #[.string ⟨L.toArray⟩] w fun e w' => e = .returned (.bool (isNum L)) ∧ Below w.heap.size w w' := by
  unfold maxLen at hl
  have hne : L.isEmpty = false := by cases L; simp at h0; rfl
  have hnil : ¬ L = [] := by intro h; rw [h] at h0; simp at h0
  rcases hz with hz | ⟨hz, hz1⟩
  all_goals
    go_enter Tryz.func275, Tryz.ntmps275
    go_wp2
    go_loopw [] (fun wr => ∃ pos : Nat, pos ≤ L.length ∧ wr.heap[w.heap.size]? = some (.stringIter ⟨L.toArray⟩ pos) ∧ Below w.heap.size w wr ∧ (∀ k (hk : k < L.length), k < pos → 48 ≤ L[k].toNat ∧ L[k].toNat ≤ 57)) (fun wr => L.length - wr.iterPos w.heap.size)
    case atStart =>
      refine ⟨0, Nat.zero_le _, World.iter_heap w _ 0, (Below.refl _ w).alloc (Nat.le_refl _) _, fun k _ h => by omega⟩
    case round =>
      obtain ⟨pos, hp, hit, hbr, hall⟩ := hrel
      have HA : Hid (∀ k (hk : k < L.length), k < pos → 48 ≤ L[k].toNat ∧ L[k].toNat ≤ 57) := hall
      clear hall
      have hss : (⟨L.toArray⟩ : ByteArray).size = L.length := rfl
      by_cases hlt : pos < L.length
      · by_cases ha : L[pos].toNat < 128
        · have hnx : ∀ ty, (Instr.next (.pointer (some ⟨w.heap.size, 0, none⟩)) true ty).run Tryz.prog wr = _ := fun ty => Lib.run_next_ascii_at wr w.heap.size ⟨L.toArray⟩ pos ty hit hlt ha
          have hit2 := Lib.iterAt_heap wr w.heap.size ⟨L.toArray⟩ pos (pos + 1) hit
          have hbr2 := Lib.below_iterAt hbr (k := w.heap.size) (Nat.le_refl _) ⟨L.toArray⟩ (pos + 1)
          by_cases hd : 48 ≤ L[pos].toNat ∧ L[pos].toNat ≤ 57
          · obtain ⟨hd1, hd2⟩ := hd
            go_wp2
            go_roundw
            case rel =>
              refine ⟨pos + 1, by omega, hit2, hbr2, fun k hk h => ?_⟩
              by_cases e : k = pos
              · subst e; exact ⟨hd1, hd2⟩
              · exact HA.out k hk (by omega)
            case measure => simp only [World.iterPos, hit, hit2]; omega
          · have HN : Hid (isNum L = false) := isNum_bad pos hlt hd
            by_cases hd1 : L[pos].toNat < 48
            · clear hd
              go_wp2
              go_ret
              exact ⟨ret_bool HN.out.symm, hbr2⟩
            · have hd2 : 57 < L[pos].toNat := by omega
              clear hd
              go_wp2
              go_ret
              exact ⟨ret_bool HN.out.symm, hbr2⟩
        · have HN : Hid (isNum L = false) := isNum_bad pos hlt (by omega)
          have hdh := (decode_high ⟨L.toArray⟩ pos hlt (by show 128 ≤ L[pos].toNat; omega)).1
          have hnx : ∀ ty, (Instr.next (.pointer (some ⟨w.heap.size, 0, none⟩)) true ty).run Tryz.prog wr = _ := fun ty => Lib.run_next_any_at wr w.heap.size ⟨L.toArray⟩ pos ty hit hlt
          have hbr2 := Lib.below_iterAt hbr (k := w.heap.size) (Nat.le_refl _) ⟨L.toArray⟩ (pos + (Utf8.decode ⟨L.toArray⟩ pos).2)
          have hdl := decode_le ⟨L.toArray⟩ pos
          generalize Utf8.decode ⟨L.toArray⟩ pos = dd at *
          have q1 : ¬ ((dd.1 : Int) < 48) := by omega
          have q2 : 57 < (dd.1 : Int) := by omega
          go_wp2
          go_ret
          exact ⟨ret_bool HN.out.symm, hbr2⟩
      · have hnx : ∀ ty, (Instr.next (.pointer (some ⟨w.heap.size, 0, none⟩)) true ty).run Tryz.prog wr = _ := fun ty => Lib.run_next_end_at wr w.heap.size ⟨L.toArray⟩ pos ty hit hlt
        have HN : Hid (isNum L = true) := HY.out fun k hk => HA.out k hk (by omega)
        go_wp2
        go_ret
        exact ⟨ret_bool HN.out.symm, hbr⟩

set_option maxHeartbeats 1000000 in
theorem nisNumber_any (l : List UInt8) (w : World) (hl : l.length ≤ maxLen) :
    Calls Tryz.prog 275 #[.string ⟨l.toArray⟩] w fun e w' => e = .returned (.bool (isNum l)) ∧ Below w.heap.size w w' := by
  match l, hl with
  | [], _ =>
    go_enter Tryz.func275, Tryz.ntmps275
    go_wp2
    go_ret
    exact ⟨rfl, Below.refl _ _⟩
  | [c], hl =>
    refine nisNumber_loop [c] w hl (by simp) ?_ (isNum_yes (by simp))
    cases h : ((([c] : List UInt8)[0].toNat : Int) == 48)
    · exact .inl rfl
    · exact .inr ⟨rfl, by simp⟩
  | c :: d :: t, hl =>
    by_cases h : c.toNat = 48
    · have hb : ((c.toNat : Int) == 48) = true := by simp; omega
      have HN : Hid (isNum (c :: d :: t) = false) := isNum_zero h
      have hl2 : (1 : Int) < (t.length : Int) + 1 + 1 := by omega
      clear h
      go_enter Tryz.func275, Tryz.ntmps275
      go_wp2
      go_ret
      exact ⟨ret_bool HN.out.symm, Below.refl _ _⟩
    · refine nisNumber_loop (c :: d :: t) w hl (by simp) (.inl ?_) (isNum_yes (by simp [h]))
      simp; omega

set_option maxHeartbeats 2000000 in
theorem nParse_any (l : List UInt8) (w : World) (hl : l.length ≤ maxLen) :
    Calls Tryz.prog 245 #[.string ⟨l.toArray⟩] w fun e w' => e = .returned (.tuple #[.int .i64 (parseV l), .int .i64 (parseE l)]) ∧ Below w.heap.size w w' := by
  go_enter Tryz.func245, Tryz.ntmps245
  go_wp2_with fail
  refine (nisNumber_any l _ hl).mono ?_
  rintro e w1 ⟨rfl, hb1⟩
  unfold maxLen at hl
  cases hn : isNum l
  · have HN : Hid (isNum l = false) := hn
    go_wp2
    go_ret2
    have h := parse_no HN.out
    exact ⟨ret_pair h.1 h.2, hb1⟩
  · have HN : Hid (isNum l = true) := hn
    have hal := isNum_all hn
    have HAL : Hid (l.all digB = true) := hal
    clear hal
    go_wp2
    go_loopw [4] (fun n wr => ∃ (pos : Nat) (v : Int), pos ≤ l.length ∧ n = .int .i64 v ∧ 0 ≤ v ∧ v ≤ 2147483647 ∧ wr.heap[w1.heap.size]? = some (.stringIter ⟨l.toArray⟩ pos) ∧ Below w.heap.size w wr ∧ sat v (l.drop pos) = sat 0 l) (fun _ wr => l.length - wr.iterPos w1.heap.size)
    case atStart =>
      refine ⟨0, 0, Nat.zero_le _, rfl, by omega, by omega, World.iter_heap w1 _ 0, hb1.alloc hb1.size _, rfl⟩
    case round =>
      obtain ⟨pos, v, hp, rfl, hv0, hv1, hit, hbr, hsat⟩ := hrel
      have HS : Hid (sat v (l.drop pos) = sat 0 l) := hsat
      clear hsat
      have hss : (⟨l.toArray⟩ : ByteArray).size = l.length := rfl
      have hz1 := hb1.size
      by_cases hlt : pos < l.length
      · have hd := all_at HAL.out pos hlt
        obtain ⟨hd1, hd2⟩ := hd
        have HS2 : Hid (sat (min (v * 10 + ((l[pos].toNat : Int) - 48)) 2147483648) (l.drop (pos + 1)) = sat 0 l) := by
          show sat _ _ = _
          rw [← sat_step hlt]; exact HS.out
        have hnx : ∀ ty, (Instr.next (.pointer (some ⟨w1.heap.size, 0, none⟩)) true ty).run Tryz.prog wr = _ := fun ty => Lib.run_next_ascii_at wr w1.heap.size ⟨l.toArray⟩ pos ty hit hlt (by show l[pos].toNat < 128; omega)
        have hit2 := Lib.iterAt_heap wr w1.heap.size ⟨l.toArray⟩ pos (pos + 1) hit
        have hbr2 := Lib.below_iterAt hbr (k := w1.heap.size) hb1.size ⟨l.toArray⟩ (pos + 1)
        by_cases hfar : (2147483647 - ((l[pos].toNat : Int) - 48)) / 10 < v
        · have HF : Hid (sat 0 l = 2147483648) := by
            have e : min (v * 10 + ((l[pos].toNat : Int) - 48)) 2147483648 = 2147483648 := by omega
            have h := HS2.out
            rw [e, sat_top _ (all_drop HAL.out _)] at h
            exact h.symm
          go_wp2
          go_ret2
          have h := parse_far HN.out HF.out
          exact ⟨ret_pair h.1 h.2, hbr2⟩
        · go_wp2
          go_roundw
          case rel =>
            refine ⟨pos + 1, v * 10 + ((l[pos].toNat : Int) - 48), by omega, rfl, by omega, by omega, hit2, hbr2, ?_⟩
            have e : min (v * 10 + ((l[pos].toNat : Int) - 48)) 2147483648 = v * 10 + ((l[pos].toNat : Int) - 48) := by omega
            rw [← HS2.out, e]
          case measure => simp only [World.iterPos, hit, hit2]; omega
      · have hnx : ∀ ty, (Instr.next (.pointer (some ⟨w1.heap.size, 0, none⟩)) true ty).run Tryz.prog wr = _ := fun ty => Lib.run_next_end_at wr w1.heap.size ⟨l.toArray⟩ pos ty hit hlt
        have HF : Hid (sat 0 l = v) := by
          have h := HS.out
          rw [List.drop_eq_nil_of_le (by omega)] at h
          exact h.symm
        go_wp2
        go_ret2
        have h := parse_ok HN.out HF.out hv1
        exact ⟨ret_pair h.1 h.2, hbr⟩
end Go.Proofs.YtgiojkhmkeocfaaGreatDoor

/- strings.IndexAny at the letters a, c, d, and strings.Cut at a comma, for every text. -/
set_option maxRecDepth 20000
namespace Go.Proofs.YtgiojkhmkeocfaaGreatDoor
open Go.RowKit
attribute [local go_sem] no_at ByteArray.extract_mk

theorem contains_three (c : UInt8) : ([97, 99, 100] : List UInt8).contains c = isC c := by
  rw [Bool.eq_iff_iff]
  simp [isC, or_assoc]
/-- where the first of the three letters is, or -1 -/
def wend (l : List UInt8) : Int := Lib.indexAny l [97, 99, 100]
/-- where the first letter is, as the plain reader says -/
theorem wend_sp (l : List UInt8) : (spB isC l = none ∧ wend l = -1) ∨ (∃ k : Nat, ∃ h : k < l.length, wend l = k ∧ spB isC l = some (l.take k, l[k], l.drop (k + 1)) ∧ isC l[k] = true) := by
  induction l with
  | nil => exact .inl ⟨rfl, rfl⟩
  | cons c l ih =>
    unfold wend Lib.indexAny
    rw [contains_three]
    simp only [spB]
    cases hc : isC c with
    | true =>
      right
      refine ⟨0, by simp, by simp, by simp, by simpa using hc⟩
    | false =>
      rw [if_neg (by decide), if_neg (by decide)]
      rcases ih with ⟨h1, h2⟩ | ⟨k, hk, h1, h2, h3⟩
      · left
        unfold wend at h2
        rw [h1, h2]
        exact ⟨rfl, rfl⟩
      · right
        unfold wend at h1
        refine ⟨k + 1, by simpa using hk, ?_, ?_, by simpa using h3⟩
        · rw [h1, if_neg (by simp)]
          omega
        · rw [h2]
          rfl
/-- where a comma is -/
theorem comma_sp (l : List UInt8) : (spB isK l = none ∧ Lib.indexByte l 44 = -1) ∨ (∃ k : Nat, ∃ h : k < l.length, Lib.indexByte l 44 = k ∧ spB isK l = some (l.take k, l[k], l.drop (k + 1))) := by
  induction l with
  | nil => exact .inl ⟨rfl, rfl⟩
  | cons c l ih =>
    unfold Lib.indexByte
    simp only [spB]
    have e : (c == 44) = isK c := rfl
    rw [e]
    cases hc : isK c with
    | true =>
      right
      exact ⟨0, by simp, by simp, by simp⟩
    | false =>
      rw [if_neg (by decide), if_neg (by decide)]
      rcases ih with ⟨h1, h2⟩ | ⟨k, hk, h1, h2⟩
      · left
        rw [h1, h2]
        exact ⟨rfl, rfl⟩
      · right
        refine ⟨k + 1, by simpa using hk, ?_, ?_⟩
        · rw [h1, if_neg (by simp)]
          omega
        · rw [h2]
          rfl
end Go.Proofs.YtgiojkhmkeocfaaGreatDoor

/- The code's numbers and change of layer 12, walked: a range of lines, a line that says a change. -/
set_option maxRecDepth 20000
namespace Go.Proofs.YtgiojkhmkeocfaaGreatDoor
open Go.RowKit
attribute [local go_sem] ByteArray.extract_mk no_at

/-- what is ahead of the first comma, and behind it -/
def kA (l : List UInt8) : List UInt8 := match spB isK l with | none => l | some (x, _, _) => x
def kB (l : List UInt8) : List UInt8 := match spB isK l with | none => [] | some (_, _, y) => y
def kS (l : List UInt8) : Bool := match spB isK l with | none => false | some _ => true
set_option maxHeartbeats 2000000 in
theorem slCut_f (l : List UInt8) (w : World) (hl : l.length ≤ 1099511627776) :
    Calls Tryz.prog 274 #[.string ⟨l.toArray⟩, .string ⟨#[44]⟩] w fun e w' => e = .returned (.tuple #[.string ⟨(kA l).toArray⟩, .string ⟨(kB l).toArray⟩, .bool (kS l)]) ∧ ∃ n, w' = w.drewN n := by
  rcases comma_sp l with ⟨h1, h2⟩ | ⟨k, hk, h1, h2⟩
  · have HA : Hid (kA l = l ∧ kB l = [] ∧ kS l = false) := (by unfold kA kB kS; rw [h1]; exact ⟨rfl, rfl, rfl⟩)
    have HI : Hid (Lib.indexByte l 44 = -1) := h2
    clear h1 h2
    go_enter Tryz.func274, Tryz.ntmps274
    go_wp2_with fail
    refine (Tryz.stringslite_Index_one ⟨l.toArray⟩ 44 w).mono ?_
    rintro e w1 ⟨rfl, rfl⟩
    have e1 : Lib.indexByte (⟨l.toArray⟩ : ByteArray).data.toList 44 = -1 := HI.out
    rw [e1]
    clear e1
    go_wp2
    go_ret3
    obtain ⟨a1, a2, a3⟩ := HA.out
    rw [a1, a2, a3]
    exact ⟨rfl, 0, rfl⟩
  · have HA : Hid (kA l = l.take k ∧ kB l = l.drop (k + 1) ∧ kS l = true) := (by unfold kA kB kS; rw [h2]; exact ⟨rfl, rfl, rfl⟩)
    have HI : Hid (Lib.indexByte l 44 = (k : Int)) := h1
    clear h1 h2
    go_enter Tryz.func274, Tryz.ntmps274
    go_wp2_with fail
    refine (Tryz.stringslite_Index_one ⟨l.toArray⟩ 44 w).mono ?_
    rintro e w1 ⟨rfl, rfl⟩
    have e1 : Lib.indexByte (⟨l.toArray⟩ : ByteArray).data.toList 44 = (k : Int) := HI.out
    rw [e1]
    clear e1
    have i1 : (0 : Int) ≤ (k : Int) := by omega
    have i2 : (k : Int) ≤ (l.length : Int) := by omega
    have i3 : (k : Int) + 1 ≤ (l.length : Int) := by omega
    have i4 : (0 : Int) ≤ (k : Int) + 1 := by omega
    have i5 : IntKind.i64.wrap ((k : Int) + 1) = (k : Int) + 1 := wrap_s (by omega) (by omega)
    have i6 : ((k : Int) + 1).toNat = k + 1 := by omega
    go_wp2_with fail
    go_quiet (fail)
    go_wp2
    go_ret3
    obtain ⟨a1, a2, a3⟩ := HA.out
    rw [a1, a2, a3]
    have k5 : (l.drop (k + 1)).take (l.length - (k + 1)) = l.drop (k + 1) := List.take_of_length_le (by simp)
    exact ⟨by simp [k5], _, rfl⟩
set_option maxHeartbeats 1000000 in
theorem nCut_f (l : List UInt8) (w : World) (hl : l.length ≤ 1099511627776) :
    Calls Tryz.prog 244 #[.string ⟨l.toArray⟩, .string ⟨#[44]⟩] w fun e w' => e = .returned (.tuple #[.string ⟨(kA l).toArray⟩, .string ⟨(kB l).toArray⟩, .bool (kS l)]) ∧ ∃ n, w' = w.drewN n := by
  go_enter Tryz.func244, Tryz.ntmps244
  go_wp2_with fail
  refine (slCut_f l w hl).mono ?_
  rintro e w1 ⟨rfl, n, rfl⟩
  go_wp2
  go_ret3
  exact ⟨rfl, n, rfl⟩
theorem kA_self {s : List UInt8} (h : kS s = false) : kA s = s ∧ spB isK s = none := by
  unfold kS at h
  unfold kA
  cases hq : spB isK s with
  | none => exact ⟨rfl, rfl⟩
  | some q => rw [hq] at h; cases h
theorem kS_some {s : List UInt8} (h : kS s = true) : ∃ c, spB isK s = some (kA s, c, kB s) := by
  unfold kS at h
  unfold kA kB
  cases hq : spB isK s with
  | none => rw [hq] at h; cases h
  | some q => exact ⟨q.2.1, rfl⟩
theorem kA_le (s : List UInt8) : (kA s).length ≤ s.length ∧ (kB s).length ≤ s.length := by
  unfold kA kB
  rcases comma_sp s with ⟨h1, _⟩ | ⟨k, hk, _, h2⟩
  · rw [h1]; simp
  · rw [h2]; simp only [List.length_take, List.length_drop]; omega
end Go.Proofs.YtgiojkhmkeocfaaGreatDoor

/- The context form: how the code reads a side, a range, a hunk; plain mathematics. -/
set_option maxRecDepth 20000
namespace Go.Proofs.YtgiojkhmkeocfaaGreatDoor
open Ln

/- ranges -/
end Go.Proofs.YtgiojkhmkeocfaaGreatDoor

/- The context form: how the code lays sides together, shows signs, reads names; plain mathematics. -/
set_option maxRecDepth 20000
namespace Go.Proofs.YtgiojkhmkeocfaaGreatDoor
open Ln

/- pieces -/
/- names -/
def unC (s : List UInt8) : List UInt8 := if s = devN then [] else if s.head? = some 34 then Q.uqa s else s
theorem un_code {s n : List UInt8} (h : unN s = some n) : unC s = n := by
  unfold unN at h
  unfold unC
  split at h
  · rename_i h1
    rw [if_pos h1]
    cases h
    rfl
  · rename_i h1
    rw [if_neg h1]
    split at h
    · rename_i h2
      rw [if_pos h2]
      unfold Q.uqa
      split at h
      · rename_i h3
        rw [h3]
        cases h
        rfl
      · cases h
    · rename_i h2
      rw [if_neg h2]
      cases h
      rfl
def nokC (s : List UInt8) : Bool := decide ((unC s).length ≤ 64) && (nameT (unC s) == s)
theorem named_code (s : List UInt8) : namedP s = if nokC s = true then some (unC s) else none := by
  by_cases h : nokC s = true
  · rw [if_pos h]
    unfold nokC at h
    rw [Bool.and_eq_true, decide_eq_true_eq, beq_iff_eq] at h
    exact (named_iff s (unC s)).2 ⟨h.2.symm, h.1⟩
  · rw [if_neg h]
    cases hn : namedP s with
    | none => rfl
    | some n =>
      exfalso
      obtain ⟨h1, h2⟩ := (named_iff s n).1 hn
      have h3 : unC s = n := by rw [h1]; exact un_code (name_un n)
      apply h
      unfold nokC
      rw [h3, Bool.and_eq_true, decide_eq_true_eq, beq_iff_eq]
      exact ⟨h2, h1.symm⟩
end Go.Proofs.YtgiojkhmkeocfaaGreatDoor

/- The code's reader of layer 15, walked: what is wrong is thrown; the next line, bare; the end of a side; stars. -/
set_option maxRecDepth 20000
namespace Go.Proofs.YtgiojkhmkeocfaaGreatDoor
open Go.RowKit
attribute [local go_sem] ByteArray.extract_mk no_at

/-- a reader: its lines, how many are read -/
def ckO (vL : Value) (p : Int) : Obj := .cells #[vL, .int .i64 p] 105
def Ck (u : World) (R : Nat) (vL : Value) (p : Int) : Prop := u.heap[R]? = some (ckO vL p)
section
variable {u u' : World} {R : Nat} {vL : Value} {p : Int}
theorem Ck.cells (q : Ck u R vL p) : u.cell? ⟨R, 0, none⟩ = some vL ∧ u.cell? ⟨R, 1, none⟩ = some (.int .i64 p) := by
  unfold Ck ckO at q
  refine ⟨?_, ?_⟩ <;> rw [Lib.cell_of_heap q] <;> rfl
theorem Ck.frozen (q : Ck u R vL p) (j : Nat) : u.frozen? ⟨R, j, none⟩ = false := Lib.frozen_of_heap q j
theorem Ck.lt (q : Ck u R vL p) : R < u.heap.size := (Array.getElem?_eq_some_iff.1 q).1
theorem Ck.dN (q : Ck u R vL p) (n : Nat) : Ck (u.drewN n) R vL p := q
theorem Ck.at (q : Ck u R vL p) (p' : Int) : Ck (u.setCell ⟨R, 1, none⟩ (.int .i64 p')) R vL p' := heap_setCell_same u R 1 _ _ (.int .i64 p') q
theorem Ck.low (q : Ck u R vL p) (hg : Below u.heap.size u u') : Ck u' R vL p := (hg.block R q.lt).trans q
theorem Ck.keep (q : Ck u R vL p) {g : Option Nat} (hg : u.grownBy u' g) (hr : some R ≠ g) : Ck u' R vL p := (hg.block R q.lt hr).trans q
end
theorem trim_snoc (s : List UInt8) : Lib.trimSuffix (s ++ [10]) [10] = s := by
  unfold Lib.trimSuffix
  rw [suf_feed, if_pos (fd_snoc s)]
  simp
end Go.Proofs.YtgiojkhmkeocfaaGreatDoor

/- The code's names, numbers, stars and signs of a side (layer 15), walked. -/
set_option maxRecDepth 20000
namespace Go.Proofs.YtgiojkhmkeocfaaGreatDoor
open Go.RowKit Go.Proofs.YtgiojkhmkeocfaaGreatDoor.Tx
attribute [local go_sem] ByteArray.extract_mk no_at

theorem body_len (n : Nat) : ∀ (t a b : List UInt8), t.length ≤ n → Q.body t = some (a, b) → a.length ≤ t.length := by
  induction n with
  | zero =>
    intro t a b h hb
    have : t = [] := List.eq_nil_of_length_eq_zero (by omega)
    subst this
    cases hb
  | succ n ih =>
    intro t a b h hb
    cases t with
    | nil => cases hb
    | cons c t =>
      simp only [List.length_cons] at h ⊢
      rw [Q.body.eq_def] at hb
      simp only at hb
      split at hb
      · cases hb; simp
      · split at hb
        · obtain ⟨p, hp, he⟩ := Option.map_eq_some_iff.1 hb
          cases he
          have := ih t p.1 p.2 (by omega) hp
          simp only [List.length_cons]
          omega
        · split at hb
          · split at hb
            · rename_i x y t'
              simp only [List.length_cons] at h ⊢
              split at hb
              · obtain ⟨p, hp, he⟩ := Option.map_eq_some_iff.1 hb
                cases he
                have := ih t' p.1 p.2 (by omega) hp
                simp only [List.length_cons]
                omega
              · cases hb
            · cases hb
          · cases hb
theorem uqa_len (s : List UInt8) : (Q.uqa s).length ≤ s.length := by
  cases hu : Q.unquote s with
  | none => rw [(Q.uq_none hu).1]; simp
  | some p =>
    obtain ⟨a, b⟩ := p
    rw [(Q.uq_some hu).1]
    cases s with
    | nil => cases hu
    | cons c t =>
      simp only [Q.unquote] at hu
      split at hu
      · have := body_len t.length t a b (Nat.le_refl _) hu
        simp only [List.length_cons]
        omega
      · cases hu
theorem head_pre (s : List UInt8) : Lib.hasPrefix s [34] = (s.head? == some 34) := by
  cases s with
  | nil => rfl
  | cons c t =>
    show ((34 == c) && true) = (some c == some 34)
    rw [Bool.and_true, Bool.eq_iff_iff, beq_iff_eq, beq_iff_eq, Option.some.injEq]
    exact ⟨fun h => h.symm, fun h => h.symm⟩
/-- the name that a text stands for, or why it stands for none -/
def pnV (r : Bool) (n : List UInt8) : Value := if r = true then .tuple #[.string ⟨n.toArray⟩, .int .i64 0] else .tuple #[.string ⟨#[]⟩, .int .i64 253]
set_option maxHeartbeats 4000000 in
set_option maxRecDepth 40000 in
theorem cnamed_f (s : List UInt8) (w : World) (hl : s.length ≤ 1099511627776) (n : List UInt8) (r : Bool) (HN : Hid (unC s = n)) (HR : Hid (nokC s = r)) :
    Calls Tryz.prog 146 #[.string ⟨s.toArray⟩] w fun e w' => e = .returned (pnV r n) ∧ Below w.heap.size w w' := by
  have hnl : n.length ≤ 1099511627776 := (by
    rw [← HN.out]
    unfold unC
    split
    · simp
    · split
      · have := uqa_len s
        omega
      · exact hl)
  obtain ⟨T, hT⟩ : ∃ T, nameT n = T := ⟨_, rfl⟩
  have hnm := fun u => cname_f n u hnl T hT
  have HF : Hid ((decide (n.length ≤ 64) && (T == s)) = r) := (by
    have h := HR.out
    unfold nokC at h
    rw [HN.out, hT] at h
    exact h)
  have hhp : ∀ (b : Bool), (s.head? == some 34) = b → ∀ u, Calls Tryz.prog 149 #[.string ⟨s.toArray⟩, .string ⟨#[34]⟩] u fun e w' => e = .returned (.bool b) ∧ w' = u := (by
    intro b hb u
    refine (Tryz.strings_HasPrefix ⟨s.toArray⟩ ⟨#[34]⟩ u).mono ?_
    rintro e w' ⟨rfl, rfl⟩
    have e1 : Lib.hasPrefix (⟨s.toArray⟩ : ByteArray).data.toList (⟨#[34]⟩ : ByteArray).data.toList = b := (head_pre s).trans hb
    rw [e1]
    exact ⟨rfl, rfl⟩)
  have huq := fun u => Unquote_any s u hl
  clear hT HR
  go_enter Tryz.func146, Tryz.ntmps146
  go_upto_block 0 with fail
  go_cut [4] (fun nv wz => nv = .string ⟨n.toArray⟩ ∧ Below w.heap.size w wz)
  case first =>
    by_cases h1 : s = devN
    · have e1 : (s == [47, 100, 101, 118, 47, 110, 117, 108, 108]) = true := (by rw [beq_iff_eq]; exact h1)
      have HE : Hid ([] = n) := (by have h := HN.out; unfold unC at h; rw [if_pos h1] at h; exact h)
      clear h1
      go_wp2
      go_meet
      case rel => exact ⟨by rw [← HE.out], Below.refl _ _⟩
    · have e1 : (s == [47, 100, 101, 118, 47, 110, 117, 108, 108]) = false := beq_eq_false_iff_ne.2 h1
      by_cases h2 : s.head? = some 34
      · have HE : Hid (Q.uqa s = n) := (by have h := HN.out; unfold unC at h; rw [if_neg h1, if_pos h2] at h; exact h)
        have hc := hhp true (beq_iff_eq.2 h2)
        clear h1 h2
        go_wp2_with fail
        refine (hc _).mono ?_
        rintro e w1 ⟨rfl, rfl⟩
        go_wp2_with fail
        refine (huq _).mono ?_
        rintro e w2 ⟨rfl, hB2⟩
        go_wp2
        go_meet
        case rel => exact ⟨by rw [← HE.out], hB2⟩
      · have HE : Hid (s = n) := (by have h := HN.out; unfold unC at h; rw [if_neg h1, if_neg h2] at h; exact h)
        have hc := hhp false (beq_eq_false_iff_ne.2 h2)
        clear h1 h2
        go_wp2_with fail
        refine (hc _).mono ?_
        rintro e w1 ⟨rfl, rfl⟩
        go_wp2
        go_meet
        case rel => exact ⟨by rw [← HE.out], Below.refl _ _⟩
  case rest =>
  obtain ⟨rfl, hBc⟩ := hcut
  by_cases h3 : n.length ≤ 64
  · have i1 : ¬ (64 : Int) < (n.length : Int) := by omega
    cases h4 : T == s with
    | true =>
      have HE : Hid (true = r) := (by have h := HF.out; rw [decide_eq_true h3, Bool.true_and, h4] at h; exact h)
      have h5 : (T != s) = false := (by unfold bne; rw [h4]; rfl)
      clear HF
      go_wp2_with fail
      refine (hnm _).mono ?_
      rintro e w2 ⟨rfl, hB2⟩
      go_wp2
      go_ret2
      exact ⟨by rw [← HE.out]; rfl, hBc.trans (hB2.mono hBc.size)⟩
    | false =>
      have HE : Hid (false = r) := (by have h := HF.out; rw [decide_eq_true h3, Bool.true_and, h4] at h; exact h)
      have h5 : (T != s) = true := (by unfold bne; rw [h4]; rfl)
      clear HF
      go_wp2_with fail
      refine (hnm _).mono ?_
      rintro e w2 ⟨rfl, hB2⟩
      go_wp2
      go_ret2
      exact ⟨by rw [← HE.out]; rfl, hBc.trans (hB2.mono hBc.size)⟩
  · have HE : Hid (false = r) := (by have h := HF.out; rw [decide_eq_false h3, Bool.false_and] at h; exact h)
    have i1 : (64 : Int) < (n.length : Int) := by omega
    clear HF
    go_wp2
    go_ret2
    exact ⟨by rw [← HE.out]; rfl, hBc⟩
/-- what a name leaves behind -/
def NmX (R : Nat) (X : Except (Nat × Int) (List UInt8 × List (List UInt8))) (w : World) (x : Ending) (w' : World) : Prop :=
  match X with
  | .error (a, e) => Thr (a : Int) e x w' ∧ w.grownBy w' (some R)
  | .ok (s, _) => x = .returned (.string ⟨s.toArray⟩) ∧ Below w.heap.size w w'
end Go.Proofs.YtgiojkhmkeocfaaGreatDoor

/- The code's numbers, stars and signs of a side (layer 15), walked. -/
set_option maxRecDepth 20000
namespace Go.Proofs.YtgiojkhmkeocfaaGreatDoor
open Go.RowKit
attribute [local go_sem] ByteArray.extract_mk no_at

end Go.Proofs.YtgiojkhmkeocfaaGreatDoor

/- slices.Clone and slices.DeleteFunc at lines with signs, and the code's kept of layer 15, walked. -/
set_option maxRecDepth 20000
namespace Go.Proofs.YtgiojkhmkeocfaaGreatDoor
open Go.RowKit

/-- a row of lines in a block of its own -/
structure Mrow (w : World) (g n cap : Nat) (r : List Mk) : Prop where
  ex : ∃ cur : Array Value, w.heap[g]? = some (.cells cur 103 (0, 0)) ∧ cur.size = cap * 2 ∧ cur.toList.take (n * 2) = mkcells r
  le : n ≤ cap
  len : r.length = n
theorem mkcells_set (r : List Mk) : ∀ (i : Nat) (m : Mk), i < r.length → ((mkcells r).set (i * 2) (.int .u8 m.sg)).set (i * 2 + 1) (.string ⟨m.tx.toArray⟩) = mkcells (r.set i m) := by
  induction r with
  | nil => intro i m h; simp at h
  | cons x r ih =>
    intro i m h
    have e1 : mkcells (x :: r) = .int .u8 x.sg :: .string ⟨x.tx.toArray⟩ :: mkcells r := rfl
    cases i with
    | zero => rw [e1]; rfl
    | succ i =>
      have e2 : (i + 1) * 2 = i * 2 + 1 + 1 := by omega
      have e3 : mkcells ((x :: r).set (i + 1) m) = .int .u8 x.sg :: .string ⟨x.tx.toArray⟩ :: mkcells (r.set i m) := rfl
      rw [e1, e2, e3]
      simp only [List.set_cons_succ]
      rw [ih i m (by simpa using h)]
section
variable {w u : World} {g n cap : Nat} {r : List Mk}
theorem Mrow.low (h : Mrow w g n cap r) (hb : Below w.heap.size w u) : Mrow u g n cap r := by
  obtain ⟨⟨cur, h1, h2, h3⟩, hl, hn⟩ := h
  exact ⟨⟨cur, (hb.block g (Array.getElem?_eq_some_iff.1 h1).1).trans h1, h2, h3⟩, hl, hn⟩
theorem Mrow.lt (h : Mrow w g n cap r) : g < w.heap.size := by
  obtain ⟨⟨cur, h1, _⟩, _⟩ := h
  exact (Array.getElem?_eq_some_iff.1 h1).1
theorem Mrow.holds (h : Mrow w g n cap r) (k : Nat) (hk : k ≤ n) : HMk w (.slice (some ⟨g, 0, none⟩) k cap) (r.take k) := by
  obtain ⟨⟨cur, h1, h2, h3⟩, hl, hn⟩ := h
  have hlk : (r.take k).length = k := by rw [List.length_take]; omega
  unfold HMk
  rw [hlk]
  refine .inr ⟨⟨g, 0, none⟩, cap, rfl, by omega, fun j v hj => ?_⟩
  rw [← mkcells_take, ← h3, List.take_take] at hj
  have hjl : j < k * 2 := by
    have := (List.getElem?_eq_some_iff.1 hj).1
    rw [List.length_take] at this
    omega
  rw [List.getElem?_take_of_lt (by omega)] at hj
  rw [add_none, Nat.zero_add, Lib.cell_of_heap h1]
  simpa using hj
theorem Mrow.store (h : Mrow w g n cap r) (i : Nat) (hi : i < n) (m : Mk) : Mrow ((w.setCell ⟨g, i * 2, none⟩ (.int .u8 m.sg)).setCell ⟨g, i * 2 + 1, none⟩ (.string ⟨m.tx.toArray⟩)) g n cap (r.set i m) := by
  obtain ⟨⟨cur, h1, h2, h3⟩, hl, hn⟩ := h
  have s1 := heap_setCell_same w g (i * 2) cur _ (.int .u8 m.sg) h1
  have s2 := heap_setCell_same _ g (i * 2 + 1) _ _ (.string ⟨m.tx.toArray⟩) s1
  refine ⟨⟨_, s2, by simpa using h2, ?_⟩, hl, by simpa using hn⟩
  have e1 : ((cur.setIfInBounds (i * 2) (.int .u8 m.sg)).setIfInBounds (i * 2 + 1) (.string ⟨m.tx.toArray⟩)).toList = (cur.toList.set (i * 2) (.int .u8 m.sg)).set (i * 2 + 1) (.string ⟨m.tx.toArray⟩) := by simp
  rw [e1, List.take_set, List.take_set, h3, mkcells_set r i m (by omega)]
theorem Mrow.cells (h : Mrow w g n cap r) (i : Nat) (hi : i < n) : ∃ x y, w.cell? ⟨g, i * 2, none⟩ = some (.int .u8 x) ∧ w.cell? ⟨g, i * 2 + 1, none⟩ = some (.string y) := by
  have hh := h.holds n (Nat.le_refl _)
  have hl := h.len
  obtain ⟨b, off, he, hb, hcl⟩ := HMk.at hh (by rw [List.length_take]; omega)
  cases he
  have hc := hcl i (by rw [List.length_take]; omega)
  rw [Nat.zero_add] at hc
  exact ⟨_, _, hc.1, hc.2⟩
theorem Mrow.frozen (h : Mrow w g n cap r) (j : Nat) : w.frozen? ⟨g, j, none⟩ = false := by
  obtain ⟨⟨cur, h1, _⟩, _⟩ := h
  exact Lib.frozen_of_heap h1 j
end
end Go.Proofs.YtgiojkhmkeocfaaGreatDoor

/- The code's kept, all, matched, counted of layer 15, walked. -/
set_option maxRecDepth 20000
namespace Go.Proofs.YtgiojkhmkeocfaaGreatDoor
open Go.RowKit

/-- a list of lines, nil if it is empty -/
structure Nl (w : World) (v : Value) (l : List Mk) : Prop where
  hold : HMk w v l
  nil : l = [] → v = .slice none 0 0
theorem Nl.keep {w u : World} {v : Value} {l : List Mk} (h : Nl w v l) (hb : Below w.heap.size w u) : Nl u v l := ⟨h.hold.keep hb (Nat.le_refl _), h.nil⟩
end Go.Proofs.YtgiojkhmkeocfaaGreatDoor

/- The code's laid of layer 15, walked: old and new lines are laid into one list by a closure. -/
set_option maxRecDepth 20000
namespace Go.Proofs.YtgiojkhmkeocfaaGreatDoor
open Go.RowKit

/-- a list in a box that grows -/
structure Ly (W : World) (X : Nat) (lv : Value) (acc : List Mk) (u : World) : Prop where
  low : Below W.heap.size W u
  box : u.heap[X]? = some (.cells #[lv] 57)
  own : u.ownsRow W.heap.size 103 2 lv acc.length (mkcells acc)
  ge : W.heap.size ≤ X
section
variable {W u u' : World} {X : Nat} {lv : Value} {acc : List Mk}
theorem Ly.keep (h : Ly W X lv acc u) (hb : Below u.heap.size u u') : Ly W X lv acc u' := ⟨h.low.trans (hb.mono h.low.size), (hb.block X (Array.getElem?_eq_some_iff.1 h.box).1).trans h.box, owns_keep h.own hb, h.ge⟩
theorem Ly.cell (h : Ly W X lv acc u) : u.cell? ⟨X, 0, none⟩ = some lv := by rw [Lib.cell_of_heap h.box]; rfl
theorem Ly.frozen (h : Ly W X lv acc u) : u.frozen? ⟨X, 0, none⟩ = false := Lib.frozen_of_heap h.box 0
theorem own_box2 {B : Nat} {e t : TypeId} {s : Nat} {v : Value} {n k : Nat} {xs : List Value} {cs : Array Value} {fr : Nat × Nat} (h : u.ownsRow B e s v n xs) (hb : u.heap[k]? = some (.cells cs t fr)) (he : e ≠ t) : v.ownBlock ≠ some k := by
  intro hg
  rcases h.2 with ⟨rfl, _⟩ | ⟨g, cap, cur, rfl, _, hg2, _⟩
  · cases hg
  · simp [Value.ownBlock] at hg
    subst hg
    rw [hb] at hg2
    simp at hg2
    exact he hg2.2.1.symm
/-- one line more -/
theorem Ly.more (h : Ly W X lv acc u) {m : Mk} {lv' : Value} {n : Nat} (hg : u.grownBy u' lv.ownBlock) (ho : u'.ownsRow W.heap.size 103 2 lv' n (mkcells (acc ++ [m]))) (hn : n = (acc ++ [m]).length) : Ly W X lv' (acc ++ [m]) (u'.setCell ⟨X, 0, none⟩ lv') ∧ u'.cell? ⟨X, 0, none⟩ = some lv ∧ u'.frozen? ⟨X, 0, none⟩ = false := by
  subst hn
  have hb : u'.heap[X]? = some (.cells #[lv] 57) := (hg.block X (Array.getElem?_eq_some_iff.1 h.box).1 (fun e => own_box2 h.own h.box (by decide) e.symm)).trans h.box
  have hlow : Below W.heap.size W u' := h.low.grown hg h.low.size (fun j hj => owns_ge h.own hj)
  refine ⟨⟨hlow.setCell h.ge _, heap_setCell_same u' X 0 _ _ lv' hb, ?_, h.ge⟩, by rw [Lib.cell_of_heap hb]; rfl, Lib.frozen_of_heap hb 0⟩
  have hg2 := grown_set u' X 0 lv'
  refine ⟨ho.1, ?_⟩
  rcases ho.2 with q | ⟨g, cap, cur, rfl, q2, q3, q4⟩
  · exact .inl q
  · refine .inr ⟨g, cap, cur, rfl, q2, ?_, q4⟩
    rw [hg2.block g (Array.getElem?_eq_some_iff.1 q3).1 (fun e => by
      cases e
      rw [hb] at q3
      simp at q3)]
    exact q3
end
end Go.Proofs.YtgiojkhmkeocfaaGreatDoor

/- The code's checkRanges of layer 15, walked. -/
set_option maxRecDepth 20000
namespace Go.Proofs.YtgiojkhmkeocfaaGreatDoor
open Go.RowKit

end Go.Proofs.YtgiojkhmkeocfaaGreatDoor

/- The code's reader of layer 15, walked: a side's range and lines; what is known of them. -/
set_option maxRecDepth 20000
namespace Go.Proofs.YtgiojkhmkeocfaaGreatDoor
open Go.RowKit

/-- a side's box, its lines, and the reader -/
structure Sxc (w : World) (R S : Nat) (vL : Value) (x a b : Int) (v : Value) (m : List Mk) (p : Nat) (u : World) : Prop where
  gr : w.grownBy u (some R)
  box : u.heap[S]? = some (.cells #[.int .i64 x, .int .i64 a, .int .i64 b, v] 208)
  own : u.ownsRow w.heap.size 103 2 v m.length (mkcells m)
  ck : Ck u R vL (p : Int)
  ge : w.heap.size ≤ S
  rl : R < w.heap.size
  nil : m = [] → v = .slice none 0 0
section
variable {w u u' : World} {R S : Nat} {vL v : Value} {x a b : Int} {m : List Mk} {p : Nat}
theorem Sxc.keep (h : Sxc w R S vL x a b v m p u) (hb : Below u.heap.size u u') : Sxc w R S vL x a b v m p u' := ⟨grown_two h.gr (low_grown hb _), (hb.block S (Array.getElem?_eq_some_iff.1 h.box).1).trans h.box, owns_keep h.own hb, h.ck.low hb, h.ge, h.rl, h.nil⟩
theorem Sxc.cells (h : Sxc w R S vL x a b v m p u) : u.cell? ⟨S, 0, none⟩ = some (.int .i64 x) ∧ u.cell? ⟨S, 1, none⟩ = some (.int .i64 a) ∧ u.cell? ⟨S, 2, none⟩ = some (.int .i64 b) ∧ u.cell? ⟨S, 3, none⟩ = some v := by
  refine ⟨?_, ?_, ?_, ?_⟩ <;> rw [Lib.cell_of_heap h.box] <;> rfl
theorem Sxc.frozen (h : Sxc w R S vL x a b v m p u) (j : Nat) : u.frozen? ⟨S, j, none⟩ = false := Lib.frozen_of_heap h.box j
theorem Sxc.ne (h : Sxc w R S vL x a b v m p u) : R ≠ S := by have h1 := h.ge; have h2 := h.rl; omega
/-- the reader goes on -/
theorem Sxc.next (h : Sxc w R S vL x a b v m p u) : Sxc w R S vL x a b v m (p + 1) (u.setCell ⟨R, 1, none⟩ (.int .i64 ((p : Int) + 1))) := by
  have hg := grown_set u R 1 (.int .i64 ((p : Int) + 1))
  exact ⟨grown_two h.gr hg, (hg.block S (Array.getElem?_eq_some_iff.1 h.box).1 (fun e => h.ne (Option.some.inj e).symm)).trans h.box, owns_fr h.own hg h.rl, by have := h.ck.at ((p : Int) + 1); simpa using this, h.ge, h.rl, h.nil⟩
/-- one line more -/
theorem Sxc.more (h : Sxc w R S vL x a b v m p u) {y : Mk} {v' : Value} {n : Nat} (hg : u.grownBy u' v.ownBlock) (ho : u'.ownsRow w.heap.size 103 2 v' n (mkcells (m ++ [y]))) (hn : n = (m ++ [y]).length) : Sxc w R S vL x a b v' (m ++ [y]) p (u'.setCell ⟨S, 3, none⟩ v') ∧ u'.heap[S]? = some (.cells #[.int .i64 x, .int .i64 a, .int .i64 b, v] 208) := by
  subst hn
  have hb : u'.heap[S]? = some (.cells #[.int .i64 x, .int .i64 a, .int .i64 b, v] 208) := (hg.block S (Array.getElem?_eq_some_iff.1 h.box).1 (fun e => own_box2 h.own h.box (by decide) e.symm)).trans h.box
  have hgR : w.grownBy u' (some R) := ⟨hg.os.trans h.gr.os, hg.tape.trans h.gr.tape, hg.output.trans h.gr.output, Nat.le_trans h.gr.size hg.size, fun k h1 h2 => (hg.block k (Nat.lt_of_lt_of_le h1 h.gr.size) (fun e => by have := owns_ge h.own e.symm; omega)).trans (h.gr.block k h1 h2)⟩
  have hg2 := grown_set u' S 3 v'
  have hck : Ck u' R vL (p : Int) := h.ck.keep hg (fun e => by have := owns_ge h.own e.symm; have := h.rl; omega)
  refine ⟨⟨⟨hg2.os.trans hgR.os, hg2.tape.trans hgR.tape, hg2.output.trans hgR.output, Nat.le_trans hgR.size hg2.size, fun k h1 h2 => (hg2.block k (Nat.lt_of_lt_of_le h1 hgR.size) (fun e => by cases e; have := h.ge; omega)).trans (hgR.block k h1 h2)⟩, heap_setCell_same u' S 3 _ _ v' hb, ?_, hck.keep hg2 (fun e => h.ne (Option.some.inj e)), h.ge, h.rl, fun e => by simp at e⟩, hb⟩
  refine ⟨ho.1, ?_⟩
  rcases ho.2 with q | ⟨g, cap, cur, rfl, q2, q3, q4⟩
  · exact .inl q
  · refine .inr ⟨g, cap, cur, rfl, q2, ?_, q4⟩
    rw [hg2.block g (Array.getElem?_eq_some_iff.1 q3).1 (fun e => by
      cases e
      rw [hb] at q3
      simp at q3)]
    exact q3
end
end Go.Proofs.YtgiojkhmkeocfaaGreatDoor

/- The code's reader of layer 15, walked: a side. -/
set_option maxRecDepth 20000
namespace Go.Proofs.YtgiojkhmkeocfaaGreatDoor
open Go.RowKit
attribute [local go_sem] ByteArray.extract_mk no_at

theorem grown_base {w u : World} {R : Nat} (O : Obj) (h : (w.alloc O).grownBy u (some R)) : w.grownBy u (some R) := grown_two (World.grownBy_alloc w O _) h
theorem Sxc.cut {w u : World} {R S : Nat} {vL v : Value} {x a b : Int} {m m' : List Mk} {p : Nat} (h : Sxc w R S vL x a b v m p u) {g j : Nat} {z : Value} (hv : v.ownBlock = some g) (ho : (u.setCell ⟨g, j, none⟩ z).ownsRow w.heap.size 103 2 v m'.length (mkcells m')) (hn : m' ≠ []) : Sxc w R S vL x a b v m' p (u.setCell ⟨g, j, none⟩ z) := by
  have hg := grown_set u g j z
  have hge := owns_ge h.own hv
  have hSg : some S ≠ some g := fun e => own_box2 h.own h.box (by decide) (hv.trans e.symm)
  refine ⟨grown_new h.gr hge j z, (hg.block S (Array.getElem?_eq_some_iff.1 h.box).1 hSg).trans h.box, ho, h.ck.keep hg (fun e => by cases e; have := h.rl; omega), h.ge, h.rl, fun e => absurd e hn⟩
end Go.Proofs.YtgiojkhmkeocfaaGreatDoor

/- The code's reader of layer 15: a hunk as the code reads it; the boxes of its sides. -/
set_option maxRecDepth 20000
namespace Go.Proofs.YtgiojkhmkeocfaaGreatDoor
open Go.RowKit

end Go.Proofs.YtgiojkhmkeocfaaGreatDoor

/- The code's reader of layer 15, walked: a hunk. -/
set_option maxRecDepth 20000
namespace Go.Proofs.YtgiojkhmkeocfaaGreatDoor
open Go.RowKit

/-- both sides' boxes, their lines, and the reader -/
structure Hz (wa : World) (R S1 S2 : Nat) (vL : Value) (x1 a1 b1 : Int) (v1 : Value) (l1 : List Mk) (x2 a2 b2 : Int) (v2 : Value) (l2 : List Mk) (p : Nat) (u : World) : Prop where
  gr : wa.grownBy u (some R)
  o1 : u.heap[S1]? = some (.cells #[.int .i64 x1, .int .i64 a1, .int .i64 b1, v1] 208)
  o2 : u.heap[S2]? = some (.cells #[.int .i64 x2, .int .i64 a2, .int .i64 b2, v2] 208)
  n1 : HMk u v1 l1
  n2 : HMk u v2 l2
  ck : Ck u R vL (p : Int)
  g1 : wa.heap.size ≤ S1
  g2 : wa.heap.size ≤ S2
  ne : S1 ≠ S2
  rl : R < wa.heap.size
section
variable {wa u u' : World} {R S1 S2 : Nat} {vL v1 v2 : Value} {x1 a1 b1 x2 a2 b2 : Int} {l1 l2 : List Mk} {p : Nat}
theorem Hz.keep (h : Hz wa R S1 S2 vL x1 a1 b1 v1 l1 x2 a2 b2 v2 l2 p u) (hb : Below u.heap.size u u') : Hz wa R S1 S2 vL x1 a1 b1 v1 l1 x2 a2 b2 v2 l2 p u' := ⟨grown_two h.gr (low_grown hb _), (hb.block S1 (Array.getElem?_eq_some_iff.1 h.o1).1).trans h.o1, (hb.block S2 (Array.getElem?_eq_some_iff.1 h.o2).1).trans h.o2, h.n1.keep hb (Nat.le_refl _), h.n2.keep hb (Nat.le_refl _), h.ck.low hb, h.g1, h.g2, h.ne, h.rl⟩
end
def zhk : Hk := ⟨0, 0, 0, 0, []⟩
def five (u : World) (b : Nat) (A AN B BN : Int) (z : Value) : World := ((((u.setCell ⟨b, 0, none⟩ (.int .i64 A)).setCell ⟨b, 1, none⟩ (.int .i64 AN)).setCell ⟨b, 2, none⟩ (.int .i64 B)).setCell ⟨b, 3, none⟩ (.int .i64 BN)).setCell ⟨b, 4, none⟩ z
end Go.Proofs.YtgiojkhmkeocfaaGreatDoor

/- The code's reader of layer 15: a patch as the code reads it; its box and the rows of its hunks. -/
set_option maxRecDepth 20000
namespace Go.Proofs.YtgiojkhmkeocfaaGreatDoor
open Go.RowKit

/-- hunks ahead of what is left -/
def thenX (l : List Hk) (X : Except (Nat × Int) (List Hk × Nat × List (List UInt8))) : Except (Nat × Int) (List Hk × Nat × List (List UInt8)) :=
  match X with
  | .error e => .error e
  | .ok (m, p, r) => .ok (l ++ m, p, r)
theorem thenX_nil (X : Except (Nat × Int) (List Hk × Nat × List (List UInt8))) : thenX [] X = X := by
  rcases X with e | ⟨l, p, r⟩ <;> rfl
theorem nam_drop {hd : List UInt8} {p : Nat} {L r : List (List UInt8)} {n : List UInt8} (h : namP hd p (L.drop p) = .ok (n, r)) : r = L.drop (p + 1) ∧ p < L.length := by
  unfold namP at h
  cases hn : nxt p (L.drop p) with
  | error x => rw [hn] at h; cases h
  | ok z =>
    obtain ⟨s, r0⟩ := z
    rw [hn] at h
    obtain ⟨h1, h2, _⟩ := nxt_rest hn
    dsimp only at h
    split at h
    · split at h
      · cases h
      · injection h with h
        injection h with e1 e2
        exact ⟨by rw [← e2, h1], h2⟩
    · cases h

/-- a patch's box, the rows of its hunks, and the reader -/
structure Pzc (wb : World) (R S : Nat) (vL : Value) (n1 n2 : List UInt8) (hv : Value) (P : List (Hk × Value)) (p : Nat) (u : World) : Prop where
  gr : wb.grownBy u (some R)
  box : u.heap[S]? = some (.cells #[.string ⟨n1.toArray⟩, .string ⟨n2.toArray⟩, hv] 55)
  own : u.ownsRow wb.heap.size 59 5 hv P.length (hkcells P)
  ins : ∀ x ∈ P, u.ownsRow wb.heap.size 103 2 x.2 x.1.ls.length (mkcells x.1.ls)
  ck : Ck u R vL (p : Int)
  ge : wb.heap.size ≤ S
  rl : R < wb.heap.size
section
variable {wb u u' : World} {R S : Nat} {vL hv : Value} {n1 n2 : List UInt8} {P : List (Hk × Value)} {p p' : Nat}
theorem Pzc.keep (h : Pzc wb R S vL n1 n2 hv P p u) (hb : Below u.heap.size u u') : Pzc wb R S vL n1 n2 hv P p u' := ⟨grown_two h.gr (low_grown hb _), (hb.block S (Array.getElem?_eq_some_iff.1 h.box).1).trans h.box, owns_keep h.own hb, fun x hx => owns_keep (h.ins x hx) hb, h.ck.low hb, h.ge, h.rl⟩
theorem Pzc.ne (h : Pzc wb R S vL n1 n2 hv P p u) : R ≠ S := by have h1 := h.ge; have h2 := h.rl; omega
/-- a call that moves the reader -/
theorem Pzc.call (h : Pzc wb R S vL n1 n2 hv P p u) (hg : u.grownBy u' (some R)) (q : Ck u' R vL (p' : Int)) : Pzc wb R S vL n1 n2 hv P p' u' := ⟨grown_two h.gr hg, (hg.block S (Array.getElem?_eq_some_iff.1 h.box).1 (fun e => h.ne (Option.some.inj e).symm)).trans h.box, owns_fr h.own hg h.rl, fun x hx => owns_fr (h.ins x hx) hg h.rl, q, h.ge, h.rl⟩
theorem Pzc.next (h : Pzc wb R S vL n1 n2 hv P p u) : Pzc wb R S vL n1 n2 hv P (p + 1) (u.setCell ⟨R, 1, none⟩ (.int .i64 ((p : Int) + 1))) := h.call (grown_set u R 1 _) (by have := h.ck.at ((p : Int) + 1); simpa using this)
theorem Pzc.cells (h : Pzc wb R S vL n1 n2 hv P p u) : u.cell? ⟨S, 0, none⟩ = some (.string ⟨n1.toArray⟩) ∧ u.cell? ⟨S, 1, none⟩ = some (.string ⟨n2.toArray⟩) ∧ u.cell? ⟨S, 2, none⟩ = some hv := by
  refine ⟨?_, ?_, ?_⟩ <;> rw [Lib.cell_of_heap h.box] <;> rfl
theorem Pzc.frozen (h : Pzc wb R S vL n1 n2 hv P p u) (j : Nat) : u.frozen? ⟨S, j, none⟩ = false := Lib.frozen_of_heap h.box j
/-- a cell of the box is written -/
theorem Pzc.put (h : Pzc wb R S vL n1 n2 hv P p u) (j : Nat) (z : Value) {m1 m2 : List UInt8} {hv' : Value} (hc : #[Value.string ⟨n1.toArray⟩, .string ⟨n2.toArray⟩, hv].setIfInBounds j z = #[.string ⟨m1.toArray⟩, .string ⟨m2.toArray⟩, hv']) (ho : u.ownsRow wb.heap.size 59 5 hv' P.length (hkcells P)) : Pzc wb R S vL m1 m2 hv' P p (u.setCell ⟨S, j, none⟩ z) := by
  have hg := grown_set u S j z
  refine ⟨grown_new h.gr h.ge j z, ?_, ho.kept hg (.inr (own_box2 ho h.box (by decide))), fun x hx => (h.ins x hx).kept hg (.inr (own_box2 (h.ins x hx) h.box (by decide))), h.ck.keep hg (fun e => h.ne (Option.some.inj e)), h.ge, h.rl⟩
  have := heap_setCell_same u S j _ _ z h.box
  rw [hc] at this
  exact this
end
end Go.Proofs.YtgiojkhmkeocfaaGreatDoor
