/-
  Texts that belong together, joined: CnOne, CnCanon, CnEqual, ItTab, ItRow, ItAll, ItRef, ItRefAll, CnTab.
-/
import Derived.Test.YtnlbjknfahhfaaaGreatDoorPartA1
import Derived.Deep.RegionHeld3
import Derived.Laws.EntriesVeiled
import Derived.Carry
import Derived.Test.YtnlbjknfahhfaaaGreatDoorProg
import Derived.WalkKit
import Derived.WalkSpells
import Derived.WalkLawsBesides
import Derived.Deep.QuietTactic
import Derived.BigQuiet
import Derived.Laws.AppendOwnNone
import Derived.Deep.OwnRows
import Derived.Maps.AppendAt
import Derived.Test.YtnlbjknfahhfaaaGreatDoorRows

/- Layer canon, walked: a text with one blank for each run of white space and none at its end, and a text with blanks in the place of tabs. -/
set_option maxRecDepth 20000
namespace Go.Proofs.YtnlbjknfahhfaaaGreatDoor.Tx
open Cn Go.RowKit
attribute [local go_sem] ba_at ByteArray.extract_mk

set_option maxHeartbeats 1000000 in
theorem withOneBlank_any (l : List UInt8) (w : World) (hl : l.length ≤ 1099511627776) :
    Calls Tryz.prog 151 #[.string ⟨l.toArray⟩] w fun e w' => e = .returned (.string ⟨(trL (wo true false l)).toArray⟩) ∧ Below w.heap.size w w' := by
  have hwl := wo_len true l false
  go_enter Tryz.func151, Tryz.ntmps151
  go_wp2
  go_loopw [4, 5, 6, 9] (fun r _ _ i wr => ∃ (k : Nat) (acc : List UInt8) (was : Bool), k ≤ l.length ∧ r = .bool was ∧ i = .int .i64 k ∧ Lib.IsBuilderF 62 5 w.heap.size w.heap.size (Lib.byteCells acc) wr ∧ Below w.heap.size w wr ∧ acc ++ wo true was (l.drop k) = wo true false l) (fun _ _ _ i _ => l.length - (intOf i).toNat)
  case atStart => exact ⟨0, [], false, Nat.zero_le _, rfl, rfl, (Bld.fresh 62 5 w).isF, (Below.refl _ w).alloc (Nat.le_refl _) _, rfl⟩
  case round =>
    obtain ⟨k, acc, was, hk, rfl, rfl, hB, hbr, hacc⟩ := hrel
    have hal : acc.length ≤ l.length := by
      have h1 := congrArg List.length hacc
      rw [List.length_append] at h1
      omega
    have hbz := hbr.size
    by_cases hlt : k < l.length
    · have hdk : l.drop k = l[k] :: l.drop (k + 1) := List.drop_eq_getElem_cons hlt
      rw [hdk] at hacc
      clear hdk
      go_wp2_with fail
      refine (isWhite_any l[k] _).mono ?_
      rintro e w1 ⟨rfl, rfl⟩
      cases hc : wh l[k]
      · have HD : Hid (acc ++ [l[k]] ++ wo true false (l.drop (k + 1)) = wo true false l) := by
          rw [wo_keep hc] at hacc
          show _ = _
          rw [← hacc, List.append_assoc]; rfl
        clear hacc
        go_wp2_with fail
        refine (Tryz.WriteByte_k w.heap.size w.heap.size _ _ wr hB (by rw [cells_len]; omega) hbz).mono ?_
        rintro e w2 ⟨rfl, hB2, hb2, -⟩
        rw [← byteCells_snoc] at hB2
        go_wp2
        go_roundw
        case rel => exact ⟨k + 1, acc ++ [l[k]], false, by omega, rfl, by go_num, .inr hB2, hbr.trans hb2, HD.out⟩
        case measure => simp [intOf]; omega
      · cases was
        · have HD : Hid (acc ++ [32] ++ wo true true (l.drop (k + 1)) = wo true false l) := by
            rw [wo_blank hc] at hacc
            show _ = _
            rw [← hacc, List.append_assoc]; rfl
          clear hacc
          go_wp2_with fail
          refine (Tryz.WriteString_k w.heap.size w.heap.size _ _ wr hB (by rw [cells_len]; show acc.length + 1 ≤ _; omega) hbz).mono ?_
          rintro e w2 ⟨rfl, hB2, hb2, -⟩
          have hB3 : Lib.BuilderAtF 62 5 w.heap.size w.heap.size (.pointer (some ⟨w.heap.size, 0, none⟩)) (Lib.byteCells (acc ++ [32])) w2 := by rw [Lib.byteCells_append]; exact hB2
          clear hB2
          go_wp2
          go_roundw
          case rel => exact ⟨k + 1, acc ++ [32], true, by omega, rfl, by go_num, .inr hB3, hbr.trans hb2, HD.out⟩
          case measure => simp [intOf]; omega
        · have HD : Hid (acc ++ wo true true (l.drop (k + 1)) = wo true false l) := by
            rw [wo_run hc] at hacc
            exact hacc
          clear hacc
          go_wp2
          go_roundw
          case rel => exact ⟨k + 1, acc, true, by omega, rfl, by go_num, hB, hbr, HD.out⟩
          case measure => simp [intOf]; omega
    · have HD : Hid (acc = wo true false l) := by
        have e : l.drop k = [] := List.drop_eq_nil_of_le (by omega)
        rw [e] at hacc
        show acc = _
        simpa [wo] using hacc
      clear hacc
      go_wp2_with fail
      refine (Tryz.Builder_String_any_k w.heap.size w.heap.size acc wr hB hbz).mono ?_
      rintro e w2 ⟨rfl, -, hb2, -⟩
      go_wp2_with fail
      refine (withoutTrail_any acc _ (by omega)).mono ?_
      rintro e w3 ⟨rfl, hb3⟩
      go_wp2
      go_ret
      rw [HD.out]
      have h2 := hb2.size
      exact ⟨rfl, (hbr.trans hb2).trans (hb3.mono (by omega))⟩

theorem isF_keep {T e : TypeId} {B b : Nat} {bs : List Value} {w w' : World} (h : Lib.IsBuilderF T e B b bs w) (hb : Below w.heap.size w w') : Lib.IsBuilderF T e B b bs w' := by
  obtain ⟨v, hv⟩ : ∃ v, Bld T e B b v bs w := by
    rcases h with ⟨h1, v, h2, h3, h4⟩ | ⟨h1, v, h2, h3, h4⟩
    · exact ⟨v, h1, ⟨_, .inl rfl, h2⟩, h3, h4⟩
    · exact ⟨v, h1, ⟨_, .inr rfl, h2⟩, h3, h4⟩
  exact (hv.kept hb.block).isF

set_option maxHeartbeats 1000000 in
theorem Expand_any (l : List UInt8) (w : World) (hl : l.length ≤ 1099511627776) :
    Calls Tryz.prog 149 #[.string ⟨l.toArray⟩] w fun e w' => e = .returned (.string ⟨(expL 0 l).toArray⟩) ∧ Below w.heap.size w w' := by
  have hwl := exp_len l 0
  go_enter Tryz.func149, Tryz.ntmps149
  go_wp2
  go_loopw [4, 7] (fun _ i wr => ∃ (k : Nat) (acc : List UInt8), k ≤ l.length ∧ i = .int .i64 k ∧ Lib.IsBuilderF 62 5 w.heap.size w.heap.size (Lib.byteCells acc) wr ∧ Below w.heap.size w wr ∧ acc ++ expL acc.length (l.drop k) = expL 0 l) (fun _ i _ => l.length - (intOf i).toNat)
  case atStart => exact ⟨0, [], Nat.zero_le _, rfl, (Bld.fresh 62 5 w).isF, (Below.refl _ w).alloc (Nat.le_refl _) _, rfl⟩
  case round =>
    obtain ⟨k, acc, hk, rfl, hB, hbr, hacc⟩ := hrel
    have hal : acc.length ≤ 8 * l.length := by
      have h1 := congrArg List.length hacc
      rw [List.length_append] at h1
      omega
    have hbz := hbr.size
    by_cases hlt : k < l.length
    · have hdk : l.drop k = l[k] :: l.drop (k + 1) := List.drop_eq_getElem_cons hlt
      rw [hdk] at hacc
      clear hdk
      by_cases hc : l[k] = 9
      · obtain ⟨n, hn⟩ : ∃ n, 8 - acc.length % 8 = n := ⟨_, rfl⟩
        have HD : Hid (acc ++ List.replicate n 32 ++ expL (acc ++ List.replicate n 32).length (l.drop (k + 1)) = expL 0 l) := by
          rw [hc, exp_tab, hn] at hacc
          show _ = _
          rw [← hacc, List.append_assoc, List.length_append, List.length_replicate]
        clear hacc
        have hb9 : ((l[k].toNat : Int) != 9) = false := by rw [hc]; rfl
        have HN : Hid ((8 : Int) - (acc.length : Int) % 8 = (n : Int)) := by show _ = _; omega
        have hn8 : n ≤ 8 := by omega
        clear hn hc
        go_wp2_with fail
        refine (Tryz.Builder_Len_f w.heap.size w.heap.size _ wr hB).mono ?_
        rintro e w1 ⟨rfl, rfl⟩
        rw [cells_len]
        go_wp2_with fail
        rw [HN.out]
        refine (Tryz.strings_Repeat ⟨#[32]⟩ n _ (by omega) (by show 1 * n ≤ _; omega)).mono ?_
        rintro e w2 ⟨rfl, hb2⟩
        have hr : Lib.repeatL (⟨#[32]⟩ : ByteArray).data.toList n = List.replicate n 32 := rep_blank n
        rw [hr]
        have hB1 := isF_keep hB hb2
        have hbb := hbr.trans (hb2.mono hbz)
        have hbz2 := hbb.size
        clear hB hb2 hr
        go_wp2_with fail
        refine (Tryz.WriteString_k w.heap.size w.heap.size _ _ w2 hB1 (by rw [cells_len]; show acc.length + (List.replicate n 32).length ≤ _; rw [List.length_replicate]; omega) hbz2).mono ?_
        rintro e w3 ⟨rfl, hB2, hb3, -⟩
        have hB3 : Lib.BuilderAtF 62 5 w.heap.size w.heap.size (.pointer (some ⟨w.heap.size, 0, none⟩)) (Lib.byteCells (acc ++ List.replicate n 32)) w3 := by rw [Lib.byteCells_append]; exact hB2
        clear hB2
        go_wp2
        go_roundw
        case rel => exact ⟨k + 1, acc ++ List.replicate n 32, by omega, by go_num, .inr hB3, hbb.trans hb3, HD.out⟩
        case measure => simp [intOf]; omega
      · have HD : Hid (acc ++ [l[k]] ++ expL (acc ++ [l[k]]).length (l.drop (k + 1)) = expL 0 l) := by
          rw [exp_other hc] at hacc
          show _ = _
          rw [← hacc, List.append_assoc, List.length_append]; rfl
        clear hacc
        have hb9 : ((l[k].toNat : Int) != 9) = true := (not9 hc).2
        go_wp2_with fail
        refine (Tryz.WriteByte_k w.heap.size w.heap.size _ _ wr hB (by rw [cells_len]; omega) hbz).mono ?_
        rintro e w2 ⟨rfl, hB2, hb2, -⟩
        rw [← byteCells_snoc] at hB2
        go_wp2
        go_roundw
        case rel => exact ⟨k + 1, acc ++ [l[k]], by omega, by go_num, .inr hB2, hbr.trans hb2, HD.out⟩
        case measure => simp [intOf]; omega
    · have HD : Hid (acc = expL 0 l) := by
        have e : l.drop k = [] := List.drop_eq_nil_of_le (by omega)
        rw [e] at hacc
        show acc = _
        simpa [expL] using hacc
      clear hacc
      go_wp2_with fail
      refine (Tryz.Builder_String_any_k w.heap.size w.heap.size acc wr hB hbz).mono ?_
      rintro e w2 ⟨rfl, -, hb2, -⟩
      go_wp2
      go_ret
      rw [HD.out]
      exact ⟨rfl, hbr.trans hb2⟩
end Go.Proofs.YtnlbjknfahhfaaaGreatDoor.Tx

/- Layer canon's form of a line, walked: it is what the plain function canonL says. Then Equal and Blank. -/
set_option maxRecDepth 20000
namespace Go.Proofs.YtnlbjknfahhfaaaGreatDoor.Tx
open Cn Go.RowKit
attribute [local go_sem] ba_at ByteArray.extract_mk ba_cat

set_option maxHeartbeats 2000000 in
theorem Canon_any (l : List UInt8) (o : Ig) (w : World) (hl : l.length ≤ 137438953472) :
    Calls Tryz.prog 112 #[.string ⟨l.toArray⟩, igV o] w fun e w' => e = .returned (.string ⟨(canonL o l).toArray⟩) ∧ Below w.heap.size w w' := by
  have hbl := bare_len l
  have hbx := Boxed.fresh o w
  have hb0 : Below w.heap.size w (w.alloc (.cells #[.bool o.sp, .bool o.wt, .bool o.bl, .bool o.cs, .bool o.tb, .bool o.tr] 31)) := (Below.refl _ w).alloc (Nat.le_refl _) _
  have HC : Hid (canonL o l = stg o 5 (bareL l) ++ feedL l) := rfl
  unfold igV
  go_enter Tryz.func112, Tryz.ntmps112
  go_wp2_with fail
  refine (Bare_any l _ (by omega)).mono ?_
  rintro e w1 ⟨rfl, rfl⟩
  have hd := hbx.cells
  have hz := hb0.size
  generalize w.alloc (.cells #[.bool o.sp, .bool o.wt, .bool o.bl, .bool o.cs, .bool o.tb, .bool o.tr] 31) = wb at hbx hb0 hd hz ⊢
  obtain ⟨d0, d1, d2, d3, d4, d5⟩ := hd
  generalize hbr : bareL l = r at *
  go_wp2_with fail
  refine (steps_any o _).mono ?_
  rintro e w2 ⟨g, rfl, hst, hb2⟩
  have hb3 := hb0.trans (hb2.mono hz)
  clear d0 d1 d2 d3 d4 d5 hb2 hbx hb0 hz
  go_wp2
  go_loopw [5, 8, 17] (fun t _ i wr => ∃ k : Nat, k ≤ 5 ∧ i = .int .i64 k ∧ t = .string ⟨(stg o k r).toArray⟩ ∧ Stepped o g wr ∧ Below w.heap.size w wr) (fun _ _ i _ => 5 - (intOf i).toNat)
  case atStart => exact ⟨0, Nat.zero_le _, rfl, rfl, hst, hb3⟩
  case round =>
    obtain ⟨k, hk, rfl, rfl, hst, hbr⟩ := hrel
    have hsl := stg_len o r k
    have hz := hbr.size
    rcases (show k = 0 ∨ k = 1 ∨ k = 2 ∨ k = 3 ∨ k = 4 ∨ k = 5 by omega) with rfl | rfl | rfl | rfl | rfl | rfl
    · have c0 : wr.cell? ⟨g, 0, none⟩ = some (.bool o.tb) := by rw [Lib.cell_of_heap hst]; rfl
      have c1 : wr.cell? ⟨g, 1, none⟩ = some (.func (.func 149) #[] #[]) := by rw [Lib.cell_of_heap hst]; rfl
      generalize hx : stg o 0 r = x at *
      cases hq : o.tb
      · have HS : Hid (stg o 1 r = x) := (stg_no (k := 0) hq r).trans hx
        rw [hq] at c0
        clear hq hx
        go_wp2
        go_roundw
        case rel => exact ⟨1, by omega, by go_num, by rw [HS.out], hst.keep ((Below.refl _ wr).alloc (Nat.le_refl _) _), hbr.alloc hz _⟩
        case measure => simp [intOf]
      · have HS : Hid (stg o 1 r = act 0 x) := (stg_yes (k := 0) hq r).trans (congrArg _ hx)
        rw [hq] at c0
        clear hq hx
        go_wp2_with fail
        refine (Expand_any x _ (by omega)).mono ?_
        rintro e w4 ⟨rfl, hb4⟩
        have hb5 := (Below.refl _ wr).alloc (Nat.le_refl wr.heap.size) (.cells #[.bool true, .func (.func 149) #[] #[]] 230)
        have hb6 := hb5.trans (hb4.mono hb5.size)
        go_wp2
        go_roundw
        case rel => exact ⟨1, by omega, by go_num, by rw [HS.out]; rfl, hst.keep hb6, hbr.trans (hb6.mono hz)⟩
        case measure => simp [intOf]
    · have c0 : wr.cell? ⟨g, 2, none⟩ = some (.bool o.wt) := by rw [Lib.cell_of_heap hst]; rfl
      have c1 : wr.cell? ⟨g, 3, none⟩ = some (.func (.func 150) #[] #[]) := by rw [Lib.cell_of_heap hst]; rfl
      generalize hx : stg o 1 r = x at *
      cases hq : o.wt
      · have HS : Hid (stg o 2 r = x) := (stg_no (k := 1) hq r).trans hx
        rw [hq] at c0
        clear hq hx
        go_wp2
        go_roundw
        case rel => exact ⟨2, by omega, by go_num, by rw [HS.out], hst.keep ((Below.refl _ wr).alloc (Nat.le_refl _) _), hbr.alloc hz _⟩
        case measure => simp [intOf]
      · have HS : Hid (stg o 2 r = act 1 x) := (stg_yes (k := 1) hq r).trans (congrArg _ hx)
        rw [hq] at c0
        clear hq hx
        go_wp2_with fail
        refine (withoutWhite_any x _ (by omega)).mono ?_
        rintro e w4 ⟨rfl, hb4⟩
        have hb5 := (Below.refl _ wr).alloc (Nat.le_refl wr.heap.size) (.cells #[.bool true, .func (.func 150) #[] #[]] 230)
        have hb6 := hb5.trans (hb4.mono hb5.size)
        go_wp2
        go_roundw
        case rel => exact ⟨2, by omega, by go_num, by rw [HS.out]; rfl, hst.keep hb6, hbr.trans (hb6.mono hz)⟩
        case measure => simp [intOf]
    · have c0 : wr.cell? ⟨g, 4, none⟩ = some (.bool o.sp) := by rw [Lib.cell_of_heap hst]; rfl
      have c1 : wr.cell? ⟨g, 5, none⟩ = some (.func (.func 151) #[] #[]) := by rw [Lib.cell_of_heap hst]; rfl
      generalize hx : stg o 2 r = x at *
      cases hq : o.sp
      · have HS : Hid (stg o 3 r = x) := (stg_no (k := 2) hq r).trans hx
        rw [hq] at c0
        clear hq hx
        go_wp2
        go_roundw
        case rel => exact ⟨3, by omega, by go_num, by rw [HS.out], hst.keep ((Below.refl _ wr).alloc (Nat.le_refl _) _), hbr.alloc hz _⟩
        case measure => simp [intOf]
      · have HS : Hid (stg o 3 r = act 2 x) := (stg_yes (k := 2) hq r).trans (congrArg _ hx)
        rw [hq] at c0
        clear hq hx
        go_wp2_with fail
        refine (withOneBlank_any x _ (by omega)).mono ?_
        rintro e w4 ⟨rfl, hb4⟩
        have hb5 := (Below.refl _ wr).alloc (Nat.le_refl wr.heap.size) (.cells #[.bool true, .func (.func 151) #[] #[]] 230)
        have hb6 := hb5.trans (hb4.mono hb5.size)
        go_wp2
        go_roundw
        case rel => exact ⟨3, by omega, by go_num, by rw [HS.out]; rfl, hst.keep hb6, hbr.trans (hb6.mono hz)⟩
        case measure => simp [intOf]
    · have c0 : wr.cell? ⟨g, 6, none⟩ = some (.bool o.tr) := by rw [Lib.cell_of_heap hst]; rfl
      have c1 : wr.cell? ⟨g, 7, none⟩ = some (.func (.func 152) #[] #[]) := by rw [Lib.cell_of_heap hst]; rfl
      generalize hx : stg o 3 r = x at *
      cases hq : o.tr
      · have HS : Hid (stg o 4 r = x) := (stg_no (k := 3) hq r).trans hx
        rw [hq] at c0
        clear hq hx
        go_wp2
        go_roundw
        case rel => exact ⟨4, by omega, by go_num, by rw [HS.out], hst.keep ((Below.refl _ wr).alloc (Nat.le_refl _) _), hbr.alloc hz _⟩
        case measure => simp [intOf]
      · have HS : Hid (stg o 4 r = act 3 x) := (stg_yes (k := 3) hq r).trans (congrArg _ hx)
        rw [hq] at c0
        clear hq hx
        go_wp2_with fail
        refine (withoutTrail_any x _ (by omega)).mono ?_
        rintro e w4 ⟨rfl, hb4⟩
        have hb5 := (Below.refl _ wr).alloc (Nat.le_refl wr.heap.size) (.cells #[.bool true, .func (.func 152) #[] #[]] 230)
        have hb6 := hb5.trans (hb4.mono hb5.size)
        go_wp2
        go_roundw
        case rel => exact ⟨4, by omega, by go_num, by rw [HS.out]; rfl, hst.keep hb6, hbr.trans (hb6.mono hz)⟩
        case measure => simp [intOf]
    · have c0 : wr.cell? ⟨g, 8, none⟩ = some (.bool o.cs) := by rw [Lib.cell_of_heap hst]; rfl
      have c1 : wr.cell? ⟨g, 9, none⟩ = some (.func (.func 153) #[] #[]) := by rw [Lib.cell_of_heap hst]; rfl
      generalize hx : stg o 4 r = x at *
      cases hq : o.cs
      · have HS : Hid (stg o 5 r = x) := (stg_no (k := 4) hq r).trans hx
        rw [hq] at c0
        clear hq hx
        go_wp2
        go_roundw
        case rel => exact ⟨5, by omega, by go_num, by rw [HS.out], hst.keep ((Below.refl _ wr).alloc (Nat.le_refl _) _), hbr.alloc hz _⟩
        case measure => simp [intOf]
      · have HS : Hid (stg o 5 r = act 4 x) := (stg_yes (k := 4) hq r).trans (congrArg _ hx)
        rw [hq] at c0
        clear hq hx
        go_wp2_with fail
        refine (inSmall_any x _ (by omega)).mono ?_
        rintro e w4 ⟨rfl, hb4⟩
        have hb5 := (Below.refl _ wr).alloc (Nat.le_refl wr.heap.size) (.cells #[.bool true, .func (.func 153) #[] #[]] 230)
        have hb6 := hb5.trans (hb4.mono hb5.size)
        go_wp2
        go_roundw
        case rel => exact ⟨5, by omega, by go_num, by rw [HS.out]; rfl, hst.keep hb6, hbr.trans (hb6.mono hz)⟩
        case measure => simp [intOf]
    · cases hf : feedB l
      · have HF : Hid (feedL l = []) := by show _ = _; rw [feedL, hf]; rfl
        go_wp2
        go_ret
        rw [HC.out, HF.out, List.append_nil]
        exact ⟨rfl, hbr⟩
      · have HF : Hid (feedL l = [10]) := by show _ = _; rw [feedL, hf]; rfl
        go_wp2
        go_ret
        rw [HC.out, HF.out]
        exact ⟨rfl, hbr⟩
end Go.Proofs.YtnlbjknfahhfaaaGreatDoor.Tx

/- Equal of layer canon, walked. -/
set_option maxRecDepth 20000
namespace Go.Proofs.YtnlbjknfahhfaaaGreatDoor.Tx
open Cn Go.RowKit
attribute [local go_sem] ba_at ByteArray.extract_mk ba_cat

/-- a variable that holds what is ignored, and all below it as it was -/
structure Stay (o : Ig) (b : Nat) (W w : World) : Prop where
  box : Boxed o b w
  low : Below W.heap.size W w
theorem Stay.keep {o : Ig} {b : Nat} {W w w' : World} (h : Stay o b W w) (hb : Below w.heap.size w w') : Stay o b W w' := ⟨h.box.keep hb, h.low.trans (hb.mono h.low.size)⟩
theorem stay_drew (o : Ig) (b : Nat) (W w : World) : Stay o b W w.drew ↔ Stay o b W w := ⟨fun h => ⟨h.box, (h.low.trans ⟨rfl, rfl, rfl, Nat.le_refl _, fun _ _ => rfl⟩ : Below W.heap.size W w)⟩, fun h => ⟨h.box, h.low.drew⟩⟩
attribute [local simp] stay_drew

/-- a call that leaves all below as it was leaves that variable, too -/
theorem stayed {P : Program} {f : FuncId} {args : Array Value} {v : Value} {w : World} (h : Calls P f args w fun e w' => e = .returned v ∧ Below w.heap.size w w') (o : Ig) (b : Nat) (W : World) (hS : Stay o b W w) :
    Calls P f args w fun e w' => e = .returned v ∧ w'.cell? ⟨b, 0, none⟩ = some (.bool o.sp) ∧ w'.cell? ⟨b, 1, none⟩ = some (.bool o.wt) ∧ w'.cell? ⟨b, 2, none⟩ = some (.bool o.bl) ∧ w'.cell? ⟨b, 3, none⟩ = some (.bool o.cs) ∧ w'.cell? ⟨b, 4, none⟩ = some (.bool o.tb) ∧ w'.cell? ⟨b, 5, none⟩ = some (.bool o.tr) ∧ Stay o b W w' := by
  refine h.mono ?_
  rintro e w' ⟨rfl, hb⟩
  have hS' := hS.keep hb
  obtain ⟨d0, d1, d2, d3, d4, d5⟩ := hS'.box.cells
  exact ⟨rfl, d0, d1, d2, d3, d4, d5, hS'⟩

/-- whether two lines count as the same -/
def eqL (o : Ig) (a b : List UInt8) : Bool := canonL o a == canonL o b

end Go.Proofs.YtnlbjknfahhfaaaGreatDoor.Tx

/- A table of layer intern in memory: what is ignored, and a map from forms to numbers; its calls New, Class, Look, Size, walked. -/
set_option maxRecDepth 20000
namespace Go.Proofs.YtnlbjknfahhfaaaGreatDoor.Tx
open Cn It Go.RowKit Go.Maps
attribute [local go_sem] ba_at ByteArray.extract_mk ba_cat

/-- all but some blocks is as it was, and there may be new ones -/
structure But (S : Nat → Prop) (w w' : World) : Prop where
  os : w'.os = w.os
  tape : w'.tape = w.tape
  output : w'.output = w.output
  size : w.heap.size ≤ w'.heap.size
  block : ∀ k, k < w.heap.size → ¬ S k → w'.heap[k]? = w.heap[k]?
theorem But.of_below {S : Nat → Prop} {w w' : World} (h : Below w.heap.size w w') : But S w w' := ⟨h.os, h.tape, h.output, h.size, fun k hk _ => h.block k hk⟩
theorem But.of_grown {S : Nat → Prop} {w w' : World} {row : Option Nat} (h : w.grownBy w' row) (hS : ∀ k, row = some k → S k) : But S w w' := ⟨h.os, h.tape, h.output, h.size, fun k hk hn => h.block k hk (fun e => hn (hS k e.symm))⟩
theorem But.trans {S T : Nat → Prop} {a b c : World} (h : But S a b) (k : But T b c) (hS : ∀ j, j < a.heap.size → T j → S j) : But S a c :=
  ⟨k.os.trans h.os, k.tape.trans h.tape, k.output.trans h.output, Nat.le_trans h.size k.size, fun j hj hn => (k.block j (Nat.lt_of_lt_of_le hj h.size) (fun e => hn (hS j hj e))).trans (h.block j hj hn)⟩
theorem But.below {S : Nat → Prop} {N : Nat} {W w w' : World} (h : But S w w') (hb : Below N W w) (hN : N ≤ w.heap.size) (hS : ∀ k, S k → N ≤ k) : Below N W w' :=
  ⟨h.os.trans hb.os, h.tape.trans hb.tape, h.output.trans hb.output, Nat.le_trans hb.size h.size, fun k hk => (h.block k (Nat.lt_of_lt_of_le hk hN) (fun e => absurd (hS k e) (by omega))).trans (hb.block k hk)⟩

theorem strKeyed : Keyed Tryz.prog 9 := string_keyed Tryz.underlying9
theorem zeroI (w : World) : (zeroValue 3).run Tryz.prog w = .ok (.int .i64 0) w := by kernel_rfl

/-- a table: its own block, its map's block, the forms met -/
structure Tbl (o : Ig) (fs : List (List UInt8)) (t B : Nat) (w : World) : Prop where
  box : w.heap[t]? = some (.cells #[.bool o.sp, .bool o.wt, .bool o.bl, .bool o.cs, .bool o.tb, .bool o.tr, .map (some B)] 140 (0, 0))
  map : ∃ D : DataW Unit, w.ownsMap Tryz.prog 9 (plainElem Tryz.prog 3) B fs.length D ∧ Tells D fs

section
variable {o : Ig} {fs : List (List UInt8)} {t B : Nat} {w w' : World}
theorem Tbl.lt (h : Tbl o fs t B w) : t < w.heap.size := (Array.getElem?_eq_some_iff.1 h.box).1
theorem Tbl.ltB (h : Tbl o fs t B w) : B < w.heap.size := by obtain ⟨D, hm, _⟩ := h.map; exact hm.lt
theorem Tbl.ne (h : Tbl o fs t B w) : t ≠ B := by
  intro e
  obtain ⟨D, ⟨es, clock, hb, _⟩, _⟩ := h.map
  have hx := h.box
  rw [e, hb] at hx
  cases hx
theorem Tbl.keep {S : Nat → Prop} (h : Tbl o fs t B w) (hb : But S w w') (ht : ¬ S t) (hB : ¬ S B) : Tbl o fs t B w' := by
  refine ⟨(hb.block t h.lt ht).trans h.box, ?_⟩
  have hlt := h.ltB
  obtain ⟨D, ⟨es, clock, hm, r⟩, hd⟩ := h.map
  exact ⟨D, ⟨es, clock, (hb.block B hlt hB).trans hm, r⟩, hd⟩
theorem Tbl.cells (h : Tbl o fs t B w) : w.cell? ⟨t, 0, none⟩ = some (.bool o.sp) ∧ w.cell? ⟨t, 1, none⟩ = some (.bool o.wt) ∧ w.cell? ⟨t, 2, none⟩ = some (.bool o.bl) ∧ w.cell? ⟨t, 3, none⟩ = some (.bool o.cs) ∧ w.cell? ⟨t, 4, none⟩ = some (.bool o.tb) ∧ w.cell? ⟨t, 5, none⟩ = some (.bool o.tr) ∧ w.cell? ⟨t, 6, none⟩ = some (.map (some B)) := by
  refine ⟨?_, ?_, ?_, ?_, ?_, ?_, ?_⟩ <;> rw [Lib.cell_of_heap h.box] <;> rfl

theorem key_str {f : List UInt8} (hf : f.length ≤ 2199023255552) : keyOf Tryz.prog 9 (.string ⟨f.toArray⟩) = some (.string f) :=
  WideMaps.keyOf_string_mk Tryz.underlying9 (s := ⟨f.toArray⟩) (by show f.toArray.size ≤ maxLen; unfold maxLen; simp; omega)

/-- the number that a look-up answers -/
def lookN (fs : List (List UInt8)) (f : List UInt8) : Nat := if fs.contains f then num fs f else 0
/-- whether it finds one -/
def lookB (fs : List (List UInt8)) (f : List UInt8) : Bool := fs.contains f
theorem lookN_old {f : List UInt8} (h : f ∈ fs) : lookN fs f = num fs f := by rw [lookN, if_pos (List.contains_iff_mem.2 h)]
theorem lookN_new {f : List UInt8} (h : f ∉ fs) : lookN fs f = 0 := by rw [lookN, if_neg (fun e => h (List.contains_iff_mem.1 e))]

theorem Tbl.look (h : Tbl o fs t B w) {f : List UInt8} (hf : f.length ≤ 2199023255552) :
    (Instr.lookup 138 (.map (some B)) (.string ⟨f.toArray⟩) true).run Tryz.prog w = .ok (.tuple #[.int .i64 (lookN fs f), .bool (lookB fs f)]) w := by
  obtain ⟨D, hm, hd⟩ := h.map
  obtain ⟨v, ps, hr, hv⟩ := hm.look_ok strKeyed Tryz.underlying138 (zeroI w) (plainElem_int Tryz.underlying3 (by decide)) (key_str hf)
  obtain ⟨c, rfl, hc, _⟩ := plainElem_int_inv Tryz.underlying3 hv
  have e := hd.look (congrArg Prod.fst hc)
  rw [hr, hd.has, e]
  unfold lookN lookB
  split <;> rfl
theorem Tbl.len (h : Tbl o fs t B w) (ty : TypeId) : (Builtin.len_ #[138] ty #[.map (some B)]).run Tryz.prog w = .ok (.int .i64 fs.length) w := by
  obtain ⟨D, hm, hd⟩ := h.map
  rw [hm.len Tryz.underlying138 ty, hd.size]
theorem Tbl.store (h : Tbl o fs t B w) {f : List UInt8} (hf : f.length ≤ 2199023255552) (hn : f ∉ fs) (hl : fs.length ≤ 1099511627776) :
    ∃ w', (Instr.mapUpdate 138 (.map (some B)) (.string ⟨f.toArray⟩) (.int .i64 fs.length)).run Tryz.prog w = .ok () w' ∧ Tbl o (fs ++ [f]) t B w' ∧ But (fun k => k = B) w w' := by
  obtain ⟨D, hm, hd⟩ := h.map
  obtain ⟨w', hr, ho, ht⟩ := hm.store (val := .int .i64 fs.length) strKeyed Tryz.underlying138 (by unfold maxLen; omega) (key_str hf) (plainElem_int Tryz.underlying3 (WalkArith.wf_i64 (by omega)))
  have hb : But (fun k => k = B) w w' := But.of_grown ht.grown (fun k e => by cases e; rfl)
  exact ⟨w', hr, ⟨(hb.block t h.lt h.ne).trans h.box, D.put (.string f) (.lit (.int .i64 fs.length)), by simpa using ho, hd.put hn⟩, hb⟩
end

theorem Tbl.made (o : Ig) (w1 : World) (m : Nat) (hm : w1.heap.size = m) : Tbl o [] (m + 1) m ((w1.alloc (.map #[] 0)).alloc (.cells #[.bool o.sp, .bool o.wt, .bool o.bl, .bool o.cs, .bool o.tb, .bool o.tr, .map (some m)] 140)) := by
  subst hm
  refine ⟨?_, .map [], (World.ownsMap_made w1 _ _ _).alloc _, Tells.nil⟩
  have h := _root_.Go.heap_alloc_new (w1.alloc (.map #[] 0)) (.cells #[.bool o.sp, .bool o.wt, .bool o.bl, .bool o.cs, .bool o.tb, .bool o.tr, .map (some w1.heap.size)] 140)
  have e : (w1.alloc (.map #[] 0)).heap.size = w1.heap.size + 1 := by simp
  rw [e] at h
  exact h

theorem New_any (o : Ig) (w : World) :
    Calls Tryz.prog 41 #[igV o] w fun e w' => ∃ t B, e = .returned (.pointer (some ⟨t, 0, none⟩)) ∧ Tbl o [] t B w' ∧ w.heap.size ≤ t ∧ w.heap.size ≤ B ∧ Below w.heap.size w w' := by
  have hmm := @run_makeMap Tryz.prog
  unfold igV
  go_enter Tryz.func41, Tryz.ntmps41
  go_wp2
  go_ret
  refine ⟨w.heap.size + 1 + 1, w.heap.size + 1, rfl, Tbl.made o _ _ (by simp), by omega, by omega, ?_⟩
  exact ((((Below.refl _ w).alloc (Nat.le_refl _) _).alloc (by simp) _).alloc (by simp; omega) _)

theorem Size_any (o : Ig) (fs : List (List UInt8)) (t B : Nat) (w : World) (hT : Tbl o fs t B w) :
    Calls Tryz.prog 43 #[.pointer (some ⟨t, 0, none⟩)] w fun e w' => e = .returned (.int .i64 fs.length) ∧ w = w' := by
  obtain ⟨d0, d1, d2, d3, d4, d5, d6⟩ := hT.cells
  have hlen := hT.len
  go_enter Tryz.func43, Tryz.ntmps43
  go_wp2
  go_ret
  exact ⟨rfl, rfl⟩

/-- a table, and all ahead of a call as it was -/
structure Held (o : Ig) (fs : List (List UInt8)) (t B : Nat) (W w : World) : Prop where
  tbl : Tbl o fs t B w
  low : Below W.heap.size W w
theorem held_drew (o : Ig) (fs : List (List UInt8)) (t B : Nat) (W w : World) : Held o fs t B W w.drew ↔ Held o fs t B W w :=
  ⟨fun h => ⟨⟨h.tbl.box, h.tbl.map⟩, (h.low.trans ⟨rfl, rfl, rfl, Nat.le_refl _, fun _ _ => rfl⟩ : Below W.heap.size W w)⟩, fun h => ⟨⟨h.tbl.box, h.tbl.map⟩, h.low.drew⟩⟩
attribute [local simp] held_drew

theorem canonHeld (l f : List UInt8) (o : Ig) (fs : List (List UInt8)) (t B : Nat) (W w : World) (hl : l.length ≤ 137438953472) (hfl : Hid (canonL o l = f)) (hf : f.length ≤ 2199023255552) (hH : Held o fs t B W w) :
    Calls Tryz.prog 112 #[.string ⟨l.toArray⟩, igV o] w fun e w' => e = .returned (.string ⟨f.toArray⟩) ∧
      (∀ u : World, u.heap = w'.heap → (Instr.lookup 138 (.map (some B)) (.string ⟨f.toArray⟩) true).run Tryz.prog u = .ok (.tuple #[.int .i64 (lookN fs f), .bool (lookB fs f)]) u) ∧ Held o fs t B W w' := by
  refine (Canon_any l o w hl).mono ?_
  rintro e w1 ⟨rfl, hb1⟩
  have hT1 := hH.tbl.keep (S := fun _ => False) (.of_below hb1) (fun h => h) (fun h => h)
  refine ⟨by rw [hfl.out], fun u hu => ?_, hT1, hH.low.trans (hb1.mono hH.low.size)⟩
  exact Tbl.look (w := u) ⟨by rw [hu]; exact hT1.box, by obtain ⟨D, ⟨es, c, h1, h2⟩, hd⟩ := hT1.map; exact ⟨D, ⟨es, c, by rw [hu]; exact h1, h2⟩, hd⟩⟩ hf

set_option maxHeartbeats 1000000 in
theorem Class_old (l f : List UInt8) (o : Ig) (fs : List (List UInt8)) (t B : Nat) (w : World) (hl : l.length ≤ 137438953472) (hfl : Hid (canonL o l = f)) (hf : f.length ≤ 2199023255552) (hT : Tbl o fs t B w) (hm : f ∈ fs) :
    Calls Tryz.prog 75 #[.pointer (some ⟨t, 0, none⟩), .string ⟨l.toArray⟩] w fun e w' => e = .returned (.int .i64 (num fs f)) ∧ Tbl o fs t B w' ∧ But (fun k => k = B) w w' := by
  obtain ⟨d0, d1, d2, d3, d4, d5, d6⟩ := hT.cells
  have HM : Hid (f ∈ fs) := hm
  clear hm
  go_enter Tryz.func75, Tryz.ntmps75
  go_wp2_with fail
  refine (Canon_any l o _ hl).mono ?_
  rintro e w1 ⟨rfl, hb1⟩
  rw [hfl.out]
  clear d0 d1 d2 d3 d4 d5 d6
  have hT1 := hT.keep (S := fun _ => False) (.of_below hb1) (fun h => h) (fun h => h)
  obtain ⟨d0, d1, d2, d3, d4, d5, d6⟩ := hT1.cells
  have hlk := hT1.look hf
  rw [show lookB fs f = true from List.contains_iff_mem.2 HM.out, lookN_old HM.out] at hlk
  go_wp2
  go_ret
  exact ⟨rfl, hT1, .of_below hb1⟩

set_option maxHeartbeats 1000000 in
theorem Class_new (l f : List UInt8) (o : Ig) (fs : List (List UInt8)) (t B : Nat) (w : World) (hl : l.length ≤ 137438953472) (hfl : Hid (canonL o l = f)) (hf : f.length ≤ 2199023255552) (hfs : fs.length ≤ 1099511627776) (hT : Tbl o fs t B w) (hm : f ∉ fs) :
    Calls Tryz.prog 75 #[.pointer (some ⟨t, 0, none⟩), .string ⟨l.toArray⟩] w fun e w' => e = .returned (.int .i64 fs.length) ∧ Tbl o (fs ++ [f]) t B w' ∧ But (fun k => k = B) w w' := by
  obtain ⟨d0, d1, d2, d3, d4, d5, d6⟩ := hT.cells
  have HM : Hid (f ∉ fs) := hm
  clear hm
  go_enter Tryz.func75, Tryz.ntmps75
  go_wp2_with fail
  refine (Canon_any l o _ hl).mono ?_
  rintro e w1 ⟨rfl, hb1⟩
  rw [hfl.out]
  clear d0 d1 d2 d3 d4 d5 d6
  have hT1 := hT.keep (S := fun _ => False) (.of_below hb1) (fun h => h) (fun h => h)
  obtain ⟨d0, d1, d2, d3, d4, d5, d6⟩ := hT1.cells
  have hlk := hT1.look hf
  rw [show lookB fs f = false from Bool.eq_false_iff.2 (fun e => HM.out (List.contains_iff_mem.1 e)), lookN_new HM.out] at hlk
  obtain ⟨w2, hst, hT2, hB2⟩ := hT1.store hf HM.out hfs
  have hlen := hT1.len
  go_wp2
  go_ret
  exact ⟨rfl, hT2, (But.of_below hb1).trans hB2 (fun _ _ h => h)⟩

theorem Class_any (l : List UInt8) (o : Ig) (fs : List (List UInt8)) (t B : Nat) (w : World) (hl : l.length ≤ 137438953472) (hfs : fs.length ≤ 1099511627776) (hT : Tbl o fs t B w) :
    Calls Tryz.prog 75 #[.pointer (some ⟨t, 0, none⟩), .string ⟨l.toArray⟩] w fun e w' => e = .returned (.int .i64 (num fs (canonL o l))) ∧ Tbl o (add fs (canonL o l)) t B w' ∧ But (fun k => k = B) w w' := by
  have hcl := canon_len o l
  by_cases hm : canonL o l ∈ fs
  · rw [add_old hm]
    exact Class_old l _ o fs t B w hl (show _ = _ from rfl) (by omega) hT hm
  · rw [add_new hm, num_new hm]
    exact Class_new l _ o fs t B w hl (show _ = _ from rfl) (by omega) hfs hT hm
end Go.Proofs.YtnlbjknfahhfaaaGreatDoor.Tx

/- Rows of texts and rows of numbers: what a slice value holds, cell by cell; the helpers SameStrings and SameInts of the reference, walked at two slices that hold the same. -/
set_option maxRecDepth 20000
namespace Go.Proofs.YtnlbjknfahhfaaaGreatDoor.Tx
open Go.RowKit
attribute [local go_sem] ba_at ByteArray.extract_mk

/-- a list of texts as cells -/
def scells (ws : List (List UInt8)) : List Value := ws.map fun a => .string ⟨a.toArray⟩
/-- a list of numbers as cells -/
def icells (ns : List Nat) : List Value := ns.map fun (n : Nat) => .int .i64 (n : Int)
theorem scells_length (ws : List (List UInt8)) : (scells ws).length = ws.length := by simp [scells]
theorem icells_length (ws : List Nat) : (icells ws).length = ws.length := by simp [icells]
theorem scells_append (a b : List (List UInt8)) : scells (a ++ b) = scells a ++ scells b := by simp [scells]
theorem icells_append (a b : List Nat) : icells (a ++ b) = icells a ++ icells b := by simp [icells]
theorem scells_one (ws : List (List UInt8)) : ∀ u ∈ scells ws, u.oneCell' = true := by
  intro u hu
  simp only [scells, List.mem_map] at hu
  obtain ⟨a, _, rfl⟩ := hu
  rfl
theorem icells_one (ws : List Nat) : ∀ u ∈ icells ws, u.oneCell' = true := by
  intro u hu
  simp only [icells, List.mem_map] at hu
  obtain ⟨a, _, rfl⟩ := hu
  rfl
theorem infoStr : (Tryz.prog.info? 9).map (fun i => (i.zero, i.size, i.bytes)) = some (some (.string ⟨#[]⟩), 1, 16) := by kernel_rfl
theorem infoInt : (Tryz.prog.info? 3).map (fun i => (i.zero, i.size, i.bytes)) = some (some (.int .i64 0), 1, 8) := by kernel_rfl

theorem addr_of {W : World} {a : Addr} {v : Value} (h : W.cell? (a.add 0) = some v) : ∃ b off, a = ⟨b, off, none⟩ := by
  obtain ⟨b, off, spot⟩ := a
  have hspot : spot = none := by simpa [Addr.add] using World.cell?_spot h
  subst hspot
  exact ⟨b, off, rfl⟩
theorem add_none (b off j : Nat) : (⟨b, off, none⟩ : Addr).add j = ⟨b, off + j, none⟩ := by unfold Addr.add; split <;> simp_all

/-- what a slice value holds, cell by cell -/
def Holds (w : World) (v : Value) (xs : List Value) : Prop :=
  (v = .slice none 0 0 ∧ xs = []) ∨ ∃ ad c, v = .slice (some ad) xs.length c ∧ xs.length ≤ c ∧ ∀ j u, xs[j]? = some u → w.cell? (ad.add j) = some u
theorem holds_of {w : World} {B : Nat} {e : TypeId} {v : Value} {n : Nat} {xs : List Value} (h : w.ownsRow B e 1 v n xs) : Holds w v xs := by
  have hn : xs.length = n := by rw [h.1, Nat.mul_one]
  subst hn
  rcases h.2 with ⟨rfl, h0⟩ | ⟨g, cap, cur, rfl, _, _, hnc, _⟩
  · exact .inl ⟨rfl, List.eq_nil_of_length_eq_zero h0⟩
  · exact .inr ⟨⟨g, 0, none⟩, cap, rfl, hnc, h.cells (g := g) rfl⟩
theorem Holds.keep {w w' : World} {v : Value} {xs : List Value} (h : Holds w v xs) (hk : ∀ k, k < w.heap.size → w'.heap[k]? = w.heap[k]?) : Holds w' v xs := by
  rcases h with h | ⟨ad, c, hv, hnc, hc⟩
  · exact .inl h
  · refine .inr ⟨ad, c, hv, hnc, fun j u hj => ?_⟩
    have h1 := hc j u hj
    have hlt := World.block_lt_of_cell? w _ h1
    rw [World.cell?_of_block (w := w) (hk _ hlt)]
    exact h1
theorem Holds.form {w : World} {v : Value} {xs : List Value} (h : Holds w v xs) : ∃ ao c, v = .slice ao xs.length c := by
  rcases h with ⟨rfl, rfl⟩ | ⟨ad, c, rfl, _⟩
  · exact ⟨_, _, rfl⟩
  · exact ⟨_, _, rfl⟩
/-- a slice that is not empty: where it lies -/
theorem Holds.at {w : World} {v : Value} {xs : List Value} (h : Holds w v xs) (h0 : 0 < xs.length) : ∃ b off c, v = .slice (some ⟨b, off, none⟩) xs.length c ∧ b < w.heap.size ∧ ∀ j (hj : j < xs.length), w.cell? ⟨b, off + j, none⟩ = some xs[j] := by
  rcases h with ⟨_, rfl⟩ | ⟨ad, c, rfl, _, hc⟩
  · simp at h0
  · obtain ⟨b, off, rfl⟩ := addr_of (hc 0 _ (List.getElem?_eq_getElem h0))
    refine ⟨b, off, c, rfl, World.block_lt_of_cell? w _ (hc 0 _ (List.getElem?_eq_getElem h0)), fun j hj => ?_⟩
    have := hc j _ (List.getElem?_eq_getElem hj)
    rw [add_none] at this
    exact this
theorem Holds.nil (w : World) : Holds w (.slice none 0 0) [] := .inl ⟨rfl, rfl⟩

theorem wpList_append_holds {ops : Array Oper} {rest : List Oper} {o : Oper} {a : Act} {Q : Exit → Act → World → Prop} (w : World) (hgd : o.guard = none) (s x : Operand) (T E : TypeId) (z : Value) (bytes : Nat)
    (hT : Tryz.prog.underlying T = some (.slice E)) (hinfo : (Tryz.prog.info? E).map (fun i => (i.zero, i.size, i.bytes)) = some (some z, 1, bytes)) (hz1 : z.cells.size = 1) (hby : bytes ≤ 16)
    (ho : o.op = .call { callee := .builtin .append, args := #[s, x], argTypes := #[T, T] })
    (base : Nat) (v : Value) (n : Nat) (xs : List Value) (hs : a.eval s = v) (hown : w.ownsRow base E 1 v n xs)
    (vx : Value) (ws : List Value) (hx : a.eval x = vx) (hh : Holds w vx ws) (h1 : ∀ u ∈ ws, u.oneCell' = true) (hl : n + ws.length ≤ 1099511627776) (hbase : base ≤ w.heap.size)
    (h : ∀ v' w', w'.ownsRow base E 1 v' (n + ws.length) (xs ++ ws) → w.grownBy w' v.ownBlock → wpList Tryz.prog ops Q rest (a.put o.dst v') w') : wpList Tryz.prog ops Q (o :: rest) a w := by
  obtain ⟨i0, hi, hz0, hzs, hz2⟩ := info_parts hinfo
  rcases hh with ⟨rfl, rfl⟩ | ⟨ad, c, rfl, _, hc⟩
  · refine wpList_append_own_none hgd s x T ho base E i0 1 hT hi v n xs hs hown hx ?_
    exact h v w (by simpa using hown) (World.grownBy.refl _ _)
  · refine wpList_append_own w hgd s x T ho base E i0 z 1 bytes hT hi hz0 hzs hz2 hz1 (by decide) v n xs hs hown ad ws.length c ws hx (by omega) hc h1 (by unfold maxLen; omega) ?_ hbase ?_
    · have : (n + ws.length) * bytes ≤ (n + ws.length) * 16 := Nat.mul_le_mul_left _ hby
      omega
    · intro v' w' h1 h2 _
      exact h v' w' h1 h2

set_option maxHeartbeats 1000000 in
theorem SameS_any (va vb : Value) (ws : List (List UInt8)) (w : World) (hl : ws.length ≤ 1099511627776) (ha : Holds w va (scells ws)) (hb : Holds w vb (scells ws)) :
    Calls Tryz.prog 15 #[va, vb] w fun e w' => e = .returned (.bool true) ∧ ∃ n, w' = w.drewN n := by
  by_cases h0 : 0 < ws.length
  · obtain ⟨b1, o1, c1, rfl, _, hc1⟩ := ha.at (by rw [scells_length]; exact h0)
    obtain ⟨b2, o2, c2, rfl, _, hc2⟩ := hb.at (by rw [scells_length]; exact h0)
    rw [scells_length] at *
    have HC1 : Hid (∀ j (h : j < ws.length), w.cell? ⟨b1, o1 + j, none⟩ = some (.string ⟨ws[j].toArray⟩)) := fun j h => by rw [hc1 j (by rw [scells_length]; exact h)]; simp [scells]
    have HC2 : Hid (∀ j (h : j < ws.length), w.cell? ⟨b2, o2 + j, none⟩ = some (.string ⟨ws[j].toArray⟩)) := fun j h => by rw [hc2 j (by rw [scells_length]; exact h)]; simp [scells]
    clear hc1 hc2 ha hb
    go_enter Tryz.func15, Tryz.ntmps15
    go_wp2
    go_loopw [5] (fun i wr => ∃ k m : Nat, k ≤ ws.length ∧ i = .int .i64 k ∧ wr = w.drewN m) (fun i _ => ws.length - (intOf i).toNat)
    case atStart => exact ⟨0, 0, Nat.zero_le _, rfl, rfl⟩
    case round =>
      obtain ⟨k, m, hk, rfl, rfl⟩ := hrel
      by_cases hlt : k < ws.length
      · have d1 := HC1.out k hlt
        have d2 := HC2.out k hlt
        have i1 : 0 ≤ (k : Int) := by omega
        have i2 : (k : Int) < (ws.length : Int) := by omega
        go_wp2_with fail
        go_quiet (fail)
        go_wp2
        go_roundw
        case rel => exact ⟨k + 1, _, by omega, by go_num, rfl⟩
        case measure => simp [intOf]; omega
      · go_wp2
        go_ret
        exact ⟨rfl, _, rfl⟩
  · have : ws = [] := List.eq_nil_of_length_eq_zero (by omega)
    subst this
    obtain ⟨ao, ca, rfl⟩ := ha.form
    obtain ⟨bo, cb, rfl⟩ := hb.form
    simp only [scells, List.map_nil, List.length_nil]
    go_enter Tryz.func15, Tryz.ntmps15
    go_wp2
    refine wp_loop_rounds 1 ?_
    rw [rounds_succ]
    go_wp2
    go_ret
    exact ⟨rfl, 0, rfl⟩

end Go.Proofs.YtnlbjknfahhfaaaGreatDoor.Tx

/- The numbers of a list of lines by a table; the classes of two lists of lines; the helper works of the laws: walked. -/
set_option maxRecDepth 20000
namespace Go.Proofs.YtnlbjknfahhfaaaGreatDoor.Tx
open Cn It Go.RowKit Go.Maps
attribute [local go_sem] ba_at ByteArray.extract_mk ba_cat

theorem But.setCell (w : World) (a : Addr) (v : Value) : But (fun k => k = a.block) w (w.setCell a v) := ⟨rfl, rfl, rfl, by simp [World.setCell], fun k _ hk => Below.heap_setCell w a v k hk⟩
theorem But.refl (S : Nat → Prop) (w : World) : But S w w := ⟨rfl, rfl, rfl, Nat.le_refl _, fun _ _ _ => rfl⟩
theorem Tbl.cell_ne {o : Ig} {fs : List (List UInt8)} {t B b off : Nat} {w : World} {v : Value} (h : Tbl o fs t B w) (hc : w.cell? ⟨b, off, none⟩ = some v) : b ≠ B := by
  intro e
  subst e
  obtain ⟨D, ⟨es, clock, hb, _⟩, _⟩ := h.map
  simp [World.cell?, hb] at hc
theorem Tbl.row_ne {o : Ig} {fs : List (List UInt8)} {t B g : Nat} {w : World} {C : Array Value} {e : TypeId} {fz : Nat × Nat} (h : Tbl o fs t B w) (hg : w.heap[g]? = some (.cells C e fz)) : g ≠ B := by
  intro e
  subst e
  obtain ⟨D, ⟨es, clock, hb, _⟩, _⟩ := h.map
  rw [hb] at hg
  cases hg
theorem Tbl.row_ne_t {o : Ig} {fs : List (List UInt8)} {t B g : Nat} {w : World} {C : Array Value} {e : TypeId} {fz : Nat × Nat} (h : Tbl o fs t B w) (hg : w.heap[g]? = some (.cells C e fz)) (he : e ≠ 140) : t ≠ g := by
  intro e'
  subst e'
  have := h.box
  rw [hg] at this
  cases this
  exact he rfl

/-- a row of numbers that is being filled -/
def fill (ns : List Nat) (n : Nat) : List Value := icells ns ++ List.replicate (n - ns.length) (.int .i64 0)
theorem fill_nil (n : Nat) : fill [] n = List.replicate n (.int .i64 0) := by simp [fill, icells]
theorem fill_full {ns : List Nat} {n : Nat} (h : ns.length = n) : fill ns n = icells ns := by simp [fill, h]
theorem fill_step (ns : List Nat) (n m : Nat) (h : ns.length < n) : (fill ns n).set ns.length (.int .i64 m) = fill (ns ++ [m]) n := by
  unfold fill
  obtain ⟨k, hk⟩ : ∃ k, n - ns.length = k + 1 := ⟨n - ns.length - 1, by omega⟩
  have e : n - (ns ++ [m]).length = k := by simp; omega
  rw [e, hk, List.set_append_right _ _ (by rw [icells_length]; omega), icells_length, Nat.sub_self, List.replicate_succ, List.set_cons_zero, icells_append, List.append_assoc]
  rfl
theorem fill_length (ns : List Nat) (n : Nat) (h : ns.length ≤ n) : (fill ns n).length = n := by simp [fill, icells_length]; omega
theorem made_fill (n : Nat) : madeCells #[.int .i64 0] n = (fill [] n).toArray := by
  rw [fill_nil]
  apply Array.ext
  · simp [madeCells]
  · intro i h1 h2
    simp [madeCells, Nat.mod_one]
theorem row_set {b : Nat} {w : World} {l : List Value} {e : TypeId} (h : w.heap[b]? = some (.cells l.toArray e (0, 0))) (j : Nat) (v : Value) : (w.setCell ⟨b, j, none⟩ v).heap[b]? = some (.cells (l.set j v).toArray e (0, 0)) := by
  simp only [World.setCell, Array.getElem?_modify, h]
  simp
theorem row_frozen {b : Nat} {w : World} {C : Array Value} {e : TypeId} (h : w.heap[b]? = some (.cells C e (0, 0))) (j : Nat) : w.frozen? ⟨b, j, none⟩ = false := by
  simp [World.frozen?, h]

/-- the row of numbers behind a round -/
structure Filling (o : Ig) (fs fl : List (List UInt8)) (t B g : Nat) (W : World) (k : Nat) (w : World) : Prop where
  tbl : Tbl o (adds fs (fl.take k)) t B w
  row : w.heap[g]? = some (.cells (fill (nums fs (fl.take k)) fl.length).toArray 3 (0, 0))
  but : But (fun j => j = B) W w

theorem Filling.step {o : Ig} {fs fl : List (List UInt8)} {t B g : Nat} {W : World} {k : Nat} {w w1 : World} (h : Filling o fs fl t B g W k w) (hk : k < fl.length) (hgW : W.heap.size ≤ g) (hT : Tbl o (add (adds fs (fl.take k)) fl[k]) t B w1) (hb : But (fun j => j = B) w w1) :
    Filling o fs fl t B g W (k + 1) (w1.setCell ⟨g, k, none⟩ (.int .i64 (num (adds fs (fl.take k)) fl[k]))) := by
  have hgB := h.tbl.row_ne h.row
  have hrow : w1.heap[g]? = some (.cells (fill (nums fs (fl.take k)) fl.length).toArray 3 (0, 0)) := (hb.block g (Array.getElem?_eq_some_iff.1 h.row).1 hgB).trans h.row
  have htk : fl.take (k + 1) = fl.take k ++ [fl[k]] := (List.take_append_getElem hk).symm
  have hlen : (nums fs (fl.take k)).length = k := by rw [nums_length, List.length_take]; omega
  have htg := hT.row_ne_t hrow (by decide)
  refine ⟨?_, ?_, ?_⟩
  · rw [htk, adds_snoc]
    exact hT.keep (But.setCell w1 ⟨g, k, none⟩ _) (fun e => htg e) (fun e => hgB e.symm)
  · rw [htk, nums_snoc, row_set hrow]
    have e := fill_step (nums fs (fl.take k)) fl.length (num (adds fs (fl.take k)) fl[k]) (by omega)
    rw [hlen] at e
    rw [e]
  · exact (h.but.trans hb (fun _ _ h => h)).trans (But.setCell w1 ⟨g, k, none⟩ _) (fun j hj e => by simp at e; omega)

set_option maxHeartbeats 1000000 in
theorem classes_any (ls fl fs : List (List UInt8)) (o : Ig) (t B : Nat) (vl : Value) (w : World) (hfl : Hid (fl = ls.map (canonL o))) (hlen : fl.length = ls.length) (hl : Hid (∀ a ∈ ls, a.length ≤ 137438953472)) (hn : fs.length + ls.length ≤ 1099511627776) (hT : Tbl o fs t B w) (hv : Holds w vl (scells ls)) :
    Calls Tryz.prog 42 #[.pointer (some ⟨t, 0, none⟩), vl] w fun e w' => ∃ v, e = .returned v ∧ w'.ownsRow w.heap.size 3 1 v ls.length (icells (nums fs fl)) ∧ Tbl o (adds fs fl) t B w' ∧ But (fun j => j = B) w w' := by
  have hmk := run_make_row' (P := Tryz.prog) 55 3 (.int .i64 0) 8 Tryz.underlying55 infoInt rfl .i64 .i64 ls.length (by omega) (by omega)
  have hF0 : Filling o fs fl t B w.heap.size w 0 (w.alloc (.cells (madeCells #[.int .i64 0] ls.length) 3)) := by
    have hb : Below w.heap.size w (w.alloc (.cells (madeCells #[.int .i64 0] ls.length) 3)) := (Below.refl _ w).alloc (Nat.le_refl _) _
    refine ⟨hT.keep (S := fun _ => False) (.of_below hb) (fun h => h) (fun h => h), ?_, .of_below hb⟩
    rw [made_fill, hlen]
    exact _root_.Go.heap_alloc_new w _
  have fin : ∀ {wr : World}, Filling o fs fl t B w.heap.size w ls.length wr → wr.ownsRow w.heap.size 3 1 (.slice (some ⟨w.heap.size, 0, none⟩) ls.length ls.length) ls.length (icells (nums fs fl)) ∧ Tbl o (adds fs fl) t B wr ∧ But (fun j => j = B) w wr := by
    intro wr h
    have e1 : fl.take ls.length = fl := List.take_of_length_le (by omega)
    have e2 : (nums fs fl).length = fl.length := nums_length _ _
    obtain ⟨h1, h2, h3⟩ := h
    rw [e1] at h1 h2
    rw [fill_full e2] at h2
    refine ⟨⟨by rw [icells_length, e2, hlen]; omega, .inr ⟨_, _, _, rfl, Nat.le_refl _, h2, Nat.le_refl _, by unfold maxLen; omega, by simp [icells_length, e2, hlen], ?_⟩⟩, h1, h3⟩
    rw [Nat.mul_one, ← hlen, ← e2, ← icells_length]
    exact List.take_length
  have FIN : Hid (∀ {wr : World}, Filling o fs fl t B w.heap.size w ls.length wr → wr.ownsRow w.heap.size 3 1 (.slice (some ⟨w.heap.size, 0, none⟩) ls.length ls.length) ls.length (icells (nums fs fl)) ∧ Tbl o (adds fs fl) t B wr ∧ But (fun j => j = B) w wr) := fin
  clear fin
  by_cases h0 : 0 < ls.length
  · obtain ⟨b, off, c, rfl, hbl, hc⟩ := hv.at (by rw [scells_length]; exact h0)
    have hbB : b ≠ B := hT.cell_ne (hc 0 (by rw [scells_length]; exact h0))
    have HC : Hid (∀ j (h : j < ls.length), w.cell? ⟨b, off + j, none⟩ = some (.string ⟨ls[j].toArray⟩)) := fun j h => by rw [hc j (by rw [scells_length]; exact h)]; simp [scells]
    clear hc hv hT
    rw [scells_length]
    go_enter Tryz.func42, Tryz.ntmps42
    go_wp2
    clear hmk
    generalize w.alloc (.cells (madeCells #[.int .i64 0] ls.length) 3) = w0 at hF0 ⊢
    go_loopw [13] (fun i wr => ∃ k : Nat, k ≤ ls.length ∧ i = .int .i64 k ∧ Filling o fs fl t B w.heap.size w k wr) (fun i _ => ls.length - (intOf i).toNat)
    case atStart => exact ⟨0, Nat.zero_le _, rfl, hF0⟩
    case round =>
      obtain ⟨k, hk, rfl, hF⟩ := hrel
      by_cases hlt : k < ls.length
      · have d1 : wr.cell? ⟨b, off + k, none⟩ = some (.string ⟨ls[k].toArray⟩) := (World.cell?_of_block (w := w) (hF.but.block b hbl hbB)).trans (HC.out k hlt)
        have i1 : 0 ≤ (k : Int) := by omega
        have i2 : (k : Int) < (ls.length : Int) := by omega
        have hkf : k < fl.length := by omega
        have hcan : canonL o ls[k] = fl[k] := by simp only [hfl.out, List.getElem_map]
        have hal := adds_le (fl.take k) fs
        rw [List.length_take] at hal
        go_wp2_with fail
        refine (Class_any ls[k] o _ t B wr (hl.out _ (List.getElem_mem hlt)) (by omega) hF.tbl).mono ?_
        rintro e w1 ⟨rfl, hT1, hb1⟩
        rw [hcan] at hT1 ⊢
        have hF1 := hF.step hkf (Nat.le_refl _) hT1 hb1
        have hg1 := (hb1.block w.heap.size (Array.getElem?_eq_some_iff.1 hF.row).1 (hF.tbl.row_ne hF.row)).trans hF.row
        have fz := row_frozen hg1 k
        have c1 : w1.cell? ⟨w.heap.size, k, none⟩ = (fill (nums fs (fl.take k)) fl.length)[k]? := by rw [Lib.cell_of_heap hg1]; simp
        rw [List.getElem?_eq_getElem (by rw [fill_length _ _ (by rw [nums_length, List.length_take]; omega)]; exact hkf)] at c1
        clear hT1 hb1 hg1 hcan hal d1
        generalize num (adds fs (fl.take k)) fl[k] = m at *
        go_wp2
        go_roundw
        case rel => exact ⟨k + 1, by omega, by go_num, hF1⟩
        case measure => simp [intOf]; omega
      · have e : k = ls.length := by omega
        subst e
        go_wp2
        go_ret
        exact ⟨_, rfl, FIN.out hF⟩
  · obtain ⟨ao, ca, rfl⟩ := hv.form
    have hz : ls = [] := List.eq_nil_of_length_eq_zero (by omega)
    subst hz
    have hF1 := FIN.out hF0
    clear FIN hF0 hlen hfl hl hT hv hn h0
    simp only [scells, List.map_nil, List.length_nil, Int.natCast_zero] at hmk hF1 ⊢
    go_enter Tryz.func42, Tryz.ntmps42
    go_wp2
    refine wp_loop_rounds 1 ?_
    rw [rounds_succ]
    go_wp2
    go_ret
    exact ⟨_, rfl, hF1⟩

theorem Tbl.owns {o : Ig} {fs : List (List UInt8)} {t B N : Nat} {e : TypeId} {v : Value} {n : Nat} {xs : List Value} {w w' : World} (h : Tbl o fs t B w) (ho : w.ownsRow N e 1 v n xs) (hb : But (fun j => j = B) w w') : w'.ownsRow N e 1 v n xs := by
  refine ⟨ho.1, ?_⟩
  rcases ho.2 with h1 | ⟨g, cap, cur, q1, q2, q3, q4⟩
  · exact .inl h1
  · exact .inr ⟨g, cap, cur, q1, q2, (hb.block g (Array.getElem?_eq_some_iff.1 q3).1 (h.row_ne q3)).trans q3, q4⟩

set_option maxHeartbeats 1000000 in
theorem Classes_f (la lb fa fb : List (List UInt8)) (o : Ig) (va vb : Value) (w : World) (hfa : Hid (fa = la.map (canonL o))) (hfb : Hid (fb = lb.map (canonL o))) (hla : Hid (∀ a ∈ la, a.length ≤ 137438953472)) (hlb : Hid (∀ a ∈ lb, a.length ≤ 137438953472)) (hn : la.length + lb.length ≤ 1099511627776)
    (ha : Holds w va (scells la)) (hb : Holds w vb (scells lb)) :
    Calls Tryz.prog 21 #[va, vb, igV o] w fun e w' => ∃ vx vy, e = .returned (.tuple #[vx, vy, .int .i64 (adds [] (fa ++ fb)).length]) ∧ Holds w' vx (icells (nums [] fa)) ∧ Holds w' vy (icells (nums (adds [] fa) fb)) ∧ Below w.heap.size w w' := by
  have ea : fa.length = la.length := by rw [hfa.out]; simp
  have eb : fb.length = lb.length := by rw [hfb.out]; simp
  have hal := adds_le fa []
  have hb0 : Below w.heap.size w (w.alloc (.cells #[.bool o.sp, .bool o.wt, .bool o.bl, .bool o.cs, .bool o.tb, .bool o.tr] 31)) := (Below.refl _ w).alloc (Nat.le_refl _) _
  unfold igV
  go_enter Tryz.func21, Tryz.ntmps21
  go_wp2_with fail
  refine (New_any o _).mono ?_
  rintro e w1 ⟨t, B, rfl, hT, ht, hB, hb1⟩
  have hz0 := hb0.size
  have hb2 := hb0.trans (hb1.mono hz0)
  generalize w.alloc (.cells #[.bool o.sp, .bool o.wt, .bool o.bl, .bool o.cs, .bool o.tb, .bool o.tr] 31) = wb at *
  have ha1 := ha.keep hb2.block
  have hvb1 := hb.keep hb2.block
  go_wp2_with fail
  refine (classes_any la fa [] o t B va w1 hfa ea hla (by simp; omega) hT ha1).mono ?_
  rintro e w2 ⟨vx, rfl, hx, hT2, hb3⟩
  have hb4 := hb3.below hb2 hb2.size (fun k e => by subst e; omega)
  have hvb2 := hb.keep hb4.block
  go_wp2_with fail
  refine (classes_any lb fb _ o t B vb w2 hfb eb hlb (by simp at hal; omega) hT2 hvb2).mono ?_
  rintro e w3 ⟨vy, rfl, hy, hT3, hb5⟩
  have hb6 := hb5.below hb4 hb4.size (fun k e => by subst e; omega)
  have hx3 := hT2.owns hx hb5
  rw [← adds_append] at hT3
  go_wp2_with fail
  refine (Size_any o _ t B w3 hT3).mono ?_
  rintro e w4 ⟨rfl, rfl⟩
  go_wp2
  go_ret3
  exact ⟨vx, vy, rfl, holds_of hx3, holds_of hy, hb6⟩

theorem Classes_any (la lb : List (List UInt8)) (o : Ig) (va vb : Value) (w : World) (hla : ∀ a ∈ la, a.length ≤ 137438953472) (hlb : ∀ a ∈ lb, a.length ≤ 137438953472) (hn : la.length + lb.length ≤ 1099511627776) (ha : Holds w va (scells la)) (hb : Holds w vb (scells lb)) :
    Calls Tryz.prog 21 #[va, vb, igV o] w fun e w' => ∃ vx vy, e = .returned (.tuple #[vx, vy, .int .i64 (adds [] (la.map (canonL o) ++ lb.map (canonL o))).length]) ∧ Holds w' vx (icells (nums [] (la.map (canonL o)))) ∧ Holds w' vy (icells (nums (adds [] (la.map (canonL o))) (lb.map (canonL o)))) ∧ Below w.heap.size w w' :=
  Classes_f la lb _ _ o va vb w (show _ = _ from rfl) (show _ = _ from rfl) hla hlb hn ha hb
end Go.Proofs.YtnlbjknfahhfaaaGreatDoor.Tx

/- The reference's table in memory: what is ignored, and the first line of each class; its calls Look and Class, walked. -/
set_option maxRecDepth 20000
namespace Go.Proofs.YtnlbjknfahhfaaaGreatDoor.Tx
open Cn It Go.RowKit Go.Maps
attribute [local go_sem] ba_at ByteArray.extract_mk ba_cat
attribute [local simp] stay_drew

section
variable {o : Ig} {ls : List (List UInt8)} {t N : Nat} {v : Value} {w w' : World}
end

theorem look_at {gs : List (List UInt8)} {f : List UInt8} {k : Nat} (hk : k < gs.length) (hn : ∀ j (h : j < gs.length), j < k → gs[j] ≠ f) (he : gs[k] = f) : lookN gs f = k ∧ lookB gs f = true := by
  have hm : f ∈ gs := by rw [← he]; exact List.getElem_mem hk
  refine ⟨?_, List.contains_iff_mem.2 hm⟩
  rw [lookN_old hm]
  have h1 := num_lt hm
  have h2 : gs[num gs f] = f := List.getElem_idxOf h1
  rcases Nat.lt_trichotomy (num gs f) k with h | h | h
  · exact absurd h2 (hn _ h1 h)
  · exact h
  · exact absurd he (by have := List.not_of_lt_findIdx (p := (· == f)) (xs := gs) h; simpa using this)
theorem look_end {gs : List (List UInt8)} {f : List UInt8} (hn : ∀ j (h : j < gs.length), gs[j] ≠ f) : lookN gs f = 0 ∧ lookB gs f = false := by
  have hm : f ∉ gs := by
    intro h
    obtain ⟨j, hj, e⟩ := List.getElem_of_mem h
    exact hn j hj e
  exact ⟨lookN_new hm, Bool.eq_false_iff.2 (fun e => hm (List.contains_iff_mem.1 e))⟩

/-- the first lines of the classes, once a line was shown -/
def radd (o : Ig) (ls : List (List UInt8)) (l : List UInt8) : List (List UInt8) := if (ls.map (canonL o)).contains (canonL o l) then ls else ls ++ [l]
theorem radd_map (o : Ig) (ls : List (List UInt8)) (l : List UInt8) : (radd o ls l).map (canonL o) = add (ls.map (canonL o)) (canonL o l) := by
  unfold radd add
  split <;> simp
theorem radd_mem {o : Ig} {ls : List (List UInt8)} {l a : List UInt8} (h : a ∈ radd o ls l) : a ∈ ls ∨ a = l := by
  unfold radd at h
  split at h
  · exact .inl h
  · simpa using h
theorem radd_len (o : Ig) (ls : List (List UInt8)) (l : List UInt8) : (radd o ls l).length ≤ ls.length + 1 := by unfold radd; split <;> simp

end Go.Proofs.YtnlbjknfahhfaaaGreatDoor.Tx

/- The reference's classes of two lists of lines, walked. -/
set_option maxRecDepth 20000
namespace Go.Proofs.YtnlbjknfahhfaaaGreatDoor.Tx
open Cn It Go.RowKit Go.Maps
attribute [local go_sem] ba_at ByteArray.extract_mk ba_cat

section
variable {o : Ig} {ls : List (List UInt8)} {t N base n : Nat} {v vx : Value} {xs : List Value} {w w' : World}
theorem owns_but {S : Nat → Prop} {e : TypeId} (ho : w.ownsRow base e 1 vx n xs) (hb : But S w w') (hS : ∀ g, vx.ownBlock = some g → ¬ S g) : w'.ownsRow base e 1 vx n xs := by
  refine ⟨ho.1, ?_⟩
  rcases ho.2 with h1 | ⟨g, cap, cur, q1, q2, q3, q4⟩
  · exact .inl h1
  · exact .inr ⟨g, cap, cur, q1, q2, (hb.block g (Array.getElem?_eq_some_iff.1 q3).1 (hS g (by rw [q1]; rfl))).trans q3, q4⟩
theorem owns_ge {e : TypeId} (ho : w.ownsRow base e 1 vx n xs) {g : Nat} (hg : vx.ownBlock = some g) : base ≤ g := by
  rcases ho.2 with ⟨h1, _⟩ | ⟨g', cap, cur, q1, q2, _⟩
  · rw [h1] at hg; cases hg
  · rw [q1] at hg; cases hg; exact q2
theorem owns_lt {e : TypeId} (ho : w.ownsRow base e 1 vx n xs) {g : Nat} (hg : vx.ownBlock = some g) : g < w.heap.size := by
  rcases ho.2 with ⟨h1, _⟩ | ⟨g', cap, cur, q1, q2, q3, _⟩
  · rw [h1] at hg; cases hg
  · rw [q1] at hg; cases hg; exact (Array.getElem?_eq_some_iff.1 q3).1
end

end Go.Proofs.YtnlbjknfahhfaaaGreatDoor.Tx

/- A world that holds the library's tables on letters, as the rows list them. -/
set_option maxRecDepth 20000
namespace Go.Proofs.YtnlbjknfahhfaaaGreatDoor.Tx

def put (cs : Array Value) : Obj → Obj
  | .cells _ t frozen => .cells cs t frozen
  | o => o

/-- a world for the witness: the tables on letters hold what the rows list -/
def laidOnU (w : World) : World :=
  { w with heap := (w.heap.modify 5 (put ((Go.Pinned.utf8FirstZ.map fun n : Nat => Value.int .u8 (n : Int)).toArray))).modify 6 (put (([128, 191, 160, 191, 128, 159, 144, 191, 128, 143, 0, 0, 0, 0, 0, 0, 0, 0, 0, 0, 0, 0, 0, 0, 0, 0, 0, 0, 0, 0, 0, 0] : List Int).map (Value.int .u8)).toArray) }
end Go.Proofs.YtnlbjknfahhfaaaGreatDoor.Tx
