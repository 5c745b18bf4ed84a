/-
  Texts that belong together, joined: CnSmall, CnBox, CnSteps, CnShelfB, CnLeaf, CnOne, CnCanon, CnEqual, ItTab, ItRow, ItAll.
-/
import Derived.Test.YtjhanfiohfakoaaGreatDoorPartA1
import Derived.Deep.CutRange
import Derived.Deep.DeepCutAuto
import Derived.Deep.RegionHeld3
import Derived.Laws.EntriesVeiled
import Derived.Carry
import Derived.Test.YtjhanfiohfakoaaGreatDoorProg
import Derived.WalkKit
import Derived.WalkSpells
import Derived.WalkLawsBesides
import Derived.Deep.QuietTactic
import Derived.BigQuiet
import Derived.Laws.AppendOwnNone
import Derived.Deep.OwnRows

/- Layer canon and its reference, walked: a text with small letters (in place, in new bytes), and the reference's text with blanks in the place of tabs. -/
set_option maxRecDepth 20000
namespace Go.Proofs.YtjhanfiohfakoaaGreatDoor.Tx
open Cn Go.RowKit
attribute [local go_sem] ba_at ByteArray.extract_mk

/-- what a text's bytes lie in; they may be written -/
theorem conv_new {P : Program} (w : World) (src dst e : TypeId) (l : List UInt8) (hs : P.underlying src = some .string) (hd : P.underlying dst = some (.slice e)) (he : P.underlying e = some (.int .u8)) :
    ∃ cap C n w', (convert src dst (.string ⟨l.toArray⟩)).run P w = .ok (.slice (some ⟨w.heap.size, 0, none⟩) l.length cap) w' ∧ w'.heap[w.heap.size]? = some (.cells C e (n, n + 1)) ∧ C.size = n ∧ (∀ j (h : j < l.length), C[j]? = some (.int .u8 (l[j].toNat : Int))) ∧ Below w.heap.size w w' := by
  refine ⟨_, _, _, _, run_bytes_of_string w src dst e ⟨l.toArray⟩ hs hd he, _root_.Go.heap_alloc_new w.drew _, rfl, ?_, ((Below.refl _ w).drew).alloc (Nat.le_refl _) _⟩
  intro j hj
  unfold bytesRow
  rw [Array.getElem?_append_left (by simpa using hj)]
  simp [hj]

/-- a slice's length -/
def lenS : Value → Nat
  | .slice _ n _ => n
  | _ => 0
theorem lenS_own {w : World} {B : Nat} {e : TypeId} {size : Nat} {v : Value} {n : Nat} {xs : List Value} (h : w.ownsRowF B e size v n xs) : ∃ ao cap, v = .slice ao n cap := by
  rcases h.2 with ⟨rfl, rfl⟩ | ⟨g, cap, cur, fz, q1, _⟩
  · exact ⟨_, _, rfl⟩
  · exact ⟨_, _, q1⟩

/-- a row of which the first ones are small -/
def Part (l : List UInt8) (k : Nat) (C : Array Value) : Prop := (∀ j (h : j < l.length), j < k → C[j]? = some (.int .u8 ((low l[j]).toNat : Int))) ∧ ∀ j (h : j < l.length), k ≤ j → C[j]? = some (.int .u8 (l[j].toNat : Int))

set_option maxHeartbeats 1000000 in
theorem inSmall_any (l : List UInt8) (w : World) (hl : l.length ≤ 1099511627776) :
    Calls Tryz.prog 62 #[.string ⟨l.toArray⟩] w fun e w' => e = .returned (.string ⟨(smL l).toArray⟩) ∧ Below w.heap.size w w' := by
  obtain ⟨cap, C0, n, w2, hcv, hR, hn0, hC0, hb2⟩ := conv_new (P := Tryz.prog) w 9 125 5 l Tryz.underlying9 Tryz.underlying125 Tryz.underlying5
  generalize hg : w.heap.size = g at *
  have HG : Hid (w.heap.size = g) := hg
  clear hg
  go_enter Tryz.func62, Tryz.ntmps62
  go_wp2
  go_loopw [4, 5, 10] (fun _ _ i wr => ∃ (k : Nat) (C : Array Value), k ≤ l.length ∧ i = .int .i64 k ∧ wr.heap[g]? = some (.cells C 5 (n, n + 1)) ∧ C.size = n ∧ Hid (Part l k C) ∧ Below g w wr) (fun _ _ i _ => l.length - (intOf i).toNat)
  case atStart => exact ⟨0, C0, Nat.zero_le _, rfl, hR, hn0, ⟨fun j h hj => absurd hj (Nat.not_lt_zero j), fun j h _ => hC0 j h⟩, hb2⟩
  case round =>
    obtain ⟨k, C, hk, rfl, hgC, hCn, HC, hbr⟩ := hrel
    by_cases hlt : k < l.length
    · have hck : wr.cell? ⟨g, k, none⟩ = some (.int .u8 (l[k].toNat : Int)) := by rw [Lib.cell_of_heap hgC]; exact HC.out.2 k hlt (Nat.le_refl _)
      have hCs : k < C.size := by
        have := HC.out.2 k hlt (Nat.le_refl _)
        exact (Array.getElem?_eq_some_iff.1 this).1
      have hfk : wr.frozen? ⟨g, k, none⟩ = false := by
        simp only [World.frozen?, hgC]
        rw [decide_eq_false (by omega)]; rfl
      have i1 : 0 ≤ (k : Int) := by omega
      have i2 : (k : Int) < (l.length : Int) := by omega
      by_cases hc : 65 ≤ l[k].toNat ∧ l[k].toNat ≤ 90
      · have HL : Hid (((low l[k]).toNat : Int) = (l[k].toNat : Int) - 65 + 97) := low_yes hc
        have c1 : (65 : Int) ≤ (l[k].toNat : Int) := by omega
        have c2 : (l[k].toNat : Int) ≤ 90 := by omega
        go_wp2
        go_roundw
        case rel =>
          refine ⟨k + 1, C.setIfInBounds k (.int .u8 ((l[k].toNat : Int) - 65 + 97)), by omega, by go_num, ?_, by simpa using hCn, ⟨fun j h hj => ?_, fun j h hj => ?_⟩, hbr.setCell (p := ⟨g, k, none⟩) (Nat.le_refl _) _⟩
          · simp only [World.setCell, Array.getElem?_modify, hgC]
            simp
          · rw [← HL.out, Array.getElem?_setIfInBounds]
            by_cases e : k = j
            · subst e; rw [if_pos rfl, if_pos hCs]
            · rw [if_neg e]; exact HC.out.1 j h (by omega)
          · rw [Array.getElem?_setIfInBounds, if_neg (by omega)]
            exact HC.out.2 j h (by omega)
        case measure => simp [intOf]; omega
      · have HL : Hid (low l[k] = l[k]) := low_no hc
        have hcc : decide ((65 : Int) ≤ (l[k].toNat : Int)) = false ∨ (decide ((65 : Int) ≤ (l[k].toNat : Int)) = true ∧ decide ((l[k].toNat : Int) ≤ 90) = false) := by
          by_cases h65 : 65 ≤ l[k].toNat
          · exact .inr ⟨decide_eq_true (by omega), decide_eq_false (by omega)⟩
          · exact .inl (decide_eq_false (by omega))
        have HP : Hid (Part l (k + 1) C) := by
          refine ⟨fun j h hj => ?_, fun j h hj => HC.out.2 j h (by omega)⟩
          by_cases e : j = k
          · subst e; rw [HL.out]; exact HC.out.2 j h (Nat.le_refl _)
          · exact HC.out.1 j h (by omega)
        rcases hcc with c1 | ⟨c1, c2⟩
        all_goals
          go_wp2
          go_roundw
          case rel => exact ⟨k + 1, C, by omega, by go_num, hgC, hCn, HP, hbr⟩
          case measure => simp [intOf]; omega
    · have hcs : (convert 125 9 (.slice (some ⟨g, 0, none⟩) l.length cap)).run Tryz.prog wr = .ok (.string ⟨(smL l).toArray⟩) wr := by
        have e : l.length = (smL l).length := (sm_len l).symm
        rw [e]
        refine run_convert_bytes_back wr 125 9 5 ⟨g, 0, none⟩ cap (smL l) Tryz.underlying125 Tryz.underlying5 Tryz.underlying9 ?_
        intro j hj
        have hj' : j < l.length := by rw [e]; exact hj
        have hadd : (⟨g, 0, none⟩ : Addr).add j = ⟨g, j, none⟩ := by unfold Addr.add; split <;> simp_all
        rw [hadd, Lib.cell_of_heap hgC]
        have := HC.out.1 j hj' (by omega)
        simpa [smL] using this
      go_wp2
      go_ret
      exact ⟨rfl, hbr⟩

set_option maxHeartbeats 2000000 in
theorem refExpand_any (l : List UInt8) (w : World) (hl : l.length ≤ 1099511627776) :
    Calls Tryz.prog 142 #[.string ⟨l.toArray⟩] w fun e w' => e = .returned (.string ⟨(expL 0 l).toArray⟩) ∧ Below w.heap.size w w' := by
  obtain ⟨i0, hi, hz0, hz1, hz2⟩ := info_parts infoU8
  have hwl := exp_len l 0
  go_enter Tryz.func142, Tryz.ntmps142
  go_wp2
  go_loopw [3, 4] (fun out i wr => ∃ (k : Nat) (acc : List UInt8), k ≤ l.length ∧ i = .int .i64 k ∧ wr.ownsRowF w.heap.size 5 1 out acc.length (Lib.byteCells acc) ∧ Below w.heap.size w wr ∧ acc ++ expL acc.length (l.drop k) = expL 0 l) (fun _ i _ => l.length - (intOf i).toNat)
  case atStart => exact ⟨0, [], Nat.zero_le _, rfl, World.ownsRowF_of (World.ownsRow_nil _ _ _ _), Below.refl _ _, rfl⟩
  case round =>
    obtain ⟨k, acc, hk, rfl, hown, hbr, hacc⟩ := hrel
    have hal : acc.length ≤ 8 * l.length := by
      have := congrArg List.length hacc
      rw [List.length_append] at this
      omega
    have hbz := hbr.size
    by_cases hlt : k < l.length
    · have hdk : l.drop k = l[k] :: l.drop (k + 1) := List.drop_eq_getElem_cons hlt
      rw [hdk] at hacc
      clear hdk
      by_cases hc : l[k] = 9
      · have HD : Hid (acc ++ [32] ++ List.replicate (fillN (acc ++ [32]).length) 32 ++ expL ((acc ++ [32]).length + fillN (acc ++ [32]).length) (l.drop (k + 1)) = expL 0 l) := by
          rw [hc, exp_tab, fill_first] at hacc
          show _ = _
          rw [← hacc, List.length_append, List.length_singleton, List.replicate_succ]
          have e : acc.length + (fillN (acc.length + 1) + 1) = acc.length + 1 + fillN (acc.length + 1) := by omega
          rw [e]
          simp
        clear hacc
        have hb9 : ((l[k].toNat : Int) != 9) = false := by rw [hc]; rfl
        go_wp2_with (at_builtin; refine wpList_append_ownX _ rfl _ _ 125 rfl w.heap.size 5 i0 (.int .u8 0) 1 1 Tryz.underlying125 hi hz0 hz1 hz2 rfl (by decide) _ _ _ rfl (hown.alloc _) ⟨wr.heap.size, 0, none⟩ 1 1 [.int .u8 32] rfl rfl (new_cells _ _ _) (one_cell _ _) ?c3 ?c4 ?c5 ?_)
        case c3 => unfold maxLen; omega
        case c4 => omega
        case c5 => simp; omega
        intro v' w2 hown' hgrow hfr
        have hb2 : Below w.heap.size w w2 := (hbr.alloc hbz _).grown hgrow (by simp; omega) (fun j hj => (hown.lt j hj).1)
        have hown2 : w2.ownsRowF w.heap.size 5 1 v' (acc ++ [32]).length (Lib.byteCells (acc ++ [32])) := by rw [byteCells_snoc]; simpa using hown'
        clear hown' hgrow hfr hown hbr hbz
        have hal2 : (acc ++ [32]).length ≤ 8 * l.length + 1 := by rw [List.length_append, List.length_singleton]; omega
        have hal3 : (acc ++ [32]).length + fillN (acc ++ [32]).length ≤ 8 * l.length := by
          have := congrArg List.length HD.out
          rw [List.length_append, List.length_append, List.length_replicate] at this
          omega
        generalize acc ++ [32] = acc2 at *
        go_wp2
        go_loopw [3] (fun out wx => ∃ acc3 : List UInt8, wx.ownsRowF w.heap.size 5 1 out acc3.length (Lib.byteCells acc3) ∧ Below w.heap.size w wx ∧ Hid (acc3 ++ List.replicate (fillN acc3.length) 32 = acc2 ++ List.replicate (fillN acc2.length) 32)) (fun out _ => 8 * l.length + 1 - lenS out)
        case atStart => exact ⟨acc2, hown2, hb2, rfl⟩
        case round =>
          obtain ⟨acc3, hown3, hb3, HF⟩ := hrel
          have hl3 : acc3.length + fillN acc3.length ≤ 8 * l.length := by
            have := congrArg List.length HF.out
            rw [List.length_append, List.length_append, List.length_replicate, List.length_replicate] at this
            omega
          have hbz3 := hb3.size
          obtain ⟨ao, cap, rfl⟩ := lenS_own hown3
          by_cases hm : acc3.length % 8 = 0
          · have hmb : (((acc3.length : Int) % 8) != 0) = false := by
              rw [bne_eq_false_iff_eq]; omega
            have HE : Hid (acc3 ++ expL acc3.length (l.drop (k + 1)) = expL 0 l) := by
              have h1 := HF.out
              rw [fill_end hm, List.replicate_zero, List.append_nil] at h1
              have h2 : acc3.length = acc2.length + fillN acc2.length := by rw [h1, List.length_append, List.length_replicate]
              have h3 := HD.out
              rw [← h1, ← h2] at h3
              exact h3
            clear HF HD hl3 hal3 hal2
            go_wp2
            go_roundw
            case rel => exact ⟨k + 1, acc3, by omega, by go_num, hown3, hb3, HE.out⟩
            case measure => simp [intOf]; omega
          · have hmb : (((acc3.length : Int) % 8) != 0) = true := by
              rw [bne_iff_ne]; omega
            have HE : Hid ((acc3 ++ [32]) ++ List.replicate (fillN (acc3 ++ [32]).length) 32 = acc2 ++ List.replicate (fillN acc2.length) 32) := by
              have h1 := HF.out
              rw [fill_more hm, List.replicate_succ] at h1
              show _ = _
              rw [← h1, List.length_append, List.length_singleton]
              simp
            have hf1 := fill_more hm
            clear HF HD hal3 hal2
            go_wp2_with (at_builtin; refine wpList_append_ownX _ rfl _ _ 125 rfl w.heap.size 5 i0 (.int .u8 0) 1 1 Tryz.underlying125 hi hz0 hz1 hz2 rfl (by decide) _ _ _ rfl (hown3.alloc _) ⟨wr.heap.size, 0, none⟩ 1 1 [.int .u8 32] rfl rfl (new_cells _ _ _) (one_cell _ _) ?c3 ?c4 ?c5 ?_)
            case c3 => unfold maxLen; omega
            case c4 => omega
            case c5 => simp; omega
            intro v5 w5 hown5 hgrow5 hfr5
            have hown6 : w5.ownsRowF w.heap.size 5 1 v5 (acc3 ++ [32]).length (Lib.byteCells (acc3 ++ [32])) := by rw [byteCells_snoc]; simpa using hown5
            clear hown5
            obtain ⟨ao5, cap5, rfl⟩ := lenS_own hown6
            go_wp2
            go_roundw
            case rel => exact ⟨acc3 ++ [32], hown6, (hb3.alloc hbz3 _).grown hgrow5 (by simp; omega) (fun j hj => (hown3.lt j hj).1), HE⟩
            case measure =>
              simp only [lenS, List.length_append, List.length_singleton]
              omega
      · have HD : Hid (acc ++ [l[k]] ++ expL (acc ++ [l[k]]).length (l.drop (k + 1)) = expL 0 l) := by
          rw [exp_other hc] at hacc
          show _ = _
          rw [← hacc, List.append_assoc, List.length_append]; rfl
        clear hacc
        have hb9 : ((l[k].toNat : Int) != 9) = true := (not9 hc).2
        go_wp2_with (at_builtin; refine wpList_append_ownX _ rfl _ _ 125 rfl w.heap.size 5 i0 (.int .u8 0) 1 1 Tryz.underlying125 hi hz0 hz1 hz2 rfl (by decide) _ _ _ rfl (hown.alloc _) ⟨wr.heap.size, 0, none⟩ 1 1 [.int .u8 (l[k].toNat : Int)] rfl rfl (new_cells _ _ _) (one_cell _ _) ?c3 ?c4 ?c5 ?_)
        case c3 => unfold maxLen; omega
        case c4 => omega
        case c5 => simp; omega
        intro v' w2 hown' hgrow hfr
        go_wp2
        go_roundw
        case rel => exact ⟨k + 1, acc ++ [l[k]], by omega, by go_num, by rw [byteCells_snoc]; simpa using hown', (hbr.alloc hbz _).grown hgrow (by simp; omega) (fun j hj => (hown.lt j hj).1), HD.out⟩
        case measure => simp [intOf]; omega
    · have HD : Hid (acc = expL 0 l) := by
        have e : l.drop k = [] := List.drop_eq_nil_of_le (by omega)
        rw [e] at hacc
        show acc = _
        simpa [expL] using hacc
      clear hacc
      have hcs := conv_string (P := Tryz.prog) wr 125 9 5 w.heap.size _ acc Tryz.underlying125 Tryz.underlying5 Tryz.underlying9 hown
      go_wp2
      go_ret
      rw [HD.out]
      exact ⟨rfl, hbr⟩
end Go.Proofs.YtjhanfiohfakoaaGreatDoor.Tx

/- What is ignored, as a value and as a variable's cells; the steps of the reference's text, walked one behind the other. -/
set_option maxRecDepth 20000
namespace Go.Proofs.YtjhanfiohfakoaaGreatDoor.Tx
open Cn Go.RowKit
attribute [local go_sem] ba_at ByteArray.extract_mk

/-- what is ignored, as a value -/
def igV (o : Ig) : Value := .agg #[.bool o.sp, .bool o.wt, .bool o.bl, .bool o.cs, .bool o.tb, .bool o.tr]
/-- a variable that holds it -/
def Boxed (o : Ig) (b : Nat) (w : World) : Prop := w.heap[b]? = some (.cells #[.bool o.sp, .bool o.wt, .bool o.bl, .bool o.cs, .bool o.tb, .bool o.tr] 24 (0, 0))
theorem Boxed.keep {o : Ig} {b : Nat} {w w' : World} (h : Boxed o b w) (hb : Below w.heap.size w w') : Boxed o b w' :=
  (hb.block b (Array.getElem?_eq_some_iff.1 h).1).trans h
theorem Boxed.fresh (o : Ig) (w : World) : Boxed o w.heap.size (w.alloc (.cells #[.bool o.sp, .bool o.wt, .bool o.bl, .bool o.cs, .bool o.tb, .bool o.tr] 24)) := _root_.Go.heap_alloc_new w _
theorem Boxed.cells {o : Ig} {b : Nat} {w : World} (h : Boxed o b w) : w.cell? ⟨b, 0, none⟩ = some (.bool o.sp) ∧ w.cell? ⟨b, 1, none⟩ = some (.bool o.wt) ∧ w.cell? ⟨b, 2, none⟩ = some (.bool o.bl) ∧ w.cell? ⟨b, 3, none⟩ = some (.bool o.cs) ∧ w.cell? ⟨b, 4, none⟩ = some (.bool o.tb) ∧ w.cell? ⟨b, 5, none⟩ = some (.bool o.tr) := by
  refine ⟨?_, ?_, ?_, ?_, ?_, ?_⟩ <;> rw [Lib.cell_of_heap h] <;> rfl

theorem stg_no {o : Ig} {k : Nat} (h : Cn.ask o k = false) (l : List UInt8) : stg o (k + 1) l = stg o k l := by rw [stg, h]; rfl
theorem stg_yes {o : Ig} {k : Nat} (h : Cn.ask o k = true) (l : List UInt8) : stg o (k + 1) l = act k (stg o k l) := by rw [stg, h]; rfl

set_option maxHeartbeats 1000000 in
theorem refText_any (l : List UInt8) (o : Ig) (w : World) (hl : l.length ≤ 137438953472) :
    Calls Tryz.prog 126 #[.string ⟨l.toArray⟩, igV o] w fun e w' => e = .returned (.string ⟨(stg o 5 l).toArray⟩) ∧ Below w.heap.size w w' := by
  have g1 := stg_len o l 1
  have g2 := stg_len o l 2
  have g3 := stg_len o l 3
  have g4 := stg_len o l 4
  have hbx := Boxed.fresh o w
  have hb0 : Below w.heap.size w (w.alloc (.cells #[.bool o.sp, .bool o.wt, .bool o.bl, .bool o.cs, .bool o.tb, .bool o.tr] 24)) := (Below.refl _ w).alloc (Nat.le_refl _) _
  unfold igV
  go_enter Tryz.func126, Tryz.ntmps126
  go_upto_if 6 with fail
  generalize w.alloc (.cells #[.bool o.sp, .bool o.wt, .bool o.bl, .bool o.cs, .bool o.tb, .bool o.tr] 24) = wb at hbx hb0 ⊢
  go_cut [0, 1] (fun z _ wz => z = .string ⟨(stg o 1 l).toArray⟩ ∧ Boxed o w.heap.size wz ∧ Below w.heap.size w wz)
  case first =>
    have hz := hb0.size
    cases hq : o.tb
    · have HS : Hid (stg o 1 l = l) := (stg_no (k := 0) hq l)
      clear hq
      go_wp2
      go_meet
      case rel => exact ⟨by rw [HS.out], hbx, hb0⟩
    · have HS : Hid (stg o 1 l = act 0 l) := (stg_yes (k := 0) hq l)
      clear hq
      go_wp2_with fail
      refine (refExpand_any l _ (by omega)).mono ?_
      rintro e w1 ⟨rfl, hb1⟩
      go_wp2
      go_meet
      case rel => exact ⟨by rw [HS.out]; rfl, (hbx.keep hb1), (hb0.trans (hb1.mono hz))⟩
  case rest =>
    obtain ⟨rfl, hbx, hb0⟩ := hcut
    have hd := hbx.cells
    obtain ⟨d0, d1, d2, d3, d4, d5⟩ := hd
    generalize hr1 : stg o 1 l = r1 at *
    go_upto_if 10 with fail
    clear d0 d1 d2 d3 d4 d5
    go_cut [0, 1] (fun z _ wz => z = .string ⟨(stg o 2 l).toArray⟩ ∧ Boxed o w.heap.size wz ∧ Below w.heap.size w wz)
    case first =>
      have hz := hb0.size
      cases hq : o.wt
      · have HS : Hid (stg o 2 l = r1) := (stg_no (k := 1) hq l).trans hr1
        clear hq
        go_wp2
        go_meet
        case rel => exact ⟨by rw [HS.out], hbx, hb0⟩
      · have HS : Hid (stg o 2 l = act 1 r1) := (stg_yes (k := 1) hq l).trans (congrArg _ hr1)
        clear hq
        go_wp2_with fail
        refine (refWithout_any r1 false _ (by omega)).mono ?_
        rintro e w1 ⟨rfl, hb1⟩
        go_wp2
        go_meet
        case rel => exact ⟨by rw [HS.out]; rfl, (hbx.keep hb1), (hb0.trans (hb1.mono hz))⟩
    case rest =>
      obtain ⟨rfl, hbx, hb0⟩ := hcut
      have hd := hbx.cells
      obtain ⟨d0, d1, d2, d3, d4, d5⟩ := hd
      generalize hr2 : stg o 2 l = r2 at *
      go_upto_if 14 with fail
      clear d0 d1 d2 d3 d4 d5
      go_cut [0, 1] (fun z _ wz => z = .string ⟨(stg o 3 l).toArray⟩ ∧ Boxed o w.heap.size wz ∧ Below w.heap.size w wz)
      case first =>
        have hz := hb0.size
        cases hq : o.sp
        · have HS : Hid (stg o 3 l = r2) := (stg_no (k := 2) hq l).trans hr2
          clear hq
          go_wp2
          go_meet
          case rel => exact ⟨by rw [HS.out], hbx, hb0⟩
        · have HS : Hid (stg o 3 l = act 2 r2) := (stg_yes (k := 2) hq l).trans (congrArg _ hr2)
          clear hq
          go_wp2_with fail
          refine (refWithout_any r2 true _ (by omega)).mono ?_
          rintro e w1 ⟨rfl, hb1⟩
          go_wp2_with fail
          refine (refTrail_any (wo true false r2) _ (by have := wo_len true r2 false; omega)).mono ?_
          rintro e w2 ⟨rfl, rfl⟩
          go_wp2
          go_meet
          case rel => exact ⟨by rw [HS.out]; rfl, (hbx.keep hb1), (hb0.trans (hb1.mono hz))⟩
      case rest =>
        obtain ⟨rfl, hbx, hb0⟩ := hcut
        have hd := hbx.cells
        obtain ⟨d0, d1, d2, d3, d4, d5⟩ := hd
        generalize hr3 : stg o 3 l = r3 at *
        go_upto_if 19 with fail
        clear d0 d1 d2 d3 d4 d5
        go_cut [0, 1] (fun z _ wz => z = .string ⟨(stg o 4 l).toArray⟩ ∧ Boxed o w.heap.size wz ∧ Below w.heap.size w wz)
        case first =>
          have hz := hb0.size
          cases hq : o.tr
          · have HS : Hid (stg o 4 l = r3) := (stg_no (k := 3) hq l).trans hr3
            clear hq
            go_wp2
            go_meet
            case rel => exact ⟨by rw [HS.out], hbx, hb0⟩
          · have HS : Hid (stg o 4 l = act 3 r3) := (stg_yes (k := 3) hq l).trans (congrArg _ hr3)
            clear hq
            go_wp2_with fail
            refine (refTrail_any r3 _ (by omega)).mono ?_
            rintro e w1 ⟨rfl, rfl⟩
            go_wp2
            go_meet
            case rel => exact ⟨by rw [HS.out]; rfl, hbx, hb0⟩
        case rest =>
          obtain ⟨rfl, hbx, hb0⟩ := hcut
          have hd := hbx.cells
          obtain ⟨d0, d1, d2, d3, d4, d5⟩ := hd
          generalize hr4 : stg o 4 l = r4 at *
          go_upto_if 23 with fail
          clear d0 d1 d2 d3 d4 d5
          go_cut [0, 1] (fun z _ wz => z = .string ⟨(stg o 5 l).toArray⟩ ∧ Boxed o w.heap.size wz ∧ Below w.heap.size w wz)
          case first =>
            have hz := hb0.size
            cases hq : o.cs
            · have HS : Hid (stg o 5 l = r4) := (stg_no (k := 4) hq l).trans hr4
              clear hq
              go_wp2
              go_meet
              case rel => exact ⟨by rw [HS.out], hbx, hb0⟩
            · have HS : Hid (stg o 5 l = act 4 r4) := (stg_yes (k := 4) hq l).trans (congrArg _ hr4)
              clear hq
              go_wp2_with fail
              refine (refSmall_any r4 _ (by omega)).mono ?_
              rintro e w1 ⟨rfl, hb1⟩
              go_wp2
              go_meet
              case rel => exact ⟨by rw [HS.out]; rfl, (hbx.keep hb1), (hb0.trans (hb1.mono hz))⟩
          case rest =>
            obtain ⟨rfl, hbx, hb0⟩ := hcut
            go_wp2
            go_ret
            exact ⟨rfl, hb0⟩
end Go.Proofs.YtjhanfiohfakoaaGreatDoor.Tx

/- The reference's form of a line, and the steps of layer canon in their memory, walked. -/
set_option maxRecDepth 20000
namespace Go.Proofs.YtjhanfiohfakoaaGreatDoor.Tx
open Cn Go.RowKit
theorem ba_cat (a b : List UInt8) : ((⟨a.toArray⟩ : ByteArray) ++ (⟨b.toArray⟩ : ByteArray)) = ⟨(a ++ b).toArray⟩ := by
  apply ByteArray.ext
  simp [ByteArray.data_append]
attribute [local go_sem] ba_at ByteArray.extract_mk ba_cat

set_option maxHeartbeats 1000000 in
theorem refCanon_any (l : List UInt8) (o : Ig) (w : World) (hl : l.length ≤ 137438953472) :
    Calls Tryz.prog 101 #[.string ⟨l.toArray⟩, igV o] w fun e w' => e = .returned (.string ⟨(canonL o l).toArray⟩) ∧ Below w.heap.size w w' := by
  have hbl := bare_len l
  have hsl := stg_len o (bareL l) 5
  have hbx := Boxed.fresh o w
  have hb0 : Below w.heap.size w (w.alloc (.cells #[.bool o.sp, .bool o.wt, .bool o.bl, .bool o.cs, .bool o.tb, .bool o.tr] 24)) := (Below.refl _ w).alloc (Nat.le_refl _) _
  have HC : Hid (canonL o l = stg o 5 (bareL l) ++ feedL l) := rfl
  unfold igV
  go_enter Tryz.func101, Tryz.ntmps101
  go_wp2_with fail
  refine (refBare_any l _ (by omega)).mono ?_
  rintro e w1 ⟨rfl, rfl⟩
  have hd := hbx.cells
  have hz := hb0.size
  generalize w.alloc (.cells #[.bool o.sp, .bool o.wt, .bool o.bl, .bool o.cs, .bool o.tb, .bool o.tr] 24) = wb at hbx hb0 hd hz ⊢
  obtain ⟨d0, d1, d2, d3, d4, d5⟩ := hd
  cases hf : feedB l
  · have HF : Hid (feedL l = []) := by show _ = _; rw [feedL, hf]; rfl
    go_wp2_with fail
    refine (refText_any (bareL l) o _ (by omega)).mono ?_
    rintro e w2 ⟨rfl, hb2⟩
    go_wp2
    go_ret
    rw [HC.out, HF.out, List.append_nil]
    exact ⟨rfl, hb0.trans (hb2.mono hz)⟩
  · have HF : Hid (feedL l = [10]) := by show _ = _; rw [feedL, hf]; rfl
    go_wp2_with fail
    refine (refText_any (bareL l) o _ (by omega)).mono ?_
    rintro e w2 ⟨rfl, hb2⟩
    go_wp2
    go_ret
    rw [HC.out, HF.out]
    exact ⟨rfl, hb0.trans (hb2.mono hz)⟩

theorem new2 (w : World) (x y : Obj) : ((w.alloc x).alloc y).heap[w.heap.size + 1]? = some y := by
  have h := _root_.Go.heap_alloc_new (w.alloc x) y
  have e : (w.alloc x).heap.size = w.heap.size + 1 := by simp
  rwa [e] at h
/-- the steps as they lie in memory -/
def Stepped (o : Ig) (g : Nat) (w : World) : Prop :=
  w.heap[g]? = some (.cells #[.bool o.tb, .func (.func 58) #[] #[], .bool o.wt, .func (.func 59) #[] #[], .bool o.sp, .func (.func 60) #[] #[], .bool o.tr, .func (.func 61) #[] #[], .bool o.cs, .func (.func 62) #[] #[]] 88 (0, 0))
theorem Stepped.keep {o : Ig} {g : Nat} {w w' : World} (h : Stepped o g w) (hb : Below w.heap.size w w') : Stepped o g w' :=
  (hb.block g (Array.getElem?_eq_some_iff.1 h).1).trans h

set_option maxHeartbeats 1000000 in
theorem steps_any (o : Ig) (w : World) :
    Calls Tryz.prog 45 #[igV o] w fun e w' => ∃ g, e = .returned (.slice (some ⟨g, 0, none⟩) 5 5) ∧ Stepped o g w' ∧ Below w.heap.size w w' := by
  unfold igV
  go_enter Tryz.func45, Tryz.ntmps45
  go_wp2
  go_ret
  exact ⟨w.heap.size + 1, rfl, new2 w _ _, ((Below.refl _ w).alloc (Nat.le_refl _) _).alloc (by simp) _⟩
end Go.Proofs.YtjhanfiohfakoaaGreatDoor.Tx

/- The library's contracts on writing into a strings.Builder and on strings.TrimRight with five bytes of white space, at this program: the program bears the bodies that they speak of. -/
set_option maxRecDepth 20000
namespace Go.Proofs
open Go.Shelf Go.RowKit Go.Lib
def Tryz.lays167_ren : Go.Shelf.Ren := ⟨fun | 167 => 85 | n => Tryz.lays105_ren.f n, Tryz.lays105_ren.t, Tryz.lays105_ren.g⟩
theorem Tryz.lays167 : Go.Proofs.Lays.n167 Tryz.prog Tryz.lays167_ren := {
  mixed := Tryz.lays105.mixed
  f167 := Tryz.func85.trans (congrArg some (by kernel_rfl))
  f240 := Tryz.func104.trans (congrArg some (by kernel_rfl))
  f276 := Tryz.func127.trans (congrArg some (by kernel_rfl))
  t0 := Tryz.lays105.t0
  a0 := Tryz.lays105.a0
  z0 := Tryz.lays105.z0
  v0 := Tryz.lays105.v0
  t4 := Tryz.lays105.t4
  a4 := Tryz.lays105.a4
  z4 := Tryz.lays105.z4
  v4 := Tryz.lays105.v4
  t5 := Tryz.lays105.t5
  a5 := Tryz.lays105.a5
  z5 := Tryz.lays105.z5
  v5 := Tryz.lays105.v5
  t9 := Tryz.lays105.t9
  a9 := Tryz.lays105.a9
  z9 := Tryz.lays105.z9
  v9 := Tryz.lays105.v9
  t20 := Tryz.lays105.t20
  a20 := Tryz.lays105.a20
  z20 := Tryz.lays105.z20
  v20 := Tryz.lays105.v20
  t37 := Tryz.lays105.t37
  a37 := Tryz.lays105.a37
  z37 := Tryz.lays105.z37
  v37 := Tryz.lays105.v37
  t70 := Tryz.lays105.t70
  a70 := Tryz.lays105.a70
  z70 := Tryz.lays105.z70
  v70 := Tryz.lays105.v70
  t72 := Tryz.lays105.t72
  a72 := Tryz.lays105.a72
  z72 := Tryz.lays105.z72
  v72 := Tryz.lays105.v72
  t75 := Tryz.lays105.t75
  a75 := Tryz.lays105.a75
  z75 := Tryz.lays105.z75
  v75 := Tryz.lays105.v75
  t164 := Tryz.lays105.t164
  a164 := Tryz.lays105.a164
  z164 := Tryz.lays105.z164
  v164 := Tryz.lays105.v164 }
theorem Tryz.lays166_here : Go.Proofs.Lays.n166 Tryz.prog Tryz.lays105_ren := { Tryz.lays105 with }
theorem Tryz.Builder_Extra_167 : Builder.Extra Tryz.prog Tryz.lays167_ren := { Tryz.Builder_Extra_105 with }
theorem Tryz.WriteByte_k (B b : Nat) (bs : List Value) (c : Int) (w : World) (h : Lib.IsBuilderF 127 5 B b bs w) (hlen : bs.length + 1 ≤ 140737488355328) (hBw : B ≤ w.heap.size) :
    Calls Tryz.prog 85 #[.pointer (some ⟨b, 0, none⟩), .int .u8 c] w fun e w' => e = .returned .nilIface ∧ (Lib.BuilderAtF 127 5 B b (.pointer (some ⟨b, 0, none⟩)) (bs ++ [.int .u8 c]) w' ∧ Below B w w' ∧ Lib.OthersKept 5 (some b) w w') :=
  Any.Builder_WriteByte_k Tryz.lays167 Tryz.Builder_Extra_167 B b bs c w h hlen hBw
theorem Tryz.WriteString_k (B b : Nat) (bs : List Value) (s : ByteArray) (w : World) (h : Lib.IsBuilderF 127 5 B b bs w) (hlen : bs.length + s.size ≤ 140737488355328) (hBw : B ≤ w.heap.size) :
    Calls Tryz.prog 86 #[.pointer (some ⟨b, 0, none⟩), .string s] w fun e w' => e = .returned (.tuple #[.int .i64 s.size, .nilIface]) ∧ (Lib.BuilderAtF 127 5 B b (.pointer (some ⟨b, 0, none⟩)) (bs ++ Lib.strCells s) w' ∧ Below B w w' ∧ Lib.OthersKept 5 (some b) w w') :=
  Any.Builder_WriteString_k Tryz.lays166_here Tryz.Builder_Extra_105 B b bs s w h hlen hBw
theorem Tryz.TrimRight_white (s : ByteArray) (w : World) (hs : s.size ≤ 9223372036854775807) :
    Calls Tryz.prog 91 #[.string s, .string ⟨#[32, 9, 11, 12, 13]⟩] w fun e w' => e = .returned (.string ⟨(Lib.trimRightS s.data.toList [32, 9, 11, 12, 13]).toArray⟩) ∧ Below w.heap.size w w' :=
  Any.strings_TrimRight_laid Tryz.lays162 (by kernel_rfl) s ⟨#[32, 9, 11, 12, 13]⟩ w hs (by decide) (ascii_of_all (by decide))
end Go.Proofs

/- Small functions of layer canon, walked: white space, a text without the white space at its end, without all white space, with one blank for each run of it, a line without its line feed. -/
set_option maxRecDepth 20000
namespace Go.Proofs.YtjhanfiohfakoaaGreatDoor.Tx
open Cn Go.RowKit
attribute [local go_sem] ba_at ByteArray.extract_mk

theorem idx_white (c : UInt8) : decide (0 ≤ Lib.indexByte [32, 9, 11, 12, 13] c) = wh c := by
  have h : ∀ c : Fin 256, decide (0 ≤ Lib.indexByte [32, 9, 11, 12, 13] (UInt8.ofNat c.val)) = wh (UInt8.ofNat c.val) := by decide +kernel
  have := h ⟨c.toNat, c.toNat_lt⟩
  simpa using this

set_option maxHeartbeats 400000 in
theorem isWhite_any (c : UInt8) (w : World) :
    Calls Tryz.prog 90 #[.int .u8 (c.toNat : Int)] w fun e w' => e = .returned (.bool (wh c)) ∧ w = w' := by
  rw [← idx_white]
  generalize hq : Lib.indexByte [32, 9, 11, 12, 13] c = q
  go_enter Tryz.func90, Tryz.ntmps90
  go_wp2_with fail
  refine (Tryz.strings_IndexByte ⟨#[32, 9, 11, 12, 13]⟩ (c.toNat : Int) _).mono ?_
  rintro e w1 ⟨rfl, rfl⟩
  have hq' : Lib.indexByte (⟨#[32, 9, 11, 12, 13]⟩ : ByteArray).data.toList (Int.toNat (c.toNat : Int)).toUInt8 = q := by
    rw [← hq, Int.toNat_natCast]
    exact congrArg _ (UInt8.ofNat_toNat)
  rw [hq']
  go_wp2
  go_ret
  exact ⟨rfl, rfl⟩

set_option maxHeartbeats 400000 in
theorem withoutTrail_any (l : List UInt8) (w : World) (hl : l.length ≤ 9223372036854775807) :
    Calls Tryz.prog 61 #[.string ⟨l.toArray⟩] w fun e w' => e = .returned (.string ⟨(trL l).toArray⟩) ∧ Below w.heap.size w w' := by
  go_enter Tryz.func61, Tryz.ntmps61
  go_wp2_with fail
  refine (Tryz.TrimRight_white ⟨l.toArray⟩ _ hl).mono ?_
  rintro e w1 ⟨rfl, hb1⟩
  go_wp2
  go_ret
  exact ⟨rfl, hb1⟩

theorem suffix_feed (s : List UInt8) : Lib.hasSuffix s [10] = feedB s := by
  unfold Lib.hasSuffix feedB
  rw [Bool.eq_iff_iff, List.isSuffixOf_iff_suffix, beq_iff_eq]
  constructor
  · rintro ⟨t, rfl⟩; simp
  · intro h
    obtain ⟨t, rfl⟩ := List.getLast?_eq_some_iff.1 h
    exact ⟨t, rfl⟩
theorem trim_feed (s : List UInt8) : Lib.trimSuffix s [10] = bareL s := by
  unfold Lib.trimSuffix bareL
  rw [suffix_feed, List.dropLast_eq_take]; rfl

set_option maxHeartbeats 400000 in
theorem Bare_any (l : List UInt8) (w : World) (hl : l.length ≤ 9223372036854775807) :
    Calls Tryz.prog 44 #[.string ⟨l.toArray⟩] w fun e w' => e = .returned (.tuple #[.string ⟨(bareL l).toArray⟩, .bool (feedB l)]) ∧ w = w' := by
  go_enter Tryz.func44, Tryz.ntmps44
  go_wp2_with fail
  refine (Tryz.strings_CutSuffix ⟨l.toArray⟩ ⟨#[10]⟩ _ hl).mono ?_
  rintro e w1 ⟨rfl, rfl⟩
  go_wp2
  go_ret2
  rw [← trim_feed, ← suffix_feed]
  exact ⟨rfl, rfl⟩

theorem cells_len (l : List UInt8) : (Lib.byteCells l).length = l.length := by simp [Lib.byteCells]

set_option maxHeartbeats 1000000 in
theorem withoutWhite_any (l : List UInt8) (w : World) (hl : l.length ≤ 1099511627776) :
    Calls Tryz.prog 59 #[.string ⟨l.toArray⟩] w fun e w' => e = .returned (.string ⟨(wo false false l).toArray⟩) ∧ Below w.heap.size w w' := by
  go_enter Tryz.func59, Tryz.ntmps59
  go_wp2
  go_loopw [4, 7] (fun _ i wr => ∃ (k : Nat) (acc : List UInt8) (was : Bool), k ≤ l.length ∧ i = .int .i64 k ∧ Lib.IsBuilderF 127 5 w.heap.size w.heap.size (Lib.byteCells acc) wr ∧ Below w.heap.size w wr ∧ acc ++ wo false was (l.drop k) = wo false false l) (fun _ i _ => l.length - (intOf i).toNat)
  case atStart => exact ⟨0, [], false, Nat.zero_le _, rfl, (Bld.fresh 127 5 w).isF, (Below.refl _ w).alloc (Nat.le_refl _) _, rfl⟩
  case round =>
    obtain ⟨k, acc, was, hk, rfl, hB, hbr, hacc⟩ := hrel
    have hal : acc.length ≤ l.length := by
      have h1 := congrArg List.length hacc
      have h2 := wo_len false l false
      rw [List.length_append] at h1
      omega
    have hbz := hbr.size
    by_cases hlt : k < l.length
    · have hdk : l.drop k = l[k] :: l.drop (k + 1) := List.drop_eq_getElem_cons hlt
      rw [hdk] at hacc
      clear hdk
      go_wp2_with fail
      refine (isWhite_any l[k] _).mono ?_
      rintro e w1 ⟨rfl, rfl⟩
      cases hc : wh l[k]
      · have HD : Hid (acc ++ [l[k]] ++ wo false false (l.drop (k + 1)) = wo false false l) := by
          rw [wo_keep hc] at hacc
          show _ = _
          rw [← hacc, List.append_assoc]; rfl
        clear hacc
        go_wp2_with fail
        refine (Tryz.WriteByte_k w.heap.size w.heap.size _ _ wr hB (by rw [cells_len]; omega) hbz).mono ?_
        rintro e w2 ⟨rfl, hB2, hb2, -⟩
        rw [← byteCells_snoc] at hB2
        go_wp2
        go_roundw
        case rel => exact ⟨k + 1, acc ++ [l[k]], false, by omega, by go_num, .inr hB2, hbr.trans hb2, HD.out⟩
        case measure => simp [intOf]; omega
      · have HD : Hid (acc ++ wo false true (l.drop (k + 1)) = wo false false l) := by
          rw [wo_none hc] at hacc
          exact hacc
        clear hacc
        go_wp2
        go_roundw
        case rel => exact ⟨k + 1, acc, true, by omega, by go_num, hB, hbr, HD.out⟩
        case measure => simp [intOf]; omega
    · have HD : Hid (acc = wo false false l) := by
        have e : l.drop k = [] := List.drop_eq_nil_of_le (by omega)
        rw [e] at hacc
        show acc = _
        simpa [wo] using hacc
      clear hacc
      go_wp2_with fail
      refine (Tryz.Builder_String_any_k w.heap.size w.heap.size acc wr hB hbz).mono ?_
      rintro e w2 ⟨rfl, -, hb2, -⟩
      go_wp2
      go_ret
      rw [HD.out]
      exact ⟨rfl, hbr.trans hb2⟩
end Go.Proofs.YtjhanfiohfakoaaGreatDoor.Tx

/- Layer canon, walked: a text with one blank for each run of white space and none at its end, and a text with blanks in the place of tabs. -/
set_option maxRecDepth 20000
namespace Go.Proofs.YtjhanfiohfakoaaGreatDoor.Tx
open Cn Go.RowKit
attribute [local go_sem] ba_at ByteArray.extract_mk

set_option maxHeartbeats 1000000 in
theorem withOneBlank_any (l : List UInt8) (w : World) (hl : l.length ≤ 1099511627776) :
    Calls Tryz.prog 60 #[.string ⟨l.toArray⟩] w fun e w' => e = .returned (.string ⟨(trL (wo true false l)).toArray⟩) ∧ Below w.heap.size w w' := by
  have hwl := wo_len true l false
  go_enter Tryz.func60, Tryz.ntmps60
  go_wp2
  go_loopw [4, 5, 6, 9] (fun r _ _ i wr => ∃ (k : Nat) (acc : List UInt8) (was : Bool), k ≤ l.length ∧ r = .bool was ∧ i = .int .i64 k ∧ Lib.IsBuilderF 127 5 w.heap.size w.heap.size (Lib.byteCells acc) wr ∧ Below w.heap.size w wr ∧ acc ++ wo true was (l.drop k) = wo true false l) (fun _ _ _ i _ => l.length - (intOf i).toNat)
  case atStart => exact ⟨0, [], false, Nat.zero_le _, rfl, rfl, (Bld.fresh 127 5 w).isF, (Below.refl _ w).alloc (Nat.le_refl _) _, rfl⟩
  case round =>
    obtain ⟨k, acc, was, hk, rfl, rfl, hB, hbr, hacc⟩ := hrel
    have hal : acc.length ≤ l.length := by
      have h1 := congrArg List.length hacc
      rw [List.length_append] at h1
      omega
    have hbz := hbr.size
    by_cases hlt : k < l.length
    · have hdk : l.drop k = l[k] :: l.drop (k + 1) := List.drop_eq_getElem_cons hlt
      rw [hdk] at hacc
      clear hdk
      go_wp2_with fail
      refine (isWhite_any l[k] _).mono ?_
      rintro e w1 ⟨rfl, rfl⟩
      cases hc : wh l[k]
      · have HD : Hid (acc ++ [l[k]] ++ wo true false (l.drop (k + 1)) = wo true false l) := by
          rw [wo_keep hc] at hacc
          show _ = _
          rw [← hacc, List.append_assoc]; rfl
        clear hacc
        go_wp2_with fail
        refine (Tryz.WriteByte_k w.heap.size w.heap.size _ _ wr hB (by rw [cells_len]; omega) hbz).mono ?_
        rintro e w2 ⟨rfl, hB2, hb2, -⟩
        rw [← byteCells_snoc] at hB2
        go_wp2
        go_roundw
        case rel => exact ⟨k + 1, acc ++ [l[k]], false, by omega, rfl, by go_num, .inr hB2, hbr.trans hb2, HD.out⟩
        case measure => simp [intOf]; omega
      · cases was
        · have HD : Hid (acc ++ [32] ++ wo true true (l.drop (k + 1)) = wo true false l) := by
            rw [wo_blank hc] at hacc
            show _ = _
            rw [← hacc, List.append_assoc]; rfl
          clear hacc
          go_wp2_with fail
          refine (Tryz.WriteString_k w.heap.size w.heap.size _ _ wr hB (by rw [cells_len]; show acc.length + 1 ≤ _; omega) hbz).mono ?_
          rintro e w2 ⟨rfl, hB2, hb2, -⟩
          have hB3 : Lib.BuilderAtF 127 5 w.heap.size w.heap.size (.pointer (some ⟨w.heap.size, 0, none⟩)) (Lib.byteCells (acc ++ [32])) w2 := by rw [Lib.byteCells_append]; exact hB2
          clear hB2
          go_wp2
          go_roundw
          case rel => exact ⟨k + 1, acc ++ [32], true, by omega, rfl, by go_num, .inr hB3, hbr.trans hb2, HD.out⟩
          case measure => simp [intOf]; omega
        · have HD : Hid (acc ++ wo true true (l.drop (k + 1)) = wo true false l) := by
            rw [wo_run hc] at hacc
            exact hacc
          clear hacc
          go_wp2
          go_roundw
          case rel => exact ⟨k + 1, acc, true, by omega, rfl, by go_num, hB, hbr, HD.out⟩
          case measure => simp [intOf]; omega
    · have HD : Hid (acc = wo true false l) := by
        have e : l.drop k = [] := List.drop_eq_nil_of_le (by omega)
        rw [e] at hacc
        show acc = _
        simpa [wo] using hacc
      clear hacc
      go_wp2_with fail
      refine (Tryz.Builder_String_any_k w.heap.size w.heap.size acc wr hB hbz).mono ?_
      rintro e w2 ⟨rfl, -, hb2, -⟩
      go_wp2_with fail
      refine (withoutTrail_any acc _ (by omega)).mono ?_
      rintro e w3 ⟨rfl, hb3⟩
      go_wp2
      go_ret
      rw [HD.out]
      have h2 := hb2.size
      exact ⟨rfl, (hbr.trans hb2).trans (hb3.mono (by omega))⟩

theorem isF_keep {T e : TypeId} {B b : Nat} {bs : List Value} {w w' : World} (h : Lib.IsBuilderF T e B b bs w) (hb : Below w.heap.size w w') : Lib.IsBuilderF T e B b bs w' := by
  obtain ⟨v, hv⟩ : ∃ v, Bld T e B b v bs w := by
    rcases h with ⟨h1, v, h2, h3, h4⟩ | ⟨h1, v, h2, h3, h4⟩
    · exact ⟨v, h1, ⟨_, .inl rfl, h2⟩, h3, h4⟩
    · exact ⟨v, h1, ⟨_, .inr rfl, h2⟩, h3, h4⟩
  exact (hv.kept hb.block).isF

set_option maxHeartbeats 1000000 in
theorem Expand_any (l : List UInt8) (w : World) (hl : l.length ≤ 1099511627776) :
    Calls Tryz.prog 58 #[.string ⟨l.toArray⟩] w fun e w' => e = .returned (.string ⟨(expL 0 l).toArray⟩) ∧ Below w.heap.size w w' := by
  have hwl := exp_len l 0
  go_enter Tryz.func58, Tryz.ntmps58
  go_wp2
  go_loopw [4, 7] (fun _ i wr => ∃ (k : Nat) (acc : List UInt8), k ≤ l.length ∧ i = .int .i64 k ∧ Lib.IsBuilderF 127 5 w.heap.size w.heap.size (Lib.byteCells acc) wr ∧ Below w.heap.size w wr ∧ acc ++ expL acc.length (l.drop k) = expL 0 l) (fun _ i _ => l.length - (intOf i).toNat)
  case atStart => exact ⟨0, [], Nat.zero_le _, rfl, (Bld.fresh 127 5 w).isF, (Below.refl _ w).alloc (Nat.le_refl _) _, rfl⟩
  case round =>
    obtain ⟨k, acc, hk, rfl, hB, hbr, hacc⟩ := hrel
    have hal : acc.length ≤ 8 * l.length := by
      have h1 := congrArg List.length hacc
      rw [List.length_append] at h1
      omega
    have hbz := hbr.size
    by_cases hlt : k < l.length
    · have hdk : l.drop k = l[k] :: l.drop (k + 1) := List.drop_eq_getElem_cons hlt
      rw [hdk] at hacc
      clear hdk
      by_cases hc : l[k] = 9
      · obtain ⟨n, hn⟩ : ∃ n, 8 - acc.length % 8 = n := ⟨_, rfl⟩
        have HD : Hid (acc ++ List.replicate n 32 ++ expL (acc ++ List.replicate n 32).length (l.drop (k + 1)) = expL 0 l) := by
          rw [hc, exp_tab, hn] at hacc
          show _ = _
          rw [← hacc, List.append_assoc, List.length_append, List.length_replicate]
        clear hacc
        have hb9 : ((l[k].toNat : Int) != 9) = false := by rw [hc]; rfl
        have HN : Hid ((8 : Int) - (acc.length : Int) % 8 = (n : Int)) := by show _ = _; omega
        have hn8 : n ≤ 8 := by omega
        clear hn hc
        go_wp2_with fail
        refine (Tryz.Builder_Len_f w.heap.size w.heap.size _ wr hB).mono ?_
        rintro e w1 ⟨rfl, rfl⟩
        rw [cells_len]
        go_wp2_with fail
        rw [HN.out]
        refine (Tryz.strings_Repeat ⟨#[32]⟩ n _ (by omega) (by show 1 * n ≤ _; omega)).mono ?_
        rintro e w2 ⟨rfl, hb2⟩
        have hr : Lib.repeatL (⟨#[32]⟩ : ByteArray).data.toList n = List.replicate n 32 := rep_blank n
        rw [hr]
        have hB1 := isF_keep hB hb2
        have hbb := hbr.trans (hb2.mono hbz)
        have hbz2 := hbb.size
        clear hB hb2 hr
        go_wp2_with fail
        refine (Tryz.WriteString_k w.heap.size w.heap.size _ _ w2 hB1 (by rw [cells_len]; show acc.length + (List.replicate n 32).length ≤ _; rw [List.length_replicate]; omega) hbz2).mono ?_
        rintro e w3 ⟨rfl, hB2, hb3, -⟩
        have hB3 : Lib.BuilderAtF 127 5 w.heap.size w.heap.size (.pointer (some ⟨w.heap.size, 0, none⟩)) (Lib.byteCells (acc ++ List.replicate n 32)) w3 := by rw [Lib.byteCells_append]; exact hB2
        clear hB2
        go_wp2
        go_roundw
        case rel => exact ⟨k + 1, acc ++ List.replicate n 32, by omega, by go_num, .inr hB3, hbb.trans hb3, HD.out⟩
        case measure => simp [intOf]; omega
      · have HD : Hid (acc ++ [l[k]] ++ expL (acc ++ [l[k]]).length (l.drop (k + 1)) = expL 0 l) := by
          rw [exp_other hc] at hacc
          show _ = _
          rw [← hacc, List.append_assoc, List.length_append]; rfl
        clear hacc
        have hb9 : ((l[k].toNat : Int) != 9) = true := (not9 hc).2
        go_wp2_with fail
        refine (Tryz.WriteByte_k w.heap.size w.heap.size _ _ wr hB (by rw [cells_len]; omega) hbz).mono ?_
        rintro e w2 ⟨rfl, hB2, hb2, -⟩
        rw [← byteCells_snoc] at hB2
        go_wp2
        go_roundw
        case rel => exact ⟨k + 1, acc ++ [l[k]], by omega, by go_num, .inr hB2, hbr.trans hb2, HD.out⟩
        case measure => simp [intOf]; omega
    · have HD : Hid (acc = expL 0 l) := by
        have e : l.drop k = [] := List.drop_eq_nil_of_le (by omega)
        rw [e] at hacc
        show acc = _
        simpa [expL] using hacc
      clear hacc
      go_wp2_with fail
      refine (Tryz.Builder_String_any_k w.heap.size w.heap.size acc wr hB hbz).mono ?_
      rintro e w2 ⟨rfl, -, hb2, -⟩
      go_wp2
      go_ret
      rw [HD.out]
      exact ⟨rfl, hbr.trans hb2⟩
end Go.Proofs.YtjhanfiohfakoaaGreatDoor.Tx

/- Layer canon's form of a line, walked: it is what the plain function canonL says. Then Equal and Blank. -/
set_option maxRecDepth 20000
namespace Go.Proofs.YtjhanfiohfakoaaGreatDoor.Tx
open Cn Go.RowKit
attribute [local go_sem] ba_at ByteArray.extract_mk ba_cat

set_option maxHeartbeats 2000000 in
theorem Canon_any (l : List UInt8) (o : Ig) (w : World) (hl : l.length ≤ 137438953472) :
    Calls Tryz.prog 27 #[.string ⟨l.toArray⟩, igV o] w fun e w' => e = .returned (.string ⟨(canonL o l).toArray⟩) ∧ Below w.heap.size w w' := by
  have hbl := bare_len l
  have hbx := Boxed.fresh o w
  have hb0 : Below w.heap.size w (w.alloc (.cells #[.bool o.sp, .bool o.wt, .bool o.bl, .bool o.cs, .bool o.tb, .bool o.tr] 24)) := (Below.refl _ w).alloc (Nat.le_refl _) _
  have HC : Hid (canonL o l = stg o 5 (bareL l) ++ feedL l) := rfl
  unfold igV
  go_enter Tryz.func27, Tryz.ntmps27
  go_wp2_with fail
  refine (Bare_any l _ (by omega)).mono ?_
  rintro e w1 ⟨rfl, rfl⟩
  have hd := hbx.cells
  have hz := hb0.size
  generalize w.alloc (.cells #[.bool o.sp, .bool o.wt, .bool o.bl, .bool o.cs, .bool o.tb, .bool o.tr] 24) = wb at hbx hb0 hd hz ⊢
  obtain ⟨d0, d1, d2, d3, d4, d5⟩ := hd
  generalize hbr : bareL l = r at *
  go_wp2_with fail
  refine (steps_any o _).mono ?_
  rintro e w2 ⟨g, rfl, hst, hb2⟩
  have hb3 := hb0.trans (hb2.mono hz)
  clear d0 d1 d2 d3 d4 d5 hb2 hbx hb0 hz
  go_wp2
  go_loopw [5, 8, 17] (fun t _ i wr => ∃ k : Nat, k ≤ 5 ∧ i = .int .i64 k ∧ t = .string ⟨(stg o k r).toArray⟩ ∧ Stepped o g wr ∧ Below w.heap.size w wr) (fun _ _ i _ => 5 - (intOf i).toNat)
  case atStart => exact ⟨0, Nat.zero_le _, rfl, rfl, hst, hb3⟩
  case round =>
    obtain ⟨k, hk, rfl, rfl, hst, hbr⟩ := hrel
    have hsl := stg_len o r k
    have hz := hbr.size
    rcases (show k = 0 ∨ k = 1 ∨ k = 2 ∨ k = 3 ∨ k = 4 ∨ k = 5 by omega) with rfl | rfl | rfl | rfl | rfl | rfl
    · have c0 : wr.cell? ⟨g, 0, none⟩ = some (.bool o.tb) := by rw [Lib.cell_of_heap hst]; rfl
      have c1 : wr.cell? ⟨g, 1, none⟩ = some (.func (.func 58) #[] #[]) := by rw [Lib.cell_of_heap hst]; rfl
      generalize hx : stg o 0 r = x at *
      cases hq : o.tb
      · have HS : Hid (stg o 1 r = x) := (stg_no (k := 0) hq r).trans hx
        rw [hq] at c0
        clear hq hx
        go_wp2
        go_roundw
        case rel => exact ⟨1, by omega, by go_num, by rw [HS.out], hst.keep ((Below.refl _ wr).alloc (Nat.le_refl _) _), hbr.alloc hz _⟩
        case measure => simp [intOf]
      · have HS : Hid (stg o 1 r = act 0 x) := (stg_yes (k := 0) hq r).trans (congrArg _ hx)
        rw [hq] at c0
        clear hq hx
        go_wp2_with fail
        refine (Expand_any x _ (by omega)).mono ?_
        rintro e w4 ⟨rfl, hb4⟩
        have hb5 := (Below.refl _ wr).alloc (Nat.le_refl wr.heap.size) (.cells #[.bool true, .func (.func 58) #[] #[]] 88)
        have hb6 := hb5.trans (hb4.mono hb5.size)
        go_wp2
        go_roundw
        case rel => exact ⟨1, by omega, by go_num, by rw [HS.out]; rfl, hst.keep hb6, hbr.trans (hb6.mono hz)⟩
        case measure => simp [intOf]
    · have c0 : wr.cell? ⟨g, 2, none⟩ = some (.bool o.wt) := by rw [Lib.cell_of_heap hst]; rfl
      have c1 : wr.cell? ⟨g, 3, none⟩ = some (.func (.func 59) #[] #[]) := by rw [Lib.cell_of_heap hst]; rfl
      generalize hx : stg o 1 r = x at *
      cases hq : o.wt
      · have HS : Hid (stg o 2 r = x) := (stg_no (k := 1) hq r).trans hx
        rw [hq] at c0
        clear hq hx
        go_wp2
        go_roundw
        case rel => exact ⟨2, by omega, by go_num, by rw [HS.out], hst.keep ((Below.refl _ wr).alloc (Nat.le_refl _) _), hbr.alloc hz _⟩
        case measure => simp [intOf]
      · have HS : Hid (stg o 2 r = act 1 x) := (stg_yes (k := 1) hq r).trans (congrArg _ hx)
        rw [hq] at c0
        clear hq hx
        go_wp2_with fail
        refine (withoutWhite_any x _ (by omega)).mono ?_
        rintro e w4 ⟨rfl, hb4⟩
        have hb5 := (Below.refl _ wr).alloc (Nat.le_refl wr.heap.size) (.cells #[.bool true, .func (.func 59) #[] #[]] 88)
        have hb6 := hb5.trans (hb4.mono hb5.size)
        go_wp2
        go_roundw
        case rel => exact ⟨2, by omega, by go_num, by rw [HS.out]; rfl, hst.keep hb6, hbr.trans (hb6.mono hz)⟩
        case measure => simp [intOf]
    · have c0 : wr.cell? ⟨g, 4, none⟩ = some (.bool o.sp) := by rw [Lib.cell_of_heap hst]; rfl
      have c1 : wr.cell? ⟨g, 5, none⟩ = some (.func (.func 60) #[] #[]) := by rw [Lib.cell_of_heap hst]; rfl
      generalize hx : stg o 2 r = x at *
      cases hq : o.sp
      · have HS : Hid (stg o 3 r = x) := (stg_no (k := 2) hq r).trans hx
        rw [hq] at c0
        clear hq hx
        go_wp2
        go_roundw
        case rel => exact ⟨3, by omega, by go_num, by rw [HS.out], hst.keep ((Below.refl _ wr).alloc (Nat.le_refl _) _), hbr.alloc hz _⟩
        case measure => simp [intOf]
      · have HS : Hid (stg o 3 r = act 2 x) := (stg_yes (k := 2) hq r).trans (congrArg _ hx)
        rw [hq] at c0
        clear hq hx
        go_wp2_with fail
        refine (withOneBlank_any x _ (by omega)).mono ?_
        rintro e w4 ⟨rfl, hb4⟩
        have hb5 := (Below.refl _ wr).alloc (Nat.le_refl wr.heap.size) (.cells #[.bool true, .func (.func 60) #[] #[]] 88)
        have hb6 := hb5.trans (hb4.mono hb5.size)
        go_wp2
        go_roundw
        case rel => exact ⟨3, by omega, by go_num, by rw [HS.out]; rfl, hst.keep hb6, hbr.trans (hb6.mono hz)⟩
        case measure => simp [intOf]
    · have c0 : wr.cell? ⟨g, 6, none⟩ = some (.bool o.tr) := by rw [Lib.cell_of_heap hst]; rfl
      have c1 : wr.cell? ⟨g, 7, none⟩ = some (.func (.func 61) #[] #[]) := by rw [Lib.cell_of_heap hst]; rfl
      generalize hx : stg o 3 r = x at *
      cases hq : o.tr
      · have HS : Hid (stg o 4 r = x) := (stg_no (k := 3) hq r).trans hx
        rw [hq] at c0
        clear hq hx
        go_wp2
        go_roundw
        case rel => exact ⟨4, by omega, by go_num, by rw [HS.out], hst.keep ((Below.refl _ wr).alloc (Nat.le_refl _) _), hbr.alloc hz _⟩
        case measure => simp [intOf]
      · have HS : Hid (stg o 4 r = act 3 x) := (stg_yes (k := 3) hq r).trans (congrArg _ hx)
        rw [hq] at c0
        clear hq hx
        go_wp2_with fail
        refine (withoutTrail_any x _ (by omega)).mono ?_
        rintro e w4 ⟨rfl, hb4⟩
        have hb5 := (Below.refl _ wr).alloc (Nat.le_refl wr.heap.size) (.cells #[.bool true, .func (.func 61) #[] #[]] 88)
        have hb6 := hb5.trans (hb4.mono hb5.size)
        go_wp2
        go_roundw
        case rel => exact ⟨4, by omega, by go_num, by rw [HS.out]; rfl, hst.keep hb6, hbr.trans (hb6.mono hz)⟩
        case measure => simp [intOf]
    · have c0 : wr.cell? ⟨g, 8, none⟩ = some (.bool o.cs) := by rw [Lib.cell_of_heap hst]; rfl
      have c1 : wr.cell? ⟨g, 9, none⟩ = some (.func (.func 62) #[] #[]) := by rw [Lib.cell_of_heap hst]; rfl
      generalize hx : stg o 4 r = x at *
      cases hq : o.cs
      · have HS : Hid (stg o 5 r = x) := (stg_no (k := 4) hq r).trans hx
        rw [hq] at c0
        clear hq hx
        go_wp2
        go_roundw
        case rel => exact ⟨5, by omega, by go_num, by rw [HS.out], hst.keep ((Below.refl _ wr).alloc (Nat.le_refl _) _), hbr.alloc hz _⟩
        case measure => simp [intOf]
      · have HS : Hid (stg o 5 r = act 4 x) := (stg_yes (k := 4) hq r).trans (congrArg _ hx)
        rw [hq] at c0
        clear hq hx
        go_wp2_with fail
        refine (inSmall_any x _ (by omega)).mono ?_
        rintro e w4 ⟨rfl, hb4⟩
        have hb5 := (Below.refl _ wr).alloc (Nat.le_refl wr.heap.size) (.cells #[.bool true, .func (.func 62) #[] #[]] 88)
        have hb6 := hb5.trans (hb4.mono hb5.size)
        go_wp2
        go_roundw
        case rel => exact ⟨5, by omega, by go_num, by rw [HS.out]; rfl, hst.keep hb6, hbr.trans (hb6.mono hz)⟩
        case measure => simp [intOf]
    · cases hf : feedB l
      · have HF : Hid (feedL l = []) := by show _ = _; rw [feedL, hf]; rfl
        go_wp2
        go_ret
        rw [HC.out, HF.out, List.append_nil]
        exact ⟨rfl, hbr⟩
      · have HF : Hid (feedL l = [10]) := by show _ = _; rw [feedL, hf]; rfl
        go_wp2
        go_ret
        rw [HC.out, HF.out]
        exact ⟨rfl, hbr⟩
end Go.Proofs.YtjhanfiohfakoaaGreatDoor.Tx

/- Equal of layer canon, walked. -/
set_option maxRecDepth 20000
namespace Go.Proofs.YtjhanfiohfakoaaGreatDoor.Tx
open Cn Go.RowKit
attribute [local go_sem] ba_at ByteArray.extract_mk ba_cat

/-- a variable that holds what is ignored, and all below it as it was -/
structure Stay (o : Ig) (b : Nat) (W w : World) : Prop where
  box : Boxed o b w
  low : Below W.heap.size W w
theorem Stay.keep {o : Ig} {b : Nat} {W w w' : World} (h : Stay o b W w) (hb : Below w.heap.size w w') : Stay o b W w' := ⟨h.box.keep hb, h.low.trans (hb.mono h.low.size)⟩
theorem stay_drew (o : Ig) (b : Nat) (W w : World) : Stay o b W w.drew ↔ Stay o b W w := ⟨fun h => ⟨h.box, (h.low.trans ⟨rfl, rfl, rfl, Nat.le_refl _, fun _ _ => rfl⟩ : Below W.heap.size W w)⟩, fun h => ⟨h.box, h.low.drew⟩⟩
attribute [local simp] stay_drew

/-- a call that leaves all below as it was leaves that variable, too -/
theorem stayed {P : Program} {f : FuncId} {args : Array Value} {v : Value} {w : World} (h : Calls P f args w fun e w' => e = .returned v ∧ Below w.heap.size w w') (o : Ig) (b : Nat) (W : World) (hS : Stay o b W w) :
    Calls P f args w fun e w' => e = .returned v ∧ w'.cell? ⟨b, 0, none⟩ = some (.bool o.sp) ∧ w'.cell? ⟨b, 1, none⟩ = some (.bool o.wt) ∧ w'.cell? ⟨b, 2, none⟩ = some (.bool o.bl) ∧ w'.cell? ⟨b, 3, none⟩ = some (.bool o.cs) ∧ w'.cell? ⟨b, 4, none⟩ = some (.bool o.tb) ∧ w'.cell? ⟨b, 5, none⟩ = some (.bool o.tr) ∧ Stay o b W w' := by
  refine h.mono ?_
  rintro e w' ⟨rfl, hb⟩
  have hS' := hS.keep hb
  obtain ⟨d0, d1, d2, d3, d4, d5⟩ := hS'.box.cells
  exact ⟨rfl, d0, d1, d2, d3, d4, d5, hS'⟩

/-- whether two lines count as the same -/
def eqL (o : Ig) (a b : List UInt8) : Bool := canonL o a == canonL o b

set_option maxHeartbeats 400000 in
theorem Equal_any (a b : List UInt8) (o : Ig) (w : World) (ha : a.length ≤ 137438953472) (hb : b.length ≤ 137438953472) :
    Calls Tryz.prog 14 #[.string ⟨a.toArray⟩, .string ⟨b.toArray⟩, igV o] w fun e w' => e = .returned (.bool (eqL o a b)) ∧ Below w.heap.size w w' := by
  have hbx : Stay o w.heap.size w (w.alloc (.cells #[.bool o.sp, .bool o.wt, .bool o.bl, .bool o.cs, .bool o.tb, .bool o.tr] 24)) := ⟨Boxed.fresh o w, (Below.refl _ w).alloc (Nat.le_refl _) _⟩
  unfold igV
  go_enter Tryz.func14, Tryz.ntmps14
  go_wp2_with fail
  have hd := hbx.box.cells
  generalize w.alloc (.cells #[.bool o.sp, .bool o.wt, .bool o.bl, .bool o.cs, .bool o.tb, .bool o.tr] 24) = wb at hbx hd ⊢
  obtain ⟨d0, d1, d2, d3, d4, d5⟩ := hd
  go_region_held3 (fun w' => w'.cell? ⟨w.heap.size, 0, none⟩ = some (.bool o.sp) ∧ w'.cell? ⟨w.heap.size, 1, none⟩ = some (.bool o.wt) ∧ w'.cell? ⟨w.heap.size, 2, none⟩ = some (.bool o.bl) ∧ w'.cell? ⟨w.heap.size, 3, none⟩ = some (.bool o.cs) ∧ w'.cell? ⟨w.heap.size, 4, none⟩ = some (.bool o.tb) ∧ w'.cell? ⟨w.heap.size, 5, none⟩ = some (.bool o.tr) ∧ Stay o w.heap.size w w') (go_keep)
    (first | (go_at_call 27; refine (stayed (Canon_any _ o _ (by assumption)) o w.heap.size w (by first | assumption | (rw [stay_drew]; assumption))).mono ?_; rintro e w' ⟨rfl, e0, e1, e2, e3, e4, e5, hbS⟩))
  go_wp2
  go_ret
  exact ⟨rfl, hbS.low⟩
end Go.Proofs.YtjhanfiohfakoaaGreatDoor.Tx

/- A table of layer intern in memory: what is ignored, and a map from forms to numbers; its calls New, Class, Look, Size, walked. -/
set_option maxRecDepth 20000
namespace Go.Proofs.YtjhanfiohfakoaaGreatDoor.Tx
open Cn It Go.RowKit Go.Maps
attribute [local go_sem] ba_at ByteArray.extract_mk ba_cat

/-- all but some blocks is as it was, and there may be new ones -/
structure But (S : Nat → Prop) (w w' : World) : Prop where
  os : w'.os = w.os
  tape : w'.tape = w.tape
  output : w'.output = w.output
  size : w.heap.size ≤ w'.heap.size
  block : ∀ k, k < w.heap.size → ¬ S k → w'.heap[k]? = w.heap[k]?
theorem But.of_below {S : Nat → Prop} {w w' : World} (h : Below w.heap.size w w') : But S w w' := ⟨h.os, h.tape, h.output, h.size, fun k hk _ => h.block k hk⟩
theorem But.of_grown {S : Nat → Prop} {w w' : World} {row : Option Nat} (h : w.grownBy w' row) (hS : ∀ k, row = some k → S k) : But S w w' := ⟨h.os, h.tape, h.output, h.size, fun k hk hn => h.block k hk (fun e => hn (hS k e.symm))⟩
theorem But.trans {S T : Nat → Prop} {a b c : World} (h : But S a b) (k : But T b c) (hS : ∀ j, j < a.heap.size → T j → S j) : But S a c :=
  ⟨k.os.trans h.os, k.tape.trans h.tape, k.output.trans h.output, Nat.le_trans h.size k.size, fun j hj hn => (k.block j (Nat.lt_of_lt_of_le hj h.size) (fun e => hn (hS j hj e))).trans (h.block j hj hn)⟩
theorem But.below {S : Nat → Prop} {N : Nat} {W w w' : World} (h : But S w w') (hb : Below N W w) (hN : N ≤ w.heap.size) (hS : ∀ k, S k → N ≤ k) : Below N W w' :=
  ⟨h.os.trans hb.os, h.tape.trans hb.tape, h.output.trans hb.output, Nat.le_trans hb.size h.size, fun k hk => (h.block k (Nat.lt_of_lt_of_le hk hN) (fun e => absurd (hS k e) (by omega))).trans (hb.block k hk)⟩

theorem strKeyed : Keyed Tryz.prog 9 := string_keyed Tryz.underlying9
theorem zeroI (w : World) : (zeroValue 3).run Tryz.prog w = .ok (.int .i64 0) w := by kernel_rfl

/-- a table: its own block, its map's block, the forms met -/
structure Tbl (o : Ig) (fs : List (List UInt8)) (t B : Nat) (w : World) : Prop where
  box : w.heap[t]? = some (.cells #[.bool o.sp, .bool o.wt, .bool o.bl, .bool o.cs, .bool o.tb, .bool o.tr, .map (some B)] 91 (0, 0))
  map : ∃ D : DataW Unit, w.ownsMap Tryz.prog 9 (plainElem Tryz.prog 3) B fs.length D ∧ Tells D fs

section
variable {o : Ig} {fs : List (List UInt8)} {t B : Nat} {w w' : World}
theorem Tbl.lt (h : Tbl o fs t B w) : t < w.heap.size := (Array.getElem?_eq_some_iff.1 h.box).1
theorem Tbl.ltB (h : Tbl o fs t B w) : B < w.heap.size := by obtain ⟨D, hm, _⟩ := h.map; exact hm.lt
theorem Tbl.ne (h : Tbl o fs t B w) : t ≠ B := by
  intro e
  obtain ⟨D, ⟨es, clock, hb, _⟩, _⟩ := h.map
  have hx := h.box
  rw [e, hb] at hx
  cases hx
theorem Tbl.keep {S : Nat → Prop} (h : Tbl o fs t B w) (hb : But S w w') (ht : ¬ S t) (hB : ¬ S B) : Tbl o fs t B w' := by
  refine ⟨(hb.block t h.lt ht).trans h.box, ?_⟩
  have hlt := h.ltB
  obtain ⟨D, ⟨es, clock, hm, r⟩, hd⟩ := h.map
  exact ⟨D, ⟨es, clock, (hb.block B hlt hB).trans hm, r⟩, hd⟩
theorem Tbl.cells (h : Tbl o fs t B w) : w.cell? ⟨t, 0, none⟩ = some (.bool o.sp) ∧ w.cell? ⟨t, 1, none⟩ = some (.bool o.wt) ∧ w.cell? ⟨t, 2, none⟩ = some (.bool o.bl) ∧ w.cell? ⟨t, 3, none⟩ = some (.bool o.cs) ∧ w.cell? ⟨t, 4, none⟩ = some (.bool o.tb) ∧ w.cell? ⟨t, 5, none⟩ = some (.bool o.tr) ∧ w.cell? ⟨t, 6, none⟩ = some (.map (some B)) := by
  refine ⟨?_, ?_, ?_, ?_, ?_, ?_, ?_⟩ <;> rw [Lib.cell_of_heap h.box] <;> rfl

theorem key_str {f : List UInt8} (hf : f.length ≤ 2199023255552) : keyOf Tryz.prog 9 (.string ⟨f.toArray⟩) = some (.string f) :=
  WideMaps.keyOf_string_mk Tryz.underlying9 (s := ⟨f.toArray⟩) (by show f.toArray.size ≤ maxLen; unfold maxLen; simp; omega)

/-- the number that a look-up answers -/
def lookN (fs : List (List UInt8)) (f : List UInt8) : Nat := if fs.contains f then num fs f else 0
/-- whether it finds one -/
def lookB (fs : List (List UInt8)) (f : List UInt8) : Bool := fs.contains f
theorem lookN_old {f : List UInt8} (h : f ∈ fs) : lookN fs f = num fs f := by rw [lookN, if_pos (List.contains_iff_mem.2 h)]
theorem lookN_new {f : List UInt8} (h : f ∉ fs) : lookN fs f = 0 := by rw [lookN, if_neg (fun e => h (List.contains_iff_mem.1 e))]

theorem Tbl.look (h : Tbl o fs t B w) {f : List UInt8} (hf : f.length ≤ 2199023255552) :
    (Instr.lookup 89 (.map (some B)) (.string ⟨f.toArray⟩) true).run Tryz.prog w = .ok (.tuple #[.int .i64 (lookN fs f), .bool (lookB fs f)]) w := by
  obtain ⟨D, hm, hd⟩ := h.map
  obtain ⟨v, ps, hr, hv⟩ := hm.look_ok strKeyed Tryz.underlying89 (zeroI w) (plainElem_int Tryz.underlying3 (by decide)) (key_str hf)
  obtain ⟨c, rfl, hc, _⟩ := plainElem_int_inv Tryz.underlying3 hv
  have e := hd.look (congrArg Prod.fst hc)
  rw [hr, hd.has, e]
  unfold lookN lookB
  split <;> rfl
theorem Tbl.len (h : Tbl o fs t B w) (ty : TypeId) : (Builtin.len_ #[89] ty #[.map (some B)]).run Tryz.prog w = .ok (.int .i64 fs.length) w := by
  obtain ⟨D, hm, hd⟩ := h.map
  rw [hm.len Tryz.underlying89 ty, hd.size]
theorem Tbl.store (h : Tbl o fs t B w) {f : List UInt8} (hf : f.length ≤ 2199023255552) (hn : f ∉ fs) (hl : fs.length ≤ 1099511627776) :
    ∃ w', (Instr.mapUpdate 89 (.map (some B)) (.string ⟨f.toArray⟩) (.int .i64 fs.length)).run Tryz.prog w = .ok () w' ∧ Tbl o (fs ++ [f]) t B w' ∧ But (fun k => k = B) w w' := by
  obtain ⟨D, hm, hd⟩ := h.map
  obtain ⟨w', hr, ho, ht⟩ := hm.store (val := .int .i64 fs.length) strKeyed Tryz.underlying89 (by unfold maxLen; omega) (key_str hf) (plainElem_int Tryz.underlying3 (WalkArith.wf_i64 (by omega)))
  have hb : But (fun k => k = B) w w' := But.of_grown ht.grown (fun k e => by cases e; rfl)
  exact ⟨w', hr, ⟨(hb.block t h.lt h.ne).trans h.box, D.put (.string f) (.lit (.int .i64 fs.length)), by simpa using ho, hd.put hn⟩, hb⟩
end

theorem Tbl.made (o : Ig) (w1 : World) (m : Nat) (hm : w1.heap.size = m) : Tbl o [] (m + 1) m ((w1.alloc (.map #[] 0)).alloc (.cells #[.bool o.sp, .bool o.wt, .bool o.bl, .bool o.cs, .bool o.tb, .bool o.tr, .map (some m)] 91)) := by
  subst hm
  refine ⟨?_, .map [], (World.ownsMap_made w1 _ _ _).alloc _, Tells.nil⟩
  have h := _root_.Go.heap_alloc_new (w1.alloc (.map #[] 0)) (.cells #[.bool o.sp, .bool o.wt, .bool o.bl, .bool o.cs, .bool o.tb, .bool o.tr, .map (some w1.heap.size)] 91)
  have e : (w1.alloc (.map #[] 0)).heap.size = w1.heap.size + 1 := by simp
  rw [e] at h
  exact h

theorem New_any (o : Ig) (w : World) :
    Calls Tryz.prog 30 #[igV o] w fun e w' => ∃ t B, e = .returned (.pointer (some ⟨t, 0, none⟩)) ∧ Tbl o [] t B w' ∧ w.heap.size ≤ t ∧ w.heap.size ≤ B ∧ Below w.heap.size w w' := by
  have hmm := @run_makeMap Tryz.prog
  unfold igV
  go_enter Tryz.func30, Tryz.ntmps30
  go_wp2
  go_ret
  refine ⟨w.heap.size + 1 + 1, w.heap.size + 1, rfl, Tbl.made o _ _ (by simp), by omega, by omega, ?_⟩
  exact ((((Below.refl _ w).alloc (Nat.le_refl _) _).alloc (by simp) _).alloc (by simp; omega) _)

theorem Size_any (o : Ig) (fs : List (List UInt8)) (t B : Nat) (w : World) (hT : Tbl o fs t B w) :
    Calls Tryz.prog 32 #[.pointer (some ⟨t, 0, none⟩)] w fun e w' => e = .returned (.int .i64 fs.length) ∧ w = w' := by
  obtain ⟨d0, d1, d2, d3, d4, d5, d6⟩ := hT.cells
  have hlen := hT.len
  go_enter Tryz.func32, Tryz.ntmps32
  go_wp2
  go_ret
  exact ⟨rfl, rfl⟩

/-- a table, and all ahead of a call as it was -/
structure Held (o : Ig) (fs : List (List UInt8)) (t B : Nat) (W w : World) : Prop where
  tbl : Tbl o fs t B w
  low : Below W.heap.size W w
theorem held_drew (o : Ig) (fs : List (List UInt8)) (t B : Nat) (W w : World) : Held o fs t B W w.drew ↔ Held o fs t B W w :=
  ⟨fun h => ⟨⟨h.tbl.box, h.tbl.map⟩, (h.low.trans ⟨rfl, rfl, rfl, Nat.le_refl _, fun _ _ => rfl⟩ : Below W.heap.size W w)⟩, fun h => ⟨⟨h.tbl.box, h.tbl.map⟩, h.low.drew⟩⟩
attribute [local simp] held_drew

theorem canonHeld (l f : List UInt8) (o : Ig) (fs : List (List UInt8)) (t B : Nat) (W w : World) (hl : l.length ≤ 137438953472) (hfl : Hid (canonL o l = f)) (hf : f.length ≤ 2199023255552) (hH : Held o fs t B W w) :
    Calls Tryz.prog 27 #[.string ⟨l.toArray⟩, igV o] w fun e w' => e = .returned (.string ⟨f.toArray⟩) ∧
      (∀ u : World, u.heap = w'.heap → (Instr.lookup 89 (.map (some B)) (.string ⟨f.toArray⟩) true).run Tryz.prog u = .ok (.tuple #[.int .i64 (lookN fs f), .bool (lookB fs f)]) u) ∧ Held o fs t B W w' := by
  refine (Canon_any l o w hl).mono ?_
  rintro e w1 ⟨rfl, hb1⟩
  have hT1 := hH.tbl.keep (S := fun _ => False) (.of_below hb1) (fun h => h) (fun h => h)
  refine ⟨by rw [hfl.out], fun u hu => ?_, hT1, hH.low.trans (hb1.mono hH.low.size)⟩
  exact Tbl.look (w := u) ⟨by rw [hu]; exact hT1.box, by obtain ⟨D, ⟨es, c, h1, h2⟩, hd⟩ := hT1.map; exact ⟨D, ⟨es, c, by rw [hu]; exact h1, h2⟩, hd⟩⟩ hf

set_option maxHeartbeats 1000000 in
theorem Class_old (l f : List UInt8) (o : Ig) (fs : List (List UInt8)) (t B : Nat) (w : World) (hl : l.length ≤ 137438953472) (hfl : Hid (canonL o l = f)) (hf : f.length ≤ 2199023255552) (hT : Tbl o fs t B w) (hm : f ∈ fs) :
    Calls Tryz.prog 51 #[.pointer (some ⟨t, 0, none⟩), .string ⟨l.toArray⟩] w fun e w' => e = .returned (.int .i64 (num fs f)) ∧ Tbl o fs t B w' ∧ But (fun k => k = B) w w' := by
  obtain ⟨d0, d1, d2, d3, d4, d5, d6⟩ := hT.cells
  have HM : Hid (f ∈ fs) := hm
  clear hm
  go_enter Tryz.func51, Tryz.ntmps51
  go_wp2_with fail
  refine (Canon_any l o _ hl).mono ?_
  rintro e w1 ⟨rfl, hb1⟩
  rw [hfl.out]
  clear d0 d1 d2 d3 d4 d5 d6
  have hT1 := hT.keep (S := fun _ => False) (.of_below hb1) (fun h => h) (fun h => h)
  obtain ⟨d0, d1, d2, d3, d4, d5, d6⟩ := hT1.cells
  have hlk := hT1.look hf
  rw [show lookB fs f = true from List.contains_iff_mem.2 HM.out, lookN_old HM.out] at hlk
  go_wp2
  go_ret
  exact ⟨rfl, hT1, .of_below hb1⟩

set_option maxHeartbeats 1000000 in
theorem Class_new (l f : List UInt8) (o : Ig) (fs : List (List UInt8)) (t B : Nat) (w : World) (hl : l.length ≤ 137438953472) (hfl : Hid (canonL o l = f)) (hf : f.length ≤ 2199023255552) (hfs : fs.length ≤ 1099511627776) (hT : Tbl o fs t B w) (hm : f ∉ fs) :
    Calls Tryz.prog 51 #[.pointer (some ⟨t, 0, none⟩), .string ⟨l.toArray⟩] w fun e w' => e = .returned (.int .i64 fs.length) ∧ Tbl o (fs ++ [f]) t B w' ∧ But (fun k => k = B) w w' := by
  obtain ⟨d0, d1, d2, d3, d4, d5, d6⟩ := hT.cells
  have HM : Hid (f ∉ fs) := hm
  clear hm
  go_enter Tryz.func51, Tryz.ntmps51
  go_wp2_with fail
  refine (Canon_any l o _ hl).mono ?_
  rintro e w1 ⟨rfl, hb1⟩
  rw [hfl.out]
  clear d0 d1 d2 d3 d4 d5 d6
  have hT1 := hT.keep (S := fun _ => False) (.of_below hb1) (fun h => h) (fun h => h)
  obtain ⟨d0, d1, d2, d3, d4, d5, d6⟩ := hT1.cells
  have hlk := hT1.look hf
  rw [show lookB fs f = false from Bool.eq_false_iff.2 (fun e => HM.out (List.contains_iff_mem.1 e)), lookN_new HM.out] at hlk
  obtain ⟨w2, hst, hT2, hB2⟩ := hT1.store hf HM.out hfs
  have hlen := hT1.len
  go_wp2
  go_ret
  exact ⟨rfl, hT2, (But.of_below hb1).trans hB2 (fun _ _ h => h)⟩

theorem Class_any (l : List UInt8) (o : Ig) (fs : List (List UInt8)) (t B : Nat) (w : World) (hl : l.length ≤ 137438953472) (hfs : fs.length ≤ 1099511627776) (hT : Tbl o fs t B w) :
    Calls Tryz.prog 51 #[.pointer (some ⟨t, 0, none⟩), .string ⟨l.toArray⟩] w fun e w' => e = .returned (.int .i64 (num fs (canonL o l))) ∧ Tbl o (add fs (canonL o l)) t B w' ∧ But (fun k => k = B) w w' := by
  have hcl := canon_len o l
  by_cases hm : canonL o l ∈ fs
  · rw [add_old hm]
    exact Class_old l _ o fs t B w hl (show _ = _ from rfl) (by omega) hT hm
  · rw [add_new hm, num_new hm]
    exact Class_new l _ o fs t B w hl (show _ = _ from rfl) (by omega) hfs hT hm
end Go.Proofs.YtjhanfiohfakoaaGreatDoor.Tx

/- Rows of texts and rows of numbers: what a slice value holds, cell by cell; the helpers SameStrings and SameInts of the reference, walked at two slices that hold the same. -/
set_option maxRecDepth 20000
namespace Go.Proofs.YtjhanfiohfakoaaGreatDoor.Tx
open Go.RowKit
attribute [local go_sem] ba_at ByteArray.extract_mk

/-- a list of texts as cells -/
def scells (ws : List (List UInt8)) : List Value := ws.map fun a => .string ⟨a.toArray⟩
/-- a list of numbers as cells -/
def icells (ns : List Nat) : List Value := ns.map fun (n : Nat) => .int .i64 (n : Int)
theorem scells_length (ws : List (List UInt8)) : (scells ws).length = ws.length := by simp [scells]
theorem icells_length (ws : List Nat) : (icells ws).length = ws.length := by simp [icells]
theorem scells_append (a b : List (List UInt8)) : scells (a ++ b) = scells a ++ scells b := by simp [scells]
theorem icells_append (a b : List Nat) : icells (a ++ b) = icells a ++ icells b := by simp [icells]
theorem scells_one (ws : List (List UInt8)) : ∀ u ∈ scells ws, u.oneCell' = true := by
  intro u hu
  simp only [scells, List.mem_map] at hu
  obtain ⟨a, _, rfl⟩ := hu
  rfl
theorem icells_one (ws : List Nat) : ∀ u ∈ icells ws, u.oneCell' = true := by
  intro u hu
  simp only [icells, List.mem_map] at hu
  obtain ⟨a, _, rfl⟩ := hu
  rfl
theorem infoStr : (Tryz.prog.info? 9).map (fun i => (i.zero, i.size, i.bytes)) = some (some (.string ⟨#[]⟩), 1, 16) := by kernel_rfl
theorem infoInt : (Tryz.prog.info? 3).map (fun i => (i.zero, i.size, i.bytes)) = some (some (.int .i64 0), 1, 8) := by kernel_rfl

theorem addr_of {W : World} {a : Addr} {v : Value} (h : W.cell? (a.add 0) = some v) : ∃ b off, a = ⟨b, off, none⟩ := by
  obtain ⟨b, off, spot⟩ := a
  have hspot : spot = none := by simpa [Addr.add] using World.cell?_spot h
  subst hspot
  exact ⟨b, off, rfl⟩
theorem add_none (b off j : Nat) : (⟨b, off, none⟩ : Addr).add j = ⟨b, off + j, none⟩ := by unfold Addr.add; split <;> simp_all

/-- what a slice value holds, cell by cell -/
def Holds (w : World) (v : Value) (xs : List Value) : Prop :=
  (v = .slice none 0 0 ∧ xs = []) ∨ ∃ ad c, v = .slice (some ad) xs.length c ∧ xs.length ≤ c ∧ ∀ j u, xs[j]? = some u → w.cell? (ad.add j) = some u
theorem holds_of {w : World} {B : Nat} {e : TypeId} {v : Value} {n : Nat} {xs : List Value} (h : w.ownsRow B e 1 v n xs) : Holds w v xs := by
  have hn : xs.length = n := by rw [h.1, Nat.mul_one]
  subst hn
  rcases h.2 with ⟨rfl, h0⟩ | ⟨g, cap, cur, rfl, _, _, hnc, _⟩
  · exact .inl ⟨rfl, List.eq_nil_of_length_eq_zero h0⟩
  · exact .inr ⟨⟨g, 0, none⟩, cap, rfl, hnc, h.cells (g := g) rfl⟩
theorem Holds.keep {w w' : World} {v : Value} {xs : List Value} (h : Holds w v xs) (hk : ∀ k, k < w.heap.size → w'.heap[k]? = w.heap[k]?) : Holds w' v xs := by
  rcases h with h | ⟨ad, c, hv, hnc, hc⟩
  · exact .inl h
  · refine .inr ⟨ad, c, hv, hnc, fun j u hj => ?_⟩
    have h1 := hc j u hj
    have hlt := World.block_lt_of_cell? w _ h1
    rw [World.cell?_of_block (w := w) (hk _ hlt)]
    exact h1
theorem Holds.form {w : World} {v : Value} {xs : List Value} (h : Holds w v xs) : ∃ ao c, v = .slice ao xs.length c := by
  rcases h with ⟨rfl, rfl⟩ | ⟨ad, c, rfl, _⟩
  · exact ⟨_, _, rfl⟩
  · exact ⟨_, _, rfl⟩
/-- a slice that is not empty: where it lies -/
theorem Holds.at {w : World} {v : Value} {xs : List Value} (h : Holds w v xs) (h0 : 0 < xs.length) : ∃ b off c, v = .slice (some ⟨b, off, none⟩) xs.length c ∧ b < w.heap.size ∧ ∀ j (hj : j < xs.length), w.cell? ⟨b, off + j, none⟩ = some xs[j] := by
  rcases h with ⟨_, rfl⟩ | ⟨ad, c, rfl, _, hc⟩
  · simp at h0
  · obtain ⟨b, off, rfl⟩ := addr_of (hc 0 _ (List.getElem?_eq_getElem h0))
    refine ⟨b, off, c, rfl, World.block_lt_of_cell? w _ (hc 0 _ (List.getElem?_eq_getElem h0)), fun j hj => ?_⟩
    have := hc j _ (List.getElem?_eq_getElem hj)
    rw [add_none] at this
    exact this
theorem Holds.nil (w : World) : Holds w (.slice none 0 0) [] := .inl ⟨rfl, rfl⟩

theorem wpList_append_holds {ops : Array Oper} {rest : List Oper} {o : Oper} {a : Act} {Q : Exit → Act → World → Prop} (w : World) (hgd : o.guard = none) (s x : Operand) (T E : TypeId) (z : Value) (bytes : Nat)
    (hT : Tryz.prog.underlying T = some (.slice E)) (hinfo : (Tryz.prog.info? E).map (fun i => (i.zero, i.size, i.bytes)) = some (some z, 1, bytes)) (hz1 : z.cells.size = 1) (hby : bytes ≤ 16)
    (ho : o.op = .call { callee := .builtin .append, args := #[s, x], argTypes := #[T, T] })
    (base : Nat) (v : Value) (n : Nat) (xs : List Value) (hs : a.eval s = v) (hown : w.ownsRow base E 1 v n xs)
    (vx : Value) (ws : List Value) (hx : a.eval x = vx) (hh : Holds w vx ws) (h1 : ∀ u ∈ ws, u.oneCell' = true) (hl : n + ws.length ≤ 1099511627776) (hbase : base ≤ w.heap.size)
    (h : ∀ v' w', w'.ownsRow base E 1 v' (n + ws.length) (xs ++ ws) → w.grownBy w' v.ownBlock → wpList Tryz.prog ops Q rest (a.put o.dst v') w') : wpList Tryz.prog ops Q (o :: rest) a w := by
  obtain ⟨i0, hi, hz0, hzs, hz2⟩ := info_parts hinfo
  rcases hh with ⟨rfl, rfl⟩ | ⟨ad, c, rfl, _, hc⟩
  · refine wpList_append_own_none hgd s x T ho base E i0 1 hT hi v n xs hs hown hx ?_
    exact h v w (by simpa using hown) (World.grownBy.refl _ _)
  · refine wpList_append_own w hgd s x T ho base E i0 z 1 bytes hT hi hz0 hzs hz2 hz1 (by decide) v n xs hs hown ad ws.length c ws hx (by omega) hc h1 (by unfold maxLen; omega) ?_ hbase ?_
    · have : (n + ws.length) * bytes ≤ (n + ws.length) * 16 := Nat.mul_le_mul_left _ hby
      omega
    · intro v' w' h1 h2 _
      exact h v' w' h1 h2

set_option maxHeartbeats 1000000 in
theorem SameS_any (va vb : Value) (ws : List (List UInt8)) (w : World) (hl : ws.length ≤ 1099511627776) (ha : Holds w va (scells ws)) (hb : Holds w vb (scells ws)) :
    Calls Tryz.prog 9 #[va, vb] w fun e w' => e = .returned (.bool true) ∧ ∃ n, w' = w.drewN n := by
  by_cases h0 : 0 < ws.length
  · obtain ⟨b1, o1, c1, rfl, _, hc1⟩ := ha.at (by rw [scells_length]; exact h0)
    obtain ⟨b2, o2, c2, rfl, _, hc2⟩ := hb.at (by rw [scells_length]; exact h0)
    rw [scells_length] at *
    have HC1 : Hid (∀ j (h : j < ws.length), w.cell? ⟨b1, o1 + j, none⟩ = some (.string ⟨ws[j].toArray⟩)) := fun j h => by rw [hc1 j (by rw [scells_length]; exact h)]; simp [scells]
    have HC2 : Hid (∀ j (h : j < ws.length), w.cell? ⟨b2, o2 + j, none⟩ = some (.string ⟨ws[j].toArray⟩)) := fun j h => by rw [hc2 j (by rw [scells_length]; exact h)]; simp [scells]
    clear hc1 hc2 ha hb
    go_enter Tryz.func9, Tryz.ntmps9
    go_wp2
    go_loopw [5] (fun i wr => ∃ k m : Nat, k ≤ ws.length ∧ i = .int .i64 k ∧ wr = w.drewN m) (fun i _ => ws.length - (intOf i).toNat)
    case atStart => exact ⟨0, 0, Nat.zero_le _, rfl, rfl⟩
    case round =>
      obtain ⟨k, m, hk, rfl, rfl⟩ := hrel
      by_cases hlt : k < ws.length
      · have d1 := HC1.out k hlt
        have d2 := HC2.out k hlt
        have i1 : 0 ≤ (k : Int) := by omega
        have i2 : (k : Int) < (ws.length : Int) := by omega
        go_wp2_with fail
        go_quiet (fail)
        go_wp2
        go_roundw
        case rel => exact ⟨k + 1, _, by omega, by go_num, rfl⟩
        case measure => simp [intOf]; omega
      · go_wp2
        go_ret
        exact ⟨rfl, _, rfl⟩
  · have : ws = [] := List.eq_nil_of_length_eq_zero (by omega)
    subst this
    obtain ⟨ao, ca, rfl⟩ := ha.form
    obtain ⟨bo, cb, rfl⟩ := hb.form
    simp only [scells, List.map_nil, List.length_nil]
    go_enter Tryz.func9, Tryz.ntmps9
    go_wp2
    refine wp_loop_rounds 1 ?_
    rw [rounds_succ]
    go_wp2
    go_ret
    exact ⟨rfl, 0, rfl⟩

end Go.Proofs.YtjhanfiohfakoaaGreatDoor.Tx

/- The numbers of a list of lines by a table; the classes of two lists of lines; the helper works of the laws: walked. -/
set_option maxRecDepth 20000
namespace Go.Proofs.YtjhanfiohfakoaaGreatDoor.Tx
open Cn It Go.RowKit Go.Maps
attribute [local go_sem] ba_at ByteArray.extract_mk ba_cat

theorem But.setCell (w : World) (a : Addr) (v : Value) : But (fun k => k = a.block) w (w.setCell a v) := ⟨rfl, rfl, rfl, by simp [World.setCell], fun k _ hk => Below.heap_setCell w a v k hk⟩
theorem But.refl (S : Nat → Prop) (w : World) : But S w w := ⟨rfl, rfl, rfl, Nat.le_refl _, fun _ _ _ => rfl⟩
theorem Tbl.cell_ne {o : Ig} {fs : List (List UInt8)} {t B b off : Nat} {w : World} {v : Value} (h : Tbl o fs t B w) (hc : w.cell? ⟨b, off, none⟩ = some v) : b ≠ B := by
  intro e
  subst e
  obtain ⟨D, ⟨es, clock, hb, _⟩, _⟩ := h.map
  simp [World.cell?, hb] at hc
theorem Tbl.row_ne {o : Ig} {fs : List (List UInt8)} {t B g : Nat} {w : World} {C : Array Value} {e : TypeId} {fz : Nat × Nat} (h : Tbl o fs t B w) (hg : w.heap[g]? = some (.cells C e fz)) : g ≠ B := by
  intro e
  subst e
  obtain ⟨D, ⟨es, clock, hb, _⟩, _⟩ := h.map
  rw [hb] at hg
  cases hg
theorem Tbl.row_ne_t {o : Ig} {fs : List (List UInt8)} {t B g : Nat} {w : World} {C : Array Value} {e : TypeId} {fz : Nat × Nat} (h : Tbl o fs t B w) (hg : w.heap[g]? = some (.cells C e fz)) (he : e ≠ 91) : t ≠ g := by
  intro e'
  subst e'
  have := h.box
  rw [hg] at this
  cases this
  exact he rfl

/-- a row of numbers that is being filled -/
def fill (ns : List Nat) (n : Nat) : List Value := icells ns ++ List.replicate (n - ns.length) (.int .i64 0)
theorem fill_nil (n : Nat) : fill [] n = List.replicate n (.int .i64 0) := by simp [fill, icells]
theorem fill_full {ns : List Nat} {n : Nat} (h : ns.length = n) : fill ns n = icells ns := by simp [fill, h]
theorem fill_step (ns : List Nat) (n m : Nat) (h : ns.length < n) : (fill ns n).set ns.length (.int .i64 m) = fill (ns ++ [m]) n := by
  unfold fill
  obtain ⟨k, hk⟩ : ∃ k, n - ns.length = k + 1 := ⟨n - ns.length - 1, by omega⟩
  have e : n - (ns ++ [m]).length = k := by simp; omega
  rw [e, hk, List.set_append_right _ _ (by rw [icells_length]; omega), icells_length, Nat.sub_self, List.replicate_succ, List.set_cons_zero, icells_append, List.append_assoc]
  rfl
theorem fill_length (ns : List Nat) (n : Nat) (h : ns.length ≤ n) : (fill ns n).length = n := by simp [fill, icells_length]; omega
theorem made_fill (n : Nat) : madeCells #[.int .i64 0] n = (fill [] n).toArray := by
  rw [fill_nil]
  apply Array.ext
  · simp [madeCells]
  · intro i h1 h2
    simp [madeCells, Nat.mod_one]
theorem row_set {b : Nat} {w : World} {l : List Value} {e : TypeId} (h : w.heap[b]? = some (.cells l.toArray e (0, 0))) (j : Nat) (v : Value) : (w.setCell ⟨b, j, none⟩ v).heap[b]? = some (.cells (l.set j v).toArray e (0, 0)) := by
  simp only [World.setCell, Array.getElem?_modify, h]
  simp
theorem row_frozen {b : Nat} {w : World} {C : Array Value} {e : TypeId} (h : w.heap[b]? = some (.cells C e (0, 0))) (j : Nat) : w.frozen? ⟨b, j, none⟩ = false := by
  simp [World.frozen?, h]

/-- the row of numbers behind a round -/
structure Filling (o : Ig) (fs fl : List (List UInt8)) (t B g : Nat) (W : World) (k : Nat) (w : World) : Prop where
  tbl : Tbl o (adds fs (fl.take k)) t B w
  row : w.heap[g]? = some (.cells (fill (nums fs (fl.take k)) fl.length).toArray 3 (0, 0))
  but : But (fun j => j = B) W w

theorem Filling.step {o : Ig} {fs fl : List (List UInt8)} {t B g : Nat} {W : World} {k : Nat} {w w1 : World} (h : Filling o fs fl t B g W k w) (hk : k < fl.length) (hgW : W.heap.size ≤ g) (hT : Tbl o (add (adds fs (fl.take k)) fl[k]) t B w1) (hb : But (fun j => j = B) w w1) :
    Filling o fs fl t B g W (k + 1) (w1.setCell ⟨g, k, none⟩ (.int .i64 (num (adds fs (fl.take k)) fl[k]))) := by
  have hgB := h.tbl.row_ne h.row
  have hrow : w1.heap[g]? = some (.cells (fill (nums fs (fl.take k)) fl.length).toArray 3 (0, 0)) := (hb.block g (Array.getElem?_eq_some_iff.1 h.row).1 hgB).trans h.row
  have htk : fl.take (k + 1) = fl.take k ++ [fl[k]] := (List.take_append_getElem hk).symm
  have hlen : (nums fs (fl.take k)).length = k := by rw [nums_length, List.length_take]; omega
  have htg := hT.row_ne_t hrow (by decide)
  refine ⟨?_, ?_, ?_⟩
  · rw [htk, adds_snoc]
    exact hT.keep (But.setCell w1 ⟨g, k, none⟩ _) (fun e => htg e) (fun e => hgB e.symm)
  · rw [htk, nums_snoc, row_set hrow]
    have e := fill_step (nums fs (fl.take k)) fl.length (num (adds fs (fl.take k)) fl[k]) (by omega)
    rw [hlen] at e
    rw [e]
  · exact (h.but.trans hb (fun _ _ h => h)).trans (But.setCell w1 ⟨g, k, none⟩ _) (fun j hj e => by simp at e; omega)

set_option maxHeartbeats 1000000 in
theorem classes_any (ls fl fs : List (List UInt8)) (o : Ig) (t B : Nat) (vl : Value) (w : World) (hfl : Hid (fl = ls.map (canonL o))) (hlen : fl.length = ls.length) (hl : Hid (∀ a ∈ ls, a.length ≤ 137438953472)) (hn : fs.length + ls.length ≤ 1099511627776) (hT : Tbl o fs t B w) (hv : Holds w vl (scells ls)) :
    Calls Tryz.prog 31 #[.pointer (some ⟨t, 0, none⟩), vl] w fun e w' => ∃ v, e = .returned v ∧ w'.ownsRow w.heap.size 3 1 v ls.length (icells (nums fs fl)) ∧ Tbl o (adds fs fl) t B w' ∧ But (fun j => j = B) w w' := by
  have hmk := run_make_row' (P := Tryz.prog) 35 3 (.int .i64 0) 8 Tryz.underlying35 infoInt rfl .i64 .i64 ls.length (by omega) (by omega)
  have hF0 : Filling o fs fl t B w.heap.size w 0 (w.alloc (.cells (madeCells #[.int .i64 0] ls.length) 3)) := by
    have hb : Below w.heap.size w (w.alloc (.cells (madeCells #[.int .i64 0] ls.length) 3)) := (Below.refl _ w).alloc (Nat.le_refl _) _
    refine ⟨hT.keep (S := fun _ => False) (.of_below hb) (fun h => h) (fun h => h), ?_, .of_below hb⟩
    rw [made_fill, hlen]
    exact _root_.Go.heap_alloc_new w _
  have fin : ∀ {wr : World}, Filling o fs fl t B w.heap.size w ls.length wr → wr.ownsRow w.heap.size 3 1 (.slice (some ⟨w.heap.size, 0, none⟩) ls.length ls.length) ls.length (icells (nums fs fl)) ∧ Tbl o (adds fs fl) t B wr ∧ But (fun j => j = B) w wr := by
    intro wr h
    have e1 : fl.take ls.length = fl := List.take_of_length_le (by omega)
    have e2 : (nums fs fl).length = fl.length := nums_length _ _
    obtain ⟨h1, h2, h3⟩ := h
    rw [e1] at h1 h2
    rw [fill_full e2] at h2
    refine ⟨⟨by rw [icells_length, e2, hlen]; omega, .inr ⟨_, _, _, rfl, Nat.le_refl _, h2, Nat.le_refl _, by unfold maxLen; omega, by simp [icells_length, e2, hlen], ?_⟩⟩, h1, h3⟩
    rw [Nat.mul_one, ← hlen, ← e2, ← icells_length]
    exact List.take_length
  have FIN : Hid (∀ {wr : World}, Filling o fs fl t B w.heap.size w ls.length wr → wr.ownsRow w.heap.size 3 1 (.slice (some ⟨w.heap.size, 0, none⟩) ls.length ls.length) ls.length (icells (nums fs fl)) ∧ Tbl o (adds fs fl) t B wr ∧ But (fun j => j = B) w wr) := fin
  clear fin
  by_cases h0 : 0 < ls.length
  · obtain ⟨b, off, c, rfl, hbl, hc⟩ := hv.at (by rw [scells_length]; exact h0)
    have hbB : b ≠ B := hT.cell_ne (hc 0 (by rw [scells_length]; exact h0))
    have HC : Hid (∀ j (h : j < ls.length), w.cell? ⟨b, off + j, none⟩ = some (.string ⟨ls[j].toArray⟩)) := fun j h => by rw [hc j (by rw [scells_length]; exact h)]; simp [scells]
    clear hc hv hT
    rw [scells_length]
    go_enter Tryz.func31, Tryz.ntmps31
    go_wp2
    clear hmk
    generalize w.alloc (.cells (madeCells #[.int .i64 0] ls.length) 3) = w0 at hF0 ⊢
    go_loopw [13] (fun i wr => ∃ k : Nat, k ≤ ls.length ∧ i = .int .i64 k ∧ Filling o fs fl t B w.heap.size w k wr) (fun i _ => ls.length - (intOf i).toNat)
    case atStart => exact ⟨0, Nat.zero_le _, rfl, hF0⟩
    case round =>
      obtain ⟨k, hk, rfl, hF⟩ := hrel
      by_cases hlt : k < ls.length
      · have d1 : wr.cell? ⟨b, off + k, none⟩ = some (.string ⟨ls[k].toArray⟩) := (World.cell?_of_block (w := w) (hF.but.block b hbl hbB)).trans (HC.out k hlt)
        have i1 : 0 ≤ (k : Int) := by omega
        have i2 : (k : Int) < (ls.length : Int) := by omega
        have hkf : k < fl.length := by omega
        have hcan : canonL o ls[k] = fl[k] := by simp only [hfl.out, List.getElem_map]
        have hal := adds_le (fl.take k) fs
        rw [List.length_take] at hal
        go_wp2_with fail
        refine (Class_any ls[k] o _ t B wr (hl.out _ (List.getElem_mem hlt)) (by omega) hF.tbl).mono ?_
        rintro e w1 ⟨rfl, hT1, hb1⟩
        rw [hcan] at hT1 ⊢
        have hF1 := hF.step hkf (Nat.le_refl _) hT1 hb1
        have hg1 := (hb1.block w.heap.size (Array.getElem?_eq_some_iff.1 hF.row).1 (hF.tbl.row_ne hF.row)).trans hF.row
        have fz := row_frozen hg1 k
        have c1 : w1.cell? ⟨w.heap.size, k, none⟩ = (fill (nums fs (fl.take k)) fl.length)[k]? := by rw [Lib.cell_of_heap hg1]; simp
        rw [List.getElem?_eq_getElem (by rw [fill_length _ _ (by rw [nums_length, List.length_take]; omega)]; exact hkf)] at c1
        clear hT1 hb1 hg1 hcan hal d1
        generalize num (adds fs (fl.take k)) fl[k] = m at *
        go_wp2
        go_roundw
        case rel => exact ⟨k + 1, by omega, by go_num, hF1⟩
        case measure => simp [intOf]; omega
      · have e : k = ls.length := by omega
        subst e
        go_wp2
        go_ret
        exact ⟨_, rfl, FIN.out hF⟩
  · obtain ⟨ao, ca, rfl⟩ := hv.form
    have hz : ls = [] := List.eq_nil_of_length_eq_zero (by omega)
    subst hz
    have hF1 := FIN.out hF0
    clear FIN hF0 hlen hfl hl hT hv hn h0
    simp only [scells, List.map_nil, List.length_nil, Int.natCast_zero] at hmk hF1 ⊢
    go_enter Tryz.func31, Tryz.ntmps31
    go_wp2
    refine wp_loop_rounds 1 ?_
    rw [rounds_succ]
    go_wp2
    go_ret
    exact ⟨_, rfl, hF1⟩

theorem Tbl.owns {o : Ig} {fs : List (List UInt8)} {t B N : Nat} {e : TypeId} {v : Value} {n : Nat} {xs : List Value} {w w' : World} (h : Tbl o fs t B w) (ho : w.ownsRow N e 1 v n xs) (hb : But (fun j => j = B) w w') : w'.ownsRow N e 1 v n xs := by
  refine ⟨ho.1, ?_⟩
  rcases ho.2 with h1 | ⟨g, cap, cur, q1, q2, q3, q4⟩
  · exact .inl h1
  · exact .inr ⟨g, cap, cur, q1, q2, (hb.block g (Array.getElem?_eq_some_iff.1 q3).1 (h.row_ne q3)).trans q3, q4⟩

set_option maxHeartbeats 1000000 in
theorem Classes_f (la lb fa fb : List (List UInt8)) (o : Ig) (va vb : Value) (w : World) (hfa : Hid (fa = la.map (canonL o))) (hfb : Hid (fb = lb.map (canonL o))) (hla : Hid (∀ a ∈ la, a.length ≤ 137438953472)) (hlb : Hid (∀ a ∈ lb, a.length ≤ 137438953472)) (hn : la.length + lb.length ≤ 1099511627776)
    (ha : Holds w va (scells la)) (hb : Holds w vb (scells lb)) :
    Calls Tryz.prog 19 #[va, vb, igV o] w fun e w' => ∃ vx vy, e = .returned (.tuple #[vx, vy, .int .i64 (adds [] (fa ++ fb)).length]) ∧ Holds w' vx (icells (nums [] fa)) ∧ Holds w' vy (icells (nums (adds [] fa) fb)) ∧ Below w.heap.size w w' := by
  have ea : fa.length = la.length := by rw [hfa.out]; simp
  have eb : fb.length = lb.length := by rw [hfb.out]; simp
  have hal := adds_le fa []
  have hb0 : Below w.heap.size w (w.alloc (.cells #[.bool o.sp, .bool o.wt, .bool o.bl, .bool o.cs, .bool o.tb, .bool o.tr] 24)) := (Below.refl _ w).alloc (Nat.le_refl _) _
  unfold igV
  go_enter Tryz.func19, Tryz.ntmps19
  go_wp2_with fail
  refine (New_any o _).mono ?_
  rintro e w1 ⟨t, B, rfl, hT, ht, hB, hb1⟩
  have hz0 := hb0.size
  have hb2 := hb0.trans (hb1.mono hz0)
  generalize w.alloc (.cells #[.bool o.sp, .bool o.wt, .bool o.bl, .bool o.cs, .bool o.tb, .bool o.tr] 24) = wb at *
  have ha1 := ha.keep hb2.block
  have hvb1 := hb.keep hb2.block
  go_wp2_with fail
  refine (classes_any la fa [] o t B va w1 hfa ea hla (by simp; omega) hT ha1).mono ?_
  rintro e w2 ⟨vx, rfl, hx, hT2, hb3⟩
  have hb4 := hb3.below hb2 hb2.size (fun k e => by subst e; omega)
  have hvb2 := hb.keep hb4.block
  go_wp2_with fail
  refine (classes_any lb fb _ o t B vb w2 hfb eb hlb (by simp at hal; omega) hT2 hvb2).mono ?_
  rintro e w3 ⟨vy, rfl, hy, hT3, hb5⟩
  have hb6 := hb5.below hb4 hb4.size (fun k e => by subst e; omega)
  have hx3 := hT2.owns hx hb5
  rw [← adds_append] at hT3
  go_wp2_with fail
  refine (Size_any o _ t B w3 hT3).mono ?_
  rintro e w4 ⟨rfl, rfl⟩
  go_wp2
  go_ret3
  exact ⟨vx, vy, rfl, holds_of hx3, holds_of hy, hb6⟩

theorem Classes_any (la lb : List (List UInt8)) (o : Ig) (va vb : Value) (w : World) (hla : ∀ a ∈ la, a.length ≤ 137438953472) (hlb : ∀ a ∈ lb, a.length ≤ 137438953472) (hn : la.length + lb.length ≤ 1099511627776) (ha : Holds w va (scells la)) (hb : Holds w vb (scells lb)) :
    Calls Tryz.prog 19 #[va, vb, igV o] w fun e w' => ∃ vx vy, e = .returned (.tuple #[vx, vy, .int .i64 (adds [] (la.map (canonL o) ++ lb.map (canonL o))).length]) ∧ Holds w' vx (icells (nums [] (la.map (canonL o)))) ∧ Holds w' vy (icells (nums (adds [] (la.map (canonL o))) (lb.map (canonL o)))) ∧ Below w.heap.size w w' :=
  Classes_f la lb _ _ o va vb w (show _ = _ from rfl) (show _ = _ from rfl) hla hlb hn ha hb
end Go.Proofs.YtjhanfiohfakoaaGreatDoor.Tx
