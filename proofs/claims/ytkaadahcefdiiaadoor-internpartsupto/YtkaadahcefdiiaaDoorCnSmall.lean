/-
  Layer canon and its reference, walked: a text with small letters (in place, in new bytes), and the reference's text with blanks in the place of tabs.
-/
import Derived.Test.YtkaadahcefdiiaaDoorCnRef
namespace Go.Proofs.YtkaadahcefdiiaaDoor
open Cn Go.RowKit
attribute [local go_sem] ba_at ByteArray.extract_mk

/-- what a text's bytes lie in; they may be written -/
theorem conv_new {P : Program} (w : World) (src dst e : TypeId) (l : List UInt8) (hs : P.underlying src = some .string) (hd : P.underlying dst = some (.slice e)) (he : P.underlying e = some (.int .u8)) :
    ∃ cap C n w', (convert src dst (.string ⟨l.toArray⟩)).run P w = .ok (.slice (some ⟨w.heap.size, 0, none⟩) l.length cap) w' ∧ w'.heap[w.heap.size]? = some (.cells C e (n, n + 1)) ∧ C.size = n ∧ (∀ j (h : j < l.length), C[j]? = some (.int .u8 (l[j].toNat : Int))) ∧ Below w.heap.size w w' := by
  refine ⟨_, _, _, _, run_bytes_of_string w src dst e ⟨l.toArray⟩ hs hd he, _root_.Go.heap_alloc_new w.drew _, rfl, ?_, ((Below.refl _ w).drew).alloc (Nat.le_refl _) _⟩
  intro j hj
  unfold bytesRow
  rw [Array.getElem?_append_left (by simpa using hj)]
  simp [hj]

/-- a slice's length -/
def lenS : Value → Nat
  | .slice _ n _ => n
  | _ => 0
theorem lenS_own {w : World} {B : Nat} {e : TypeId} {size : Nat} {v : Value} {n : Nat} {xs : List Value} (h : w.ownsRowF B e size v n xs) : ∃ ao cap, v = .slice ao n cap := by
  rcases h.2 with ⟨rfl, rfl⟩ | ⟨g, cap, cur, fz, q1, _⟩
  · exact ⟨_, _, rfl⟩
  · exact ⟨_, _, q1⟩

/-- a row of which the first ones are small -/
def Part (l : List UInt8) (k : Nat) (C : Array Value) : Prop := (∀ j (h : j < l.length), j < k → C[j]? = some (.int .u8 ((low l[j]).toNat : Int))) ∧ ∀ j (h : j < l.length), k ≤ j → C[j]? = some (.int .u8 (l[j].toNat : Int))

set_option maxHeartbeats 1000000 in
theorem inSmall_any (l : List UInt8) (w : World) (hl : l.length ≤ 1099511627776) :
    Calls Tryd.prog 30 #[.string ⟨l.toArray⟩] w fun e w' => e = .returned (.string ⟨(smL l).toArray⟩) ∧ Below w.heap.size w w' := by
  obtain ⟨cap, C0, n, w2, hcv, hR, hn0, hC0, hb2⟩ := conv_new (P := Tryd.prog) w 9 58 5 l Tryd.underlying9 Tryd.underlying58 Tryd.underlying5
  generalize hg : w.heap.size = g at *
  have HG : Hid (w.heap.size = g) := hg
  clear hg
  go_enter Tryd.func30, Tryd.ntmps30
  go_wp2
  go_loopw [4, 5, 10] (fun _ _ i wr => ∃ (k : Nat) (C : Array Value), k ≤ l.length ∧ i = .int .i64 k ∧ wr.heap[g]? = some (.cells C 5 (n, n + 1)) ∧ C.size = n ∧ Hid (Part l k C) ∧ Below g w wr) (fun _ _ i _ => l.length - (intOf i).toNat)
  case atStart => exact ⟨0, C0, Nat.zero_le _, rfl, hR, hn0, ⟨fun j h hj => absurd hj (Nat.not_lt_zero j), fun j h _ => hC0 j h⟩, hb2⟩
  case round =>
    obtain ⟨k, C, hk, rfl, hgC, hCn, HC, hbr⟩ := hrel
    by_cases hlt : k < l.length
    · have hck : wr.cell? ⟨g, k, none⟩ = some (.int .u8 (l[k].toNat : Int)) := by rw [Lib.cell_of_heap hgC]; exact HC.out.2 k hlt (Nat.le_refl _)
      have hCs : k < C.size := by
        have := HC.out.2 k hlt (Nat.le_refl _)
        exact (Array.getElem?_eq_some_iff.1 this).1
      have hfk : wr.frozen? ⟨g, k, none⟩ = false := by
        simp only [World.frozen?, hgC]
        rw [decide_eq_false (by omega)]; rfl
      have i1 : 0 ≤ (k : Int) := by omega
      have i2 : (k : Int) < (l.length : Int) := by omega
      by_cases hc : 65 ≤ l[k].toNat ∧ l[k].toNat ≤ 90
      · have HL : Hid (((low l[k]).toNat : Int) = (l[k].toNat : Int) - 65 + 97) := low_yes hc
        have c1 : (65 : Int) ≤ (l[k].toNat : Int) := by omega
        have c2 : (l[k].toNat : Int) ≤ 90 := by omega
        go_wp2
        go_roundw
        case rel =>
          refine ⟨k + 1, C.setIfInBounds k (.int .u8 ((l[k].toNat : Int) - 65 + 97)), by omega, by go_num, ?_, by simpa using hCn, ⟨fun j h hj => ?_, fun j h hj => ?_⟩, hbr.setCell (p := ⟨g, k, none⟩) (Nat.le_refl _) _⟩
          · simp only [World.setCell, Array.getElem?_modify, hgC]
            simp
          · rw [← HL.out, Array.getElem?_setIfInBounds]
            by_cases e : k = j
            · subst e; rw [if_pos rfl, if_pos hCs]
            · rw [if_neg e]; exact HC.out.1 j h (by omega)
          · rw [Array.getElem?_setIfInBounds, if_neg (by omega)]
            exact HC.out.2 j h (by omega)
        case measure => simp [intOf]; omega
      · have HL : Hid (low l[k] = l[k]) := low_no hc
        have hcc : decide ((65 : Int) ≤ (l[k].toNat : Int)) = false ∨ (decide ((65 : Int) ≤ (l[k].toNat : Int)) = true ∧ decide ((l[k].toNat : Int) ≤ 90) = false) := by
          by_cases h65 : 65 ≤ l[k].toNat
          · exact .inr ⟨decide_eq_true (by omega), decide_eq_false (by omega)⟩
          · exact .inl (decide_eq_false (by omega))
        have HP : Hid (Part l (k + 1) C) := by
          refine ⟨fun j h hj => ?_, fun j h hj => HC.out.2 j h (by omega)⟩
          by_cases e : j = k
          · subst e; rw [HL.out]; exact HC.out.2 j h (Nat.le_refl _)
          · exact HC.out.1 j h (by omega)
        rcases hcc with c1 | ⟨c1, c2⟩
        all_goals
          go_wp2
          go_roundw
          case rel => exact ⟨k + 1, C, by omega, by go_num, hgC, hCn, HP, hbr⟩
          case measure => simp [intOf]; omega
    · have hcs : (convert 58 9 (.slice (some ⟨g, 0, none⟩) l.length cap)).run Tryd.prog wr = .ok (.string ⟨(smL l).toArray⟩) wr := by
        have e : l.length = (smL l).length := (sm_len l).symm
        rw [e]
        refine run_convert_bytes_back wr 58 9 5 ⟨g, 0, none⟩ cap (smL l) Tryd.underlying58 Tryd.underlying5 Tryd.underlying9 ?_
        intro j hj
        have hj' : j < l.length := by rw [e]; exact hj
        have hadd : (⟨g, 0, none⟩ : Addr).add j = ⟨g, j, none⟩ := by unfold Addr.add; split <;> simp_all
        rw [hadd, Lib.cell_of_heap hgC]
        have := HC.out.1 j hj' (by omega)
        simpa [smL] using this
      go_wp2
      go_ret
      exact ⟨rfl, hbr⟩

set_option maxHeartbeats 2000000 in
theorem refExpand_any (l : List UInt8) (w : World) (hl : l.length ≤ 1099511627776) :
    Calls Tryd.prog 41 #[.string ⟨l.toArray⟩] w fun e w' => e = .returned (.string ⟨(expL 0 l).toArray⟩) ∧ Below w.heap.size w w' := by
  obtain ⟨i0, hi, hz0, hz1, hz2⟩ := info_parts infoU8
  have hwl := exp_len l 0
  go_enter Tryd.func41, Tryd.ntmps41
  go_wp2
  go_loopw [3, 4] (fun out i wr => ∃ (k : Nat) (acc : List UInt8), k ≤ l.length ∧ i = .int .i64 k ∧ wr.ownsRowF w.heap.size 5 1 out acc.length (Lib.byteCells acc) ∧ Below w.heap.size w wr ∧ acc ++ expL acc.length (l.drop k) = expL 0 l) (fun _ i _ => l.length - (intOf i).toNat)
  case atStart => exact ⟨0, [], Nat.zero_le _, rfl, World.ownsRowF_of (World.ownsRow_nil _ _ _ _), Below.refl _ _, rfl⟩
  case round =>
    obtain ⟨k, acc, hk, rfl, hown, hbr, hacc⟩ := hrel
    have hal : acc.length ≤ 8 * l.length := by
      have := congrArg List.length hacc
      rw [List.length_append] at this
      omega
    have hbz := hbr.size
    by_cases hlt : k < l.length
    · have hdk : l.drop k = l[k] :: l.drop (k + 1) := List.drop_eq_getElem_cons hlt
      rw [hdk] at hacc
      clear hdk
      by_cases hc : l[k] = 9
      · have HD : Hid (acc ++ [32] ++ List.replicate (fillN (acc ++ [32]).length) 32 ++ expL ((acc ++ [32]).length + fillN (acc ++ [32]).length) (l.drop (k + 1)) = expL 0 l) := by
          rw [hc, exp_tab, fill_first] at hacc
          show _ = _
          rw [← hacc, List.length_append, List.length_singleton, List.replicate_succ]
          have e : acc.length + (fillN (acc.length + 1) + 1) = acc.length + 1 + fillN (acc.length + 1) := by omega
          rw [e]
          simp
        clear hacc
        have hb9 : ((l[k].toNat : Int) != 9) = false := by rw [hc]; rfl
        go_wp2_with (at_builtin; refine wpList_append_ownX _ rfl _ _ 58 rfl w.heap.size 5 i0 (.int .u8 0) 1 1 Tryd.underlying58 hi hz0 hz1 hz2 rfl (by decide) _ _ _ rfl (hown.alloc _) ⟨wr.heap.size, 0, none⟩ 1 1 [.int .u8 32] rfl rfl (new_cells _ _ _) (one_cell _ _) ?c3 ?c4 ?c5 ?_)
        case c3 => unfold maxLen; omega
        case c4 => omega
        case c5 => simp; omega
        intro v' w2 hown' hgrow hfr
        have hb2 : Below w.heap.size w w2 := (hbr.alloc hbz _).grown hgrow (by simp; omega) (fun j hj => (hown.lt j hj).1)
        have hown2 : w2.ownsRowF w.heap.size 5 1 v' (acc ++ [32]).length (Lib.byteCells (acc ++ [32])) := by rw [byteCells_snoc]; simpa using hown'
        clear hown' hgrow hfr hown hbr hbz
        have hal2 : (acc ++ [32]).length ≤ 8 * l.length + 1 := by rw [List.length_append, List.length_singleton]; omega
        have hal3 : (acc ++ [32]).length + fillN (acc ++ [32]).length ≤ 8 * l.length := by
          have := congrArg List.length HD.out
          rw [List.length_append, List.length_append, List.length_replicate] at this
          omega
        generalize acc ++ [32] = acc2 at *
        go_wp2
        go_loopw [3] (fun out wx => ∃ acc3 : List UInt8, wx.ownsRowF w.heap.size 5 1 out acc3.length (Lib.byteCells acc3) ∧ Below w.heap.size w wx ∧ Hid (acc3 ++ List.replicate (fillN acc3.length) 32 = acc2 ++ List.replicate (fillN acc2.length) 32)) (fun out _ => 8 * l.length + 1 - lenS out)
        case atStart => exact ⟨acc2, hown2, hb2, rfl⟩
        case round =>
          obtain ⟨acc3, hown3, hb3, HF⟩ := hrel
          have hl3 : acc3.length + fillN acc3.length ≤ 8 * l.length := by
            have := congrArg List.length HF.out
            rw [List.length_append, List.length_append, List.length_replicate, List.length_replicate] at this
            omega
          have hbz3 := hb3.size
          obtain ⟨ao, cap, rfl⟩ := lenS_own hown3
          by_cases hm : acc3.length % 8 = 0
          · have hmb : (((acc3.length : Int) % 8) != 0) = false := by
              rw [bne_eq_false_iff_eq]; omega
            have HE : Hid (acc3 ++ expL acc3.length (l.drop (k + 1)) = expL 0 l) := by
              have h1 := HF.out
              rw [fill_end hm, List.replicate_zero, List.append_nil] at h1
              have h2 : acc3.length = acc2.length + fillN acc2.length := by rw [h1, List.length_append, List.length_replicate]
              have h3 := HD.out
              rw [← h1, ← h2] at h3
              exact h3
            clear HF HD hl3 hal3 hal2
            go_wp2
            go_roundw
            case rel => exact ⟨k + 1, acc3, by omega, by go_num, hown3, hb3, HE.out⟩
            case measure => simp [intOf]; omega
          · have hmb : (((acc3.length : Int) % 8) != 0) = true := by
              rw [bne_iff_ne]; omega
            have HE : Hid ((acc3 ++ [32]) ++ List.replicate (fillN (acc3 ++ [32]).length) 32 = acc2 ++ List.replicate (fillN acc2.length) 32) := by
              have h1 := HF.out
              rw [fill_more hm, List.replicate_succ] at h1
              show _ = _
              rw [← h1, List.length_append, List.length_singleton]
              simp
            have hf1 := fill_more hm
            clear HF HD hal3 hal2
            go_wp2_with (at_builtin; refine wpList_append_ownX _ rfl _ _ 58 rfl w.heap.size 5 i0 (.int .u8 0) 1 1 Tryd.underlying58 hi hz0 hz1 hz2 rfl (by decide) _ _ _ rfl (hown3.alloc _) ⟨wr.heap.size, 0, none⟩ 1 1 [.int .u8 32] rfl rfl (new_cells _ _ _) (one_cell _ _) ?c3 ?c4 ?c5 ?_)
            case c3 => unfold maxLen; omega
            case c4 => omega
            case c5 => simp; omega
            intro v5 w5 hown5 hgrow5 hfr5
            have hown6 : w5.ownsRowF w.heap.size 5 1 v5 (acc3 ++ [32]).length (Lib.byteCells (acc3 ++ [32])) := by rw [byteCells_snoc]; simpa using hown5
            clear hown5
            obtain ⟨ao5, cap5, rfl⟩ := lenS_own hown6
            go_wp2
            go_roundw
            case rel => exact ⟨acc3 ++ [32], hown6, (hb3.alloc hbz3 _).grown hgrow5 (by simp; omega) (fun j hj => (hown3.lt j hj).1), HE⟩
            case measure =>
              simp only [lenS, List.length_append, List.length_singleton]
              omega
      · have HD : Hid (acc ++ [l[k]] ++ expL (acc ++ [l[k]]).length (l.drop (k + 1)) = expL 0 l) := by
          rw [exp_other hc] at hacc
          show _ = _
          rw [← hacc, List.append_assoc, List.length_append]; rfl
        clear hacc
        have hb9 : ((l[k].toNat : Int) != 9) = true := (not9 hc).2
        go_wp2_with (at_builtin; refine wpList_append_ownX _ rfl _ _ 58 rfl w.heap.size 5 i0 (.int .u8 0) 1 1 Tryd.underlying58 hi hz0 hz1 hz2 rfl (by decide) _ _ _ rfl (hown.alloc _) ⟨wr.heap.size, 0, none⟩ 1 1 [.int .u8 (l[k].toNat : Int)] rfl rfl (new_cells _ _ _) (one_cell _ _) ?c3 ?c4 ?c5 ?_)
        case c3 => unfold maxLen; omega
        case c4 => omega
        case c5 => simp; omega
        intro v' w2 hown' hgrow hfr
        go_wp2
        go_roundw
        case rel => exact ⟨k + 1, acc ++ [l[k]], by omega, by go_num, by rw [byteCells_snoc]; simpa using hown', (hbr.alloc hbz _).grown hgrow (by simp; omega) (fun j hj => (hown.lt j hj).1), HD.out⟩
        case measure => simp [intOf]; omega
    · have HD : Hid (acc = expL 0 l) := by
        have e : l.drop k = [] := List.drop_eq_nil_of_le (by omega)
        rw [e] at hacc
        show acc = _
        simpa [expL] using hacc
      clear hacc
      have hcs := conv_string (P := Tryd.prog) wr 58 9 5 w.heap.size _ acc Tryd.underlying58 Tryd.underlying5 Tryd.underlying9 hown
      go_wp2
      go_ret
      rw [HD.out]
      exact ⟨rfl, hbr⟩
end Go.Proofs.YtkaadahcefdiiaaDoor
