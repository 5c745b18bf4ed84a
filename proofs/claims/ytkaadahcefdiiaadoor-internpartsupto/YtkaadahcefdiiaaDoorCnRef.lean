/-
  The plain functions of the reference of layer canon, walked: white space, a text without the white space at its end, small letters, a line without its line feed.
-/
import Derived.Test.YtkaadahcefdiiaaDoorCnByte
namespace Go.Proofs.YtkaadahcefdiiaaDoor
open Cn Go.RowKit
attribute [local go_sem] ba_at ByteArray.extract_mk

set_option maxHeartbeats 400000 in
theorem white_num (n : Int) (w : World) :
    Calls Tryd.prog 55 #[.int .u8 n] w fun e w' => e = .returned (.bool (whI n)) ∧ w = w' := by
  go_enter Tryd.func55, Tryd.ntmps55
  go_wp2
  all_goals go_ret
  all_goals exact ⟨ret_bool (by rw [Bool.eq_iff_iff]; simp [whI]; omega), rfl⟩

theorem white_any (c : UInt8) (w : World) :
    Calls Tryd.prog 55 #[.int .u8 (c.toNat : Int)] w fun e w' => e = .returned (.bool (wh c)) ∧ w = w' := by
  rw [← wh_num]
  exact white_num _ w

set_option maxHeartbeats 400000 in
theorem refBare_any (l : List UInt8) (w : World) (hl : l.length ≤ 9223372036854775807) :
    Calls Tryd.prog 31 #[.string ⟨l.toArray⟩] w fun e w' => e = .returned (.tuple #[.string ⟨(bareL l).toArray⟩, .bool (feedB l)]) ∧ w = w' := by
  rcases Nat.eq_zero_or_pos l.length with h0 | h0
  · obtain rfl := List.eq_nil_of_length_eq_zero h0
    go_enter Tryd.func31, Tryd.ntmps31
    go_wp2
    go_ret2
    exact ⟨rfl, rfl⟩
  · have hn : ((l.length : Int) == 0) = false := beq_eq_false_iff_ne.2 (by omega)
    have hi : (((l.length : Int) - 1).toNat) = l.length - 1 := by omega
    have i1 : 0 ≤ (l.length : Int) - 1 := by omega
    have i2 : (l.length : Int) - 1 < (l.length : Int) := by omega
    have i3 : (l.length : Int) - 1 ≤ (l.length : Int) := by omega
    by_cases h : l[l.length - 1] = 10
    · obtain ⟨e1, e2⟩ := bare_yes h0 h
      rw [e1, e2]
      have hb : ((l[l.length - 1].toNat : Int) != 10) = false := by rw [h]; rfl
      go_enter Tryd.func31, Tryd.ntmps31
      go_wp2
      go_ret2
      exact ⟨rfl, rfl⟩
    · obtain ⟨e1, e2⟩ := bare_no h0 h
      rw [e1, e2]
      have hb : ((l[l.length - 1].toNat : Int) != 10) = true := (not10 h).2
      go_enter Tryd.func31, Tryd.ntmps31
      go_wp2
      go_ret2
      exact ⟨rfl, rfl⟩

set_option maxHeartbeats 400000 in
theorem refTrail_any (l : List UInt8) (w : World) (hl : l.length ≤ 9223372036854775807) :
    Calls Tryd.prog 43 #[.string ⟨l.toArray⟩] w fun e w' => e = .returned (.string ⟨(trL l).toArray⟩) ∧ w = w' := by
  go_enter Tryd.func43, Tryd.ntmps43
  go_wp2
  go_loopw [0] (fun s wr => ∃ r : List UInt8, s = .string ⟨r.toArray⟩ ∧ trL r = trL l ∧ r.length ≤ l.length ∧ w = wr) (fun s _ => sizeT s)
  case atStart => exact ⟨l, rfl, rfl, Nat.le_refl _, rfl⟩
  case round =>
    obtain ⟨r, rfl, hr, hrl, rfl⟩ := hrel
    have HR : Hid (trL r = trL l) := hr
    clear hr
    rcases Nat.eq_zero_or_pos r.length with h0 | h0
    · obtain rfl := List.eq_nil_of_length_eq_zero h0
      go_wp2
      go_ret
      rw [← HR.out]
      exact ⟨rfl, rfl⟩
    · have hn : decide ((r.length : Int) > 0) = true := decide_eq_true (by omega)
      have hn' : (0 : Int) < (r.length : Int) := by omega
      have hi : (((r.length : Int) - 1).toNat) = r.length - 1 := by omega
      have i1 : 0 ≤ (r.length : Int) - 1 := by omega
      have i2 : (r.length : Int) - 1 < (r.length : Int) := by omega
      have i3 : (r.length : Int) - 1 ≤ (r.length : Int) := by omega
      go_wp2_with fail
      refine (white_any r[r.length - 1] _).mono ?_
      rintro e w1 ⟨rfl, rfl⟩
      cases hc : wh r[r.length - 1]
      · have HE : Hid (trL r = r) := tr_stay h0 hc
        go_wp2
        go_ret
        rw [← HR.out, HE.out]
        exact ⟨rfl, rfl⟩
      · have HE : Hid (trL (r.take (r.length - 1)) = trL r) := tr_last h0 hc
        go_wp2
        go_roundw
        case rel => exact ⟨r.take (r.length - 1), rfl, by rw [HE.out, HR.out], by rw [List.length_take]; omega, trivial⟩
        case measure => simp only [sizeT_mk, List.length_take]; omega

set_option maxHeartbeats 1000000 in
theorem refSmall_any (l : List UInt8) (w : World) (hl : l.length ≤ 1099511627776) :
    Calls Tryd.prog 44 #[.string ⟨l.toArray⟩] w fun e w' => e = .returned (.string ⟨(smL l).toArray⟩) ∧ Below w.heap.size w w' := by
  obtain ⟨i0, hi, hz0, hz1, hz2⟩ := info_parts infoU8
  go_enter Tryd.func44, Tryd.ntmps44
  go_wp2
  go_loopw [3, 4, 5] (fun out i _ wr => ∃ (k : Nat) (acc : List UInt8), k ≤ l.length ∧ i = .int .i64 k ∧ wr.ownsRowF w.heap.size 5 1 out acc.length (Lib.byteCells acc) ∧ Below w.heap.size w wr ∧ acc ++ smL (l.drop k) = smL l) (fun _ i _ _ => l.length - (intOf i).toNat)
  case atStart => exact ⟨0, [], Nat.zero_le _, rfl, World.ownsRowF_of (World.ownsRow_nil _ _ _ _), Below.refl _ _, rfl⟩
  case round =>
    obtain ⟨k, acc, hk, rfl, hown, hbr, hacc⟩ := hrel
    have hal : acc.length ≤ l.length := by
      have := congrArg List.length hacc
      rw [List.length_append, sm_len, sm_len] at this
      omega
    by_cases hlt : k < l.length
    · have hdk : l.drop k = l[k] :: l.drop (k + 1) := List.drop_eq_getElem_cons hlt
      have HD : Hid (acc ++ [low l[k]] ++ smL (l.drop (k + 1)) = smL l) := by
        rw [hdk] at hacc
        show _ = _
        rw [← hacc, List.append_assoc]; rfl
      clear hacc hdk
      have hx : l[k].toNat < 256 := (l[k]).toNat_lt
      by_cases hc : 65 ≤ l[k].toNat ∧ l[k].toNat ≤ 90
      · have HL : Hid (((low l[k]).toNat : Int) = (l[k].toNat : Int) - 65 + 97) := low_yes hc
        have c1 : (65 : Int) ≤ (l[k].toNat : Int) := by omega
        have c2 : (l[k].toNat : Int) ≤ 90 := by omega
        go_wp2_with (at_builtin; refine wpList_append_ownX _ rfl _ _ 58 rfl w.heap.size 5 i0 (.int .u8 0) 1 1 Tryd.underlying58 hi hz0 hz1 hz2 rfl (by decide) _ _ _ rfl (hown.alloc _) ⟨wr.heap.size, 0, none⟩ 1 1 [.int .u8 ((l[k].toNat : Int) - 65 + 97)] rfl rfl (new_cells _ _ _) (one_cell _ _) ?c3 ?c4 ?c5 ?_)
        case c3 => unfold maxLen; omega
        case c4 => omega
        case c5 => have := hbr.size; simp; omega
        intro v' w2 hown' hgrow hfr
        rw [← HL.out] at hown'
        go_wp2
        go_roundw
        case rel => exact ⟨k + 1, acc ++ [low l[k]], by omega, by go_num, by rw [byteCells_snoc]; simpa using hown', (hbr.alloc hbr.size _).grown hgrow (by have := hbr.size; simp; omega) (fun j hj => (hown.lt j hj).1), HD.out⟩
        case measure => simp [intOf]; omega
      · have HL : Hid (low l[k] = l[k]) := low_no hc
        have hcc : decide ((65 : Int) ≤ (l[k].toNat : Int)) = false ∨ (decide ((65 : Int) ≤ (l[k].toNat : Int)) = true ∧ decide ((l[k].toNat : Int) ≤ 90) = false) := by
          by_cases h65 : 65 ≤ l[k].toNat
          · exact .inr ⟨decide_eq_true (by omega), decide_eq_false (by omega)⟩
          · exact .inl (decide_eq_false (by omega))
        rcases hcc with c1 | ⟨c1, c2⟩
        all_goals
          go_wp2_with (at_builtin; refine wpList_append_ownX _ rfl _ _ 58 rfl w.heap.size 5 i0 (.int .u8 0) 1 1 Tryd.underlying58 hi hz0 hz1 hz2 rfl (by decide) _ _ _ rfl (hown.alloc _) ⟨wr.heap.size, 0, none⟩ 1 1 [.int .u8 (l[k].toNat : Int)] rfl rfl (new_cells _ _ _) (one_cell _ _) ?c3 ?c4 ?c5 ?_)
          case c3 => unfold maxLen; omega
          case c4 => omega
          case c5 => have := hbr.size; simp; omega
          intro v' w2 hown' hgrow hfr
          go_wp2
          go_roundw
          case rel => exact ⟨k + 1, acc ++ [l[k]], by omega, by go_num, by rw [byteCells_snoc]; simpa using hown', (hbr.alloc hbr.size _).grown hgrow (by have := hbr.size; simp; omega) (fun j hj => (hown.lt j hj).1), by rw [← HD.out, HL.out]⟩
          case measure => simp [intOf]; omega
    · have HD : Hid (acc = smL l) := by
        have e : l.drop k = [] := List.drop_eq_nil_of_le (by omega)
        rw [e] at hacc
        show acc = _
        simpa [smL] using hacc
      clear hacc
      have hcs := conv_string (P := Tryd.prog) wr 58 9 5 w.heap.size _ acc Tryd.underlying58 Tryd.underlying5 Tryd.underlying9 hown
      go_wp2
      go_ret
      rw [HD.out]
      exact ⟨rfl, hbr⟩
end Go.Proofs.YtkaadahcefdiiaaDoor
