/-
  The plain Words of the reference, walked: the words of a line and the error are what the plain functions wordsL and wordsE say.
-/
import Derived.Test.YtoelblofdgimfaaDoorWords
import Derived.Test.YtoelblofdgimfaaDoorRefUnq
namespace Go.Proofs.YtoelblofdgimfaaDoor
open Q Go.RowKit
attribute [local go_sem] ba_at ByteArray.extract_mk

set_option maxHeartbeats 400000 in
theorem blank_any (x : UInt8) (w : World) :
    Calls Tryd.prog 22 #[.int .u8 (x.toNat : Int)] w fun e w' => e = .returned (.bool (blankB x)) ∧ w = w' := by
  go_enter Tryd.func22, Tryd.ntmps22
  go_wp2
  all_goals go_ret
  all_goals exact ⟨ret_bool (by rw [Bool.eq_iff_iff]; simp [blankB]; omega), rfl⟩

set_option maxHeartbeats 4000000 in
set_option maxRecDepth 100000 in
theorem refWords_any (l : List UInt8) (w : World) (hl : l.length < 4294967281) :
    Calls Tryd.prog 12 #[.string ⟨l.toArray⟩] w fun e w' => ∃ v, e = .returned (.tuple #[v, .int .i64 (wordsE l)]) ∧ w'.ownsRow w.heap.size 9 1 v (wordsL l).length (scells (wordsL l)) ∧ Below w.heap.size w w' := by
  obtain ⟨i0, hi, hz0, hz1, hz2⟩ := info_parts infoStr
  go_enter Tryd.func12, Tryd.ntmps12
  go_wp2
  go_loopw [0, 4] (fun s words wr => ∃ (acc : List (List UInt8)) (r : List UInt8), s = .string ⟨r.toArray⟩ ∧ wr.ownsRow w.heap.size 9 1 words acc.length (scells acc) ∧ Below w.heap.size w wr ∧ r.length ≤ l.length ∧ acc.length ≤ 32 ∧ wordsA acc r = wordsA [] l) (fun s _ _ => sizeS s)
  case atStart => exact ⟨[], l, rfl, World.ownsRow_nil _ _ _ _, Below.refl _ _, Nat.le_refl _, by simp, rfl⟩
  case round =>
    obtain ⟨acc, r, rfl, hown, hbr, hrl, hacc, hw⟩ := hrel
    have HW : Hid (wordsA acc r = wordsA [] l) := hw
    clear hw
    have hbz := hbr.size
    cases r with
    | nil =>
      have HE : Hid (wordsL l = acc ∧ wordsE l = 0) := by
        have h := words_end (acc := acc) (l := []) rfl
        rw [HW.out] at h
        exact ⟨by rw [wordsL, h], by rw [wordsE, h]⟩
      go_wp2
      go_ret2
      rw [HE.out.1, HE.out.2]
      exact ⟨_, rfl, hown, hbr⟩
    | cons c t =>
      have hlpos : (0 : Int) < (t.length : Int) + 1 := by omega
      obtain ⟨ao, cap, rfl⟩ := ownsRow_form' hown
      cases hblk : blankB c
      · have HT : Hid (wtrim (c :: t) = c :: t) := wtrim_cons t hblk
        by_cases h34 : c.toNat = 34
        · have hb34 : ((c.toNat : Int) == 34) = true := by simp; omega
          have hb34n : ((c.toNat : Int) != 34) = false := by simp; omega
          cases hu : unquote (c :: t) with
          | none =>
            obtain ⟨u1, u2, u3⟩ := uq_none hu
            have HE : Hid (wordsL l = [] ∧ wordsE l = 3) := by
              have h := words_bad (acc := acc) HT.out (fw_quote_none h34 hu)
              rw [HW.out] at h
              exact ⟨by rw [wordsL, h], by rw [wordsE, h]⟩
            clear hu h34
            by_cases h32 : (32 : Int) ≤ (acc.length : Int)
            all_goals
              go_wp2_with fail
              refine (blank_any c _).mono ?_
              rintro e w' ⟨rfl, rfl⟩
              go_wp2_with fail
              refine (refUnquote_any (c :: t) _ (by omega)).mono ?_
              rintro e w2 ⟨rfl, hb2⟩
              go_wp2
              go_ret2
              rw [HE.out.1, HE.out.2]
              exact ⟨_, rfl, World.ownsRow_nil _ _ _ _, hbr.trans (hb2.mono hbr.size)⟩
          | some p =>
            obtain ⟨a, b⟩ := p
            obtain ⟨u1, u2, u3⟩ := uq_some hu
            cases b with
            | nil =>
              have hf : fw (c :: t) = some (a, []) := fw_quote_ok h34 hu rfl
              have hblen : ([]).length < (c :: t).length := (unquote_len hu).1
              by_cases h32 : acc.length = 32
              · have HE : Hid (wordsL l = [] ∧ wordsE l = 9) := by
                  have h := words_long HT.out hf h32
                  rw [HW.out] at h
                  exact ⟨by rw [wordsL, h], by rw [wordsE, h]⟩
                have hb32 : (32 : Int) ≤ (acc.length : Int) := by omega
                clear hf hu h34 h32
                go_wp2_with fail
                refine (blank_any c _).mono ?_
                rintro e w' ⟨rfl, rfl⟩
                go_wp2_with fail
                refine (refUnquote_any (c :: t) _ (by omega)).mono ?_
                rintro e w2 ⟨rfl, hb2⟩
                go_wp2
                go_ret2
                rw [HE.out.1, HE.out.2]
                exact ⟨_, rfl, World.ownsRow_nil _ _ _ _, hbr.trans (hb2.mono hbr.size)⟩
              · have HE : Hid (wordsA (acc ++ [a]) ([]) = wordsA [] l) := by
                  have h := words_next HT.out hf h32
                  rw [HW.out] at h
                  exact h.symm
                have hb32 : ¬ (32 : Int) ≤ (acc.length : Int) := by omega
                clear hf hu h34
                go_wp2_with fail
                refine (blank_any c _).mono ?_
                rintro e w' ⟨rfl, rfl⟩
                go_wp2_with fail
                refine (refUnquote_any (c :: t) _ (by omega)).mono ?_
                rintro e w2 ⟨rfl, hb2⟩
                have hown2 := ownsRow_keep hown hb2.block
                have hbr2 := hbr.trans (hb2.mono hbr.size)
                have hbz2 := hbr2.size
                go_wp2_with (at_builtin; refine wpList_append_own _ rfl _ _ 27 rfl w.heap.size 9 i0 (.string ⟨#[]⟩) 1 16 Tryd.underlying27 hi hz0 hz1 hz2 rfl (by decide) _ _ _ rfl (hown2.alloc _) ⟨w2.heap.size, 0, none⟩ 1 1 [.string ⟨a.toArray⟩] rfl rfl (new_cells _ _ _) (one_str _) ?c3 ?c4 ?c5 ?_)
                case c3 => unfold maxLen; omega
                case c4 => omega
                case c5 => simp; omega
                intro v' w3 hown3 hgrow hfr
                have hbr3 := (hbr2.alloc hbz2 (.cells #[.string ⟨a.toArray⟩] 9)).grown hgrow (by simp; omega) (fun j hj => (hown2.lt j hj).1)
                go_wp2
                go_roundw
                case rel => exact ⟨acc ++ [a], [], rfl, by rw [scells_snoc]; simpa using hown3, hbr3, by omega, by simp; omega, HE.out⟩
                case measure => simp [sizeS] at hblen ⊢
            | cons d b =>
              cases hd : blankB d
              · have HE : Hid (wordsL l = [] ∧ wordsE l = 3) := by
                  have h := words_bad (acc := acc) HT.out (fw_quote_bad h34 hu hd)
                  rw [HW.out] at h
                  exact ⟨by rw [wordsL, h], by rw [wordsE, h]⟩
                clear hu h34
                by_cases h32 : (32 : Int) ≤ (acc.length : Int)
                all_goals
                  go_wp2_with fail
                  refine (blank_any c _).mono ?_
                  rintro e w' ⟨rfl, rfl⟩
                  go_wp2_with fail
                  refine (refUnquote_any (c :: t) _ (by omega)).mono ?_
                  rintro e w2 ⟨rfl, hb2⟩
                  go_wp2_with fail
                  refine (blank_any d _).mono ?_
                  rintro e w' ⟨rfl, rfl⟩
                  go_wp2
                  go_ret2
                  rw [HE.out.1, HE.out.2]
                  exact ⟨_, rfl, World.ownsRow_nil _ _ _ _, hbr.trans (hb2.mono hbr.size)⟩
              · skip
                have hf : fw (c :: t) = some (a, d :: b) := fw_quote_ok h34 hu hd
                have hblen : (d :: b).length < (c :: t).length := (unquote_len hu).1
                by_cases h32 : acc.length = 32
                · have HE : Hid (wordsL l = [] ∧ wordsE l = 9) := by
                    have h := words_long HT.out hf h32
                    rw [HW.out] at h
                    exact ⟨by rw [wordsL, h], by rw [wordsE, h]⟩
                  have hb32 : (32 : Int) ≤ (acc.length : Int) := by omega
                  clear hf hu h34 h32
                  go_wp2_with fail
                  refine (blank_any c _).mono ?_
                  rintro e w' ⟨rfl, rfl⟩
                  go_wp2_with fail
                  refine (refUnquote_any (c :: t) _ (by omega)).mono ?_
                  rintro e w2 ⟨rfl, hb2⟩
                  go_wp2_with fail
                  refine (blank_any d _).mono ?_
                  rintro e w' ⟨rfl, rfl⟩
                  go_wp2
                  go_ret2
                  rw [HE.out.1, HE.out.2]
                  exact ⟨_, rfl, World.ownsRow_nil _ _ _ _, hbr.trans (hb2.mono hbr.size)⟩
                · have HE : Hid (wordsA (acc ++ [a]) (d :: b) = wordsA [] l) := by
                    have h := words_next HT.out hf h32
                    rw [HW.out] at h
                    exact h.symm
                  have hb32 : ¬ (32 : Int) ≤ (acc.length : Int) := by omega
                  clear hf hu h34
                  go_wp2_with fail
                  refine (blank_any c _).mono ?_
                  rintro e w' ⟨rfl, rfl⟩
                  go_wp2_with fail
                  refine (refUnquote_any (c :: t) _ (by omega)).mono ?_
                  rintro e w2 ⟨rfl, hb2⟩
                  go_wp2_with fail
                  refine (blank_any d _).mono ?_
                  rintro e w' ⟨rfl, rfl⟩
                  have hown2 := ownsRow_keep hown hb2.block
                  have hbr2 := hbr.trans (hb2.mono hbr.size)
                  have hbz2 := hbr2.size
                  go_wp2_with (at_builtin; refine wpList_append_own _ rfl _ _ 27 rfl w.heap.size 9 i0 (.string ⟨#[]⟩) 1 16 Tryd.underlying27 hi hz0 hz1 hz2 rfl (by decide) _ _ _ rfl (hown2.alloc _) ⟨w2.heap.size, 0, none⟩ 1 1 [.string ⟨a.toArray⟩] rfl rfl (new_cells _ _ _) (one_str _) ?c3 ?c4 ?c5 ?_)
                  case c3 => unfold maxLen; omega
                  case c4 => omega
                  case c5 => simp; omega
                  intro v' w3 hown3 hgrow hfr
                  have hbr3 := (hbr2.alloc hbz2 (.cells #[.string ⟨a.toArray⟩] 9)).grown hgrow (by simp; omega) (fun j hj => (hown2.lt j hj).1)
                  go_wp2
                  go_roundw
                  case rel => exact ⟨acc ++ [a], d :: b, rfl, by rw [scells_snoc]; simpa using hown3, hbr3, by omega, by simp; omega, HE.out⟩
                  case measure => simp [sizeS] at hblen ⊢; omega
        · have hb34 : ((c.toNat : Int) == 34) = false := by simp; omega
          have hb34n : ((c.toNat : Int) != 34) = true := by simp; omega
          have hf := fw_plain (t := t) h34
          have hblen := fw_len (fun c' t' e => by simp at e; rw [← e.1]; exact hblk) hf
          by_cases h32 : acc.length = 32
          · have HE : Hid (wordsL l = [] ∧ wordsE l = 9) := by
              have h := words_long HT.out hf h32
              rw [HW.out] at h
              exact ⟨by rw [wordsL, h], by rw [wordsE, h]⟩
            have hb32 : (32 : Int) ≤ (acc.length : Int) := by omega
            clear hf h34 h32
            go_wp2_with fail
            refine (blank_any c _).mono ?_
            rintro e w' ⟨rfl, rfl⟩
            go_wp2
            go_ret2
            rw [HE.out.1, HE.out.2]
            exact ⟨_, rfl, World.ownsRow_nil _ _ _ _, hbr⟩
          · have HE : Hid (wordsA (acc ++ [wfront (c :: t)]) (wback (c :: t)) = wordsA [] l) := by
              have h := words_next HT.out hf h32
              rw [HW.out] at h
              exact h.symm
            have hb32 : ¬ (32 : Int) ≤ (acc.length : Int) := by omega
            clear hf h34
            go_wp2_with fail
            refine (blank_any c _).mono ?_
            rintro e w' ⟨rfl, rfl⟩
            go_wp2_with fail
            generalize hLL : c :: t = L at *
            have hLn : L.length ≤ l.length := hrl
            have HL : Hid (c :: t = L) := hLL
            clear hLL
            go_loopw [9] (fun n wx => ∃ k : Nat, k ≤ L.length ∧ n = .int .i64 k ∧ wx = wr ∧ ∀ j (h : j < L.length), j < k → blankB L[j] = false) (fun n _ => L.length - (intOf n).toNat)
            case atStart => exact ⟨0, Nat.zero_le _, rfl, rfl, fun j _ h => by omega⟩
            case round =>
              obtain ⟨k, hk, rfl, rfl, hall⟩ := hrel
              have HA : Hid (∀ j (h : j < L.length), j < k → blankB L[j] = false) := hall
              clear hall
              by_cases hlt : k < L.length
              · cases hbk : blankB L[k]
                · go_wp2_with fail
                  refine (blank_any L[k] _).mono ?_
                  rintro e w' ⟨rfl, rfl⟩
                  go_wp2
                  go_roundw
                  case rel =>
                    refine ⟨k + 1, by omega, by go_num, trivial, fun j h hj => ?_⟩
                    by_cases e : j = k
                    · subst e; exact hbk
                    · exact HA.out j h (by omega)
                  case measure => simp [intOf]; omega
                · have HS : Hid (wfront L = L.take k ∧ wback L = L.drop k) := span_at L k hk HA.out (fun _ => hbk)
                  go_wp2_with fail
                  refine (blank_any L[k] _).mono ?_
                  rintro e w' ⟨rfl, rfl⟩
                  have hown2 := hown
                  go_wp2_with (at_builtin; refine wpList_append_own _ rfl _ _ 27 rfl w.heap.size 9 i0 (.string ⟨#[]⟩) 1 16 Tryd.underlying27 hi hz0 hz1 hz2 rfl (by decide) _ _ _ rfl (hown2.alloc _) ⟨_, 0, none⟩ 1 1 [.string ⟨(L.take k).toArray⟩] rfl rfl (new_cells _ _ _) (one_str _) ?c3 ?c4 ?c5 ?_)
                  case c3 => unfold maxLen; omega
                  case c4 => omega
                  case c5 => simp; omega
                  intro v' w3 hown3 hgrow hfr
                  have hbr3 := (hbr.alloc hbz _).grown hgrow (by simp; omega) (fun j hj => (hown2.lt j hj).1)
                  go_wp2
                  go_roundw
                  case rel =>
                    refine ⟨acc ++ [L.take k], L.drop k, ?_, by rw [scells_snoc]; simpa using hown3, hbr3, by simp; omega, by simp; omega, ?_⟩
                    · rw [List.take_of_length_le (by simp)]
                    · rw [← HS.out.1, ← HS.out.2]; exact HE.out
                  case measure =>
                    have hLt := congrArg List.length HL.out
                    rw [HS.out.2] at hblen
                    simp [sizeS] at hblen hLt ⊢
                    omega
              · have HS : Hid (wfront L = L.take k ∧ wback L = L.drop k) := span_at L k hk HA.out (fun h => absurd h hlt)
                have hown2 := hown
                go_wp2_with (at_builtin; refine wpList_append_own _ rfl _ _ 27 rfl w.heap.size 9 i0 (.string ⟨#[]⟩) 1 16 Tryd.underlying27 hi hz0 hz1 hz2 rfl (by decide) _ _ _ rfl (hown2.alloc _) ⟨_, 0, none⟩ 1 1 [.string ⟨(L.take k).toArray⟩] rfl rfl (new_cells _ _ _) (one_str _) ?c3 ?c4 ?c5 ?_)
                case c3 => unfold maxLen; omega
                case c4 => omega
                case c5 => simp; omega
                intro v' w3 hown3 hgrow hfr
                have hbr3 := (hbr.alloc hbz _).grown hgrow (by simp; omega) (fun j hj => (hown2.lt j hj).1)
                go_wp2
                go_roundw
                case rel =>
                  refine ⟨acc ++ [L.take k], L.drop k, ?_, by rw [scells_snoc]; simpa using hown3, hbr3, by simp; omega, by simp; omega, ?_⟩
                  · rw [List.take_of_length_le (by simp)]
                  · rw [← HS.out.1, ← HS.out.2]; exact HE.out
                case measure =>
                  have hLt := congrArg List.length HL.out
                  rw [HS.out.2] at hblen
                  simp [sizeS] at hblen hLt ⊢
                  omega
      · have HE : Hid (wordsA acc t = wordsA [] l) := by
          have h := HW.out
          rw [words_blank t hblk] at h
          exact h
        go_wp2_with fail
        refine (blank_any c _).mono ?_
        rintro e w' ⟨rfl, rfl⟩
        go_wp2
        go_roundw
        case rel => exact ⟨acc, t, rfl, hown, hbr, by simp at hrl; omega, hacc, HE.out⟩
        case measure => simp [sizeS]
end Go.Proofs.YtoelblofdgimfaaDoor
