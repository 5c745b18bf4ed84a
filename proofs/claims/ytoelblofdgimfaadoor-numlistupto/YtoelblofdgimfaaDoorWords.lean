/-
  num.Words, walked: the words of a line, in memory of the call's own, and the error, are what the plain functions wordsL and wordsE say.
-/
import Derived.Test.YtoelblofdgimfaaDoorFWord
namespace Go.Proofs.YtoelblofdgimfaaDoor
open Q Go.RowKit
attribute [local go_sem] ba_at ByteArray.extract_mk

/-- a list of texts as cells -/
def scells (ws : List (List UInt8)) : List Value := ws.map fun a => .string ⟨a.toArray⟩
theorem scells_length (ws : List (List UInt8)) : (scells ws).length = ws.length := by simp [scells]
theorem scells_snoc (ws : List (List UInt8)) (a : List UInt8) : scells (ws ++ [a]) = scells ws ++ [.string ⟨a.toArray⟩] := by simp [scells]

theorem ownsRow_keep {w w' : World} {B : Nat} {e : TypeId} {size : Nat} {v : Value} {n : Nat} {xs : List Value} (h : w.ownsRow B e size v n xs) (hk : ∀ k, k < w.heap.size → w'.heap[k]? = w.heap[k]?) : w'.ownsRow B e size v n xs := by
  refine ⟨h.1, ?_⟩
  rcases h.2 with h | ⟨g, cap, cur, q1, q2, q3, q4⟩
  · exact .inl h
  · exact .inr ⟨g, cap, cur, q1, q2, (hk g (Array.getElem?_eq_some_iff.1 q3).1).trans q3, q4⟩

theorem ownsRow_form' {w : World} {B : Nat} {e : TypeId} {size : Nat} {v : Value} {n : Nat} {xs : List Value} (h : w.ownsRow B e size v n xs) : ∃ ao cap, v = .slice ao n cap := by
  rcases h.2 with ⟨rfl, rfl⟩ | ⟨g, cap, cur, q1, _⟩
  · exact ⟨_, _, rfl⟩
  · exact ⟨_, _, q1⟩

theorem one_str (a : ByteArray) : ∀ u ∈ [Value.string a], u.oneCell' = true := by intro u hu; simp at hu; subst hu; rfl

theorem infoStr : (Tryd.prog.info? 9).map (fun i => (i.zero, i.size, i.bytes)) = some (some (.string ⟨#[]⟩), 1, 16) := by kernel_rfl

theorem TrimLeft_any (l : List UInt8) (w : World) :
    Calls Tryd.prog 20 #[.string ⟨l.toArray⟩, .string ⟨([32, 9] : List UInt8).toArray⟩] w fun e w' => e = .returned (.string ⟨(wtrim l).toArray⟩) ∧ Below w.heap.size w w' := by
  have h := Tryd.strings_TrimLeft_set ⟨l.toArray⟩ w
  refine h.mono ?_
  rintro e w' ⟨rfl, hb⟩
  rw [← wtrim_eq]
  exact ⟨rfl, hb⟩

set_option maxHeartbeats 2000000 in
set_option maxRecDepth 100000 in
theorem Words_any (l : List UInt8) (w : World) (hl : l.length < 4294967281) :
    Calls Tryd.prog 11 #[.string ⟨l.toArray⟩] w fun e w' => ∃ v, e = .returned (.tuple #[v, .int .i64 (wordsE l)]) ∧ w'.ownsRow w.heap.size 9 1 v (wordsL l).length (scells (wordsL l)) ∧ Below w.heap.size w w' := by
  obtain ⟨i0, hi, hz0, hz1, hz2⟩ := info_parts infoStr
  go_enter Tryd.func11, Tryd.ntmps11
  go_wp2_with fail
  refine (TrimLeft_any l _).mono ?_
  rintro e w1 ⟨rfl, hb1⟩
  go_wp2
  go_loopw [4, 5] (fun words rest wr => ∃ (acc : List (List UInt8)) (r : List UInt8), rest = .string ⟨(wtrim r).toArray⟩ ∧ wr.ownsRow w.heap.size 9 1 words acc.length (scells acc) ∧ Below w.heap.size w wr ∧ r.length ≤ l.length ∧ acc.length ≤ 32 ∧ wordsA acc r = wordsA [] l) (fun _ rest _ => sizeS rest)
  case atStart => exact ⟨[], l, rfl, World.ownsRow_nil _ _ _ _, hb1, Nat.le_refl _, by simp, rfl⟩
  case round =>
    obtain ⟨acc, r, rfl, hown, hbr, hrl, hacc, hw⟩ := hrel
    have HW : Hid (wordsA acc r = wordsA [] l) := hw
    clear hw
    have hbz := hbr.size
    cases ht : wtrim r with
    | nil =>
      have HE : Hid (wordsL l = acc ∧ wordsE l = 0) := by
        have h := words_end (acc := acc) ht
        rw [HW.out] at h
        exact ⟨by rw [wordsL, h], by rw [wordsE, h]⟩
      go_wp2
      go_ret2
      rw [HE.out.1, HE.out.2]
      exact ⟨_, rfl, hown, hbr⟩
    | cons c t =>
      have hlen := wtrim_len r
      rw [ht] at hlen
      have hblk := wtrim_head ht
      obtain ⟨ao, cap, rfl⟩ := ownsRow_form' hown
      have HT : Hid (wtrim r = c :: t) := ht
      clear ht
      cases hf : fw (c :: t) with
      | none =>
        obtain ⟨f1, f2, f3⟩ := fw_none hf
        have HE : Hid (wordsL l = [] ∧ wordsE l = 3) := by
          have h := words_bad (acc := acc) HT.out hf
          rw [HW.out] at h
          exact ⟨by rw [wordsL, h], by rw [wordsE, h]⟩
        clear hf
        go_wp2_with fail
        refine (firstWord_any c t _ (by omega)).mono ?_
        rintro e w2 ⟨rfl, hb2⟩
        go_wp2
        go_ret2
        rw [HE.out.1, HE.out.2]
        exact ⟨_, rfl, World.ownsRow_nil _ _ _ _, hbr.trans (hb2.mono hbr.size)⟩
      | some p =>
        obtain ⟨a, b⟩ := p
        obtain ⟨f1, f2, f3⟩ := fw_some hf
        have hblen := fw_len (fun c' t' e => by simp at e; rw [← e.1]; exact hblk) hf
        by_cases h32 : acc.length = 32
        · have HE : Hid (wordsL l = [] ∧ wordsE l = 9) := by
            have h := words_long HT.out hf h32
            rw [HW.out] at h
            exact ⟨by rw [wordsL, h], by rw [wordsE, h]⟩
          have hb32 : ((acc.length : Int) == 32) = true := by simp; omega
          clear hf h32
          go_wp2_with fail
          refine (firstWord_any c t _ (by omega)).mono ?_
          rintro e w2 ⟨rfl, hb2⟩
          go_wp2
          go_ret2
          rw [HE.out.1, HE.out.2]
          exact ⟨_, rfl, World.ownsRow_nil _ _ _ _, hbr.trans (hb2.mono hbr.size)⟩
        · have HE : Hid (wordsA (acc ++ [a]) b = wordsA [] l) := by
            have h := words_next HT.out hf h32
            rw [HW.out] at h
            exact h.symm
          have hb32 : ((acc.length : Int) == 32) = false := beq_eq_false_iff_ne.2 (by omega)
          clear hf
          go_wp2_with fail
          refine (firstWord_any c t _ (by omega)).mono ?_
          rintro e w2 ⟨rfl, hb2⟩
          have hown2 := ownsRow_keep hown hb2.block
          have hbr2 := hbr.trans (hb2.mono hbr.size)
          have hbz2 := hbr2.size
          go_wp2_with (at_builtin; refine wpList_append_own _ rfl _ _ 27 rfl w.heap.size 9 i0 (.string ⟨#[]⟩) 1 16 Tryd.underlying27 hi hz0 hz1 hz2 rfl (by decide) _ _ _ rfl (hown2.alloc _) ⟨w2.heap.size, 0, none⟩ 1 1 [.string ⟨a.toArray⟩] rfl rfl (new_cells _ _ _) (one_str _) ?c3 ?c4 ?c5 ?_)
          case c3 => unfold maxLen; omega
          case c4 => omega
          case c5 => simp; omega
          intro v' w3 hown3 hgrow hfr
          have hbr3 := (hbr2.alloc hbz2 (.cells #[.string ⟨a.toArray⟩] 9)).grown hgrow (by simp; omega) (fun j hj => (hown2.lt j hj).1)
          go_wp2_with fail
          refine (TrimLeft_any b _).mono ?_
          rintro e w4 ⟨rfl, hb4⟩
          have hown4 := ownsRow_keep hown3 hb4.block
          go_wp2
          go_roundw
          case rel => exact ⟨acc ++ [a], b, rfl, by rw [scells_snoc]; simpa using hown4, hbr3.trans (hb4.mono hbr3.size), by omega, by simp; omega, HE.out⟩
          case measure =>
            have h1 := wtrim_len b
            simp [sizeS]
            simp at hblen
            omega
end Go.Proofs.YtoelblofdgimfaaDoor
