/-
  num.isNumber and num.Parse, walked: what they return is what the plain functions isNum, parseV and parseE say.
-/
import Derived.Test.YtoelblofdgimfaaDoorLeaf
import Derived.Test.YtoelblofdgimfaaDoorPMath
namespace Go.Proofs.YtoelblofdgimfaaDoor
open Pn Go.RowKit
attribute [local go_sem] ba_at

set_option maxHeartbeats 2000000 in
theorem isNumber_loop (L : List UInt8) (w : World) (hl : L.length ≤ maxLen) (h0 : 0 < L.length) (hz : (((L[0].toNat : Int) == 48) = false) ∨ ((((L[0].toNat : Int) == 48) = true) ∧ (L.length : Int) ≤ 1))
    (HY : Hid ((∀ k (hk : k < L.length), 48 ≤ L[k].toNat ∧ L[k].toNat ≤ 57) → isNum L = true)) :
    Calls Tryd.prog 17 #[.string ⟨L.toArray⟩] w fun e w' => e = .returned (.bool (isNum L)) ∧ Below w.heap.size w w' := by
  unfold maxLen at hl
  have hne : L.isEmpty = false := by cases L; simp at h0; rfl
  have hnil : ¬ L = [] := by intro h; rw [h] at h0; simp at h0
  rcases hz with hz | ⟨hz, hz1⟩
  all_goals
    go_enter Tryd.func17, Tryd.ntmps17
    go_wp2
    go_loopw [] (fun wr => ∃ pos : Nat, pos ≤ L.length ∧ wr.heap[w.heap.size]? = some (.stringIter ⟨L.toArray⟩ pos) ∧ Below w.heap.size w wr ∧ (∀ k (hk : k < L.length), k < pos → 48 ≤ L[k].toNat ∧ L[k].toNat ≤ 57)) (fun wr => L.length - wr.iterPos w.heap.size)
    case atStart =>
      refine ⟨0, Nat.zero_le _, World.iter_heap w _ 0, (Below.refl _ w).alloc (Nat.le_refl _) _, fun k _ h => by omega⟩
    case round =>
      obtain ⟨pos, hp, hit, hbr, hall⟩ := hrel
      have HA : Hid (∀ k (hk : k < L.length), k < pos → 48 ≤ L[k].toNat ∧ L[k].toNat ≤ 57) := hall
      clear hall
      have hss : (⟨L.toArray⟩ : ByteArray).size = L.length := rfl
      by_cases hlt : pos < L.length
      · by_cases ha : L[pos].toNat < 128
        · have hnx : ∀ ty, (Instr.next (.pointer (some ⟨w.heap.size, 0, none⟩)) true ty).run Tryd.prog wr = _ := fun ty => Lib.run_next_ascii_at wr w.heap.size ⟨L.toArray⟩ pos ty hit hlt ha
          have hit2 := Lib.iterAt_heap wr w.heap.size ⟨L.toArray⟩ pos (pos + 1) hit
          have hbr2 := Lib.below_iterAt hbr (k := w.heap.size) (Nat.le_refl _) ⟨L.toArray⟩ (pos + 1)
          by_cases hd : 48 ≤ L[pos].toNat ∧ L[pos].toNat ≤ 57
          · obtain ⟨hd1, hd2⟩ := hd
            go_wp2
            go_roundw
            case rel =>
              refine ⟨pos + 1, by omega, hit2, hbr2, fun k hk h => ?_⟩
              by_cases e : k = pos
              · subst e; exact ⟨hd1, hd2⟩
              · exact HA.out k hk (by omega)
            case measure => simp only [World.iterPos, hit, hit2]; omega
          · have HN : Hid (isNum L = false) := isNum_bad pos hlt hd
            by_cases hd1 : L[pos].toNat < 48
            · clear hd
              go_wp2
              go_ret
              exact ⟨ret_bool HN.out.symm, hbr2⟩
            · have hd2 : 57 < L[pos].toNat := by omega
              clear hd
              go_wp2
              go_ret
              exact ⟨ret_bool HN.out.symm, hbr2⟩
        · have HN : Hid (isNum L = false) := isNum_bad pos hlt (by omega)
          have hdh := (decode_high ⟨L.toArray⟩ pos hlt (by show 128 ≤ L[pos].toNat; omega)).1
          have hnx : ∀ ty, (Instr.next (.pointer (some ⟨w.heap.size, 0, none⟩)) true ty).run Tryd.prog wr = _ := fun ty => Lib.run_next_any_at wr w.heap.size ⟨L.toArray⟩ pos ty hit hlt
          have hbr2 := Lib.below_iterAt hbr (k := w.heap.size) (Nat.le_refl _) ⟨L.toArray⟩ (pos + (Utf8.decode ⟨L.toArray⟩ pos).2)
          have hdl := decode_le ⟨L.toArray⟩ pos
          generalize Utf8.decode ⟨L.toArray⟩ pos = dd at *
          have q1 : ¬ ((dd.1 : Int) < 48) := by omega
          have q2 : 57 < (dd.1 : Int) := by omega
          go_wp2
          go_ret
          exact ⟨ret_bool HN.out.symm, hbr2⟩
      · have hnx : ∀ ty, (Instr.next (.pointer (some ⟨w.heap.size, 0, none⟩)) true ty).run Tryd.prog wr = _ := fun ty => Lib.run_next_end_at wr w.heap.size ⟨L.toArray⟩ pos ty hit hlt
        have HN : Hid (isNum L = true) := HY.out fun k hk => HA.out k hk (by omega)
        go_wp2
        go_ret
        exact ⟨ret_bool HN.out.symm, hbr⟩

set_option maxHeartbeats 1000000 in
theorem isNumber_any (l : List UInt8) (w : World) (hl : l.length ≤ maxLen) :
    Calls Tryd.prog 17 #[.string ⟨l.toArray⟩] w fun e w' => e = .returned (.bool (isNum l)) ∧ Below w.heap.size w w' := by
  match l, hl with
  | [], _ =>
    go_enter Tryd.func17, Tryd.ntmps17
    go_wp2
    go_ret
    exact ⟨rfl, Below.refl _ _⟩
  | [c], hl =>
    refine isNumber_loop [c] w hl (by simp) ?_ (isNum_yes (by simp))
    cases h : ((([c] : List UInt8)[0].toNat : Int) == 48)
    · exact .inl rfl
    · exact .inr ⟨rfl, by simp⟩
  | c :: d :: t, hl =>
    by_cases h : c.toNat = 48
    · have hb : ((c.toNat : Int) == 48) = true := by simp; omega
      have HN : Hid (isNum (c :: d :: t) = false) := isNum_zero h
      have hl2 : (1 : Int) < (t.length : Int) + 1 + 1 := by omega
      clear h
      go_enter Tryd.func17, Tryd.ntmps17
      go_wp2
      go_ret
      exact ⟨ret_bool HN.out.symm, Below.refl _ _⟩
    · refine isNumber_loop (c :: d :: t) w hl (by simp) (.inl ?_) (isNum_yes (by simp [h]))
      simp; omega

set_option maxHeartbeats 2000000 in
theorem Parse_any (l : List UInt8) (w : World) (hl : l.length ≤ maxLen) :
    Calls Tryd.prog 7 #[.string ⟨l.toArray⟩] w fun e w' => e = .returned (.tuple #[.int .i64 (parseV l), .int .i64 (parseE l)]) ∧ Below w.heap.size w w' := by
  go_enter Tryd.func7, Tryd.ntmps7
  go_wp2_with fail
  refine (isNumber_any l _ hl).mono ?_
  rintro e w1 ⟨rfl, hb1⟩
  unfold maxLen at hl
  cases hn : isNum l
  · have HN : Hid (isNum l = false) := hn
    go_wp2
    go_ret2
    have h := parse_no HN.out
    exact ⟨ret_two h.1 h.2, hb1⟩
  · have HN : Hid (isNum l = true) := hn
    have hal := isNum_all hn
    have HAL : Hid (l.all digB = true) := hal
    clear hal
    go_wp2
    go_loopw [4] (fun n wr => ∃ (pos : Nat) (v : Int), pos ≤ l.length ∧ n = .int .i64 v ∧ 0 ≤ v ∧ v ≤ 2147483647 ∧ wr.heap[w1.heap.size]? = some (.stringIter ⟨l.toArray⟩ pos) ∧ Below w.heap.size w wr ∧ sat v (l.drop pos) = sat 0 l) (fun _ wr => l.length - wr.iterPos w1.heap.size)
    case atStart =>
      refine ⟨0, 0, Nat.zero_le _, rfl, by omega, by omega, World.iter_heap w1 _ 0, hb1.alloc hb1.size _, rfl⟩
    case round =>
      obtain ⟨pos, v, hp, rfl, hv0, hv1, hit, hbr, hsat⟩ := hrel
      have HS : Hid (sat v (l.drop pos) = sat 0 l) := hsat
      clear hsat
      have hss : (⟨l.toArray⟩ : ByteArray).size = l.length := rfl
      have hz1 := hb1.size
      by_cases hlt : pos < l.length
      · have hd := all_at HAL.out pos hlt
        obtain ⟨hd1, hd2⟩ := hd
        have HS2 : Hid (sat (min (v * 10 + ((l[pos].toNat : Int) - 48)) 2147483648) (l.drop (pos + 1)) = sat 0 l) := by
          show sat _ _ = _
          rw [← sat_step hlt]; exact HS.out
        have hnx : ∀ ty, (Instr.next (.pointer (some ⟨w1.heap.size, 0, none⟩)) true ty).run Tryd.prog wr = _ := fun ty => Lib.run_next_ascii_at wr w1.heap.size ⟨l.toArray⟩ pos ty hit hlt (by show l[pos].toNat < 128; omega)
        have hit2 := Lib.iterAt_heap wr w1.heap.size ⟨l.toArray⟩ pos (pos + 1) hit
        have hbr2 := Lib.below_iterAt hbr (k := w1.heap.size) hb1.size ⟨l.toArray⟩ (pos + 1)
        by_cases hfar : (2147483647 - ((l[pos].toNat : Int) - 48)) / 10 < v
        · have HF : Hid (sat 0 l = 2147483648) := by
            have e : min (v * 10 + ((l[pos].toNat : Int) - 48)) 2147483648 = 2147483648 := by omega
            have h := HS2.out
            rw [e, sat_top _ (all_drop HAL.out _)] at h
            exact h.symm
          go_wp2
          go_ret2
          have h := parse_far HN.out HF.out
          exact ⟨ret_two h.1 h.2, hbr2⟩
        · go_wp2
          go_roundw
          case rel =>
            refine ⟨pos + 1, v * 10 + ((l[pos].toNat : Int) - 48), by omega, rfl, by omega, by omega, hit2, hbr2, ?_⟩
            have e : min (v * 10 + ((l[pos].toNat : Int) - 48)) 2147483648 = v * 10 + ((l[pos].toNat : Int) - 48) := by omega
            rw [← HS2.out, e]
          case measure => simp only [World.iterPos, hit, hit2]; omega
      · have hnx : ∀ ty, (Instr.next (.pointer (some ⟨w1.heap.size, 0, none⟩)) true ty).run Tryd.prog wr = _ := fun ty => Lib.run_next_end_at wr w1.heap.size ⟨l.toArray⟩ pos ty hit hlt
        have HF : Hid (sat 0 l = v) := by
          have h := HS.out
          rw [List.drop_eq_nil_of_le (by omega)] at h
          exact h.symm
        go_wp2
        go_ret2
        have h := parse_ok HN.out HF.out hv1
        exact ⟨ret_two h.1 h.2, hbr⟩
end Go.Proofs.YtoelblofdgimfaaDoor
