/-
  Texts that belong together, joined: NpN, NpX, NoM4, NpC, EfRg, EfCf, NpS, EfEd, EfSt.
-/
import Derived.Test.YtnlbjknfahhfaaaGreatDoorPartA10
import Derived.Lib.OthersKept
import Derived.Laws.RangeAny
import Derived.Test.YtnlbjknfahhfaaaGreatDoorPartA7
import Derived.Lib.IndexAny
import Derived.Deep.QuietTactic
import Derived.BigQuiet
import Derived.Test.YtnlbjknfahhfaaaGreatDoorPartA8
import Derived.Deep.CutBlock
import Derived.Test.YtnlbjknfahhfaaaGreatDoorPartA4

/- The code's isNumber and Parse of layer 1, walked anew over the normal form's texts: what they return is what the plain functions isNum, parseV and parseE say. -/
set_option maxRecDepth 20000
namespace Go.Proofs.YtnlbjknfahhfaaaGreatDoor
open Pn Go.RowKit
attribute [local go_sem] no_at

set_option maxHeartbeats 2000000 in
theorem nisNumber_loop (L : List UInt8) (w : World) (hl : L.length ≤ maxLen) (h0 : 0 < L.length) (hz : (((L[0].toNat : Int) == 48) = false) ∨ ((((L[0].toNat : Int) == 48) = true) ∧ (L.length : Int) ≤ 1))
    (HY : Hid ((∀ k (hk : k < L.length), 48 ≤ L[k].toNat ∧ L[k].toNat ≤ 57) → isNum L = true)) :
    Calls Tryz.prog 117 #[.string ⟨L.toArray⟩] w fun e w' => e = .returned (.bool (isNum L)) ∧ Below w.heap.size w w' := by
  unfold maxLen at hl
  have hne : L.isEmpty = false := by cases L; simp at h0; rfl
  have hnil : ¬ L = [] := by intro h; rw [h] at h0; simp at h0
  rcases hz with hz | ⟨hz, hz1⟩
  all_goals
    go_enter Tryz.func117, Tryz.ntmps117
    go_wp2
    go_loopw [] (fun wr => ∃ pos : Nat, pos ≤ L.length ∧ wr.heap[w.heap.size]? = some (.stringIter ⟨L.toArray⟩ pos) ∧ Below w.heap.size w wr ∧ (∀ k (hk : k < L.length), k < pos → 48 ≤ L[k].toNat ∧ L[k].toNat ≤ 57)) (fun wr => L.length - wr.iterPos w.heap.size)
    case atStart =>
      refine ⟨0, Nat.zero_le _, World.iter_heap w _ 0, (Below.refl _ w).alloc (Nat.le_refl _) _, fun k _ h => by omega⟩
    case round =>
      obtain ⟨pos, hp, hit, hbr, hall⟩ := hrel
      have HA : Hid (∀ k (hk : k < L.length), k < pos → 48 ≤ L[k].toNat ∧ L[k].toNat ≤ 57) := hall
      clear hall
      have hss : (⟨L.toArray⟩ : ByteArray).size = L.length := rfl
      by_cases hlt : pos < L.length
      · by_cases ha : L[pos].toNat < 128
        · have hnx : ∀ ty, (Instr.next (.pointer (some ⟨w.heap.size, 0, none⟩)) true ty).run Tryz.prog wr = _ := fun ty => Lib.run_next_ascii_at wr w.heap.size ⟨L.toArray⟩ pos ty hit hlt ha
          have hit2 := Lib.iterAt_heap wr w.heap.size ⟨L.toArray⟩ pos (pos + 1) hit
          have hbr2 := Lib.below_iterAt hbr (k := w.heap.size) (Nat.le_refl _) ⟨L.toArray⟩ (pos + 1)
          by_cases hd : 48 ≤ L[pos].toNat ∧ L[pos].toNat ≤ 57
          · obtain ⟨hd1, hd2⟩ := hd
            go_wp2
            go_roundw
            case rel =>
              refine ⟨pos + 1, by omega, hit2, hbr2, fun k hk h => ?_⟩
              by_cases e : k = pos
              · subst e; exact ⟨hd1, hd2⟩
              · exact HA.out k hk (by omega)
            case measure => simp only [World.iterPos, hit, hit2]; omega
          · have HN : Hid (isNum L = false) := isNum_bad pos hlt hd
            by_cases hd1 : L[pos].toNat < 48
            · clear hd
              go_wp2
              go_ret
              exact ⟨ret_bool HN.out.symm, hbr2⟩
            · have hd2 : 57 < L[pos].toNat := by omega
              clear hd
              go_wp2
              go_ret
              exact ⟨ret_bool HN.out.symm, hbr2⟩
        · have HN : Hid (isNum L = false) := isNum_bad pos hlt (by omega)
          have hdh := (decode_high ⟨L.toArray⟩ pos hlt (by show 128 ≤ L[pos].toNat; omega)).1
          have hnx : ∀ ty, (Instr.next (.pointer (some ⟨w.heap.size, 0, none⟩)) true ty).run Tryz.prog wr = _ := fun ty => Lib.run_next_any_at wr w.heap.size ⟨L.toArray⟩ pos ty hit hlt
          have hbr2 := Lib.below_iterAt hbr (k := w.heap.size) (Nat.le_refl _) ⟨L.toArray⟩ (pos + (Utf8.decode ⟨L.toArray⟩ pos).2)
          have hdl := decode_le ⟨L.toArray⟩ pos
          generalize Utf8.decode ⟨L.toArray⟩ pos = dd at *
          have q1 : ¬ ((dd.1 : Int) < 48) := by omega
          have q2 : 57 < (dd.1 : Int) := by omega
          go_wp2
          go_ret
          exact ⟨ret_bool HN.out.symm, hbr2⟩
      · have hnx : ∀ ty, (Instr.next (.pointer (some ⟨w.heap.size, 0, none⟩)) true ty).run Tryz.prog wr = _ := fun ty => Lib.run_next_end_at wr w.heap.size ⟨L.toArray⟩ pos ty hit hlt
        have HN : Hid (isNum L = true) := HY.out fun k hk => HA.out k hk (by omega)
        go_wp2
        go_ret
        exact ⟨ret_bool HN.out.symm, hbr⟩

set_option maxHeartbeats 1000000 in
theorem nisNumber_any (l : List UInt8) (w : World) (hl : l.length ≤ maxLen) :
    Calls Tryz.prog 117 #[.string ⟨l.toArray⟩] w fun e w' => e = .returned (.bool (isNum l)) ∧ Below w.heap.size w w' := by
  match l, hl with
  | [], _ =>
    go_enter Tryz.func117, Tryz.ntmps117
    go_wp2
    go_ret
    exact ⟨rfl, Below.refl _ _⟩
  | [c], hl =>
    refine nisNumber_loop [c] w hl (by simp) ?_ (isNum_yes (by simp))
    cases h : ((([c] : List UInt8)[0].toNat : Int) == 48)
    · exact .inl rfl
    · exact .inr ⟨rfl, by simp⟩
  | c :: d :: t, hl =>
    by_cases h : c.toNat = 48
    · have hb : ((c.toNat : Int) == 48) = true := by simp; omega
      have HN : Hid (isNum (c :: d :: t) = false) := isNum_zero h
      have hl2 : (1 : Int) < (t.length : Int) + 1 + 1 := by omega
      clear h
      go_enter Tryz.func117, Tryz.ntmps117
      go_wp2
      go_ret
      exact ⟨ret_bool HN.out.symm, Below.refl _ _⟩
    · refine nisNumber_loop (c :: d :: t) w hl (by simp) (.inl ?_) (isNum_yes (by simp [h]))
      simp; omega

set_option maxHeartbeats 2000000 in
theorem nParse_any (l : List UInt8) (w : World) (hl : l.length ≤ maxLen) :
    Calls Tryz.prog 81 #[.string ⟨l.toArray⟩] w fun e w' => e = .returned (.tuple #[.int .i64 (parseV l), .int .i64 (parseE l)]) ∧ Below w.heap.size w w' := by
  go_enter Tryz.func81, Tryz.ntmps81
  go_wp2_with fail
  refine (nisNumber_any l _ hl).mono ?_
  rintro e w1 ⟨rfl, hb1⟩
  unfold maxLen at hl
  cases hn : isNum l
  · have HN : Hid (isNum l = false) := hn
    go_wp2
    go_ret2
    have h := parse_no HN.out
    exact ⟨ret_pair h.1 h.2, hb1⟩
  · have HN : Hid (isNum l = true) := hn
    have hal := isNum_all hn
    have HAL : Hid (l.all digB = true) := hal
    clear hal
    go_wp2
    go_loopw [4] (fun n wr => ∃ (pos : Nat) (v : Int), pos ≤ l.length ∧ n = .int .i64 v ∧ 0 ≤ v ∧ v ≤ 2147483647 ∧ wr.heap[w1.heap.size]? = some (.stringIter ⟨l.toArray⟩ pos) ∧ Below w.heap.size w wr ∧ sat v (l.drop pos) = sat 0 l) (fun _ wr => l.length - wr.iterPos w1.heap.size)
    case atStart =>
      refine ⟨0, 0, Nat.zero_le _, rfl, by omega, by omega, World.iter_heap w1 _ 0, hb1.alloc hb1.size _, rfl⟩
    case round =>
      obtain ⟨pos, v, hp, rfl, hv0, hv1, hit, hbr, hsat⟩ := hrel
      have HS : Hid (sat v (l.drop pos) = sat 0 l) := hsat
      clear hsat
      have hss : (⟨l.toArray⟩ : ByteArray).size = l.length := rfl
      have hz1 := hb1.size
      by_cases hlt : pos < l.length
      · have hd := all_at HAL.out pos hlt
        obtain ⟨hd1, hd2⟩ := hd
        have HS2 : Hid (sat (min (v * 10 + ((l[pos].toNat : Int) - 48)) 2147483648) (l.drop (pos + 1)) = sat 0 l) := by
          show sat _ _ = _
          rw [← sat_step hlt]; exact HS.out
        have hnx : ∀ ty, (Instr.next (.pointer (some ⟨w1.heap.size, 0, none⟩)) true ty).run Tryz.prog wr = _ := fun ty => Lib.run_next_ascii_at wr w1.heap.size ⟨l.toArray⟩ pos ty hit hlt (by show l[pos].toNat < 128; omega)
        have hit2 := Lib.iterAt_heap wr w1.heap.size ⟨l.toArray⟩ pos (pos + 1) hit
        have hbr2 := Lib.below_iterAt hbr (k := w1.heap.size) hb1.size ⟨l.toArray⟩ (pos + 1)
        by_cases hfar : (2147483647 - ((l[pos].toNat : Int) - 48)) / 10 < v
        · have HF : Hid (sat 0 l = 2147483648) := by
            have e : min (v * 10 + ((l[pos].toNat : Int) - 48)) 2147483648 = 2147483648 := by omega
            have h := HS2.out
            rw [e, sat_top _ (all_drop HAL.out _)] at h
            exact h.symm
          go_wp2
          go_ret2
          have h := parse_far HN.out HF.out
          exact ⟨ret_pair h.1 h.2, hbr2⟩
        · go_wp2
          go_roundw
          case rel =>
            refine ⟨pos + 1, v * 10 + ((l[pos].toNat : Int) - 48), by omega, rfl, by omega, by omega, hit2, hbr2, ?_⟩
            have e : min (v * 10 + ((l[pos].toNat : Int) - 48)) 2147483648 = v * 10 + ((l[pos].toNat : Int) - 48) := by omega
            rw [← HS2.out, e]
          case measure => simp only [World.iterPos, hit, hit2]; omega
      · have hnx : ∀ ty, (Instr.next (.pointer (some ⟨w1.heap.size, 0, none⟩)) true ty).run Tryz.prog wr = _ := fun ty => Lib.run_next_end_at wr w1.heap.size ⟨l.toArray⟩ pos ty hit hlt
        have HF : Hid (sat 0 l = v) := by
          have h := HS.out
          rw [List.drop_eq_nil_of_le (by omega)] at h
          exact h.symm
        go_wp2
        go_ret2
        have h := parse_ok HN.out HF.out hv1
        exact ⟨ret_pair h.1 h.2, hbr⟩
end Go.Proofs.YtnlbjknfahhfaaaGreatDoor

/- strings.IndexAny at the letters a, c, d, and strings.Cut at a comma, for every text. -/
set_option maxRecDepth 20000
namespace Go.Proofs.YtnlbjknfahhfaaaGreatDoor
open Go.RowKit
attribute [local go_sem] no_at ByteArray.extract_mk

theorem ret_int1 {k : IntKind} {a b : Int} (h : a = b) : Ending.returned (.int k a) = .returned (.int k b) := by rw [h]
theorem get_bang (s : ByteArray) (k : Nat) (h : k < s.size) : s.get! k = s[k] := by
  simp [ByteArray.get!, getElem!_pos, h]
  rfl

/-- every byte of a letter that begins with a byte from 128 on is such a byte, and lies in the text -/
theorem decode_rest (s : ByteArray) (pos : Nat) (h : pos < s.size) (ha : 128 ≤ (s[pos]'h).toNat) (k : Nat) (hk : k < (Utf8.decode s pos).2) : ∃ hq : pos + k < s.size, 128 ≤ (s[pos + k]'hq).toNat := by
  by_cases hk0 : k = 0
  · subst hk0; exact ⟨h, ha⟩
  have hn : ¬ (s.get! (pos + 0)).toNat < 128 := by rw [Nat.add_zero, get_bang s pos h]; omega
  have key : ∀ j, (decide (pos + j < s.size) && (s.get! (pos + j)).toNat / 64 == 2) = true → ∃ hq : pos + j < s.size, 128 ≤ (s[pos + j]'hq).toNat := by
    intro j hj
    simp only [Bool.and_eq_true, decide_eq_true_eq, beq_iff_eq] at hj
    refine ⟨hj.1, ?_⟩
    rw [← get_bang s (pos + j) hj.1]
    omega
  revert hk
  unfold Utf8.decode
  simp only [hn, if_false]
  split
  · rename_i h2
    simp only [Bool.and_eq_true] at h2
    split
    · intro hk
      have : k = 1 := by simp at hk; omega
      subst this
      exact key 1 (by simp only [Bool.and_eq_true]; exact h2.2)
    · intro hk; simp at hk; omega
  · split
    · rename_i h2
      simp only [Bool.and_eq_true] at h2
      split
      · intro hk
        have : k = 1 ∨ k = 2 := by simp at hk; omega
        rcases this with rfl | rfl
        · exact key 1 (by simp only [Bool.and_eq_true]; exact h2.1.2)
        · exact key 2 (by simp only [Bool.and_eq_true]; exact h2.2)
      · intro hk; simp at hk; omega
    · split
      · rename_i h2
        simp only [Bool.and_eq_true] at h2
        split
        · intro hk
          have : k = 1 ∨ k = 2 ∨ k = 3 := by simp at hk; omega
          rcases this with rfl | rfl | rfl
          · exact key 1 (by simp only [Bool.and_eq_true]; exact h2.1.1.2)
          · exact key 2 (by simp only [Bool.and_eq_true]; exact h2.1.2)
          · exact key 3 (by simp only [Bool.and_eq_true]; exact h2.2)
        · intro hk; simp at hk; omega
      · intro hk; simp at hk; omega

theorem enc_form (r : Int) (hv : Utf8.valid r = true) (h128 : 128 ≤ r) : (∃ a b : UInt8, 128 ≤ b.toNat ∧ Utf8.encode r = ⟨([a, b] : List UInt8).toArray⟩) ∨ (∃ a b c : UInt8, 128 ≤ c.toNat ∧ Utf8.encode r = ⟨([a, b, c] : List UInt8).toArray⟩) ∨ (∃ a b c d : UInt8, Utf8.encode r = ⟨([a, b, c, d] : List UInt8).toArray⟩) := by
  have hc : ¬ r.toNat < 128 := by omega
  unfold Utf8.encode
  simp only [hv, if_true, hc, if_false]
  split
  · refine .inl ⟨_, _, ?_, rfl⟩
    simp; omega
  · split
    · refine .inr (.inl ⟨_, _, _, ?_, rfl⟩)
      simp; omega
    · exact .inr (.inr ⟨_, _, _, _, rfl⟩)

theorem valid_of (r : Int) (h : Lib.validRune r = true) : Utf8.valid r = true := by
  simp [Lib.validRune, Utf8.valid] at h ⊢
  omega

theorem idx_nil (x : Int) (u : World) : Calls Tryz.prog 184 #[.string ⟨#[]⟩, .int .u8 x] u fun e w' => e = .returned (.int .i64 (-1)) ∧ w' = u := Tryz.strings_IndexByte ⟨#[]⟩ x u
theorem idx_d (b : UInt8) (hb : 128 ≤ b.toNat) (u : World) : Calls Tryz.prog 184 #[.string ⟨#[100]⟩, .int .u8 (b.toNat : Int)] u fun e w' => e = .returned (.int .i64 (-1)) ∧ w' = u := by
  refine (Tryz.strings_IndexByte ⟨#[100]⟩ (b.toNat : Int) u).mono ?_
  rintro e w' ⟨rfl, rfl⟩
  have e1 : ((b.toNat : Int).toNat).toUInt8 = b := by simp
  have e2 : Lib.indexByte [100] b = -1 := by
    have : ((100 : UInt8) == b) = false := by
      rw [beq_eq_false_iff_ne]
      rintro rfl
      simp at hb
    simp [Lib.indexByte, this]
  rw [e1]
  exact ⟨by rw [show Lib.indexByte (⟨#[100]⟩ : ByteArray).data.toList b = -1 from e2], rfl⟩

set_option maxHeartbeats 2000000 in
set_option maxRecDepth 100000 in
theorem IndexRune_high (r : Int) (h0 : 128 ≤ r) (h1 : r ≤ 2147483647) (w : World) :
    Calls Tryz.prog 199 #[.string ⟨([97, 99, 100] : List UInt8).toArray⟩, .int .i32 r] w fun e w' => e = .returned (.int .i64 (-1)) ∧ Below w.heap.size w w' := by
  by_cases h2 : r = 65533
  · subst h2
    have hn0 : ∀ ty, (Instr.next (.pointer (some ⟨w.heap.size, 0, none⟩)) true ty).run Tryz.prog (w.iter ⟨([97, 99, 100] : List UInt8).toArray⟩ 0) = .ok (.tuple #[.bool true, .int .i64 0, .int .i32 97]) (w.iter ⟨([97, 99, 100] : List UInt8).toArray⟩ 1) := fun ty => run_next_ascii w ⟨([97, 99, 100] : List UInt8).toArray⟩ 0 ty (by decide) (by decide)
    have hn1 : ∀ ty, (Instr.next (.pointer (some ⟨w.heap.size, 0, none⟩)) true ty).run Tryz.prog (w.iter ⟨([97, 99, 100] : List UInt8).toArray⟩ 1) = .ok (.tuple #[.bool true, .int .i64 1, .int .i32 99]) (w.iter ⟨([97, 99, 100] : List UInt8).toArray⟩ 2) := fun ty => run_next_ascii w ⟨([97, 99, 100] : List UInt8).toArray⟩ 1 ty (by decide) (by decide)
    have hn2 : ∀ ty, (Instr.next (.pointer (some ⟨w.heap.size, 0, none⟩)) true ty).run Tryz.prog (w.iter ⟨([97, 99, 100] : List UInt8).toArray⟩ 2) = .ok (.tuple #[.bool true, .int .i64 2, .int .i32 100]) (w.iter ⟨([97, 99, 100] : List UInt8).toArray⟩ 3) := fun ty => run_next_ascii w ⟨([97, 99, 100] : List UInt8).toArray⟩ 2 ty (by decide) (by decide)
    have hn3 : ∀ ty, (Instr.next (.pointer (some ⟨w.heap.size, 0, none⟩)) true ty).run Tryz.prog (w.iter ⟨([97, 99, 100] : List UInt8).toArray⟩ 3) = .ok (.tuple #[.bool false]) (w.iter ⟨([97, 99, 100] : List UInt8).toArray⟩ 3) := fun ty => run_next_end w ⟨([97, 99, 100] : List UInt8).toArray⟩ 3 ty (by decide)
    go_enter Tryz.func199, Tryz.ntmps199
    go_wp2
    refine wp_loop_rounds 4 ?_
    rw [rounds_succ]
    go_wp2
    rw [rounds_succ]
    go_wp2
    rw [rounds_succ]
    go_wp2
    rw [rounds_succ]
    go_wp2
    go_ret
    exact ⟨rfl, (Below.refl _ w).alloc (Nat.le_refl _) _⟩
  · have hb : (r == 65533) = false := by simp [h2]
    go_enter Tryz.func199, Tryz.ntmps199
    go_wp2_with fail
    refine (Tryz.utf8_ValidRune r _).mono ?_
    rintro e w' ⟨rfl, rfl⟩
    cases hv : Lib.validRune r
    · go_wp2
      go_ret
      exact ⟨rfl, Below.refl _ _⟩
    · rcases enc_form r (valid_of r hv) h0 with ⟨a, b, hb128, he⟩ | ⟨a, b, c, hb128, he⟩ | ⟨a, b, c, d, he⟩
      · have hbl := b.toNat_lt
        have hw2 : IntKind.i64.wrap 2 = 2 := by decide
        have hsl : ∀ u : World, (Instr.slice 9 (.string ⟨([97, 99, 100] : List UInt8).toArray⟩) (some (.int .i64 2)) none none).run Tryz.prog u = .ok (.string ⟨([100] : List UInt8).toArray⟩) u := fun u => by kernel_rfl
        have hne : ((99 : Int) != (b.toNat : Int)) = true := by simp; omega
        go_wp2_with fail
        go_step3
        go_wp2_with fail
        refine wp_loop_rounds 1 ?_
        rw [rounds_succ]
        go_wp2_with fail
        go_step3
        go_wp2_with fail
        go_quiet (fail)
        have hbq : Below w'.heap.size w' (w'.drewN nq) := Below.dN (Below.refl _ _) nq
        generalize w'.drewN nq = wq at *
        go_wp2_with fail
        go_quiet ((go_at_call 184; exact Calls.quiet_of_same (idx_d b hb128 _)))
        go_wp2
        rw [Exit.noGoto_ret]
        go_wp2
        rw [Exit.noGoto_ret]
        go_ret
        exact ⟨rfl, Below.dN hbq _⟩
      · have hbl := c.toNat_lt
        have hw2 : IntKind.i64.wrap 3 = 3 := by decide
        have hsl : ∀ u : World, (Instr.slice 9 (.string ⟨([97, 99, 100] : List UInt8).toArray⟩) (some (.int .i64 3)) none none).run Tryz.prog u = .ok (.string ⟨([] : List UInt8).toArray⟩) u := fun u => by kernel_rfl
        have hne : ((100 : Int) != (c.toNat : Int)) = true := by simp; omega
        go_wp2_with fail
        go_step3
        go_wp2_with fail
        refine wp_loop_rounds 1 ?_
        rw [rounds_succ]
        go_wp2_with fail
        go_step3
        go_wp2_with fail
        go_quiet (fail)
        have hbq : Below w'.heap.size w' (w'.drewN nq) := Below.dN (Below.refl _ _) nq
        generalize w'.drewN nq = wq at *
        go_wp2_with fail
        go_quiet ((go_at_call 184; exact Calls.quiet_of_same (idx_nil _ _)))
        go_wp2
        rw [Exit.noGoto_ret]
        go_wp2
        rw [Exit.noGoto_ret]
        go_ret
        exact ⟨rfl, Below.dN hbq _⟩
      · go_wp2_with fail
        go_step3
        go_wp2_with fail
        refine wp_loop_rounds 1 ?_
        rw [rounds_succ]
        go_wp2
        rw [Exit.noGoto_ret]
        go_ret
        exact ⟨rfl, Below.refl _ _⟩

theorem zero_set : ∀ w, (zeroValue 279).run Tryz.prog w = .ok (.agg (Array.replicate 256 (.bool false))) w :=
  (zero_of_info (P := Tryz.prog) (show (Tryz.prog.info? 279).map (fun i => (i.zero, i.size)) = some (some (.agg (Array.replicate 256 (.bool false))), 256) by kernel_rfl)).1

theorem idx_three (x : UInt8) : Lib.indexByte [97, 99, 100] x = if x.toNat = 97 then 0 else if x.toNat = 99 then 1 else if x.toNat = 100 then 2 else -1 := by
  have key : ∀ i : Fin 256, Lib.indexByte [97, 99, 100] (UInt8.ofNat i.val) = if i.val = 97 then 0 else if i.val = 99 then 1 else if i.val = 100 then 2 else -1 := by decide +kernel
  have := key ⟨x.toNat, x.toNat_lt⟩
  simpa using this
theorem isC_nat (x : UInt8) : isC x = decide (x.toNat = 97 ∨ x.toNat = 99 ∨ x.toNat = 100) := by
  rw [Bool.eq_iff_iff]
  simp [isC, ← UInt8.toNat_inj, or_assoc]

def idxB (x : UInt8) : Int := Lib.indexByte [97, 99, 100] x
theorem idxB_yes {x : UInt8} (h : isC x = true) : 0 ≤ idxB x := by
  rw [isC_nat] at h
  have h := of_decide_eq_true h
  unfold idxB; rw [idx_three]; split <;> (try split) <;> (try split) <;> omega
theorem idxB_no {x : UInt8} (h : isC x = false) : idxB x < 0 := by
  rw [isC_nat] at h
  have h := of_decide_eq_false h
  unfold idxB; rw [idx_three]; split <;> (try split) <;> (try split) <;> omega
theorem contains_three (c : UInt8) : ([97, 99, 100] : List UInt8).contains c = isC c := by
  rw [Bool.eq_iff_iff]
  simp [isC, or_assoc]
/-- where the first of the three letters is, or -1 -/
def wend (l : List UInt8) : Int := Lib.indexAny l [97, 99, 100]
theorem wend_at : ∀ (l : List UInt8) (k : Nat) (hk : k < l.length), (∀ j (h : j < l.length), j < k → isC l[j] = false) → isC l[k] = true → wend l = k
  | b :: l, 0, _, _, h => by
    unfold wend Lib.indexAny
    rw [contains_three, if_pos (by simpa using h)]
    rfl
  | b :: l, k + 1, hk, ha, h => by
    have h0 := ha 0 (by simp) (by omega)
    have ih := wend_at l k (by simpa using hk) (fun j hj hjk => ha (j + 1) (by simp; omega) (by omega)) (by simpa using h)
    unfold wend at ih ⊢
    unfold Lib.indexAny
    rw [contains_three, if_neg (by simpa using h0), ih]
    rw [if_neg (by simp)]
    omega

theorem wend_none : ∀ (l : List UInt8), (∀ j (h : j < l.length), isC l[j] = false) → wend l = -1
  | [], _ => rfl
  | b :: l, ha => by
    have h0 := ha 0 (by simp)
    have ih := wend_none l (fun j hj => ha (j + 1) (by simp; omega))
    unfold wend at ih ⊢
    unfold Lib.indexAny
    rw [contains_three, if_neg (by simpa using h0), ih]
    rfl

theorem IndexRune_low (x : UInt8) (h : x.toNat < 128) (w : World) :
    Calls Tryz.prog 199 #[.string ⟨([97, 99, 100] : List UInt8).toArray⟩, .int .i32 (x.toNat : Int)] w fun e w' => e = .returned (.int .i64 (idxB x)) ∧ w' = w := by
  have h1 := Tryz.strings_IndexRune_ascii ⟨([97, 99, 100] : List UInt8).toArray⟩ (x.toNat : Int) w (by omega) (by omega)
  refine h1.mono ?_
  rintro e w' ⟨rfl, rfl⟩
  have e : ((x.toNat : Int).toNat).toUInt8 = x := by simp
  rw [e]
  exact ⟨rfl, rfl⟩

/-- where the first letter is, as the plain reader says -/
theorem wend_sp (l : List UInt8) : (spB isC l = none ∧ wend l = -1) ∨ (∃ k : Nat, ∃ h : k < l.length, wend l = k ∧ spB isC l = some (l.take k, l[k], l.drop (k + 1)) ∧ isC l[k] = true) := by
  induction l with
  | nil => exact .inl ⟨rfl, rfl⟩
  | cons c l ih =>
    unfold wend Lib.indexAny
    rw [contains_three]
    simp only [spB]
    cases hc : isC c with
    | true =>
      right
      refine ⟨0, by simp, by simp, by simp, by simpa using hc⟩
    | false =>
      rw [if_neg (by decide), if_neg (by decide)]
      rcases ih with ⟨h1, h2⟩ | ⟨k, hk, h1, h2, h3⟩
      · left
        unfold wend at h2
        rw [h1, h2]
        exact ⟨rfl, rfl⟩
      · right
        unfold wend at h1
        refine ⟨k + 1, by simpa using hk, ?_, ?_, by simpa using h3⟩
        · rw [h1, if_neg (by simp)]
          omega
        · rw [h2]
          rfl
/-- where a comma is -/
theorem comma_sp (l : List UInt8) : (spB isK l = none ∧ Lib.indexByte l 44 = -1) ∨ (∃ k : Nat, ∃ h : k < l.length, Lib.indexByte l 44 = k ∧ spB isK l = some (l.take k, l[k], l.drop (k + 1))) := by
  induction l with
  | nil => exact .inl ⟨rfl, rfl⟩
  | cons c l ih =>
    unfold Lib.indexByte
    simp only [spB]
    have e : (c == 44) = isK c := rfl
    rw [e]
    cases hc : isK c with
    | true =>
      right
      exact ⟨0, by simp, by simp, by simp⟩
    | false =>
      rw [if_neg (by decide), if_neg (by decide)]
      rcases ih with ⟨h1, h2⟩ | ⟨k, hk, h1, h2⟩
      · left
        rw [h1, h2]
        exact ⟨rfl, rfl⟩
      · right
        refine ⟨k + 1, by simpa using hk, ?_, ?_⟩
        · rw [h1, if_neg (by simp)]
          omega
        · rw [h2]
          rfl
end Go.Proofs.YtnlbjknfahhfaaaGreatDoor

/- What is read in the normal form are right hunks; plain mathematics. -/
set_option maxRecDepth 20000
namespace Go.Proofs.YtnlbjknfahhfaaaGreatDoor
open Ln

theorem sat_pos : ∀ (l : List UInt8) (n : Int), 0 ≤ n → l.all Pn.digB = true → 0 ≤ Pn.sat n l
  | [], _, hn, _ => hn
  | c :: t, n, hn, h => by
    simp only [List.all_cons, Bool.and_eq_true] at h
    have h1 := Pn.digB_out h.1
    rw [Pn.sat]
    exact sat_pos t _ (by omega) h.2
theorem prs_num {s : List UInt8} : 0 ≤ Pn.parseV s ∧ Pn.parseV s ≤ 2147483647 := by
  unfold Pn.parseV
  split
  · rename_i h
    exact ⟨sat_pos s 0 (by omega) (Pn.isNum_all h.1), h.2⟩
  · omega
theorem lns_right {s : List UInt8} {x n : Int} (h : lnsP s = some (x, n)) : 1 ≤ x ∧ x ≤ 2147483647 ∧ 1 ≤ n ∧ n ≤ 2147483647 := by
  unfold lnsP at h
  split at h
  · split at h
    · rename_i y _ z _ hc
      cases h
      have h1 := @prs_num y
      have h2 := @prs_num z
      omega
    · cases h
  · split at h
    · rename_i hc
      cases h
      have h1 := @prs_num s
      omega
    · cases h
theorem one_right {s : List UInt8} {x n : Int} (h : oneP s = some (x, n)) : 0 ≤ x ∧ x ≤ 2147483647 ∧ n = 0 := by
  unfold oneP at h
  split at h
  · cases h
    have h1 := @prs_num s
    omega
  · cases h
theorem cmd_right {s : List UInt8} {A AN B BN : Int} (h : cmdP s = some (A, AN, B, BN)) : (0 ≤ A ∧ A ≤ 2147483647 ∧ 0 ≤ AN ∧ AN ≤ 2147483647 ∧ (0 < AN → 1 ≤ A)) ∧ (0 ≤ B ∧ B ≤ 2147483647 ∧ 0 ≤ BN ∧ BN ≤ 2147483647 ∧ (0 < BN → 1 ≤ B)) ∧ (0 < AN ∨ 0 < BN) := by
  unfold cmdP at h
  split at h
  · cases h
  · rename_i x c y _
    split at h
    · rename_i A' AN' B' BN' h1 h2
      cases h
      by_cases hc : c = 97
      · subst hc
        rw [if_pos rfl] at h1
        rw [if_neg (by decide)] at h2
        have q1 := one_right h1
        have q2 := lns_right h2
        omega
      · rw [if_neg hc] at h1
        have q1 := lns_right h1
        by_cases hd : c = 100
        · subst hd
          rw [if_pos rfl] at h2
          have q2 := one_right h2
          omega
        · rw [if_neg hd] at h2
          have q2 := lns_right h2
          omega
    · cases h
theorem pk_out {no : Int} {l : List Mk} (h : ∀ m ∈ l, m.sg = no) : pkL no l = [] := by
  induction l with
  | nil => rfl
  | cons m l ih =>
    have hm := h m (by simp)
    simp only [pkL]
    rw [if_neg (fun hq => hq.1 hm)]
    exact ih fun x hx => h x (by simp [hx])
theorem pk_in {no s : Int} (hs : s ≠ no) (ho : okS s = true) {l : List Mk} (h : ∀ m ∈ l, m.sg = s) : (pkL no l).length = l.length := by
  induction l with
  | nil => rfl
  | cons m l ih =>
    have hm := h m (by simp)
    simp only [pkL]
    rw [if_pos (by rw [hm]; exact ⟨hs, ho⟩), List.length_cons, List.length_cons, ih fun x hx => h x (by simp [hx])]
theorem fld_last {S no : Int} (hS : okS S = true) (hn : (no = 43 ∧ S = 45) ∨ (no = 45 ∧ S = 43)) : ∀ (l r : List Mk), (∀ m ∈ l, m.sg = S ∧ linB m.tx = true) → (∀ m ∈ l.dropLast, fdB m.tx = true) → (∀ m ∈ r, m.sg = no) → fldB r = true → fldB (l ++ r) = true
  | [], _, _, _, _, hr => hr
  | [m], r, h1, _, h3, hr => by
    obtain ⟨a1, a2⟩ := h1 m (by simp)
    have h4 : lstB S r = true := (by
      unfold lstB
      rw [List.all_eq_true]
      intro x hx
      have := h3 x hx
      rw [this]
      rcases hn with ⟨rfl, rfl⟩ | ⟨rfl, rfl⟩ <;> decide)
    simp only [List.singleton_append, fldB, a1, a2, hS, hr, Bool.and_true, Bool.true_and]
    rcases hn with ⟨rfl, rfl⟩ | ⟨rfl, rfl⟩ <;> simp [h4]
  | m :: x :: l, r, h1, h2, h3, hr => by
    obtain ⟨a1, a2⟩ := h1 m (by simp)
    have h4 : fdB m.tx = true := h2 m (by simp [List.dropLast_cons_cons])
    have := fld_last hS hn (x :: l) r (fun y hy => h1 y (by simp at hy ⊢; exact Or.inr hy)) (fun y hy => h2 y (by rw [List.dropLast_cons_cons]; exact List.mem_cons_of_mem _ hy)) h3 hr
    rw [List.cons_append, fldB, this, a1, a2, hS, h4]
    rfl
/-- a hunk that was read is right -/
theorem hk_right {k p p1 : Nat} {ls r : List (List UInt8)} {h : Hk} (hP : Plain ls) (hh : hkP k p ls = .ok (h, p1, r)) : chkH h = 0 := by
  unfold hkP at hh
  split at hh
  · cases hh
  · rename_i s r0 hn
    obtain ⟨a1, a2⟩ := nxt_len hP hn
    split at hh
    · cases hh
    · rename_i A AN B BN hc
      have hr := cmd_right hc
      split at hh
      · cases hh
      · split at hh
        · cases hh
        · rename_i l1 q1 r1 h1
          obtain ⟨b1, b2, b3, b4, b5, b6⟩ := rdN_ok _ a2 h1
          split at hh
          · cases hh
          · rename_i q2 r2 h2
            have hs : Plain r2 := (by
              split at h2
              · unfold sepP at h2
                split at h2
                · cases h2
                · rename_i s3 r3 hn3
                  obtain ⟨c1, c2⟩ := nxt_len b4 hn3
                  split at h2
                  · cases h2
                    exact c2
                  · cases h2
              · cases h2
                exact b4)
            split at hh
            · cases hh
            · rename_i l2 q3 r3 h3
              obtain ⟨d1, d2, d3, d4, d5, d6⟩ := rdN_ok _ hs h3
              cases hh
              have e1 : rngB ⟨A, AN, B, BN, l1 ++ l2⟩ = true := (by
                simp only [rngB, nat31, Bool.and_eq_true, Bool.not_eq_true', Bool.and_eq_false_iff, decide_eq_true_eq, decide_eq_false_iff_not]
                omega)
              have e2 : fldB (l1 ++ l2) = true := (by
                have g := fld_last (S := 43) (no := 45) (by decide) (Or.inr ⟨rfl, rfl⟩) l2 [] d5 d6 (fun m hm => by cases hm) rfl
                rw [List.append_nil] at g
                exact fld_last (S := 45) (no := 43) (by decide) (Or.inl ⟨rfl, rfl⟩) l1 l2 b5 b6 (fun m hm => (d5 m hm).1) g)
              have e3 : (oldL ⟨A, AN, B, BN, l1 ++ l2⟩).length = l1.length := (by
                show (pkL 43 (l1 ++ l2)).length = _
                rw [pkL_append, List.length_append, pk_in (s := 45) (by decide) (by decide) (fun m hm => (b5 m hm).1), pk_out (fun m hm => (d5 m hm).1)]
                simp)
              have e4 : (newL ⟨A, AN, B, BN, l1 ++ l2⟩).length = l2.length := (by
                show (pkL 45 (l1 ++ l2)).length = _
                rw [pkL_append, List.length_append, pk_out (fun m hm => (b5 m hm).1), pk_in (s := 43) (by decide) (by decide) (fun m hm => (d5 m hm).1)]
                simp)
              have e5 : (l1 ++ l2).all (fun m => decide (m.sg = 32)) = false := (by
                rw [List.all_eq_false]
                rcases hr.2.2 with hq | hq
                · obtain ⟨x, hx⟩ := List.exists_mem_of_length_pos (l := l1) (by omega)
                  exact ⟨x, by simp [hx], by rw [(b5 x hx).1]; decide⟩
                · obtain ⟨x, hx⟩ := List.exists_mem_of_length_pos (l := l2) (by omega)
                  exact ⟨x, by simp [hx], by rw [(d5 x hx).1]; decide⟩)
              unfold chkH
              rw [if_neg (by rw [e1]; decide), if_neg (by rw [e2]; decide), if_neg (by rw [e3, e4]; simp only [b1, d1, not_or, Decidable.not_not]; omega), e5]
              rfl
/-- all hunks that were read are right -/
theorem hks_right (f : Nat) : ∀ {k p : Nat} {ls : List (List UInt8)} {l : List Hk}, Plain ls → hksP f k p ls = .ok l → ∀ h ∈ l, chkH h = 0 := by
  induction f with
  | zero =>
    intro k p ls l _ h
    simp only [hksP] at h
    cases h
    intro x hx
    cases hx
  | succ f ih =>
    intro k p ls l hP h
    simp only [hksP] at h
    split at h
    · cases h
      intro x hx
      cases hx
    · split at h
      · cases h
      · rename_i hk q1 r1 h1
        split at h
        · cases h
        · rename_i l' h2
          cases h
          intro x hx
          rcases List.mem_cons.1 hx with rfl | hx
          · exact hk_right hP h1
          · exact ih (hkP_ok hP h1).2.2 h2 x hx
theorem prs_right {t : List UInt8} {l : List Hk} (h : prsT t = .ok l) : ∀ x ∈ l, chkH x = 0 := by
  unfold prsT at h
  split at h
  · cases h
  · exact hks_right _ (split_plain t) h
end Go.Proofs.YtnlbjknfahhfaaaGreatDoor

/- The code's numbers and change of layer 12, walked: a range of lines, a line that says a change. -/
set_option maxRecDepth 20000
namespace Go.Proofs.YtnlbjknfahhfaaaGreatDoor
open Go.RowKit
attribute [local go_sem] ByteArray.extract_mk no_at

/-- what is ahead of the first comma, and behind it -/
def kA (l : List UInt8) : List UInt8 := match spB isK l with | none => l | some (x, _, _) => x
def kB (l : List UInt8) : List UInt8 := match spB isK l with | none => [] | some (_, _, y) => y
def kS (l : List UInt8) : Bool := match spB isK l with | none => false | some _ => true
set_option maxHeartbeats 2000000 in
theorem slCut_f (l : List UInt8) (w : World) (hl : l.length ≤ 1099511627776) :
    Calls Tryz.prog 122 #[.string ⟨l.toArray⟩, .string ⟨#[44]⟩] w fun e w' => e = .returned (.tuple #[.string ⟨(kA l).toArray⟩, .string ⟨(kB l).toArray⟩, .bool (kS l)]) ∧ ∃ n, w' = w.drewN n := by
  rcases comma_sp l with ⟨h1, h2⟩ | ⟨k, hk, h1, h2⟩
  · have HA : Hid (kA l = l ∧ kB l = [] ∧ kS l = false) := (by unfold kA kB kS; rw [h1]; exact ⟨rfl, rfl, rfl⟩)
    have HI : Hid (Lib.indexByte l 44 = -1) := h2
    clear h1 h2
    go_enter Tryz.func122, Tryz.ntmps122
    go_wp2_with fail
    refine (Tryz.stringslite_Index_one ⟨l.toArray⟩ 44 w).mono ?_
    rintro e w1 ⟨rfl, rfl⟩
    have e1 : Lib.indexByte (⟨l.toArray⟩ : ByteArray).data.toList 44 = -1 := HI.out
    rw [e1]
    clear e1
    go_wp2
    go_ret3
    obtain ⟨a1, a2, a3⟩ := HA.out
    rw [a1, a2, a3]
    exact ⟨rfl, 0, rfl⟩
  · have HA : Hid (kA l = l.take k ∧ kB l = l.drop (k + 1) ∧ kS l = true) := (by unfold kA kB kS; rw [h2]; exact ⟨rfl, rfl, rfl⟩)
    have HI : Hid (Lib.indexByte l 44 = (k : Int)) := h1
    clear h1 h2
    go_enter Tryz.func122, Tryz.ntmps122
    go_wp2_with fail
    refine (Tryz.stringslite_Index_one ⟨l.toArray⟩ 44 w).mono ?_
    rintro e w1 ⟨rfl, rfl⟩
    have e1 : Lib.indexByte (⟨l.toArray⟩ : ByteArray).data.toList 44 = (k : Int) := HI.out
    rw [e1]
    clear e1
    have i1 : (0 : Int) ≤ (k : Int) := by omega
    have i2 : (k : Int) ≤ (l.length : Int) := by omega
    have i3 : (k : Int) + 1 ≤ (l.length : Int) := by omega
    have i4 : (0 : Int) ≤ (k : Int) + 1 := by omega
    have i5 : IntKind.i64.wrap ((k : Int) + 1) = (k : Int) + 1 := wrap_s (by omega) (by omega)
    have i6 : ((k : Int) + 1).toNat = k + 1 := by omega
    go_wp2_with fail
    go_quiet (fail)
    go_wp2
    go_ret3
    obtain ⟨a1, a2, a3⟩ := HA.out
    rw [a1, a2, a3]
    have k5 : (l.drop (k + 1)).take (l.length - (k + 1)) = l.drop (k + 1) := List.take_of_length_le (by simp)
    exact ⟨by simp [k5], _, rfl⟩
set_option maxHeartbeats 1000000 in
theorem nCut_f (l : List UInt8) (w : World) (hl : l.length ≤ 1099511627776) :
    Calls Tryz.prog 92 #[.string ⟨l.toArray⟩, .string ⟨#[44]⟩] w fun e w' => e = .returned (.tuple #[.string ⟨(kA l).toArray⟩, .string ⟨(kB l).toArray⟩, .bool (kS l)]) ∧ ∃ n, w' = w.drewN n := by
  go_enter Tryz.func92, Tryz.ntmps92
  go_wp2_with fail
  refine (slCut_f l w hl).mono ?_
  rintro e w1 ⟨rfl, n, rfl⟩
  go_wp2
  go_ret3
  exact ⟨rfl, n, rfl⟩
/-- a text with a comma is no number -/
theorem comma_no {s : List UInt8} (h : kS s = true) : Pn.parseE s ≠ 0 := by
  unfold kS at h
  rcases comma_sp s with ⟨h1, _⟩ | ⟨k, hk, _, h2⟩
  · rw [h1] at h
    cases h
  · have hc : isK s[k] = true := (by
      have : ∀ (l : List UInt8) {a b : List UInt8} {c : UInt8}, spB isK l = some (a, c, b) → isK c = true := (by
        intro l
        induction l with
        | nil => intro a b c h; cases h
        | cons x l ih =>
          intro a b c h
          simp only [spB] at h
          split at h
          · rename_i hx
            cases h
            exact hx
          · split at h
            · cases h
            · rename_i hq
              cases h
              exact ih hq)
      exact this s h2)
    have hn : Pn.isNum s = false := Pn.isNum_bad k hk (by
      unfold isK at hc
      have : s[k] = 44 := by simpa using hc
      rw [this]
      decide)
    have := (Pn.parse_no hn).2
    omega
/-- a range, or the line ahead -/
def nmP (no : Bool) (s : List UInt8) : Option (Int × Int) := if no = true then oneP s else lnsP s
theorem kA_self {s : List UInt8} (h : kS s = false) : kA s = s ∧ spB isK s = none := by
  unfold kS at h
  unfold kA
  cases hq : spB isK s with
  | none => exact ⟨rfl, rfl⟩
  | some q => rw [hq] at h; cases h
theorem kS_some {s : List UInt8} (h : kS s = true) : ∃ c, spB isK s = some (kA s, c, kB s) := by
  unfold kS at h
  unfold kA kB
  cases hq : spB isK s with
  | none => rw [hq] at h; cases h
  | some q => exact ⟨q.2.1, rfl⟩
theorem nm_bad {no : Bool} {s : List UInt8} (h : Pn.parseE (kA s) ≠ 0) : nmP no s = none := by
  unfold nmP
  cases hk : kS s with
  | true =>
    obtain ⟨c, hc⟩ := kS_some hk
    have h2 := comma_no hk
    cases no with
    | true =>
      unfold oneP
      rw [if_pos rfl, if_neg h2]
    | false =>
      unfold lnsP
      rw [if_neg (by decide), hc]
      exact if_neg (fun q => h q.1)
  | false =>
    obtain ⟨h1, h2⟩ := kA_self hk
    rw [h1] at h
    cases no with
    | true =>
      unfold oneP
      rw [if_pos rfl, if_neg h]
    | false =>
      unfold lnsP
      rw [if_neg (by decide), h2]
      exact if_neg (fun q => h q.1)
theorem kA_le (s : List UInt8) : (kA s).length ≤ s.length ∧ (kB s).length ≤ s.length := by
  unfold kA kB
  rcases comma_sp s with ⟨h1, _⟩ | ⟨k, hk, _, h2⟩
  · rw [h1]; simp
  · rw [h2]; simp only [List.length_take, List.length_drop]; omega
/-- what numbers answers -/
def NmQ (w : World) (no : Bool) (s : List UInt8) (e : Ending) (w' : World) : Prop := ∃ x n r, e = .returned (.tuple #[.int .i64 x, .int .i64 n, .bool r]) ∧ nmP no s = (if r = true then some (x, n) else none) ∧ Below w.heap.size w w'
end Go.Proofs.YtnlbjknfahhfaaaGreatDoor

/- The code's commandFrom of layer 13, walked: a line that says a command with numbers. -/
set_option maxRecDepth 20000
namespace Go.Proofs.YtnlbjknfahhfaaaGreatDoor
open Go.RowKit

theorem efr_cell {P : Program} {fn : Func} {p q : Tmp} {ty : TypeId} (h : fn.results = #[.cell p ty, .tmp q]) (tmps : Array Value) (w : World) (g : Nat) (t : TypeId) (cs : Array Value) (fr : Nat × Nat) (d : TypeDesc)
    (hp : tmps.getD p undef = .pointer (some ⟨g, 0, none⟩)) (hg : w.heap[g]? = some (.cells cs t fr))
    (hu : P.underlying ty = some d) (hd : (match d with | .struct _ | .array _ _ => true | _ => false) = true) (hi : (P.info? ty).map (·.size) = some cs.size) :
    (results fn tmps).run P w = .ok (.tuple #[.agg cs, tmps.getD q undef]) w := by
  have hp' : tmps[p]?.getD undef = .pointer (some ⟨g, 0, none⟩) := by simpa using hp
  simp [results, h, hp', asAddr, run_loadVar_row w g t ty cs fr d hg hu hd hi]
/-- what rangeFrom answers -/
def RgQ (w : World) (s : List UInt8) (e : Ending) (w' : World) : Prop := ∃ x y r, e = .returned (.tuple #[.int .i64 x, .int .i64 y, .bool r]) ∧ lnsP s = (if r = true then some (x + 1, y - x) else none) ∧ (-1 ≤ x ∧ x ≤ 2147483647 ∧ 0 ≤ y ∧ y ≤ 2147483647) ∧ Below w.heap.size w w'
set_option maxHeartbeats 4000000 in
theorem rangeFrom_f (s : List UInt8) (w : World) (hl : s.length ≤ 1099511627776) :
    Calls Tryz.prog 82 #[.string ⟨s.toArray⟩] w fun e w' => RgQ w s e w' := by
  have hkl := kA_le s
  have b1 := @prs_num (kA s)
  have b2 := @prs_num (kB s)
  obtain ⟨V1, hV1⟩ : ∃ V, Pn.parseV (kA s) = V := ⟨_, rfl⟩
  obtain ⟨E1, hE1⟩ : ∃ V, Pn.parseE (kA s) = V := ⟨_, rfl⟩
  obtain ⟨V2, hV2⟩ : ∃ V, Pn.parseV (kB s) = V := ⟨_, rfl⟩
  obtain ⟨E2, hE2⟩ : ∃ V, Pn.parseE (kB s) = V := ⟨_, rfl⟩
  have P1 : ∀ u : World, Calls Tryz.prog 81 #[.string ⟨(kA s).toArray⟩] u fun e w' => e = .returned (.tuple #[.int .i64 V1, .int .i64 E1]) ∧ Below u.heap.size u w' := (by
    intro u
    have h := nParse_any (kA s) u (by unfold maxLen; omega)
    rw [hV1, hE1] at h
    exact h)
  have P2 : ∀ u : World, Calls Tryz.prog 81 #[.string ⟨(kB s).toArray⟩] u fun e w' => e = .returned (.tuple #[.int .i64 V2, .int .i64 E2]) ∧ Below u.heap.size u w' := (by
    intro u
    have h := nParse_any (kB s) u (by unfold maxLen; omega)
    rw [hV2, hE2] at h
    exact h)
  rw [hV1] at b1
  rw [hV2] at b2
  have C1 := nCut_f s w hl
  by_cases hbad : E1 ≠ 0 ∨ V1 = 0
  · have HN : Hid (lnsP s = none) := (by
      show _ = _
      unfold lnsP
      cases hk : kS s with
      | true =>
        obtain ⟨c, hc⟩ := kS_some hk
        rw [hc]
        dsimp only
        rw [hV1, hE1]
        exact if_neg (fun q => by rcases hbad with h | h <;> omega)
      | false =>
        obtain ⟨h1, h2⟩ := kA_self hk
        rw [h1] at hV1 hE1
        rw [h2]
        dsimp only
        rw [hV1, hE1]
        exact if_neg (fun q => by rcases hbad with h | h <;> omega))
    clear hV1 hE1 hV2 hE2
    by_cases he1 : E1 = 0
    · have f1 : (E1 != 0) = false := by simp [he1]
      have f2 : (V1 == 0) = true := by
        rcases hbad with h | h
        · exact absurd he1 h
        · rw [h]; rfl
      clear he1 hbad
      go_enter Tryz.func82, Tryz.ntmps82
      go_wp2_with fail
      refine C1.mono ?_
      rintro e w1 ⟨rfl, n, rfl⟩
      go_wp2_with fail
      refine (P1 _).mono ?_
      rintro e w2 ⟨rfl, hb2⟩
      go_wp2
      go_ret3
      exact ⟨_, _, _, rfl, HN.out, by omega, (Below.dN (Below.refl _ w) n).trans hb2⟩
    · have f1 : (E1 != 0) = true := by simp [he1]
      clear he1 hbad
      go_enter Tryz.func82, Tryz.ntmps82
      go_wp2_with fail
      refine C1.mono ?_
      rintro e w1 ⟨rfl, n, rfl⟩
      go_wp2_with fail
      refine (P1 _).mono ?_
      rintro e w2 ⟨rfl, hb2⟩
      go_wp2
      go_ret3
      exact ⟨_, _, _, rfl, HN.out, by omega, (Below.dN (Below.refl _ w) n).trans hb2⟩
  · have he1 : E1 = 0 := (by
      by_cases h : E1 = 0
      · exact h
      · exact absurd (.inl h) hbad)
    have hv1 : V1 ≠ 0 := fun h => hbad (.inr h)
    have f1 : (E1 != 0) = false := by simp [he1]
    have f2 : (V1 == 0) = false := beq_eq_false_iff_ne.2 hv1
    clear hbad
    cases hk : kS s with
    | false =>
      have HN : Hid (lnsP s = if true = true then some (V1 - 1 + 1, V1 - (V1 - 1)) else none) := (by
        show _ = _
        obtain ⟨h1, h2⟩ := kA_self hk
        rw [h1] at hV1 hE1
        unfold lnsP
        rw [h2]
        dsimp only
        rw [hV1, hE1, if_pos ⟨he1, by omega⟩, if_pos rfl]
        congr 2 <;> omega)
      rw [hk] at C1
      clear hV1 hE1 hV2 hE2 hk he1 P2
      go_enter Tryz.func82, Tryz.ntmps82
      go_wp2_with fail
      refine C1.mono ?_
      rintro e w1 ⟨rfl, n, rfl⟩
      go_wp2_with fail
      refine (P1 _).mono ?_
      rintro e w2 ⟨rfl, hb2⟩
      go_wp2
      go_ret3
      exact ⟨_, _, _, rfl, HN.out, by omega, (Below.dN (Below.refl _ w) n).trans hb2⟩
    | true =>
      obtain ⟨r, hr⟩ : ∃ r, (decide (E2 = 0) && decide (V1 < V2)) = r := ⟨_, rfl⟩
      have HN : Hid (lnsP s = if r = true then some (V1 - 1 + 1, V2 - (V1 - 1)) else none) := (by
        show _ = _
        obtain ⟨c, a2⟩ := kS_some hk
        unfold lnsP
        rw [a2, ← hr]
        dsimp only
        rw [hV1, hE1, hV2, hE2]
        by_cases h : E2 = 0 ∧ V1 < V2
        · rw [if_pos ⟨he1, h.1, by omega, h.2⟩, if_pos (by simp [h.1, h.2])]
          congr 2 <;> omega
        · rw [if_neg (fun q => h ⟨q.2.1, q.2.2.2⟩), if_neg (fun q => h (by simp only [Bool.and_eq_true, decide_eq_true_eq] at q; exact q))])
      rw [hk] at C1
      clear hV1 hE1 hV2 hE2 hk he1
      by_cases he2 : E2 = 0
      · have g1 : (E2 == 0) = true := by rw [he2]; rfl
        have g2 : decide (V1 < V2) = r := by rw [← hr]; simp [he2]
        clear he2 hr
        go_enter Tryz.func82, Tryz.ntmps82
        go_wp2_with fail
        refine C1.mono ?_
        rintro e w1 ⟨rfl, n, rfl⟩
        go_wp2_with fail
        refine (P1 _).mono ?_
        rintro e w2 ⟨rfl, hb2⟩
        go_wp2_with fail
        refine (P2 _).mono ?_
        rintro e w3 ⟨rfl, hb3⟩
        go_wp2
        go_ret3
        exact ⟨_, _, _, rfl, HN.out, by omega, ((Below.dN (Below.refl _ w) n).trans hb2).trans (hb3.mono hb2.size)⟩
      · have g1 : (E2 == 0) = false := beq_eq_false_iff_ne.2 he2
        obtain rfl : r = false := by rw [← hr]; simp [he2]
        clear he2 hr
        go_enter Tryz.func82, Tryz.ntmps82
        go_wp2_with fail
        refine C1.mono ?_
        rintro e w1 ⟨rfl, n, rfl⟩
        go_wp2_with fail
        refine (P1 _).mono ?_
        rintro e w2 ⟨rfl, hb2⟩
        go_wp2_with fail
        refine (P2 _).mono ?_
        rintro e w3 ⟨rfl, hb3⟩
        go_wp2
        go_ret3
        exact ⟨_, _, _, rfl, HN.out, by omega, ((Below.dN (Below.refl _ w) n).trans hb2).trans (hb3.mono hb2.size)⟩
end Go.Proofs.YtnlbjknfahhfaaaGreatDoor

/- The code's commandFrom of layer 13, walked: a line that says a command with numbers. -/
set_option maxRecDepth 20000
namespace Go.Proofs.YtnlbjknfahhfaaaGreatDoor
open Go.RowKit

theorem suf_byte (s : List UInt8) (c : UInt8) : Lib.hasSuffix s [c] = (s.getLast? == some c) := by
  unfold Lib.hasSuffix
  rw [Bool.eq_iff_iff, List.isSuffixOf_iff_suffix, beq_iff_eq]
  constructor
  · rintro ⟨t, rfl⟩
    simp
  · intro h
    obtain ⟨t, rfl⟩ := List.getLast?_eq_some_iff.1 h
    exact ⟨t, rfl⟩
theorem trim_byte (s : List UInt8) (c : UInt8) : Lib.trimSuffix s [c] = if (s.getLast? == some c) = true then s.dropLast else s := by
  unfold Lib.trimSuffix
  rw [suf_byte, List.dropLast_eq_take]
  rfl
theorem lns_bd {s : List UInt8} {p n : Int} (h : lnsP s = some (p, n)) : 1 ≤ p ∧ p ≤ 2147483647 ∧ 1 ≤ n ∧ p + n - 1 ≤ 2147483647 := by
  unfold lnsP at h
  split at h
  · rename_i x c y _
    have h1 := @prs_num x
    have h2 := @prs_num y
    split at h
    · rename_i hq
      cases h
      omega
    · cases h
  · have h1 := @prs_num s
    split at h
    · cases h
      omega
    · cases h
/-- what commandFrom answers -/
def CmQ (w : World) (s : List UInt8) (e : Ending) (w' : World) : Prop := ∃ x y t r, e = .returned (.tuple #[.agg #[.int .i64 x, .int .i64 y, .bool t], .bool r]) ∧ cmF s = (if r = true then some (x, y, t) else none) ∧ (-1 ≤ x ∧ x ≤ 2147483647 ∧ 0 ≤ y ∧ y ≤ 2147483647) ∧ Below w.heap.size w w'
/-- a command in a box -/
def Cb (u : World) (B : Nat) (v0 v1 v2 : Value) : Prop := u.heap[B]? = some (.cells #[v0, v1, v2] 109 (0, 0))
section
variable {u u' : World} {B : Nat} {v0 v1 v2 : Value}
theorem Cb.lt (h : Cb u B v0 v1 v2) : B < u.heap.size := (Array.getElem?_eq_some_iff.1 h).1
theorem Cb.low (h : Cb u B v0 v1 v2) (hg : Below u.heap.size u u') : Cb u' B v0 v1 v2 := (hg.block B h.lt).trans h
theorem Cb.cells (h : Cb u B v0 v1 v2) : u.cell? ⟨B, 0, none⟩ = some v0 ∧ u.cell? ⟨B, 1, none⟩ = some v1 ∧ u.cell? ⟨B, 2, none⟩ = some v2 := by
  unfold Cb at h
  exact ⟨by rw [Lib.cell_of_heap h]; rfl, by rw [Lib.cell_of_heap h]; rfl, by rw [Lib.cell_of_heap h]; rfl⟩
theorem Cb.frozen (h : Cb u B v0 v1 v2) (j : Nat) : u.frozen? ⟨B, j, none⟩ = false := by
  unfold Cb at h
  simp [World.frozen?, h]
theorem Cb.put (h : Cb u B v0 v1 v2) (z0 z1 z2 : Value) : Cb (((u.setCell ⟨B, 0, none⟩ z0).setCell ⟨B, 1, none⟩ z1).setCell ⟨B, 2, none⟩ z2) B z0 z1 z2 := by
  have s1 := heap_setCell_same u B 0 _ _ z0 h
  have s2 := heap_setCell_same _ B 1 _ _ z1 s1
  exact heap_setCell_same _ B 2 _ _ z2 s2
end
theorem cb_low {w u : World} (h : Below w.heap.size w u) (z0 z1 z2 : Value) : Below w.heap.size w (((u.setCell ⟨w.heap.size, 0, none⟩ z0).setCell ⟨w.heap.size, 1, none⟩ z1).setCell ⟨w.heap.size, 2, none⟩ z2) :=
  ((h.setCell (Nat.le_refl _) _).setCell (Nat.le_refl _) _).setCell (Nat.le_refl _) _
set_option maxRecDepth 10000 in
set_option maxHeartbeats 8000000 in
theorem commandFrom_f (s : List UInt8) (w : World) (hl : s.length ≤ 1099511627776) :
    Calls Tryz.prog 54 #[.string ⟨s.toArray⟩] w fun e w' => CmQ w s e w' := by
  have hb0 : Below w.heap.size w (w.alloc (.cells #[.int .i64 0, .int .i64 0, .bool false] 109)) := (Below.refl _ w).alloc (Nat.le_refl _) _
  have hc0 : Cb (w.alloc (.cells #[.int .i64 0, .int .i64 0, .bool false] 109)) w.heap.size (.int .i64 0) (.int .i64 0) (.bool false) := _root_.Go.heap_alloc_new w _
  have hcs : ∀ (c : UInt8) (u : World), Calls Tryz.prog 35 #[.string ⟨s.toArray⟩, .string ⟨#[c]⟩] u fun e w' => e = .returned (.tuple #[.string ⟨(if (s.getLast? == some c) = true then s.dropLast else s).toArray⟩, .bool (s.getLast? == some c)]) ∧ u = w' := (by
    intro c u
    refine (Tryz.strings_CutSuffix ⟨s.toArray⟩ ⟨#[c]⟩ u (by show s.length ≤ _; omega)).mono ?_
    rintro e w' ⟨rfl, rfl⟩
    rw [← trim_byte, ← suf_byte]
    exact ⟨rfl, rfl⟩)
  obtain ⟨w0, hw0⟩ : ∃ w0, w.alloc (.cells #[.int .i64 0, .int .i64 0, .bool false] 109) = w0 := ⟨_, rfl⟩
  rw [hw0] at hb0 hc0
  have hsl : s.dropLast.length ≤ 1099511627776 := by rw [List.length_dropLast]; omega
  have k1 := hcs 97
  have k2 := hcs 99
  have k3 := hcs 100
  by_cases h1 : s.getLast? = some 97
  · have e1 : (s.getLast? == some 97) = true := beq_iff_eq.2 h1
    rw [e1, if_pos rfl] at k1
    have hv := nParse_any s.dropLast
    have b1 := @prs_num s.dropLast
    obtain ⟨V, hV⟩ : ∃ V, Pn.parseV s.dropLast = V := ⟨_, rfl⟩
    obtain ⟨E, hE⟩ : ∃ V, Pn.parseE s.dropLast = V := ⟨_, rfl⟩
    rw [hV, hE] at hv
    rw [hV] at b1
    obtain ⟨r, hr⟩ : ∃ r, (E == 0) = r := ⟨_, rfl⟩
    have HC : Hid (cmF s = if r = true then some (V, V, true) else none) := (by
      show _ = _
      unfold cmF
      rw [h1]
      dsimp only
      rw [if_pos rfl, hV, hE, ← hr]
      by_cases hq : E = 0
      · rw [if_pos hq, if_pos (by rw [hq]; rfl)]
      · rw [if_neg hq, if_neg (by simpa using hq)])
    clear hcs k2 k3 h1 e1 hV hE
    go_enter Tryz.func54, Tryz.ntmps54
    go_wp2_with fail
    refine (k1 _).mono ?_
    rintro e w1 ⟨rfl, rfl⟩
    go_wp2_with fail
    refine (hv _ (by unfold maxLen; omega)).mono ?_
    rintro e w2 ⟨rfl, hb2⟩
    have hc2 := hc0.low hb2
    obtain ⟨d0, d1, d2⟩ := hc2.cells
    have f0 := hc2.frozen 0
    have f1 := hc2.frozen 1
    have f2 := hc2.frozen 2
    have hP := hc2.put (.int .i64 V) (.int .i64 V) (.bool true)
    go_wp2
    refine bodyPost_ret (efr_cell rfl _ _ w.heap.size 109 #[.int .i64 V, .int .i64 V, .bool true] (0, 0) _ rfl hP Tryz.underlying109 rfl (by kernel_rfl)) rfl ?_
    exact ⟨_, _, _, _, rfl, HC.out, by omega, cb_low (hb0.trans (hb2.mono hb0.size)) _ _ _⟩
  · have e1 : (s.getLast? == some 97) = false := beq_eq_false_iff_ne.2 h1
    rw [e1, if_neg (by decide)] at k1
    by_cases h2 : s.getLast? = some 99
    · have e2 : (s.getLast? == some 99) = true := beq_iff_eq.2 h2
      rw [e2, if_pos rfl] at k2
      have HC : Hid (∀ (x y : Int) (r : Bool), lnsP s.dropLast = (if r = true then some (x + 1, y - x) else none) → cmF s = if r = true then some (x, y, true) else none) := (by
        intro x y r hq
        unfold cmF
        rw [h2]
        dsimp only
        rw [if_neg (by decide), if_pos rfl, hq]
        cases r with
        | true => simp only [if_true]; congr 3; all_goals omega
        | false => rfl)
      clear hcs k3 h1 e1 h2 e2
      go_enter Tryz.func54, Tryz.ntmps54
      go_wp2_with fail
      refine (k1 _).mono ?_
      rintro e w1 ⟨rfl, rfl⟩
      go_wp2_with fail
      refine (k2 _).mono ?_
      rintro e w1 ⟨rfl, rfl⟩
      go_wp2_with fail
      refine (rangeFrom_f s.dropLast _ hsl).mono ?_
      rintro e w2 ⟨x, y, r, rfl, hq, hxy, hb2⟩
      have HC2 : Hid (cmF s = if r = true then some (x, y, true) else none) := HC.out x y r hq
      clear hq HC
      have hc2 := hc0.low hb2
      obtain ⟨d0, d1, d2⟩ := hc2.cells
      have f0 := hc2.frozen 0
      have f1 := hc2.frozen 1
      have f2 := hc2.frozen 2
      have hP := hc2.put (.int .i64 x) (.int .i64 y) (.bool true)
      go_wp2
      refine bodyPost_ret (efr_cell rfl _ _ w.heap.size 109 #[.int .i64 x, .int .i64 y, .bool true] (0, 0) _ rfl hP Tryz.underlying109 rfl (by kernel_rfl)) rfl ?_
      exact ⟨_, _, _, _, rfl, HC2.out, hxy, cb_low (hb0.trans (hb2.mono hb0.size)) _ _ _⟩
    · have e2 : (s.getLast? == some 99) = false := beq_eq_false_iff_ne.2 h2
      rw [e2, if_neg (by decide)] at k2
      by_cases h3 : s.getLast? = some 100
      · have e3 : (s.getLast? == some 100) = true := beq_iff_eq.2 h3
        rw [e3, if_pos rfl] at k3
        have HC : Hid (∀ (x y : Int) (r : Bool), lnsP s.dropLast = (if r = true then some (x + 1, y - x) else none) → cmF s = if r = true then some (x, y, false) else none) := (by
          intro x y r hq
          unfold cmF
          rw [h3]
          dsimp only
          rw [if_neg (by decide), if_neg (by decide), if_pos rfl, hq]
          cases r with
          | true => simp only [if_true]; congr 3; all_goals omega
          | false => rfl)
        clear hcs h1 e1 h2 e2 h3 e3
        go_enter Tryz.func54, Tryz.ntmps54
        go_wp2_with fail
        refine (k1 _).mono ?_
        rintro e w1 ⟨rfl, rfl⟩
        go_wp2_with fail
        refine (k2 _).mono ?_
        rintro e w1 ⟨rfl, rfl⟩
        go_wp2_with fail
        refine (k3 _).mono ?_
        rintro e w1 ⟨rfl, rfl⟩
        go_wp2_with fail
        refine (rangeFrom_f s.dropLast _ hsl).mono ?_
        rintro e w2 ⟨x, y, r, rfl, hq, hxy, hb2⟩
        have HC2 : Hid (cmF s = if r = true then some (x, y, false) else none) := HC.out x y r hq
        clear hq HC
        have hc2 := hc0.low hb2
        obtain ⟨d0, d1, d2⟩ := hc2.cells
        have f0 := hc2.frozen 0
        have f1 := hc2.frozen 1
        have f2 := hc2.frozen 2
        have hP := hc2.put (.int .i64 x) (.int .i64 y) (.bool false)
        go_wp2
        refine bodyPost_ret (efr_cell rfl _ _ w.heap.size 109 #[.int .i64 x, .int .i64 y, .bool false] (0, 0) _ rfl hP Tryz.underlying109 rfl (by kernel_rfl)) rfl ?_
        exact ⟨_, _, _, _, rfl, HC2.out, hxy, cb_low (hb0.trans (hb2.mono hb0.size)) _ _ _⟩
      · have e3 : (s.getLast? == some 100) = false := beq_eq_false_iff_ne.2 h3
        rw [e3, if_neg (by decide)] at k3
        have HC : Hid (cmF s = none) := (by
          show _ = _
          unfold cmF
          cases hg : s.getLast? with
          | none => rfl
          | some c =>
            rw [hg] at h1 h2 h3
            dsimp only
            rw [if_neg (fun q => h1 (by rw [q])), if_neg (fun q => h2 (by rw [q])), if_neg (fun q => h3 (by rw [q]))])
        clear hcs h1 e1 h2 e2 h3 e3
        go_enter Tryz.func54, Tryz.ntmps54
        go_wp2_with fail
        refine (k1 _).mono ?_
        rintro e w1 ⟨rfl, rfl⟩
        go_wp2_with fail
        refine (k2 _).mono ?_
        rintro e w1 ⟨rfl, rfl⟩
        go_wp2_with fail
        refine (k3 _).mono ?_
        rintro e w1 ⟨rfl, rfl⟩
        obtain ⟨d0, d1, d2⟩ := hc0.cells
        have f0 := hc0.frozen 0
        have f1 := hc0.frozen 1
        have f2 := hc0.frozen 2
        have hP := hc0.put (.int .i64 0) (.int .i64 0) (.bool false)
        go_wp2
        refine bodyPost_ret (efr_cell rfl _ _ w.heap.size 109 #[.int .i64 0, .int .i64 0, .bool false] (0, 0) _ rfl hP Tryz.underlying109 rfl (by kernel_rfl)) rfl ?_
        exact ⟨_, _, _, _, rfl, HC.out, by omega, cb_low hb0 _ _ _⟩
/-- a command with numbers names lines from 0 on, in order -/
theorem cmF_bd {s : List UInt8} {i j : Int} {t : Bool} (h : cmF s = some (i, j, t)) : 0 ≤ i ∧ i ≤ j ∧ j ≤ 2147483647 := by
  unfold cmF at h
  split at h
  · cases h
  · split at h
    · split at h
      · cases h
        have := @prs_num s.dropLast
        omega
      · cases h
    · split at h
      · split at h
        · cases h
        · rename_i p n hq
          have := lns_bd hq
          cases h
          omega
      · split at h
        · split at h
          · cases h
          · rename_i p n hq
            have := lns_bd hq
            cases h
            omega
        · cases h
end Go.Proofs.YtnlbjknfahhfaaaGreatDoor

/- The lines of a text: Split of layer lines and of the reference, walked anew over the normal form's texts. -/
set_option maxRecDepth 20000
namespace Go.Proofs.YtnlbjknfahhfaaaGreatDoor
open Ln Go.RowKit
attribute [local go_sem] no_at ByteArray.extract_mk

theorem sc_snoc (ws : List (List UInt8)) (a : List UInt8) : scells (ws ++ [a]) = scells ws ++ [.string ⟨a.toArray⟩] := by simp [scells]
theorem sp_one (a : ByteArray) : ∀ u ∈ [Value.string a], u.oneCell' = true := by intro u hu; simp at hu; subst hu; rfl
theorem sp_cells (w : World) (C : List Value) (t : TypeId) : ∀ j u, C[j]? = some u → (w.alloc (.cells C.toArray t)).cell? ((⟨w.heap.size, 0, none⟩ : Addr).add j) = some u := by
  intro j u hj
  have hadd : (⟨w.heap.size, 0, none⟩ : Addr).add j = ⟨w.heap.size, j, none⟩ := by unfold Addr.add; split <;> simp_all
  rw [hadd, cell_of_row _ w.heap.size j C.toArray t (0, 0) (_root_.Go.heap_alloc_new w _)]
  simpa using hj

theorem sp_is10 {x : UInt8} (h : x = 10) : ((x.toNat : Int) == 10) = true ∧ ((x.toNat : Int) != 10) = false := by subst h; exact ⟨rfl, rfl⟩
theorem sp_not10 {x : UInt8} (h : x ≠ 10) : ((x.toNat : Int) == 10) = false ∧ ((x.toNat : Int) != 10) = true := by
  have h1 : x.toNat ≠ 10 := fun e => h (UInt8.toNat_inj.1 (by simpa using e))
  have h2 : ((x.toNat : Int) == 10) = false := beq_eq_false_iff_ne.2 (by omega)
  exact ⟨h2, by unfold bne; rw [h2]; rfl⟩

def sizeT : Value → Nat
  | .string s => s.size
  | _ => 0
theorem sizeT_mk (r : List UInt8) : sizeT (.string ⟨r.toArray⟩) = r.length := rfl
theorem acc_le {acc : List (List UInt8)} {r l : List UInt8} (h : acc ++ splitL r = splitL l) : acc.length ≤ l.length := by
  have h1 := congrArg List.length h
  have h2 := split_len l
  rw [List.length_append] at h1
  omega

set_option maxRecDepth 20000 in
set_option maxHeartbeats 2000000 in
theorem nSplit_f (l : List UInt8) (w : World) (hl : l.length ≤ 1099511627776) :
    Calls Tryz.prog 8 #[.string ⟨l.toArray⟩] w fun e w' => ∃ v, e = .returned v ∧ w'.ownsRow w.heap.size 9 1 v (splitL l).length (scells (splitL l)) ∧ Below w.heap.size w w' := by
  obtain ⟨i0, hi, hz0, hz1, hz2⟩ := info_parts infoStr
  go_enter Tryz.func8, Tryz.ntmps8
  go_wp2
  go_loopw [0, 3, 4] (fun s acc _ wr => ∃ (xs : List (List UInt8)) (r : List UInt8), s = .string ⟨r.toArray⟩ ∧ wr.ownsRow w.heap.size 9 1 acc xs.length (scells xs) ∧ Below w.heap.size w wr ∧ r.length ≤ l.length ∧ xs ++ splitL r = splitL l) (fun s _ _ _ => sizeT s)
  case atStart => exact ⟨[], l, rfl, World.ownsRow_nil _ _ _ _, Below.refl _ _, Nat.le_refl _, rfl⟩
  case round =>
    obtain ⟨acc, r, rfl, hown, hbr, hrl, hw⟩ := hrel
    have hacc := acc_le hw
    have HW : Hid (acc ++ splitL r = splitL l) := hw
    clear hw
    have hbz := hbr.size
    obtain ⟨ao, cap, rfl⟩ := (holds_of hown).form
    rcases Int.lt_or_le (Lib.indexByte r 10) 0 with hq | hq
    · obtain ⟨q1, q2⟩ := index_none hq
      clear hq
      cases r with
      | nil =>
        have HE : Hid (splitL l = acc) := by have := HW.out; show _ = _; simpa [splitL] using this.symm
        go_wp2_with fail
        refine (Tryz.strings_Index_one ⟨([] : List UInt8).toArray⟩ 10 _).mono ?_
        rintro e w1 ⟨rfl, rfl⟩
        go_wp2
        go_ret
        rw [HE.out]
        exact ⟨_, rfl, hown, hbr⟩
      | cons c t =>
        have HE : Hid (splitL l = acc ++ [c :: t]) := by
          have := HW.out
          rw [split_one _ q2 (by simp)] at this
          exact this.symm
        clear q2
        go_wp2_with fail
        refine (Tryz.strings_Index_one ⟨(c :: t).toArray⟩ 10 _).mono ?_
        rintro e w1 ⟨rfl, rfl⟩
        have hi2 : Lib.indexByte (⟨(c :: t).toArray⟩ : ByteArray).data.toList 10 = -1 := q1
        rw [hi2]
        go_wp2_with (at_builtin; refine wpList_append_own _ rfl _ _ 23 rfl w.heap.size 9 i0 (.string ⟨#[]⟩) 1 16 Tryz.underlying23 hi hz0 hz1 hz2 rfl (by decide) _ _ _ rfl (hown.alloc _) ⟨w1.heap.size, 0, none⟩ 1 1 [.string ⟨(c :: t).toArray⟩] rfl rfl (sp_cells _ _ _) (sp_one _) ?c3 ?c4 ?c5 ?_)
        case c3 => unfold maxLen; omega
        case c4 => omega
        case c5 => simp; omega
        intro v' w3 hown3 hgrow hfr
        have hbr3 := (hbr.alloc hbz (.cells #[.string ⟨(c :: t).toArray⟩] 9)).grown hgrow (by simp; omega) (fun j hj => (hown.lt j hj).1)
        go_wp2
        go_ret
        rw [HE.out, sc_snoc]
        exact ⟨_, rfl, by simpa using hown3, hbr3⟩
    · obtain ⟨a, b, rfl, hn, he⟩ := index_some hq
      have HE : Hid (acc ++ [a ++ [10]] ++ splitL b = splitL l) := by
        have := HW.out
        rw [split_cut a b hn] at this
        show _ = _
        simpa using this
      clear hn hq
      have hlen : (a ++ 10 :: b).length = a.length + 1 + b.length := by simp; omega
      have ht : (a ++ 10 :: b).take (a.length + 1) = a ++ [10] := by
        rw [show a ++ 10 :: b = (a ++ [10]) ++ b by simp, List.take_left' (by simp)]
      have hd : (a ++ 10 :: b).drop (a.length + 1) = b := by
        rw [show a ++ 10 :: b = (a ++ [10]) ++ b by simp, List.drop_left' (by simp)]
      generalize a ++ 10 :: b = r at *
      have i1 : 0 ≤ (a.length : Int) + 1 := by omega
      have i2 : (a.length : Int) + 1 ≤ (r.length : Int) := by omega
      have i3 : ((a.length : Int) + 1).toNat = a.length + 1 := by omega
      go_wp2_with fail
      refine (Tryz.strings_Index_one ⟨r.toArray⟩ 10 _).mono ?_
      rintro e w1 ⟨rfl, rfl⟩
      have hi2 : Lib.indexByte (⟨r.toArray⟩ : ByteArray).data.toList 10 = a.length := he
      rw [hi2]
      go_wp2_with (at_builtin; refine wpList_append_own _ rfl _ _ 23 rfl w.heap.size 9 i0 (.string ⟨#[]⟩) 1 16 Tryz.underlying23 hi hz0 hz1 hz2 rfl (by decide) _ _ _ rfl (hown.alloc _) ⟨w1.heap.size, 0, none⟩ 1 1 [.string ⟨(a ++ [10]).toArray⟩] rfl rfl (sp_cells _ _ _) (sp_one _) ?c3 ?c4 ?c5 ?_)
      case c3 => unfold maxLen; omega
      case c4 => omega
      case c5 => simp; omega
      intro v' w3 hown3 hgrow hfr
      have hbr3 := (hbr.alloc hbz (.cells #[.string ⟨(a ++ [10]).toArray⟩] 9)).grown hgrow (by simp; omega) (fun j hj => (hown.lt j hj).1)
      go_wp2
      go_roundw
      case rel => exact ⟨acc ++ [a ++ [10]], b, rfl, by rw [sc_snoc]; simpa using hown3, hbr3, by omega, HE.out⟩
      case measure => rw [sizeT_mk, sizeT_mk]; omega
def Clean (l : List UInt8) (p k : Nat) : Prop := ∀ c ∈ (l.drop p).take (k - p), c ≠ 10

theorem clean_refl (l : List UInt8) (k : Nat) : Clean l k k := by intro c hc; simp at hc
theorem clean_step {l : List UInt8} {p k : Nat} (h : Clean l p k) (hp : p ≤ k) (hk : k < l.length) (h10 : l[k] ≠ 10) : Clean l p (k + 1) := by
  intro c hc
  rw [show k + 1 - p = (k - p) + 1 by omega, List.take_succ_eq_append_getElem (by simp; omega)] at hc
  simp only [List.mem_append, List.mem_singleton] at hc
  rcases hc with hc | hc
  · exact h c hc
  · rw [hc]
    simpa [show p + (k - p) = k by omega] using h10
theorem clean_feed {l : List UInt8} {p k : Nat} (h : Clean l p k) (hp : p ≤ k) (hk : k < l.length) (h10 : l[k] = 10) : splitL (l.drop p) = (l.drop p).take (k + 1 - p) :: splitL (l.drop (k + 1)) := by
  have e : l.drop p = (l.drop p).take (k - p) ++ 10 :: l.drop (k + 1) := by
    have h1 := (List.take_append_drop (k - p) (l.drop p)).symm
    rw [List.drop_drop, show p + (k - p) = k by omega, List.drop_eq_getElem_cons hk, h10] at h1
    exact h1
  have e2 : (l.drop p).take (k + 1 - p) = (l.drop p).take (k - p) ++ [10] := by
    rw [show k + 1 - p = (k - p) + 1 by omega, List.take_succ_eq_append_getElem (by simp; omega)]
    simp [show p + (k - p) = k by omega, h10]
  rw [e2]
  conv => lhs; rw [e]
  exact split_cut _ _ h
theorem clean_end {l : List UInt8} {p : Nat} (h : Clean l p l.length) (hp : p < l.length) : splitL (l.drop p) = [l.drop p] := by
  refine split_one _ (fun c hc => h c ?_) (by intro e; have := congrArg List.length e; simp at this; omega)
  rw [List.take_of_length_le (by simp)]
  exact hc

end Go.Proofs.YtnlbjknfahhfaaaGreatDoor

/- The editor of layer 13 as it lies in memory; its line, cutCurrent and result, walked. -/
set_option maxRecDepth 20000
namespace Go.Proofs.YtnlbjknfahhfaaaGreatDoor
open Go.RowKit

theorem HB.set {w : World} {N : Nat} {x : Bck} (h : HB w N x) (j : Nat) (hj : j < x.xs.length) (s : List UInt8) : HB (w.setCell ⟨x.g, x.o + j, none⟩ (.string ⟨s.toArray⟩)) N ⟨x.g, x.o, x.c, x.xs.set j s⟩ := by
  obtain ⟨h0, h1, cs, h2, h3⟩ := h
  refine ⟨h0, by dsimp only; rw [List.length_set]; exact h1, _, heap_setCell_same w x.g (x.o + j) _ _ _ h2, fun k hk => ?_⟩
  dsimp only at hk ⊢
  rw [List.length_set] at hk
  have hlt : x.o + j < cs.size := by
    have := h3 j hj
    exact (Array.getElem?_eq_some_iff.1 this).1
  by_cases e : k = j
  · subst e
    rw [Array.getElem?_setIfInBounds_self_of_lt hlt, List.getElem_set_self]
  · rw [Array.getElem?_setIfInBounds_ne (by omega), h3 k hk, List.getElem_set_ne (by omega)]
/-- a store into a block leaves those that lie apart -/
theorem HB.other {w : World} {N : Nat} {x y : Bck} (h : HB w N y) (ha : Apart x y) (j : Nat) (hj : j < x.xs.length) (s : Value) : HB (w.setCell ⟨x.g, x.o + j, none⟩ s) N y := by
  obtain ⟨h0, h1, cs, h2, h3⟩ := h
  by_cases e : x.g = y.g
  · rw [← e] at h2
    refine ⟨h0, h1, _, by rw [← e]; exact heap_setCell_same w x.g (x.o + j) _ _ _ h2, fun k hk => ?_⟩
    have hne : x.o + j ≠ y.o + k := by
      rcases ha with h | h | h
      · exact absurd e h
      · omega
      · omega
    rw [Array.getElem?_setIfInBounds_ne hne]
    exact h3 k hk
  · exact ⟨h0, h1, cs, (heap_setCell_other _ _ _ _ (fun q => e q.symm)).trans h2, h3⟩
theorem cat_set (X : List Bck) (i : Nat) (hi : i < X.length) (y : Bck) : cat (X.set i y) = cat (X.take i) ++ (y.xs ++ cat (X.drop (i + 1))) := by
  rw [List.set_eq_take_append_cons_drop, if_pos hi, cat_append, cat_cons]
/-- one line is changed where it stands -/
theorem Bks.set {w : World} {N : Nat} {v : Value} {X : List Bck} (h : Bks w N v X) (i : Nat) (hi : i < X.length) (j : Nat) (hj : j < X[i].xs.length) (s : List UInt8) :
    Bks (w.setCell ⟨X[i].g, X[i].o + j, none⟩ (.string ⟨s.toArray⟩)) N v (X.set i ⟨X[i].g, X[i].o, X[i].c, X[i].xs.set j s⟩) := by
  have hbi := h.blk X[i] (List.getElem_mem _)
  obtain ⟨o, c, cs, h1, h2, h3, h4, h5⟩ := h.row
  have hne : o ≠ X[i].g := by
    rintro rfl
    obtain ⟨_, _, cs2, q, _⟩ := hbi
    rw [h4] at q
    cases q
  have hap : ∀ k (hk : k < X.length), k ≠ i → Apart X[i] X[k] := by
    intro k hk hki
    have hp := List.pairwise_iff_getElem.1 h.apart
    rcases Nat.lt_or_gt_of_ne hki with q | q
    · have := hp k i hk hi q
      unfold Apart at this ⊢
      rcases this with r | r | r
      · exact .inl (fun e => r e.symm)
      · exact .inr (.inr r)
      · exact .inr (.inl r)
    · exact hp i k hi hk q
  refine ⟨⟨o, c, cs, by rw [List.length_set]; exact h1, by rw [List.length_set]; exact h2, h3, (heap_setCell_other _ _ _ _ hne).trans h4, fun k hk => ?_⟩, ?_, ?_, ?_⟩
  · rw [List.length_set] at hk
    rw [h5 k hk]
    by_cases e : k = i
    · subst e
      rw [List.getElem_set_self]
      unfold Bck.v
      dsimp only
      rw [List.length_set]
    · rw [List.getElem_set_ne (by omega)]
  · intro q
    have := congrArg List.length q
    rw [List.length_set] at this
    simp at this
    exact h.ne this
  · intro y hy
    obtain ⟨k, hk, rfl⟩ := List.getElem_of_mem hy
    rw [List.length_set] at hk
    by_cases e : k = i
    · subst e
      rw [List.getElem_set_self]
      exact hbi.set j hj s
    · rw [List.getElem_set_ne (by omega)]
      exact (h.blk X[k] (List.getElem_mem _)).other (hap k hk e) j hj _
  · rw [List.pairwise_iff_getElem]
    intro k m hk hm hkm
    rw [List.length_set] at hk hm
    have hp := List.pairwise_iff_getElem.1 h.apart k m hk hm hkm
    have key : ∀ q (hq : q < X.length), ((X.set i ⟨X[i].g, X[i].o, X[i].c, X[i].xs.set j s⟩)[q]'(by rw [List.length_set]; exact hq)).g = X[q].g ∧ ((X.set i ⟨X[i].g, X[i].o, X[i].c, X[i].xs.set j s⟩)[q]'(by rw [List.length_set]; exact hq)).o = X[q].o ∧ ((X.set i ⟨X[i].g, X[i].o, X[i].c, X[i].xs.set j s⟩)[q]'(by rw [List.length_set]; exact hq)).xs.length = X[q].xs.length := by
      intro q hq
      by_cases e : q = i
      · subst e
        rw [List.getElem_set_self]
        exact ⟨rfl, rfl, by dsimp only; rw [List.length_set]⟩
      · rw [List.getElem_set_ne (by omega)]
        exact ⟨rfl, rfl, rfl⟩
    obtain ⟨a1, a2, a3⟩ := key k hk
    obtain ⟨b1, b2, b3⟩ := key m hm
    unfold Apart at hp ⊢
    rw [a1, a2, a3, b1, b2, b3]
    exact hp
/-- the editor in memory: W is the world in which its script was made -/
structure Ed (W : World) (g : Nat) (vs : Value) (S : List (List UInt8)) (p : Nat) (vl : Value) (X : List Bck) (cur : Nat) (en : Bool) (w : World) : Prop where
  scr : HS W vs S
  low : Below W.heap.size W w
  gW : W.heap.size ≤ g
  box : Eb w g vs vl (p : Int) ((cat X).length : Int) (cur : Int) en
  bks : Bks w W.heap.size vl X
  hp : p ≤ S.length
  hc : cur ≤ (cat X).length
section
variable {W w w' : World} {g : Nat} {vs vl : Value} {S : List (List UInt8)} {p cur : Nat} {X : List Bck} {en : Bool}
theorem Ed.keep (h : Ed W g vs S p vl X cur en w) (hb : Below w.heap.size w w') : Ed W g vs S p vl X cur en w' :=
  ⟨h.scr, h.low.trans (hb.mono h.low.size), h.gW, h.box.low hb, h.bks.low hb, h.hp, h.hc⟩
theorem Ed.row (h : Ed W g vs S p vl X cur en w) : HS w vs S := HS.keep h.scr h.low (Nat.le_refl _)
end
theorem bare_same (l : List UInt8) (hl : l.length ≤ 9223372036854775807) (w : World) : Calls Tryz.prog 14 #[.string ⟨l.toArray⟩] w fun e w' => e = .returned (.tuple #[.string ⟨(bareT l).toArray⟩, .bool (fdB l)]) ∧ w' = w :=
  (lBare_f l w hl).mono fun _ _ h => ⟨h.1, h.2.symm⟩
/-- the next line of the script -/
def nxE (S : List (List UInt8)) (p : Nat) : List UInt8 × Int := if h : p < S.length then if fdB S[p] = true then (S[p].dropLast, 0) else ([], 3) else ([], 1)
set_option maxRecDepth 10000 in
set_option maxHeartbeats 4000000 in
theorem eline_f (W : World) (g : Nat) (vs vl : Value) (S : List (List UInt8)) (p : Nat) (X : List Bck) (cur : Nat) (en : Bool) (w : World) (hE : Ed W g vs S p vl X cur en w) (hS : S.length ≤ 1099511627776) (HTS : Hid (∀ s ∈ S, s.length ≤ 1099511627776)) (t : List UInt8) (e0 : Int) (HN : Hid (nxE S p = (t, e0))) :
    Calls Tryz.prog 51 #[.pointer (some ⟨g, 0, none⟩)] w fun e w' => e = .returned (.tuple #[.string ⟨t.toArray⟩, .int .i64 e0]) ∧ Below w.heap.size w w' := by
  obtain ⟨c0, c1, _, _, _, _⟩ := hE.box.cells
  have hrow := hE.row
  have hpS := hE.hp
  obtain ⟨so, sc, rfl⟩ := Holds.form hrow
  clear hE
  by_cases hlt : p < S.length
  · obtain ⟨bk, off, rfl, hbk, hcl⟩ := HS.at hrow (by omega)
    have d4 := hcl p hlt
    have hsl := HTS.out S[p] (List.getElem_mem _)
    have hN := HN.out
    unfold nxE at hN
    rw [dif_pos hlt] at hN
    generalize S[p] = s at d4 hsl hN
    clear hcl hrow HN
    have f0 : ((p : Int) == (S.length : Int)) = false := beq_eq_false_iff_ne.2 (by omega)
    cases hf : fdB s with
    | true =>
      rw [if_pos hf] at hN
      cases hN
      have hbs : ∀ u, Calls Tryz.prog 14 #[.string ⟨s.toArray⟩] u fun e w' => e = .returned (.tuple #[.string ⟨s.dropLast.toArray⟩, .bool true]) ∧ w' = u := fun u => by
        have h := bare_same s (by omega) u
        unfold bareT at h
        rw [hf, if_pos rfl] at h
        exact h
      go_enter Tryz.func51, Tryz.ntmps51
      go_wp2_with fail
      go_quiet (fail)
      go_wp2_with fail
      have c0' : (w.drewN nq).cell? ⟨g, 0, none⟩ = _ := c0
      have c1' : (w.drewN nq).cell? ⟨g, 1, none⟩ = _ := c1
      have d4' : (w.drewN nq).cell? ⟨bk, off + p, none⟩ = _ := d4
      have HM : Hid (∀ n, Below w.heap.size w ((w.drewN nq).drewN n)) := fun n => Below.dN (Below.dN (Below.refl _ w) nq) n
      clear c0 c1 d4
      generalize w.drewN nq = W1 at c0' c1' d4' HM ⊢
      have j1 : (0 : Int) ≤ (p : Int) := by omega
      have j2 : (p : Int) < (S.length : Int) := by omega
      have j3 : (p : Int).toNat = p := by omega
      go_quiet ((go_at_call 14; exact Calls.quiet_of_same (hbs _)))
      go_wp2
      go_ret2
      exact ⟨rfl, HM.out _⟩
    | false =>
      rw [if_neg (by rw [hf]; decide)] at hN
      cases hN
      have hbs : ∀ u, Calls Tryz.prog 14 #[.string ⟨s.toArray⟩] u fun e w' => e = .returned (.tuple #[.string ⟨s.toArray⟩, .bool false]) ∧ w' = u := fun u => by
        have h := bare_same s (by omega) u
        unfold bareT at h
        rw [hf, if_neg (by decide)] at h
        exact h
      go_enter Tryz.func51, Tryz.ntmps51
      go_wp2_with fail
      go_quiet (fail)
      go_wp2_with fail
      have c0' : (w.drewN nq).cell? ⟨g, 0, none⟩ = _ := c0
      have c1' : (w.drewN nq).cell? ⟨g, 1, none⟩ = _ := c1
      have d4' : (w.drewN nq).cell? ⟨bk, off + p, none⟩ = _ := d4
      have HM : Hid (∀ n, Below w.heap.size w ((w.drewN nq).drewN n)) := fun n => Below.dN (Below.dN (Below.refl _ w) nq) n
      clear c0 c1 d4
      generalize w.drewN nq = W1 at c0' c1' d4' HM ⊢
      have j1 : (0 : Int) ≤ (p : Int) := by omega
      have j2 : (p : Int) < (S.length : Int) := by omega
      have j3 : (p : Int).toNat = p := by omega
      go_quiet ((go_at_call 14; exact Calls.quiet_of_same (hbs _)))
      go_wp2
      go_ret2
      exact ⟨rfl, HM.out _⟩
  · have hN := HN.out
    unfold nxE at hN
    rw [dif_neg hlt] at hN
    cases hN
    have f0 : ((p : Int) == (S.length : Int)) = true := beq_iff_eq.2 (by omega)
    have HM : Hid (∀ n, Below w.heap.size w (w.drewN n)) := fun n => Below.dN (Below.refl _ w) n
    clear hrow HN
    go_enter Tryz.func51, Tryz.ntmps51
    go_wp2_with fail
    go_quiet (fail)
    go_wp2
    go_ret2
    exact ⟨rfl, HM.out _⟩
end Go.Proofs.YtnlbjknfahhfaaaGreatDoor

/- The editor's steps of layer 13, walked: cutCurrent, text, do, putFurther. -/
set_option maxRecDepth 20000
namespace Go.Proofs.YtnlbjknfahhfaaaGreatDoor
open Go.RowKit
attribute [local go_sem] ByteArray.extract_mk

section
variable {W w w' : World} {g : Nat} {vs vl : Value} {S : List (List UInt8)} {p cur : Nat} {X : List Bck} {en : Bool}
/-- the blocks stay where all but the box stays -/
theorem Bks.bt {N : Nat} {v : Value} {p cnt cur : Int} (hk : Bks w N v X) (hE : Eb w g vs vl p cnt cur en) (hb : Bt g w w') : Bks w' N v X := by
  have kp : ∀ (k : Nat) (cs : Array Value) (t : TypeId), w.heap[k]? = some (.cells cs t (0, 0)) → t ≠ 81 → w'.heap[k]? = w.heap[k]? := by
    intro k cs t hk2 ht
    refine hb.block k (Array.getElem?_eq_some_iff.1 hk2).1 ?_
    rintro rfl
    unfold Eb at hE
    rw [hE] at hk2
    cases hk2
    exact ht rfl
  obtain ⟨o, c, cs, h1, h2, h3, h4, h5⟩ := hk.row
  refine ⟨⟨o, c, cs, h1, h2, h3, (kp _ _ _ h4 (by decide)).trans h4, h5⟩, hk.ne, fun y hy => ?_, hk.apart⟩
  obtain ⟨_, _, cs2, q2, _⟩ := hk.blk y hy
  exact (hk.blk y hy).keep (kp _ _ _ q2 (by decide))
theorem Ed.bt {p' : Nat} (h : Ed W g vs S p vl X cur en w) (hb : Bt g w w') (hE : Eb w' g vs vl (p' : Int) ((cat X).length : Int) (cur : Int) en) (hp : p' ≤ S.length) : Ed W g vs S p' vl X cur en w' :=
  ⟨h.scr, h.low.trans (hb.low h.gW h.low.size), h.gW, hE, h.bks.bt h.box hb, hp, h.hc⟩
end
theorem fnd_ex : ∀ (X : List Bck) (a : Nat), X ≠ [] → a ≤ (cat X).length → ∃ i k, Fnd X a i k
  | [], _, h, _ => absurd rfl h
  | [x], a, _, ha => ⟨0, a, by simp, by simpa [cat] using ha, by simp [cat], fun h => h, fun _ => rfl⟩
  | x :: y :: r, a, _, ha => by
    by_cases h : a ≤ x.xs.length
    · exact ⟨0, a, by simp, h, by simp [cat], fun h => h, fun _ => rfl⟩
    · obtain ⟨i, k, hf⟩ := fnd_ex (y :: r) (a - x.xs.length) (by simp) (by rw [cat_cons, List.length_append] at ha; omega)
      have hl := hf.lt
      refine ⟨i + 1, k, by simp at hl ⊢; omega, hf.le, ?_, fun _ => hf.pos (by omega), fun h0 => by omega⟩
      have := hf.eq
      rw [List.take_succ_cons, cat_cons, List.length_append]
      omega
theorem fnd_uniq {X : List Bck} {a i k i' k' : Nat} (h : Fnd X a i k) (h' : Fnd X a i' k') : i = i' ∧ k = k' := by
  have h1 := h.order h' (Nat.le_refl _)
  have h2 := h'.order h (Nat.le_refl _)
  have e : i = i' := by omega
  subst e
  have := h.eq
  have := h'.eq
  exact ⟨rfl, by omega⟩
theorem bline_at {N g q : Nat} {ao : Option Addr} {n c : Nat} {X : List Bck} {w : World} (hk : Bks w N (.slice ao n c) X) (hc : w.cell? ⟨g, q, none⟩ = some (.slice ao n c)) (hX : X.length ≤ 1099511627776) (hT : (cat X).length ≤ 1099511627776) {a i k : Nat} (h : Fnd X a i (k + 1)) (ha : a ≤ (cat X).length) :
    Calls Tryz.prog 80 #[.pointer (some ⟨g, q, none⟩), .int .i64 (a : Int)] w fun e w' => e = .returned (.pointer (some ⟨(X[i]'h.lt).g, (X[i]'h.lt).o + k, none⟩)) ∧ w' = w := by
  refine (bline_f N g q ao n c X w hk hc hX hT a (by have := h.eq; omega) ha).mono ?_
  rintro e w' ⟨i', k', h', rfl, rfl⟩
  obtain ⟨rfl, hkk⟩ := fnd_uniq h h'
  obtain rfl : k = k' := by omega
  exact ⟨rfl, rfl⟩
theorem fnd_get {X : List Bck} {a i k : Nat} (h : Fnd X a i (k + 1)) : (cat X).getD (a - 1) [] = ((X[i]'h.lt).xs)[k]'(by have := h.le; omega) := by
  have h1 := h.eq
  have h2 := h.le
  rw [cat_split X i h.lt, List.getD_eq_getElem?_getD, List.getElem?_append_right (by omega), List.getElem?_append_left (by omega), show a - 1 - (cat (X.take i)).length = k by omega, List.getElem?_eq_getElem (by omega)]
  rfl
theorem fnd_set {X : List Bck} {a i k : Nat} (h : Fnd X a i (k + 1)) (s : List UInt8) : cat (X.set i ⟨(X[i]'h.lt).g, (X[i]'h.lt).o, (X[i]'h.lt).c, (X[i]'h.lt).xs.set k s⟩) = (cat X).set (a - 1) s := by
  have h1 := h.eq
  have h2 := h.le
  rw [cat_set X i h.lt, cat_split X i h.lt, List.set_append_right _ _ (by omega), show a - 1 - (cat (X.take i)).length = k by omega, List.set_append_left _ _ (by omega)]
theorem tail_str (c : UInt8) (t : List UInt8) : (⟨(c :: t).toArray⟩ : ByteArray).extract 1 (⟨(c :: t).toArray⟩ : ByteArray).size = ⟨t.toArray⟩ := by
  have hs : (⟨(c :: t).toArray⟩ : ByteArray).size = t.length + 1 := rfl
  rw [hs, ByteArray.extract_mk]
  congr 1
  simp
theorem run_tail1 (c : UInt8) (t : List UInt8) (u : World) : (Instr.slice 9 (.string ⟨(c :: t).toArray⟩) (some (.int .i64 1)) none none).run Tryz.prog u = .ok (.string ⟨t.toArray⟩) u := by
  rw [run_slice_string_l (P := Tryz.prog) u 9 ⟨(c :: t).toArray⟩ Tryz.underlying9 .i64 1 (by decide) (by show (1 : Int) ≤ ((t.length + 1 : Nat) : Int); omega)]
  have := tail_str c t
  simp [this]
/-- how a step ends: an error at a place, or what is there then -/
def EdQ (W : World) (g : Nat) (vs : Value) (S : List (List UInt8)) (B : Nat) (r : Except (Nat × Int) (List (List UInt8) × Nat × Bool × Nat)) (e : Ending) (w' : World) : Prop :=
  match r with
  | .error (k, z) => e = .returned (.int .i64 z) ∧ z ≠ 0 ∧ ∃ p vl X cur en, k = p + 1 ∧ Ed W g vs S p vl X cur en w'
  | .ok (T, cur, en, p) => e = .returned (.int .i64 0) ∧ ∃ vl X, Ed W g vs S p vl X cur en w' ∧ cat X = T ∧ 512 * X.length ≤ B
/-- one line shorter -/
theorem Ed.cut {W w : World} {g : Nat} {vs vl : Value} {S : List (List UInt8)} {p cur : Nat} {X : List Bck} {en : Bool} (h : Ed W g vs S p vl X cur en w) {i k : Nat} (hF : Fnd X cur i (k + 1)) (s : List UInt8) :
    Ed W g vs S p vl (X.set i ⟨(X[i]'hF.lt).g, (X[i]'hF.lt).o, (X[i]'hF.lt).c, (X[i]'hF.lt).xs.set k s⟩) cur en (w.setCell ⟨(X[i]'hF.lt).g, (X[i]'hF.lt).o + k, none⟩ (.string ⟨s.toArray⟩)) := by
  have hb := h.bks.blk (X[i]'hF.lt) (List.getElem_mem _)
  have hc := fnd_set hF s
  have hl : (cat (X.set i ⟨(X[i]'hF.lt).g, (X[i]'hF.lt).o, (X[i]'hF.lt).c, (X[i]'hF.lt).xs.set k s⟩)).length = (cat X).length := by rw [hc, List.length_set]
  refine ⟨h.scr, h.low.setCell hb.1 _, h.gW, ?_, h.bks.set i hF.lt k (by have := hF.le; omega) s, h.hp, by rw [hl]; exact h.hc⟩
  rw [hl]
  have hne : g ≠ (X[i]'hF.lt).g := by
    intro e
    obtain ⟨_, _, cs, q, _⟩ := hb
    have hq := h.box
    unfold Eb at hq
    rw [e, q] at hq
    cases hq
  exact (heap_setCell_other _ _ _ _ hne).trans h.box
theorem Ed.setP {W w : World} {g : Nat} {vs vl : Value} {S : List (List UInt8)} {p cur : Nat} {X : List Bck} {en : Bool} (h : Ed W g vs S p vl X cur en w) (p' : Nat) (hp : p' ≤ S.length) (z : Int) (hz : z = (p' : Int)) : Ed W g vs S p' vl X cur en (w.setCell ⟨g, 1, none⟩ (.int .i64 z)) := by
  subst hz
  exact h.bt (Bt.set (Bt.of (Below.refl _ w)) 1 _) (h.box.setP _) hp
theorem Ed.setE {W w : World} {g : Nat} {vs vl : Value} {S : List (List UInt8)} {p cur : Nat} {X : List Bck} {en : Bool} (h : Ed W g vs S p vl X cur en w) : Ed W g vs S p vl X cur true (w.setCell ⟨g, 5, none⟩ (.bool true)) := by
  have hb := Bt.set (g := g) (Bt.of (Below.refl _ w)) 5 (.bool true)
  exact ⟨h.scr, h.low.trans (hb.low h.gW h.low.size), h.gW, h.box.setE true, h.bks.bt h.box hb, h.hp, h.hc⟩
theorem Ed.setU {W w : World} {g : Nat} {vs vl : Value} {S : List (List UInt8)} {p cur : Nat} {X : List Bck} {en : Bool} (h : Ed W g vs S p vl X cur en w) (c' : Nat) (hc : c' ≤ (cat X).length) (z : Int) (hz : z = (c' : Int)) : Ed W g vs S p vl X c' en (w.setCell ⟨g, 4, none⟩ (.int .i64 z)) := by
  subst hz
  have hb := Bt.set (g := g) (Bt.of (Below.refl _ w)) 4 (.int .i64 (c' : Int))
  exact ⟨h.scr, h.low.trans (hb.low h.gW h.low.size), h.gW, h.box.setU _, h.bks.bt h.box hb, h.hp, hc⟩
set_option maxRecDepth 10000 in
set_option maxHeartbeats 4000000 in
theorem cutCur_f (W : World) (g : Nat) (vs vl : Value) (S : List (List UInt8)) (p : Nat) (X : List Bck) (cur : Nat) (en : Bool) (w : World) (hE : Ed W g vs S p vl X cur en w) (hS : S.length ≤ 1099511627776) (hp1 : p < S.length) (hX : X.length ≤ 549755813888) (hT : (cat X).length ≤ 274877906944)
    (r : Except (Nat × Int) (List (List UInt8) × Nat × Bool × Nat)) (HR : Hid ((if cur = 0 ∨ (cat X).getD (cur - 1) [] = [] then .error (p + 1, 130) else .ok ((cat X).set (cur - 1) ((cat X).getD (cur - 1) []).tail, cur, en, p + 1)) = r)) :
    Calls Tryz.prog 52 #[.pointer (some ⟨g, 0, none⟩)] w fun e w' => EdQ W g vs S (512 * X.length) r e w' := by
  obtain ⟨_, c1, c2, _, c4, _⟩ := hE.box.cells
  by_cases h0 : cur = 0
  · have hr := HR.out
    rw [if_pos (.inl h0)] at hr
    subst hr
    subst h0
    go_enter Tryz.func52, Tryz.ntmps52
    go_wp2
    go_ret
    exact ⟨rfl, by decide, _, _, _, _, _, rfl, hE⟩
  · have hc0 : ((cur : Int) == 0) = false := beq_eq_false_iff_ne.2 (by omega)
    obtain ⟨o, c, _, rfl, _⟩ := hE.bks.row
    obtain ⟨i, k', hF⟩ := fnd_ex X cur hE.bks.ne hE.hc
    obtain ⟨k, rfl⟩ : ∃ k, k' = k + 1 := ⟨k' - 1, by have := hF.pos (by omega); omega⟩
    have hbl : ∀ u, u.heap = w.heap → Calls Tryz.prog 80 #[.pointer (some ⟨g, 2, none⟩), .int .i64 (cur : Int)] u fun e w' => e = .returned (.pointer (some ⟨(X[i]'hF.lt).g, (X[i]'hF.lt).o + k, none⟩)) ∧ w' = u := (by
      intro u hu
      have hb : Below w.heap.size w u → True := fun _ => trivial
      have hku : Bks u W.heap.size (.slice (some ⟨o, 0, none⟩) X.length c) X := (by
        obtain ⟨o1, c1, cs1, q1, q2, q3, q4, q5⟩ := hE.bks.row
        exact ⟨⟨o1, c1, cs1, q1, q2, q3, by rw [hu]; exact q4, q5⟩, hE.bks.ne, fun x hx => (hE.bks.blk x hx).keep (by rw [hu]), hE.bks.apart⟩)
      have hcu : u.cell? ⟨g, 2, none⟩ = some (.slice (some ⟨o, 0, none⟩) X.length c) := (by
        rw [← c2]
        unfold World.cell?
        rw [hu])
      exact bline_at hku hcu (by omega) (by omega) hF hE.hc)
    have hget := fnd_get hF
    have hcell := (hE.bks.blk (X[i]'hF.lt) (List.getElem_mem _)).cell k (by have := hF.le; omega)
    obtain ⟨s, hs⟩ : ∃ s, (X[i]'hF.lt).xs[k]'(by have := hF.le; omega) = s := ⟨_, rfl⟩
    rw [hs] at hget hcell
    have hcut := fun t => hE.cut hF t
    have hcat := fun t => fnd_set hF t
    obtain ⟨l1, l2⟩ := hcell
    have hr := HR.out
    have HCT : Hid (∀ t, Ed W g vs S p (.slice (some ⟨o, 0, none⟩) X.length c) (X.set i ⟨(X[i]'hF.lt).g, (X[i]'hF.lt).o, (X[i]'hF.lt).c, (X[i]'hF.lt).xs.set k t⟩) cur en (w.setCell ⟨(X[i]'hF.lt).g, (X[i]'hF.lt).o + k, none⟩ (.string ⟨t.toArray⟩))) := hcut
    have HCC : Hid (∀ t, cat (X.set i ⟨(X[i]'hF.lt).g, (X[i]'hF.lt).o, (X[i]'hF.lt).c, (X[i]'hF.lt).xs.set k t⟩) = (cat X).set (cur - 1) t) := hcat
    clear hcut hcat HR
    rw [hget] at hr
    cases s with
    | nil =>
      rw [if_pos (.inr rfl)] at hr
      subst hr
      have hM : Hid (∀ n, Ed W g vs S p (.slice (some ⟨o, 0, none⟩) X.length c) X cur en (w.drewN n)) := fun n => hE.keep (Below.dN (Below.refl _ w) n)
      clear hE HCT HCC hs hget
      generalize (X[i]'hF.lt).g = xg at *
      generalize (X[i]'hF.lt).o = xo at *
      have l1' : ∀ n, (w.drewN n).cell? ⟨xg, xo + k, none⟩ = some (.string ⟨#[]⟩) := fun n => l1
      go_enter Tryz.func52, Tryz.ntmps52
      go_wp2_with fail
      go_quiet ((go_at_call 80; exact Calls.quiet_of_same (hbl _ rfl)))
      go_wp2
      go_ret
      exact ⟨rfl, by decide, _, _, _, _, _, rfl, hM.out _⟩
    | cons ch t =>
      rw [if_neg (by simp [h0])] at hr
      subst hr
      have hM : Hid (∀ n, Ed W g vs S (p + 1) (.slice (some ⟨o, 0, none⟩) X.length c) (X.set i ⟨(X[i]'hF.lt).g, (X[i]'hF.lt).o, (X[i]'hF.lt).c, (X[i]'hF.lt).xs.set k t⟩) cur en (((w.drewN n).setCell ⟨(X[i]'hF.lt).g, (X[i]'hF.lt).o + k, none⟩ (.string ⟨t.toArray⟩)).setCell ⟨g, 1, none⟩ (.int .i64 ((p : Int) + 1)))) := fun n => ((hE.keep (Below.dN (Below.refl _ w) n)).cut hF t).setP (p + 1) (by omega) _ (by omega)
      have hcu2 : ∀ n, ((w.drewN n).setCell ⟨(X[i]'hF.lt).g, (X[i]'hF.lt).o + k, none⟩ (.string ⟨t.toArray⟩)).cell? ⟨g, 1, none⟩ = some (.int .i64 (p : Int)) ∧ ((w.drewN n).setCell ⟨(X[i]'hF.lt).g, (X[i]'hF.lt).o + k, none⟩ (.string ⟨t.toArray⟩)).frozen? ⟨g, 1, none⟩ = false := fun n => by
        have h := (hE.keep (Below.dN (Below.refl _ w) n)).cut hF t
        exact ⟨h.box.cells.2.1, h.box.frozen 1⟩
      have HT2 : Hid (cat (X.set i ⟨(X[i]'hF.lt).g, (X[i]'hF.lt).o, (X[i]'hF.lt).c, (X[i]'hF.lt).xs.set k t⟩) = (cat X).set (cur - 1) t) := HCC.out t
      have HL2 : Hid (512 * (X.set i ⟨(X[i]'hF.lt).g, (X[i]'hF.lt).o, (X[i]'hF.lt).c, (X[i]'hF.lt).xs.set k t⟩).length ≤ 512 * X.length) := (by show _ ≤ _; rw [List.length_set]; exact Nat.le_refl _)
      clear hE HCT HCC hs hget
      generalize X.set i ⟨(X[i]'hF.lt).g, (X[i]'hF.lt).o, (X[i]'hF.lt).c, (X[i]'hF.lt).xs.set k t⟩ = X2 at *
      generalize (X[i]'hF.lt).g = xg at *
      generalize (X[i]'hF.lt).o = xo at *
      have hsl := fun u => run_tail1 ch t u
      go_enter Tryz.func52, Tryz.ntmps52
      go_wp2_with fail
      go_quiet ((go_at_call 80; exact Calls.quiet_of_same (hbl _ rfl)))
      have l1' : (w.drewN nq).cell? ⟨xg, xo + k, none⟩ = some (.string ⟨(ch :: t).toArray⟩) := l1
      have l2' : (w.drewN nq).frozen? ⟨xg, xo + k, none⟩ = false := l2
      obtain ⟨u1, u2⟩ := hcu2 nq
      have HM := hM.out nq
      have HMh : Hid (Ed W g vs S (p + 1) (.slice (some ⟨o, 0, none⟩) X.length c) X2 cur en (((w.drewN nq).setCell ⟨xg, xo + k, none⟩ (.string ⟨t.toArray⟩)).setCell ⟨g, 1, none⟩ (.int .i64 ((p : Int) + 1)))) := HM
      clear HM hM hcu2 l1 l2 c1 c2 c4 hbl
      go_wp2
      go_ret
      exact ⟨rfl, _, X2, HMh.out, HT2.out, HL2.out⟩
end Go.Proofs.YtnlbjknfahhfaaaGreatDoor
