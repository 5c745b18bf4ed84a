/-
  Texts that belong together, joined: NpX, NpC, EfRg, EfCf, EfEd, EfSt, EfTx, EfDo.
-/
import Derived.Test.YtnlbjknfahhfaaaGreatDoorPartA18
import Derived.Test.YtnlbjknfahhfaaaGreatDoorPartA16
import Derived.Lib.IndexAny
import Derived.Deep.QuietTactic
import Derived.BigQuiet
import Derived.Test.YtnlbjknfahhfaaaGreatDoorPartA17
import Derived.Deep.CutBlock
import Derived.Test.YtnlbjknfahhfaaaGreatDoorPartC2
import Derived.Test.YtnlbjknfahhfaaaGreatDoorPartC4
import Derived.Test.YtnlbjknfahhfaaaGreatDoorPartA19

/- strings.IndexAny at the letters a, c, d, and strings.Cut at a comma, for every text. -/
set_option maxRecDepth 20000
namespace Go.Proofs.YtnlbjknfahhfaaaGreatDoor
open Go.RowKit
attribute [local go_sem] no_at ByteArray.extract_mk

theorem ret_int1 {k : IntKind} {a b : Int} (h : a = b) : Ending.returned (.int k a) = .returned (.int k b) := by rw [h]
theorem get_bang (s : ByteArray) (k : Nat) (h : k < s.size) : s.get! k = s[k] := by
  simp [ByteArray.get!, getElem!_pos, h]
  rfl

/-- every byte of a letter that begins with a byte from 128 on is such a byte, and lies in the text -/
theorem decode_rest (s : ByteArray) (pos : Nat) (h : pos < s.size) (ha : 128 ≤ (s[pos]'h).toNat) (k : Nat) (hk : k < (Utf8.decode s pos).2) : ∃ hq : pos + k < s.size, 128 ≤ (s[pos + k]'hq).toNat := by
  by_cases hk0 : k = 0
  · subst hk0; exact ⟨h, ha⟩
  have hn : ¬ (s.get! (pos + 0)).toNat < 128 := by rw [Nat.add_zero, get_bang s pos h]; omega
  have key : ∀ j, (decide (pos + j < s.size) && (s.get! (pos + j)).toNat / 64 == 2) = true → ∃ hq : pos + j < s.size, 128 ≤ (s[pos + j]'hq).toNat := by
    intro j hj
    simp only [Bool.and_eq_true, decide_eq_true_eq, beq_iff_eq] at hj
    refine ⟨hj.1, ?_⟩
    rw [← get_bang s (pos + j) hj.1]
    omega
  revert hk
  unfold Utf8.decode
  simp only [hn, if_false]
  split
  · rename_i h2
    simp only [Bool.and_eq_true] at h2
    split
    · intro hk
      have : k = 1 := by simp at hk; omega
      subst this
      exact key 1 (by simp only [Bool.and_eq_true]; exact h2.2)
    · intro hk; simp at hk; omega
  · split
    · rename_i h2
      simp only [Bool.and_eq_true] at h2
      split
      · intro hk
        have : k = 1 ∨ k = 2 := by simp at hk; omega
        rcases this with rfl | rfl
        · exact key 1 (by simp only [Bool.and_eq_true]; exact h2.1.2)
        · exact key 2 (by simp only [Bool.and_eq_true]; exact h2.2)
      · intro hk; simp at hk; omega
    · split
      · rename_i h2
        simp only [Bool.and_eq_true] at h2
        split
        · intro hk
          have : k = 1 ∨ k = 2 ∨ k = 3 := by simp at hk; omega
          rcases this with rfl | rfl | rfl
          · exact key 1 (by simp only [Bool.and_eq_true]; exact h2.1.1.2)
          · exact key 2 (by simp only [Bool.and_eq_true]; exact h2.1.2)
          · exact key 3 (by simp only [Bool.and_eq_true]; exact h2.2)
        · intro hk; simp at hk; omega
      · intro hk; simp at hk; omega

theorem enc_form (r : Int) (hv : Utf8.valid r = true) (h128 : 128 ≤ r) : (∃ a b : UInt8, 128 ≤ b.toNat ∧ Utf8.encode r = ⟨([a, b] : List UInt8).toArray⟩) ∨ (∃ a b c : UInt8, 128 ≤ c.toNat ∧ Utf8.encode r = ⟨([a, b, c] : List UInt8).toArray⟩) ∨ (∃ a b c d : UInt8, Utf8.encode r = ⟨([a, b, c, d] : List UInt8).toArray⟩) := by
  have hc : ¬ r.toNat < 128 := by omega
  unfold Utf8.encode
  simp only [hv, if_true, hc, if_false]
  split
  · refine .inl ⟨_, _, ?_, rfl⟩
    simp; omega
  · split
    · refine .inr (.inl ⟨_, _, _, ?_, rfl⟩)
      simp; omega
    · exact .inr (.inr ⟨_, _, _, _, rfl⟩)

theorem valid_of (r : Int) (h : Lib.validRune r = true) : Utf8.valid r = true := by
  simp [Lib.validRune, Utf8.valid] at h ⊢
  omega

theorem idx_nil (x : Int) (u : World) : Calls Tryz.prog 184 #[.string ⟨#[]⟩, .int .u8 x] u fun e w' => e = .returned (.int .i64 (-1)) ∧ w' = u := Tryz.strings_IndexByte ⟨#[]⟩ x u
theorem idx_d (b : UInt8) (hb : 128 ≤ b.toNat) (u : World) : Calls Tryz.prog 184 #[.string ⟨#[100]⟩, .int .u8 (b.toNat : Int)] u fun e w' => e = .returned (.int .i64 (-1)) ∧ w' = u := by
  refine (Tryz.strings_IndexByte ⟨#[100]⟩ (b.toNat : Int) u).mono ?_
  rintro e w' ⟨rfl, rfl⟩
  have e1 : ((b.toNat : Int).toNat).toUInt8 = b := by simp
  have e2 : Lib.indexByte [100] b = -1 := by
    have : ((100 : UInt8) == b) = false := by
      rw [beq_eq_false_iff_ne]
      rintro rfl
      simp at hb
    simp [Lib.indexByte, this]
  rw [e1]
  exact ⟨by rw [show Lib.indexByte (⟨#[100]⟩ : ByteArray).data.toList b = -1 from e2], rfl⟩

set_option maxHeartbeats 2000000 in
set_option maxRecDepth 100000 in
theorem IndexRune_high (r : Int) (h0 : 128 ≤ r) (h1 : r ≤ 2147483647) (w : World) :
    Calls Tryz.prog 199 #[.string ⟨([97, 99, 100] : List UInt8).toArray⟩, .int .i32 r] w fun e w' => e = .returned (.int .i64 (-1)) ∧ Below w.heap.size w w' := by
  by_cases h2 : r = 65533
  · subst h2
    have hn0 : ∀ ty, (Instr.next (.pointer (some ⟨w.heap.size, 0, none⟩)) true ty).run Tryz.prog (w.iter ⟨([97, 99, 100] : List UInt8).toArray⟩ 0) = .ok (.tuple #[.bool true, .int .i64 0, .int .i32 97]) (w.iter ⟨([97, 99, 100] : List UInt8).toArray⟩ 1) := fun ty => run_next_ascii w ⟨([97, 99, 100] : List UInt8).toArray⟩ 0 ty (by decide) (by decide)
    have hn1 : ∀ ty, (Instr.next (.pointer (some ⟨w.heap.size, 0, none⟩)) true ty).run Tryz.prog (w.iter ⟨([97, 99, 100] : List UInt8).toArray⟩ 1) = .ok (.tuple #[.bool true, .int .i64 1, .int .i32 99]) (w.iter ⟨([97, 99, 100] : List UInt8).toArray⟩ 2) := fun ty => run_next_ascii w ⟨([97, 99, 100] : List UInt8).toArray⟩ 1 ty (by decide) (by decide)
    have hn2 : ∀ ty, (Instr.next (.pointer (some ⟨w.heap.size, 0, none⟩)) true ty).run Tryz.prog (w.iter ⟨([97, 99, 100] : List UInt8).toArray⟩ 2) = .ok (.tuple #[.bool true, .int .i64 2, .int .i32 100]) (w.iter ⟨([97, 99, 100] : List UInt8).toArray⟩ 3) := fun ty => run_next_ascii w ⟨([97, 99, 100] : List UInt8).toArray⟩ 2 ty (by decide) (by decide)
    have hn3 : ∀ ty, (Instr.next (.pointer (some ⟨w.heap.size, 0, none⟩)) true ty).run Tryz.prog (w.iter ⟨([97, 99, 100] : List UInt8).toArray⟩ 3) = .ok (.tuple #[.bool false]) (w.iter ⟨([97, 99, 100] : List UInt8).toArray⟩ 3) := fun ty => run_next_end w ⟨([97, 99, 100] : List UInt8).toArray⟩ 3 ty (by decide)
    go_enter Tryz.func199, Tryz.ntmps199
    go_wp2
    refine wp_loop_rounds 4 ?_
    rw [rounds_succ]
    go_wp2
    rw [rounds_succ]
    go_wp2
    rw [rounds_succ]
    go_wp2
    rw [rounds_succ]
    go_wp2
    go_ret
    exact ⟨rfl, (Below.refl _ w).alloc (Nat.le_refl _) _⟩
  · have hb : (r == 65533) = false := by simp [h2]
    go_enter Tryz.func199, Tryz.ntmps199
    go_wp2_with fail
    refine (Tryz.utf8_ValidRune r _).mono ?_
    rintro e w' ⟨rfl, rfl⟩
    cases hv : Lib.validRune r
    · go_wp2
      go_ret
      exact ⟨rfl, Below.refl _ _⟩
    · rcases enc_form r (valid_of r hv) h0 with ⟨a, b, hb128, he⟩ | ⟨a, b, c, hb128, he⟩ | ⟨a, b, c, d, he⟩
      · have hbl := b.toNat_lt
        have hw2 : IntKind.i64.wrap 2 = 2 := by decide
        have hsl : ∀ u : World, (Instr.slice 9 (.string ⟨([97, 99, 100] : List UInt8).toArray⟩) (some (.int .i64 2)) none none).run Tryz.prog u = .ok (.string ⟨([100] : List UInt8).toArray⟩) u := fun u => by kernel_rfl
        have hne : ((99 : Int) != (b.toNat : Int)) = true := by simp; omega
        go_wp2_with fail
        go_step3
        go_wp2_with fail
        refine wp_loop_rounds 1 ?_
        rw [rounds_succ]
        go_wp2_with fail
        go_step3
        go_wp2_with fail
        go_quiet (fail)
        have hbq : Below w'.heap.size w' (w'.drewN nq) := Below.dN (Below.refl _ _) nq
        generalize w'.drewN nq = wq at *
        go_wp2_with fail
        go_quiet ((go_at_call 184; exact Calls.quiet_of_same (idx_d b hb128 _)))
        go_wp2
        rw [Exit.noGoto_ret]
        go_wp2
        rw [Exit.noGoto_ret]
        go_ret
        exact ⟨rfl, Below.dN hbq _⟩
      · have hbl := c.toNat_lt
        have hw2 : IntKind.i64.wrap 3 = 3 := by decide
        have hsl : ∀ u : World, (Instr.slice 9 (.string ⟨([97, 99, 100] : List UInt8).toArray⟩) (some (.int .i64 3)) none none).run Tryz.prog u = .ok (.string ⟨([] : List UInt8).toArray⟩) u := fun u => by kernel_rfl
        have hne : ((100 : Int) != (c.toNat : Int)) = true := by simp; omega
        go_wp2_with fail
        go_step3
        go_wp2_with fail
        refine wp_loop_rounds 1 ?_
        rw [rounds_succ]
        go_wp2_with fail
        go_step3
        go_wp2_with fail
        go_quiet (fail)
        have hbq : Below w'.heap.size w' (w'.drewN nq) := Below.dN (Below.refl _ _) nq
        generalize w'.drewN nq = wq at *
        go_wp2_with fail
        go_quiet ((go_at_call 184; exact Calls.quiet_of_same (idx_nil _ _)))
        go_wp2
        rw [Exit.noGoto_ret]
        go_wp2
        rw [Exit.noGoto_ret]
        go_ret
        exact ⟨rfl, Below.dN hbq _⟩
      · go_wp2_with fail
        go_step3
        go_wp2_with fail
        refine wp_loop_rounds 1 ?_
        rw [rounds_succ]
        go_wp2
        rw [Exit.noGoto_ret]
        go_ret
        exact ⟨rfl, Below.refl _ _⟩

theorem zero_set : ∀ w, (zeroValue 279).run Tryz.prog w = .ok (.agg (Array.replicate 256 (.bool false))) w :=
  (zero_of_info (P := Tryz.prog) (show (Tryz.prog.info? 279).map (fun i => (i.zero, i.size)) = some (some (.agg (Array.replicate 256 (.bool false))), 256) by kernel_rfl)).1

theorem idx_three (x : UInt8) : Lib.indexByte [97, 99, 100] x = if x.toNat = 97 then 0 else if x.toNat = 99 then 1 else if x.toNat = 100 then 2 else -1 := by
  have key : ∀ i : Fin 256, Lib.indexByte [97, 99, 100] (UInt8.ofNat i.val) = if i.val = 97 then 0 else if i.val = 99 then 1 else if i.val = 100 then 2 else -1 := by decide +kernel
  have := key ⟨x.toNat, x.toNat_lt⟩
  simpa using this
theorem isC_nat (x : UInt8) : isC x = decide (x.toNat = 97 ∨ x.toNat = 99 ∨ x.toNat = 100) := by
  rw [Bool.eq_iff_iff]
  simp [isC, ← UInt8.toNat_inj, or_assoc]

def idxB (x : UInt8) : Int := Lib.indexByte [97, 99, 100] x
theorem idxB_yes {x : UInt8} (h : isC x = true) : 0 ≤ idxB x := by
  rw [isC_nat] at h
  have h := of_decide_eq_true h
  unfold idxB; rw [idx_three]; split <;> (try split) <;> (try split) <;> omega
theorem idxB_no {x : UInt8} (h : isC x = false) : idxB x < 0 := by
  rw [isC_nat] at h
  have h := of_decide_eq_false h
  unfold idxB; rw [idx_three]; split <;> (try split) <;> (try split) <;> omega
theorem contains_three (c : UInt8) : ([97, 99, 100] : List UInt8).contains c = isC c := by
  rw [Bool.eq_iff_iff]
  simp [isC, or_assoc]
/-- where the first of the three letters is, or -1 -/
def wend (l : List UInt8) : Int := Lib.indexAny l [97, 99, 100]
theorem wend_at : ∀ (l : List UInt8) (k : Nat) (hk : k < l.length), (∀ j (h : j < l.length), j < k → isC l[j] = false) → isC l[k] = true → wend l = k
  | b :: l, 0, _, _, h => by
    unfold wend Lib.indexAny
    rw [contains_three, if_pos (by simpa using h)]
    rfl
  | b :: l, k + 1, hk, ha, h => by
    have h0 := ha 0 (by simp) (by omega)
    have ih := wend_at l k (by simpa using hk) (fun j hj hjk => ha (j + 1) (by simp; omega) (by omega)) (by simpa using h)
    unfold wend at ih ⊢
    unfold Lib.indexAny
    rw [contains_three, if_neg (by simpa using h0), ih]
    rw [if_neg (by simp)]
    omega

theorem wend_none : ∀ (l : List UInt8), (∀ j (h : j < l.length), isC l[j] = false) → wend l = -1
  | [], _ => rfl
  | b :: l, ha => by
    have h0 := ha 0 (by simp)
    have ih := wend_none l (fun j hj => ha (j + 1) (by simp; omega))
    unfold wend at ih ⊢
    unfold Lib.indexAny
    rw [contains_three, if_neg (by simpa using h0), ih]
    rfl

theorem IndexRune_low (x : UInt8) (h : x.toNat < 128) (w : World) :
    Calls Tryz.prog 199 #[.string ⟨([97, 99, 100] : List UInt8).toArray⟩, .int .i32 (x.toNat : Int)] w fun e w' => e = .returned (.int .i64 (idxB x)) ∧ w' = w := by
  have h1 := Tryz.strings_IndexRune_ascii ⟨([97, 99, 100] : List UInt8).toArray⟩ (x.toNat : Int) w (by omega) (by omega)
  refine h1.mono ?_
  rintro e w' ⟨rfl, rfl⟩
  have e : ((x.toNat : Int).toNat).toUInt8 = x := by simp
  rw [e]
  exact ⟨rfl, rfl⟩

/-- where the first letter is, as the plain reader says -/
theorem wend_sp (l : List UInt8) : (spB isC l = none ∧ wend l = -1) ∨ (∃ k : Nat, ∃ h : k < l.length, wend l = k ∧ spB isC l = some (l.take k, l[k], l.drop (k + 1)) ∧ isC l[k] = true) := by
  induction l with
  | nil => exact .inl ⟨rfl, rfl⟩
  | cons c l ih =>
    unfold wend Lib.indexAny
    rw [contains_three]
    simp only [spB]
    cases hc : isC c with
    | true =>
      right
      refine ⟨0, by simp, by simp, by simp, by simpa using hc⟩
    | false =>
      rw [if_neg (by decide), if_neg (by decide)]
      rcases ih with ⟨h1, h2⟩ | ⟨k, hk, h1, h2, h3⟩
      · left
        unfold wend at h2
        rw [h1, h2]
        exact ⟨rfl, rfl⟩
      · right
        unfold wend at h1
        refine ⟨k + 1, by simpa using hk, ?_, ?_, by simpa using h3⟩
        · rw [h1, if_neg (by simp)]
          omega
        · rw [h2]
          rfl
/-- where a comma is -/
theorem comma_sp (l : List UInt8) : (spB isK l = none ∧ Lib.indexByte l 44 = -1) ∨ (∃ k : Nat, ∃ h : k < l.length, Lib.indexByte l 44 = k ∧ spB isK l = some (l.take k, l[k], l.drop (k + 1))) := by
  induction l with
  | nil => exact .inl ⟨rfl, rfl⟩
  | cons c l ih =>
    unfold Lib.indexByte
    simp only [spB]
    have e : (c == 44) = isK c := rfl
    rw [e]
    cases hc : isK c with
    | true =>
      right
      exact ⟨0, by simp, by simp, by simp⟩
    | false =>
      rw [if_neg (by decide), if_neg (by decide)]
      rcases ih with ⟨h1, h2⟩ | ⟨k, hk, h1, h2⟩
      · left
        rw [h1, h2]
        exact ⟨rfl, rfl⟩
      · right
        refine ⟨k + 1, by simpa using hk, ?_, ?_⟩
        · rw [h1, if_neg (by simp)]
          omega
        · rw [h2]
          rfl
end Go.Proofs.YtnlbjknfahhfaaaGreatDoor

/- The code's numbers and change of layer 12, walked: a range of lines, a line that says a change. -/
set_option maxRecDepth 20000
namespace Go.Proofs.YtnlbjknfahhfaaaGreatDoor
open Go.RowKit
attribute [local go_sem] ByteArray.extract_mk no_at

/-- what is ahead of the first comma, and behind it -/
def kA (l : List UInt8) : List UInt8 := match spB isK l with | none => l | some (x, _, _) => x
def kB (l : List UInt8) : List UInt8 := match spB isK l with | none => [] | some (_, _, y) => y
def kS (l : List UInt8) : Bool := match spB isK l with | none => false | some _ => true
set_option maxHeartbeats 2000000 in
theorem slCut_f (l : List UInt8) (w : World) (hl : l.length ≤ 1099511627776) :
    Calls Tryz.prog 122 #[.string ⟨l.toArray⟩, .string ⟨#[44]⟩] w fun e w' => e = .returned (.tuple #[.string ⟨(kA l).toArray⟩, .string ⟨(kB l).toArray⟩, .bool (kS l)]) ∧ ∃ n, w' = w.drewN n := by
  rcases comma_sp l with ⟨h1, h2⟩ | ⟨k, hk, h1, h2⟩
  · have HA : Hid (kA l = l ∧ kB l = [] ∧ kS l = false) := (by unfold kA kB kS; rw [h1]; exact ⟨rfl, rfl, rfl⟩)
    have HI : Hid (Lib.indexByte l 44 = -1) := h2
    clear h1 h2
    go_enter Tryz.func122, Tryz.ntmps122
    go_wp2_with fail
    refine (Tryz.stringslite_Index_one ⟨l.toArray⟩ 44 w).mono ?_
    rintro e w1 ⟨rfl, rfl⟩
    have e1 : Lib.indexByte (⟨l.toArray⟩ : ByteArray).data.toList 44 = -1 := HI.out
    rw [e1]
    clear e1
    go_wp2
    go_ret3
    obtain ⟨a1, a2, a3⟩ := HA.out
    rw [a1, a2, a3]
    exact ⟨rfl, 0, rfl⟩
  · have HA : Hid (kA l = l.take k ∧ kB l = l.drop (k + 1) ∧ kS l = true) := (by unfold kA kB kS; rw [h2]; exact ⟨rfl, rfl, rfl⟩)
    have HI : Hid (Lib.indexByte l 44 = (k : Int)) := h1
    clear h1 h2
    go_enter Tryz.func122, Tryz.ntmps122
    go_wp2_with fail
    refine (Tryz.stringslite_Index_one ⟨l.toArray⟩ 44 w).mono ?_
    rintro e w1 ⟨rfl, rfl⟩
    have e1 : Lib.indexByte (⟨l.toArray⟩ : ByteArray).data.toList 44 = (k : Int) := HI.out
    rw [e1]
    clear e1
    have i1 : (0 : Int) ≤ (k : Int) := by omega
    have i2 : (k : Int) ≤ (l.length : Int) := by omega
    have i3 : (k : Int) + 1 ≤ (l.length : Int) := by omega
    have i4 : (0 : Int) ≤ (k : Int) + 1 := by omega
    have i5 : IntKind.i64.wrap ((k : Int) + 1) = (k : Int) + 1 := wrap_s (by omega) (by omega)
    have i6 : ((k : Int) + 1).toNat = k + 1 := by omega
    go_wp2_with fail
    go_quiet (fail)
    go_wp2
    go_ret3
    obtain ⟨a1, a2, a3⟩ := HA.out
    rw [a1, a2, a3]
    have k5 : (l.drop (k + 1)).take (l.length - (k + 1)) = l.drop (k + 1) := List.take_of_length_le (by simp)
    exact ⟨by simp [k5], _, rfl⟩
set_option maxHeartbeats 1000000 in
theorem nCut_f (l : List UInt8) (w : World) (hl : l.length ≤ 1099511627776) :
    Calls Tryz.prog 92 #[.string ⟨l.toArray⟩, .string ⟨#[44]⟩] w fun e w' => e = .returned (.tuple #[.string ⟨(kA l).toArray⟩, .string ⟨(kB l).toArray⟩, .bool (kS l)]) ∧ ∃ n, w' = w.drewN n := by
  go_enter Tryz.func92, Tryz.ntmps92
  go_wp2_with fail
  refine (slCut_f l w hl).mono ?_
  rintro e w1 ⟨rfl, n, rfl⟩
  go_wp2
  go_ret3
  exact ⟨rfl, n, rfl⟩
/-- a text with a comma is no number -/
theorem comma_no {s : List UInt8} (h : kS s = true) : Pn.parseE s ≠ 0 := by
  unfold kS at h
  rcases comma_sp s with ⟨h1, _⟩ | ⟨k, hk, _, h2⟩
  · rw [h1] at h
    cases h
  · have hc : isK s[k] = true := (by
      have : ∀ (l : List UInt8) {a b : List UInt8} {c : UInt8}, spB isK l = some (a, c, b) → isK c = true := (by
        intro l
        induction l with
        | nil => intro a b c h; cases h
        | cons x l ih =>
          intro a b c h
          simp only [spB] at h
          split at h
          · rename_i hx
            cases h
            exact hx
          · split at h
            · cases h
            · rename_i hq
              cases h
              exact ih hq)
      exact this s h2)
    have hn : Pn.isNum s = false := Pn.isNum_bad k hk (by
      unfold isK at hc
      have : s[k] = 44 := by simpa using hc
      rw [this]
      decide)
    have := (Pn.parse_no hn).2
    omega
/-- a range, or the line ahead -/
def nmP (no : Bool) (s : List UInt8) : Option (Int × Int) := if no = true then oneP s else lnsP s
theorem kA_self {s : List UInt8} (h : kS s = false) : kA s = s ∧ spB isK s = none := by
  unfold kS at h
  unfold kA
  cases hq : spB isK s with
  | none => exact ⟨rfl, rfl⟩
  | some q => rw [hq] at h; cases h
theorem kS_some {s : List UInt8} (h : kS s = true) : ∃ c, spB isK s = some (kA s, c, kB s) := by
  unfold kS at h
  unfold kA kB
  cases hq : spB isK s with
  | none => rw [hq] at h; cases h
  | some q => exact ⟨q.2.1, rfl⟩
theorem nm_bad {no : Bool} {s : List UInt8} (h : Pn.parseE (kA s) ≠ 0) : nmP no s = none := by
  unfold nmP
  cases hk : kS s with
  | true =>
    obtain ⟨c, hc⟩ := kS_some hk
    have h2 := comma_no hk
    cases no with
    | true =>
      unfold oneP
      rw [if_pos rfl, if_neg h2]
    | false =>
      unfold lnsP
      rw [if_neg (by decide), hc]
      exact if_neg (fun q => h q.1)
  | false =>
    obtain ⟨h1, h2⟩ := kA_self hk
    rw [h1] at h
    cases no with
    | true =>
      unfold oneP
      rw [if_pos rfl, if_neg h]
    | false =>
      unfold lnsP
      rw [if_neg (by decide), h2]
      exact if_neg (fun q => h q.1)
theorem kA_le (s : List UInt8) : (kA s).length ≤ s.length ∧ (kB s).length ≤ s.length := by
  unfold kA kB
  rcases comma_sp s with ⟨h1, _⟩ | ⟨k, hk, _, h2⟩
  · rw [h1]; simp
  · rw [h2]; simp only [List.length_take, List.length_drop]; omega
/-- what numbers answers -/
def NmQ (w : World) (no : Bool) (s : List UInt8) (e : Ending) (w' : World) : Prop := ∃ x n r, e = .returned (.tuple #[.int .i64 x, .int .i64 n, .bool r]) ∧ nmP no s = (if r = true then some (x, n) else none) ∧ Below w.heap.size w w'
end Go.Proofs.YtnlbjknfahhfaaaGreatDoor

/- The code's commandFrom of layer 13, walked: a line that says a command with numbers. -/
set_option maxRecDepth 20000
namespace Go.Proofs.YtnlbjknfahhfaaaGreatDoor
open Go.RowKit

theorem efr_cell {P : Program} {fn : Func} {p q : Tmp} {ty : TypeId} (h : fn.results = #[.cell p ty, .tmp q]) (tmps : Array Value) (w : World) (g : Nat) (t : TypeId) (cs : Array Value) (fr : Nat × Nat) (d : TypeDesc)
    (hp : tmps.getD p undef = .pointer (some ⟨g, 0, none⟩)) (hg : w.heap[g]? = some (.cells cs t fr))
    (hu : P.underlying ty = some d) (hd : (match d with | .struct _ | .array _ _ => true | _ => false) = true) (hi : (P.info? ty).map (·.size) = some cs.size) :
    (results fn tmps).run P w = .ok (.tuple #[.agg cs, tmps.getD q undef]) w := by
  have hp' : tmps[p]?.getD undef = .pointer (some ⟨g, 0, none⟩) := by simpa using hp
  simp [results, h, hp', asAddr, run_loadVar_row w g t ty cs fr d hg hu hd hi]
/-- what rangeFrom answers -/
def RgQ (w : World) (s : List UInt8) (e : Ending) (w' : World) : Prop := ∃ x y r, e = .returned (.tuple #[.int .i64 x, .int .i64 y, .bool r]) ∧ lnsP s = (if r = true then some (x + 1, y - x) else none) ∧ (-1 ≤ x ∧ x ≤ 2147483647 ∧ 0 ≤ y ∧ y ≤ 2147483647) ∧ Below w.heap.size w w'
set_option maxHeartbeats 4000000 in
theorem rangeFrom_f (s : List UInt8) (w : World) (hl : s.length ≤ 1099511627776) :
    Calls Tryz.prog 82 #[.string ⟨s.toArray⟩] w fun e w' => RgQ w s e w' := by
  have hkl := kA_le s
  have b1 := @prs_num (kA s)
  have b2 := @prs_num (kB s)
  obtain ⟨V1, hV1⟩ : ∃ V, Pn.parseV (kA s) = V := ⟨_, rfl⟩
  obtain ⟨E1, hE1⟩ : ∃ V, Pn.parseE (kA s) = V := ⟨_, rfl⟩
  obtain ⟨V2, hV2⟩ : ∃ V, Pn.parseV (kB s) = V := ⟨_, rfl⟩
  obtain ⟨E2, hE2⟩ : ∃ V, Pn.parseE (kB s) = V := ⟨_, rfl⟩
  have P1 : ∀ u : World, Calls Tryz.prog 81 #[.string ⟨(kA s).toArray⟩] u fun e w' => e = .returned (.tuple #[.int .i64 V1, .int .i64 E1]) ∧ Below u.heap.size u w' := (by
    intro u
    have h := nParse_any (kA s) u (by unfold maxLen; omega)
    rw [hV1, hE1] at h
    exact h)
  have P2 : ∀ u : World, Calls Tryz.prog 81 #[.string ⟨(kB s).toArray⟩] u fun e w' => e = .returned (.tuple #[.int .i64 V2, .int .i64 E2]) ∧ Below u.heap.size u w' := (by
    intro u
    have h := nParse_any (kB s) u (by unfold maxLen; omega)
    rw [hV2, hE2] at h
    exact h)
  rw [hV1] at b1
  rw [hV2] at b2
  have C1 := nCut_f s w hl
  by_cases hbad : E1 ≠ 0 ∨ V1 = 0
  · have HN : Hid (lnsP s = none) := (by
      show _ = _
      unfold lnsP
      cases hk : kS s with
      | true =>
        obtain ⟨c, hc⟩ := kS_some hk
        rw [hc]
        dsimp only
        rw [hV1, hE1]
        exact if_neg (fun q => by rcases hbad with h | h <;> omega)
      | false =>
        obtain ⟨h1, h2⟩ := kA_self hk
        rw [h1] at hV1 hE1
        rw [h2]
        dsimp only
        rw [hV1, hE1]
        exact if_neg (fun q => by rcases hbad with h | h <;> omega))
    clear hV1 hE1 hV2 hE2
    by_cases he1 : E1 = 0
    · have f1 : (E1 != 0) = false := by simp [he1]
      have f2 : (V1 == 0) = true := by
        rcases hbad with h | h
        · exact absurd he1 h
        · rw [h]; rfl
      clear he1 hbad
      go_enter Tryz.func82, Tryz.ntmps82
      go_wp2_with fail
      refine C1.mono ?_
      rintro e w1 ⟨rfl, n, rfl⟩
      go_wp2_with fail
      refine (P1 _).mono ?_
      rintro e w2 ⟨rfl, hb2⟩
      go_wp2
      go_ret3
      exact ⟨_, _, _, rfl, HN.out, by omega, (Below.dN (Below.refl _ w) n).trans hb2⟩
    · have f1 : (E1 != 0) = true := by simp [he1]
      clear he1 hbad
      go_enter Tryz.func82, Tryz.ntmps82
      go_wp2_with fail
      refine C1.mono ?_
      rintro e w1 ⟨rfl, n, rfl⟩
      go_wp2_with fail
      refine (P1 _).mono ?_
      rintro e w2 ⟨rfl, hb2⟩
      go_wp2
      go_ret3
      exact ⟨_, _, _, rfl, HN.out, by omega, (Below.dN (Below.refl _ w) n).trans hb2⟩
  · have he1 : E1 = 0 := (by
      by_cases h : E1 = 0
      · exact h
      · exact absurd (.inl h) hbad)
    have hv1 : V1 ≠ 0 := fun h => hbad (.inr h)
    have f1 : (E1 != 0) = false := by simp [he1]
    have f2 : (V1 == 0) = false := beq_eq_false_iff_ne.2 hv1
    clear hbad
    cases hk : kS s with
    | false =>
      have HN : Hid (lnsP s = if true = true then some (V1 - 1 + 1, V1 - (V1 - 1)) else none) := (by
        show _ = _
        obtain ⟨h1, h2⟩ := kA_self hk
        rw [h1] at hV1 hE1
        unfold lnsP
        rw [h2]
        dsimp only
        rw [hV1, hE1, if_pos ⟨he1, by omega⟩, if_pos rfl]
        congr 2 <;> omega)
      rw [hk] at C1
      clear hV1 hE1 hV2 hE2 hk he1 P2
      go_enter Tryz.func82, Tryz.ntmps82
      go_wp2_with fail
      refine C1.mono ?_
      rintro e w1 ⟨rfl, n, rfl⟩
      go_wp2_with fail
      refine (P1 _).mono ?_
      rintro e w2 ⟨rfl, hb2⟩
      go_wp2
      go_ret3
      exact ⟨_, _, _, rfl, HN.out, by omega, (Below.dN (Below.refl _ w) n).trans hb2⟩
    | true =>
      obtain ⟨r, hr⟩ : ∃ r, (decide (E2 = 0) && decide (V1 < V2)) = r := ⟨_, rfl⟩
      have HN : Hid (lnsP s = if r = true then some (V1 - 1 + 1, V2 - (V1 - 1)) else none) := (by
        show _ = _
        obtain ⟨c, a2⟩ := kS_some hk
        unfold lnsP
        rw [a2, ← hr]
        dsimp only
        rw [hV1, hE1, hV2, hE2]
        by_cases h : E2 = 0 ∧ V1 < V2
        · rw [if_pos ⟨he1, h.1, by omega, h.2⟩, if_pos (by simp [h.1, h.2])]
          congr 2 <;> omega
        · rw [if_neg (fun q => h ⟨q.2.1, q.2.2.2⟩), if_neg (fun q => h (by simp only [Bool.and_eq_true, decide_eq_true_eq] at q; exact q))])
      rw [hk] at C1
      clear hV1 hE1 hV2 hE2 hk he1
      by_cases he2 : E2 = 0
      · have g1 : (E2 == 0) = true := by rw [he2]; rfl
        have g2 : decide (V1 < V2) = r := by rw [← hr]; simp [he2]
        clear he2 hr
        go_enter Tryz.func82, Tryz.ntmps82
        go_wp2_with fail
        refine C1.mono ?_
        rintro e w1 ⟨rfl, n, rfl⟩
        go_wp2_with fail
        refine (P1 _).mono ?_
        rintro e w2 ⟨rfl, hb2⟩
        go_wp2_with fail
        refine (P2 _).mono ?_
        rintro e w3 ⟨rfl, hb3⟩
        go_wp2
        go_ret3
        exact ⟨_, _, _, rfl, HN.out, by omega, ((Below.dN (Below.refl _ w) n).trans hb2).trans (hb3.mono hb2.size)⟩
      · have g1 : (E2 == 0) = false := beq_eq_false_iff_ne.2 he2
        obtain rfl : r = false := by rw [← hr]; simp [he2]
        clear he2 hr
        go_enter Tryz.func82, Tryz.ntmps82
        go_wp2_with fail
        refine C1.mono ?_
        rintro e w1 ⟨rfl, n, rfl⟩
        go_wp2_with fail
        refine (P1 _).mono ?_
        rintro e w2 ⟨rfl, hb2⟩
        go_wp2_with fail
        refine (P2 _).mono ?_
        rintro e w3 ⟨rfl, hb3⟩
        go_wp2
        go_ret3
        exact ⟨_, _, _, rfl, HN.out, by omega, ((Below.dN (Below.refl _ w) n).trans hb2).trans (hb3.mono hb2.size)⟩
end Go.Proofs.YtnlbjknfahhfaaaGreatDoor

/- The code's commandFrom of layer 13, walked: a line that says a command with numbers. -/
set_option maxRecDepth 20000
namespace Go.Proofs.YtnlbjknfahhfaaaGreatDoor
open Go.RowKit

theorem suf_byte (s : List UInt8) (c : UInt8) : Lib.hasSuffix s [c] = (s.getLast? == some c) := by
  unfold Lib.hasSuffix
  rw [Bool.eq_iff_iff, List.isSuffixOf_iff_suffix, beq_iff_eq]
  constructor
  · rintro ⟨t, rfl⟩
    simp
  · intro h
    obtain ⟨t, rfl⟩ := List.getLast?_eq_some_iff.1 h
    exact ⟨t, rfl⟩
theorem trim_byte (s : List UInt8) (c : UInt8) : Lib.trimSuffix s [c] = if (s.getLast? == some c) = true then s.dropLast else s := by
  unfold Lib.trimSuffix
  rw [suf_byte, List.dropLast_eq_take]
  rfl
theorem lns_bd {s : List UInt8} {p n : Int} (h : lnsP s = some (p, n)) : 1 ≤ p ∧ p ≤ 2147483647 ∧ 1 ≤ n ∧ p + n - 1 ≤ 2147483647 := by
  unfold lnsP at h
  split at h
  · rename_i x c y _
    have h1 := @prs_num x
    have h2 := @prs_num y
    split at h
    · rename_i hq
      cases h
      omega
    · cases h
  · have h1 := @prs_num s
    split at h
    · cases h
      omega
    · cases h
/-- what commandFrom answers -/
def CmQ (w : World) (s : List UInt8) (e : Ending) (w' : World) : Prop := ∃ x y t r, e = .returned (.tuple #[.agg #[.int .i64 x, .int .i64 y, .bool t], .bool r]) ∧ cmF s = (if r = true then some (x, y, t) else none) ∧ (-1 ≤ x ∧ x ≤ 2147483647 ∧ 0 ≤ y ∧ y ≤ 2147483647) ∧ Below w.heap.size w w'
/-- a command in a box -/
def Cb (u : World) (B : Nat) (v0 v1 v2 : Value) : Prop := u.heap[B]? = some (.cells #[v0, v1, v2] 109 (0, 0))
section
variable {u u' : World} {B : Nat} {v0 v1 v2 : Value}
theorem Cb.lt (h : Cb u B v0 v1 v2) : B < u.heap.size := (Array.getElem?_eq_some_iff.1 h).1
theorem Cb.low (h : Cb u B v0 v1 v2) (hg : Below u.heap.size u u') : Cb u' B v0 v1 v2 := (hg.block B h.lt).trans h
theorem Cb.cells (h : Cb u B v0 v1 v2) : u.cell? ⟨B, 0, none⟩ = some v0 ∧ u.cell? ⟨B, 1, none⟩ = some v1 ∧ u.cell? ⟨B, 2, none⟩ = some v2 := by
  unfold Cb at h
  exact ⟨by rw [Lib.cell_of_heap h]; rfl, by rw [Lib.cell_of_heap h]; rfl, by rw [Lib.cell_of_heap h]; rfl⟩
theorem Cb.frozen (h : Cb u B v0 v1 v2) (j : Nat) : u.frozen? ⟨B, j, none⟩ = false := by
  unfold Cb at h
  simp [World.frozen?, h]
theorem Cb.put (h : Cb u B v0 v1 v2) (z0 z1 z2 : Value) : Cb (((u.setCell ⟨B, 0, none⟩ z0).setCell ⟨B, 1, none⟩ z1).setCell ⟨B, 2, none⟩ z2) B z0 z1 z2 := by
  have s1 := heap_setCell_same u B 0 _ _ z0 h
  have s2 := heap_setCell_same _ B 1 _ _ z1 s1
  exact heap_setCell_same _ B 2 _ _ z2 s2
end
theorem cb_low {w u : World} (h : Below w.heap.size w u) (z0 z1 z2 : Value) : Below w.heap.size w (((u.setCell ⟨w.heap.size, 0, none⟩ z0).setCell ⟨w.heap.size, 1, none⟩ z1).setCell ⟨w.heap.size, 2, none⟩ z2) :=
  ((h.setCell (Nat.le_refl _) _).setCell (Nat.le_refl _) _).setCell (Nat.le_refl _) _
set_option maxRecDepth 10000 in
set_option maxHeartbeats 8000000 in
theorem commandFrom_f (s : List UInt8) (w : World) (hl : s.length ≤ 1099511627776) :
    Calls Tryz.prog 54 #[.string ⟨s.toArray⟩] w fun e w' => CmQ w s e w' := by
  have hb0 : Below w.heap.size w (w.alloc (.cells #[.int .i64 0, .int .i64 0, .bool false] 109)) := (Below.refl _ w).alloc (Nat.le_refl _) _
  have hc0 : Cb (w.alloc (.cells #[.int .i64 0, .int .i64 0, .bool false] 109)) w.heap.size (.int .i64 0) (.int .i64 0) (.bool false) := _root_.Go.heap_alloc_new w _
  have hcs : ∀ (c : UInt8) (u : World), Calls Tryz.prog 35 #[.string ⟨s.toArray⟩, .string ⟨#[c]⟩] u fun e w' => e = .returned (.tuple #[.string ⟨(if (s.getLast? == some c) = true then s.dropLast else s).toArray⟩, .bool (s.getLast? == some c)]) ∧ u = w' := (by
    intro c u
    refine (Tryz.strings_CutSuffix ⟨s.toArray⟩ ⟨#[c]⟩ u (by show s.length ≤ _; omega)).mono ?_
    rintro e w' ⟨rfl, rfl⟩
    rw [← trim_byte, ← suf_byte]
    exact ⟨rfl, rfl⟩)
  obtain ⟨w0, hw0⟩ : ∃ w0, w.alloc (.cells #[.int .i64 0, .int .i64 0, .bool false] 109) = w0 := ⟨_, rfl⟩
  rw [hw0] at hb0 hc0
  have hsl : s.dropLast.length ≤ 1099511627776 := by rw [List.length_dropLast]; omega
  have k1 := hcs 97
  have k2 := hcs 99
  have k3 := hcs 100
  by_cases h1 : s.getLast? = some 97
  · have e1 : (s.getLast? == some 97) = true := beq_iff_eq.2 h1
    rw [e1, if_pos rfl] at k1
    have hv := nParse_any s.dropLast
    have b1 := @prs_num s.dropLast
    obtain ⟨V, hV⟩ : ∃ V, Pn.parseV s.dropLast = V := ⟨_, rfl⟩
    obtain ⟨E, hE⟩ : ∃ V, Pn.parseE s.dropLast = V := ⟨_, rfl⟩
    rw [hV, hE] at hv
    rw [hV] at b1
    obtain ⟨r, hr⟩ : ∃ r, (E == 0) = r := ⟨_, rfl⟩
    have HC : Hid (cmF s = if r = true then some (V, V, true) else none) := (by
      show _ = _
      unfold cmF
      rw [h1]
      dsimp only
      rw [if_pos rfl, hV, hE, ← hr]
      by_cases hq : E = 0
      · rw [if_pos hq, if_pos (by rw [hq]; rfl)]
      · rw [if_neg hq, if_neg (by simpa using hq)])
    clear hcs k2 k3 h1 e1 hV hE
    go_enter Tryz.func54, Tryz.ntmps54
    go_wp2_with fail
    refine (k1 _).mono ?_
    rintro e w1 ⟨rfl, rfl⟩
    go_wp2_with fail
    refine (hv _ (by unfold maxLen; omega)).mono ?_
    rintro e w2 ⟨rfl, hb2⟩
    have hc2 := hc0.low hb2
    obtain ⟨d0, d1, d2⟩ := hc2.cells
    have f0 := hc2.frozen 0
    have f1 := hc2.frozen 1
    have f2 := hc2.frozen 2
    have hP := hc2.put (.int .i64 V) (.int .i64 V) (.bool true)
    go_wp2
    refine bodyPost_ret (efr_cell rfl _ _ w.heap.size 109 #[.int .i64 V, .int .i64 V, .bool true] (0, 0) _ rfl hP Tryz.underlying109 rfl (by kernel_rfl)) rfl ?_
    exact ⟨_, _, _, _, rfl, HC.out, by omega, cb_low (hb0.trans (hb2.mono hb0.size)) _ _ _⟩
  · have e1 : (s.getLast? == some 97) = false := beq_eq_false_iff_ne.2 h1
    rw [e1, if_neg (by decide)] at k1
    by_cases h2 : s.getLast? = some 99
    · have e2 : (s.getLast? == some 99) = true := beq_iff_eq.2 h2
      rw [e2, if_pos rfl] at k2
      have HC : Hid (∀ (x y : Int) (r : Bool), lnsP s.dropLast = (if r = true then some (x + 1, y - x) else none) → cmF s = if r = true then some (x, y, true) else none) := (by
        intro x y r hq
        unfold cmF
        rw [h2]
        dsimp only
        rw [if_neg (by decide), if_pos rfl, hq]
        cases r with
        | true => simp only [if_true]; congr 3; all_goals omega
        | false => rfl)
      clear hcs k3 h1 e1 h2 e2
      go_enter Tryz.func54, Tryz.ntmps54
      go_wp2_with fail
      refine (k1 _).mono ?_
      rintro e w1 ⟨rfl, rfl⟩
      go_wp2_with fail
      refine (k2 _).mono ?_
      rintro e w1 ⟨rfl, rfl⟩
      go_wp2_with fail
      refine (rangeFrom_f s.dropLast _ hsl).mono ?_
      rintro e w2 ⟨x, y, r, rfl, hq, hxy, hb2⟩
      have HC2 : Hid (cmF s = if r = true then some (x, y, true) else none) := HC.out x y r hq
      clear hq HC
      have hc2 := hc0.low hb2
      obtain ⟨d0, d1, d2⟩ := hc2.cells
      have f0 := hc2.frozen 0
      have f1 := hc2.frozen 1
      have f2 := hc2.frozen 2
      have hP := hc2.put (.int .i64 x) (.int .i64 y) (.bool true)
      go_wp2
      refine bodyPost_ret (efr_cell rfl _ _ w.heap.size 109 #[.int .i64 x, .int .i64 y, .bool true] (0, 0) _ rfl hP Tryz.underlying109 rfl (by kernel_rfl)) rfl ?_
      exact ⟨_, _, _, _, rfl, HC2.out, hxy, cb_low (hb0.trans (hb2.mono hb0.size)) _ _ _⟩
    · have e2 : (s.getLast? == some 99) = false := beq_eq_false_iff_ne.2 h2
      rw [e2, if_neg (by decide)] at k2
      by_cases h3 : s.getLast? = some 100
      · have e3 : (s.getLast? == some 100) = true := beq_iff_eq.2 h3
        rw [e3, if_pos rfl] at k3
        have HC : Hid (∀ (x y : Int) (r : Bool), lnsP s.dropLast = (if r = true then some (x + 1, y - x) else none) → cmF s = if r = true then some (x, y, false) else none) := (by
          intro x y r hq
          unfold cmF
          rw [h3]
          dsimp only
          rw [if_neg (by decide), if_neg (by decide), if_pos rfl, hq]
          cases r with
          | true => simp only [if_true]; congr 3; all_goals omega
          | false => rfl)
        clear hcs h1 e1 h2 e2 h3 e3
        go_enter Tryz.func54, Tryz.ntmps54
        go_wp2_with fail
        refine (k1 _).mono ?_
        rintro e w1 ⟨rfl, rfl⟩
        go_wp2_with fail
        refine (k2 _).mono ?_
        rintro e w1 ⟨rfl, rfl⟩
        go_wp2_with fail
        refine (k3 _).mono ?_
        rintro e w1 ⟨rfl, rfl⟩
        go_wp2_with fail
        refine (rangeFrom_f s.dropLast _ hsl).mono ?_
        rintro e w2 ⟨x, y, r, rfl, hq, hxy, hb2⟩
        have HC2 : Hid (cmF s = if r = true then some (x, y, false) else none) := HC.out x y r hq
        clear hq HC
        have hc2 := hc0.low hb2
        obtain ⟨d0, d1, d2⟩ := hc2.cells
        have f0 := hc2.frozen 0
        have f1 := hc2.frozen 1
        have f2 := hc2.frozen 2
        have hP := hc2.put (.int .i64 x) (.int .i64 y) (.bool false)
        go_wp2
        refine bodyPost_ret (efr_cell rfl _ _ w.heap.size 109 #[.int .i64 x, .int .i64 y, .bool false] (0, 0) _ rfl hP Tryz.underlying109 rfl (by kernel_rfl)) rfl ?_
        exact ⟨_, _, _, _, rfl, HC2.out, hxy, cb_low (hb0.trans (hb2.mono hb0.size)) _ _ _⟩
      · have e3 : (s.getLast? == some 100) = false := beq_eq_false_iff_ne.2 h3
        rw [e3, if_neg (by decide)] at k3
        have HC : Hid (cmF s = none) := (by
          show _ = _
          unfold cmF
          cases hg : s.getLast? with
          | none => rfl
          | some c =>
            rw [hg] at h1 h2 h3
            dsimp only
            rw [if_neg (fun q => h1 (by rw [q])), if_neg (fun q => h2 (by rw [q])), if_neg (fun q => h3 (by rw [q]))])
        clear hcs h1 e1 h2 e2 h3 e3
        go_enter Tryz.func54, Tryz.ntmps54
        go_wp2_with fail
        refine (k1 _).mono ?_
        rintro e w1 ⟨rfl, rfl⟩
        go_wp2_with fail
        refine (k2 _).mono ?_
        rintro e w1 ⟨rfl, rfl⟩
        go_wp2_with fail
        refine (k3 _).mono ?_
        rintro e w1 ⟨rfl, rfl⟩
        obtain ⟨d0, d1, d2⟩ := hc0.cells
        have f0 := hc0.frozen 0
        have f1 := hc0.frozen 1
        have f2 := hc0.frozen 2
        have hP := hc0.put (.int .i64 0) (.int .i64 0) (.bool false)
        go_wp2
        refine bodyPost_ret (efr_cell rfl _ _ w.heap.size 109 #[.int .i64 0, .int .i64 0, .bool false] (0, 0) _ rfl hP Tryz.underlying109 rfl (by kernel_rfl)) rfl ?_
        exact ⟨_, _, _, _, rfl, HC.out, by omega, cb_low hb0 _ _ _⟩
/-- a command with numbers names lines from 0 on, in order -/
theorem cmF_bd {s : List UInt8} {i j : Int} {t : Bool} (h : cmF s = some (i, j, t)) : 0 ≤ i ∧ i ≤ j ∧ j ≤ 2147483647 := by
  unfold cmF at h
  split at h
  · cases h
  · split at h
    · split at h
      · cases h
        have := @prs_num s.dropLast
        omega
      · cases h
    · split at h
      · split at h
        · cases h
        · rename_i p n hq
          have := lns_bd hq
          cases h
          omega
      · split at h
        · split at h
          · cases h
          · rename_i p n hq
            have := lns_bd hq
            cases h
            omega
        · cases h
end Go.Proofs.YtnlbjknfahhfaaaGreatDoor

/- The editor of layer 13 as it lies in memory; its line, cutCurrent and result, walked. -/
set_option maxRecDepth 20000
namespace Go.Proofs.YtnlbjknfahhfaaaGreatDoor
open Go.RowKit

theorem HB.set {w : World} {N : Nat} {x : Bck} (h : HB w N x) (j : Nat) (hj : j < x.xs.length) (s : List UInt8) : HB (w.setCell ⟨x.g, x.o + j, none⟩ (.string ⟨s.toArray⟩)) N ⟨x.g, x.o, x.c, x.xs.set j s⟩ := by
  obtain ⟨h0, h1, cs, h2, h3⟩ := h
  refine ⟨h0, by dsimp only; rw [List.length_set]; exact h1, _, heap_setCell_same w x.g (x.o + j) _ _ _ h2, fun k hk => ?_⟩
  dsimp only at hk ⊢
  rw [List.length_set] at hk
  have hlt : x.o + j < cs.size := by
    have := h3 j hj
    exact (Array.getElem?_eq_some_iff.1 this).1
  by_cases e : k = j
  · subst e
    rw [Array.getElem?_setIfInBounds_self_of_lt hlt, List.getElem_set_self]
  · rw [Array.getElem?_setIfInBounds_ne (by omega), h3 k hk, List.getElem_set_ne (by omega)]
/-- a store into a block leaves those that lie apart -/
theorem HB.other {w : World} {N : Nat} {x y : Bck} (h : HB w N y) (ha : Apart x y) (j : Nat) (hj : j < x.xs.length) (s : Value) : HB (w.setCell ⟨x.g, x.o + j, none⟩ s) N y := by
  obtain ⟨h0, h1, cs, h2, h3⟩ := h
  by_cases e : x.g = y.g
  · rw [← e] at h2
    refine ⟨h0, h1, _, by rw [← e]; exact heap_setCell_same w x.g (x.o + j) _ _ _ h2, fun k hk => ?_⟩
    have hne : x.o + j ≠ y.o + k := by
      rcases ha with h | h | h
      · exact absurd e h
      · omega
      · omega
    rw [Array.getElem?_setIfInBounds_ne hne]
    exact h3 k hk
  · exact ⟨h0, h1, cs, (heap_setCell_other _ _ _ _ (fun q => e q.symm)).trans h2, h3⟩
theorem cat_set (X : List Bck) (i : Nat) (hi : i < X.length) (y : Bck) : cat (X.set i y) = cat (X.take i) ++ (y.xs ++ cat (X.drop (i + 1))) := by
  rw [List.set_eq_take_append_cons_drop, if_pos hi, cat_append, cat_cons]
/-- one line is changed where it stands -/
theorem Bks.set {w : World} {N : Nat} {v : Value} {X : List Bck} (h : Bks w N v X) (i : Nat) (hi : i < X.length) (j : Nat) (hj : j < X[i].xs.length) (s : List UInt8) :
    Bks (w.setCell ⟨X[i].g, X[i].o + j, none⟩ (.string ⟨s.toArray⟩)) N v (X.set i ⟨X[i].g, X[i].o, X[i].c, X[i].xs.set j s⟩) := by
  have hbi := h.blk X[i] (List.getElem_mem _)
  obtain ⟨o, c, cs, h1, h2, h3, h4, h5⟩ := h.row
  have hne : o ≠ X[i].g := by
    rintro rfl
    obtain ⟨_, _, cs2, q, _⟩ := hbi
    rw [h4] at q
    cases q
  have hap : ∀ k (hk : k < X.length), k ≠ i → Apart X[i] X[k] := by
    intro k hk hki
    have hp := List.pairwise_iff_getElem.1 h.apart
    rcases Nat.lt_or_gt_of_ne hki with q | q
    · have := hp k i hk hi q
      unfold Apart at this ⊢
      rcases this with r | r | r
      · exact .inl (fun e => r e.symm)
      · exact .inr (.inr r)
      · exact .inr (.inl r)
    · exact hp i k hi hk q
  refine ⟨⟨o, c, cs, by rw [List.length_set]; exact h1, by rw [List.length_set]; exact h2, h3, (heap_setCell_other _ _ _ _ hne).trans h4, fun k hk => ?_⟩, ?_, ?_, ?_⟩
  · rw [List.length_set] at hk
    rw [h5 k hk]
    by_cases e : k = i
    · subst e
      rw [List.getElem_set_self]
      unfold Bck.v
      dsimp only
      rw [List.length_set]
    · rw [List.getElem_set_ne (by omega)]
  · intro q
    have := congrArg List.length q
    rw [List.length_set] at this
    simp at this
    exact h.ne this
  · intro y hy
    obtain ⟨k, hk, rfl⟩ := List.getElem_of_mem hy
    rw [List.length_set] at hk
    by_cases e : k = i
    · subst e
      rw [List.getElem_set_self]
      exact hbi.set j hj s
    · rw [List.getElem_set_ne (by omega)]
      exact (h.blk X[k] (List.getElem_mem _)).other (hap k hk e) j hj _
  · rw [List.pairwise_iff_getElem]
    intro k m hk hm hkm
    rw [List.length_set] at hk hm
    have hp := List.pairwise_iff_getElem.1 h.apart k m hk hm hkm
    have key : ∀ q (hq : q < X.length), ((X.set i ⟨X[i].g, X[i].o, X[i].c, X[i].xs.set j s⟩)[q]'(by rw [List.length_set]; exact hq)).g = X[q].g ∧ ((X.set i ⟨X[i].g, X[i].o, X[i].c, X[i].xs.set j s⟩)[q]'(by rw [List.length_set]; exact hq)).o = X[q].o ∧ ((X.set i ⟨X[i].g, X[i].o, X[i].c, X[i].xs.set j s⟩)[q]'(by rw [List.length_set]; exact hq)).xs.length = X[q].xs.length := by
      intro q hq
      by_cases e : q = i
      · subst e
        rw [List.getElem_set_self]
        exact ⟨rfl, rfl, by dsimp only; rw [List.length_set]⟩
      · rw [List.getElem_set_ne (by omega)]
        exact ⟨rfl, rfl, rfl⟩
    obtain ⟨a1, a2, a3⟩ := key k hk
    obtain ⟨b1, b2, b3⟩ := key m hm
    unfold Apart at hp ⊢
    rw [a1, a2, a3, b1, b2, b3]
    exact hp
/-- the editor in memory: W is the world in which its script was made -/
structure Ed (W : World) (g : Nat) (vs : Value) (S : List (List UInt8)) (p : Nat) (vl : Value) (X : List Bck) (cur : Nat) (en : Bool) (w : World) : Prop where
  scr : HS W vs S
  low : Below W.heap.size W w
  gW : W.heap.size ≤ g
  box : Eb w g vs vl (p : Int) ((cat X).length : Int) (cur : Int) en
  bks : Bks w W.heap.size vl X
  hp : p ≤ S.length
  hc : cur ≤ (cat X).length
section
variable {W w w' : World} {g : Nat} {vs vl : Value} {S : List (List UInt8)} {p cur : Nat} {X : List Bck} {en : Bool}
theorem Ed.keep (h : Ed W g vs S p vl X cur en w) (hb : Below w.heap.size w w') : Ed W g vs S p vl X cur en w' :=
  ⟨h.scr, h.low.trans (hb.mono h.low.size), h.gW, h.box.low hb, h.bks.low hb, h.hp, h.hc⟩
theorem Ed.row (h : Ed W g vs S p vl X cur en w) : HS w vs S := HS.keep h.scr h.low (Nat.le_refl _)
end
theorem bare_same (l : List UInt8) (hl : l.length ≤ 9223372036854775807) (w : World) : Calls Tryz.prog 14 #[.string ⟨l.toArray⟩] w fun e w' => e = .returned (.tuple #[.string ⟨(bareT l).toArray⟩, .bool (fdB l)]) ∧ w' = w :=
  (lBare_f l w hl).mono fun _ _ h => ⟨h.1, h.2.symm⟩
/-- the next line of the script -/
def nxE (S : List (List UInt8)) (p : Nat) : List UInt8 × Int := if h : p < S.length then if fdB S[p] = true then (S[p].dropLast, 0) else ([], 3) else ([], 1)
set_option maxRecDepth 10000 in
set_option maxHeartbeats 4000000 in
theorem eline_f (W : World) (g : Nat) (vs vl : Value) (S : List (List UInt8)) (p : Nat) (X : List Bck) (cur : Nat) (en : Bool) (w : World) (hE : Ed W g vs S p vl X cur en w) (hS : S.length ≤ 1099511627776) (HTS : Hid (∀ s ∈ S, s.length ≤ 1099511627776)) (t : List UInt8) (e0 : Int) (HN : Hid (nxE S p = (t, e0))) :
    Calls Tryz.prog 51 #[.pointer (some ⟨g, 0, none⟩)] w fun e w' => e = .returned (.tuple #[.string ⟨t.toArray⟩, .int .i64 e0]) ∧ Below w.heap.size w w' := by
  obtain ⟨c0, c1, _, _, _, _⟩ := hE.box.cells
  have hrow := hE.row
  have hpS := hE.hp
  obtain ⟨so, sc, rfl⟩ := Holds.form hrow
  clear hE
  by_cases hlt : p < S.length
  · obtain ⟨bk, off, rfl, hbk, hcl⟩ := HS.at hrow (by omega)
    have d4 := hcl p hlt
    have hsl := HTS.out S[p] (List.getElem_mem _)
    have hN := HN.out
    unfold nxE at hN
    rw [dif_pos hlt] at hN
    generalize S[p] = s at d4 hsl hN
    clear hcl hrow HN
    have f0 : ((p : Int) == (S.length : Int)) = false := beq_eq_false_iff_ne.2 (by omega)
    cases hf : fdB s with
    | true =>
      rw [if_pos hf] at hN
      cases hN
      have hbs : ∀ u, Calls Tryz.prog 14 #[.string ⟨s.toArray⟩] u fun e w' => e = .returned (.tuple #[.string ⟨s.dropLast.toArray⟩, .bool true]) ∧ w' = u := fun u => by
        have h := bare_same s (by omega) u
        unfold bareT at h
        rw [hf, if_pos rfl] at h
        exact h
      go_enter Tryz.func51, Tryz.ntmps51
      go_wp2_with fail
      go_quiet (fail)
      go_wp2_with fail
      have c0' : (w.drewN nq).cell? ⟨g, 0, none⟩ = _ := c0
      have c1' : (w.drewN nq).cell? ⟨g, 1, none⟩ = _ := c1
      have d4' : (w.drewN nq).cell? ⟨bk, off + p, none⟩ = _ := d4
      have HM : Hid (∀ n, Below w.heap.size w ((w.drewN nq).drewN n)) := fun n => Below.dN (Below.dN (Below.refl _ w) nq) n
      clear c0 c1 d4
      generalize w.drewN nq = W1 at c0' c1' d4' HM ⊢
      have j1 : (0 : Int) ≤ (p : Int) := by omega
      have j2 : (p : Int) < (S.length : Int) := by omega
      have j3 : (p : Int).toNat = p := by omega
      go_quiet ((go_at_call 14; exact Calls.quiet_of_same (hbs _)))
      go_wp2
      go_ret2
      exact ⟨rfl, HM.out _⟩
    | false =>
      rw [if_neg (by rw [hf]; decide)] at hN
      cases hN
      have hbs : ∀ u, Calls Tryz.prog 14 #[.string ⟨s.toArray⟩] u fun e w' => e = .returned (.tuple #[.string ⟨s.toArray⟩, .bool false]) ∧ w' = u := fun u => by
        have h := bare_same s (by omega) u
        unfold bareT at h
        rw [hf, if_neg (by decide)] at h
        exact h
      go_enter Tryz.func51, Tryz.ntmps51
      go_wp2_with fail
      go_quiet (fail)
      go_wp2_with fail
      have c0' : (w.drewN nq).cell? ⟨g, 0, none⟩ = _ := c0
      have c1' : (w.drewN nq).cell? ⟨g, 1, none⟩ = _ := c1
      have d4' : (w.drewN nq).cell? ⟨bk, off + p, none⟩ = _ := d4
      have HM : Hid (∀ n, Below w.heap.size w ((w.drewN nq).drewN n)) := fun n => Below.dN (Below.dN (Below.refl _ w) nq) n
      clear c0 c1 d4
      generalize w.drewN nq = W1 at c0' c1' d4' HM ⊢
      have j1 : (0 : Int) ≤ (p : Int) := by omega
      have j2 : (p : Int) < (S.length : Int) := by omega
      have j3 : (p : Int).toNat = p := by omega
      go_quiet ((go_at_call 14; exact Calls.quiet_of_same (hbs _)))
      go_wp2
      go_ret2
      exact ⟨rfl, HM.out _⟩
  · have hN := HN.out
    unfold nxE at hN
    rw [dif_neg hlt] at hN
    cases hN
    have f0 : ((p : Int) == (S.length : Int)) = true := beq_iff_eq.2 (by omega)
    have HM : Hid (∀ n, Below w.heap.size w (w.drewN n)) := fun n => Below.dN (Below.refl _ w) n
    clear hrow HN
    go_enter Tryz.func51, Tryz.ntmps51
    go_wp2_with fail
    go_quiet (fail)
    go_wp2
    go_ret2
    exact ⟨rfl, HM.out _⟩
end Go.Proofs.YtnlbjknfahhfaaaGreatDoor

/- The editor's steps of layer 13, walked: cutCurrent, text, do, putFurther. -/
set_option maxRecDepth 20000
namespace Go.Proofs.YtnlbjknfahhfaaaGreatDoor
open Go.RowKit
attribute [local go_sem] ByteArray.extract_mk

section
variable {W w w' : World} {g : Nat} {vs vl : Value} {S : List (List UInt8)} {p cur : Nat} {X : List Bck} {en : Bool}
/-- the blocks stay where all but the box stays -/
theorem Bks.bt {N : Nat} {v : Value} {p cnt cur : Int} (hk : Bks w N v X) (hE : Eb w g vs vl p cnt cur en) (hb : Bt g w w') : Bks w' N v X := by
  have kp : ∀ (k : Nat) (cs : Array Value) (t : TypeId), w.heap[k]? = some (.cells cs t (0, 0)) → t ≠ 81 → w'.heap[k]? = w.heap[k]? := by
    intro k cs t hk2 ht
    refine hb.block k (Array.getElem?_eq_some_iff.1 hk2).1 ?_
    rintro rfl
    unfold Eb at hE
    rw [hE] at hk2
    cases hk2
    exact ht rfl
  obtain ⟨o, c, cs, h1, h2, h3, h4, h5⟩ := hk.row
  refine ⟨⟨o, c, cs, h1, h2, h3, (kp _ _ _ h4 (by decide)).trans h4, h5⟩, hk.ne, fun y hy => ?_, hk.apart⟩
  obtain ⟨_, _, cs2, q2, _⟩ := hk.blk y hy
  exact (hk.blk y hy).keep (kp _ _ _ q2 (by decide))
theorem Ed.bt {p' : Nat} (h : Ed W g vs S p vl X cur en w) (hb : Bt g w w') (hE : Eb w' g vs vl (p' : Int) ((cat X).length : Int) (cur : Int) en) (hp : p' ≤ S.length) : Ed W g vs S p' vl X cur en w' :=
  ⟨h.scr, h.low.trans (hb.low h.gW h.low.size), h.gW, hE, h.bks.bt h.box hb, hp, h.hc⟩
end
theorem fnd_ex : ∀ (X : List Bck) (a : Nat), X ≠ [] → a ≤ (cat X).length → ∃ i k, Fnd X a i k
  | [], _, h, _ => absurd rfl h
  | [x], a, _, ha => ⟨0, a, by simp, by simpa [cat] using ha, by simp [cat], fun h => h, fun _ => rfl⟩
  | x :: y :: r, a, _, ha => by
    by_cases h : a ≤ x.xs.length
    · exact ⟨0, a, by simp, h, by simp [cat], fun h => h, fun _ => rfl⟩
    · obtain ⟨i, k, hf⟩ := fnd_ex (y :: r) (a - x.xs.length) (by simp) (by rw [cat_cons, List.length_append] at ha; omega)
      have hl := hf.lt
      refine ⟨i + 1, k, by simp at hl ⊢; omega, hf.le, ?_, fun _ => hf.pos (by omega), fun h0 => by omega⟩
      have := hf.eq
      rw [List.take_succ_cons, cat_cons, List.length_append]
      omega
theorem fnd_uniq {X : List Bck} {a i k i' k' : Nat} (h : Fnd X a i k) (h' : Fnd X a i' k') : i = i' ∧ k = k' := by
  have h1 := h.order h' (Nat.le_refl _)
  have h2 := h'.order h (Nat.le_refl _)
  have e : i = i' := by omega
  subst e
  have := h.eq
  have := h'.eq
  exact ⟨rfl, by omega⟩
theorem bline_at {N g q : Nat} {ao : Option Addr} {n c : Nat} {X : List Bck} {w : World} (hk : Bks w N (.slice ao n c) X) (hc : w.cell? ⟨g, q, none⟩ = some (.slice ao n c)) (hX : X.length ≤ 1099511627776) (hT : (cat X).length ≤ 1099511627776) {a i k : Nat} (h : Fnd X a i (k + 1)) (ha : a ≤ (cat X).length) :
    Calls Tryz.prog 80 #[.pointer (some ⟨g, q, none⟩), .int .i64 (a : Int)] w fun e w' => e = .returned (.pointer (some ⟨(X[i]'h.lt).g, (X[i]'h.lt).o + k, none⟩)) ∧ w' = w := by
  refine (bline_f N g q ao n c X w hk hc hX hT a (by have := h.eq; omega) ha).mono ?_
  rintro e w' ⟨i', k', h', rfl, rfl⟩
  obtain ⟨rfl, hkk⟩ := fnd_uniq h h'
  obtain rfl : k = k' := by omega
  exact ⟨rfl, rfl⟩
theorem fnd_get {X : List Bck} {a i k : Nat} (h : Fnd X a i (k + 1)) : (cat X).getD (a - 1) [] = ((X[i]'h.lt).xs)[k]'(by have := h.le; omega) := by
  have h1 := h.eq
  have h2 := h.le
  rw [cat_split X i h.lt, List.getD_eq_getElem?_getD, List.getElem?_append_right (by omega), List.getElem?_append_left (by omega), show a - 1 - (cat (X.take i)).length = k by omega, List.getElem?_eq_getElem (by omega)]
  rfl
theorem fnd_set {X : List Bck} {a i k : Nat} (h : Fnd X a i (k + 1)) (s : List UInt8) : cat (X.set i ⟨(X[i]'h.lt).g, (X[i]'h.lt).o, (X[i]'h.lt).c, (X[i]'h.lt).xs.set k s⟩) = (cat X).set (a - 1) s := by
  have h1 := h.eq
  have h2 := h.le
  rw [cat_set X i h.lt, cat_split X i h.lt, List.set_append_right _ _ (by omega), show a - 1 - (cat (X.take i)).length = k by omega, List.set_append_left _ _ (by omega)]
theorem tail_str (c : UInt8) (t : List UInt8) : (⟨(c :: t).toArray⟩ : ByteArray).extract 1 (⟨(c :: t).toArray⟩ : ByteArray).size = ⟨t.toArray⟩ := by
  have hs : (⟨(c :: t).toArray⟩ : ByteArray).size = t.length + 1 := rfl
  rw [hs, ByteArray.extract_mk]
  congr 1
  simp
theorem run_tail1 (c : UInt8) (t : List UInt8) (u : World) : (Instr.slice 9 (.string ⟨(c :: t).toArray⟩) (some (.int .i64 1)) none none).run Tryz.prog u = .ok (.string ⟨t.toArray⟩) u := by
  rw [run_slice_string_l (P := Tryz.prog) u 9 ⟨(c :: t).toArray⟩ Tryz.underlying9 .i64 1 (by decide) (by show (1 : Int) ≤ ((t.length + 1 : Nat) : Int); omega)]
  have := tail_str c t
  simp [this]
/-- how a step ends: an error at a place, or what is there then -/
def EdQ (W : World) (g : Nat) (vs : Value) (S : List (List UInt8)) (B : Nat) (r : Except (Nat × Int) (List (List UInt8) × Nat × Bool × Nat)) (e : Ending) (w' : World) : Prop :=
  match r with
  | .error (k, z) => e = .returned (.int .i64 z) ∧ z ≠ 0 ∧ ∃ p vl X cur en, k = p + 1 ∧ Ed W g vs S p vl X cur en w'
  | .ok (T, cur, en, p) => e = .returned (.int .i64 0) ∧ ∃ vl X, Ed W g vs S p vl X cur en w' ∧ cat X = T ∧ 512 * X.length ≤ B
/-- one line shorter -/
theorem Ed.cut {W w : World} {g : Nat} {vs vl : Value} {S : List (List UInt8)} {p cur : Nat} {X : List Bck} {en : Bool} (h : Ed W g vs S p vl X cur en w) {i k : Nat} (hF : Fnd X cur i (k + 1)) (s : List UInt8) :
    Ed W g vs S p vl (X.set i ⟨(X[i]'hF.lt).g, (X[i]'hF.lt).o, (X[i]'hF.lt).c, (X[i]'hF.lt).xs.set k s⟩) cur en (w.setCell ⟨(X[i]'hF.lt).g, (X[i]'hF.lt).o + k, none⟩ (.string ⟨s.toArray⟩)) := by
  have hb := h.bks.blk (X[i]'hF.lt) (List.getElem_mem _)
  have hc := fnd_set hF s
  have hl : (cat (X.set i ⟨(X[i]'hF.lt).g, (X[i]'hF.lt).o, (X[i]'hF.lt).c, (X[i]'hF.lt).xs.set k s⟩)).length = (cat X).length := by rw [hc, List.length_set]
  refine ⟨h.scr, h.low.setCell hb.1 _, h.gW, ?_, h.bks.set i hF.lt k (by have := hF.le; omega) s, h.hp, by rw [hl]; exact h.hc⟩
  rw [hl]
  have hne : g ≠ (X[i]'hF.lt).g := by
    intro e
    obtain ⟨_, _, cs, q, _⟩ := hb
    have hq := h.box
    unfold Eb at hq
    rw [e, q] at hq
    cases hq
  exact (heap_setCell_other _ _ _ _ hne).trans h.box
theorem Ed.setP {W w : World} {g : Nat} {vs vl : Value} {S : List (List UInt8)} {p cur : Nat} {X : List Bck} {en : Bool} (h : Ed W g vs S p vl X cur en w) (p' : Nat) (hp : p' ≤ S.length) (z : Int) (hz : z = (p' : Int)) : Ed W g vs S p' vl X cur en (w.setCell ⟨g, 1, none⟩ (.int .i64 z)) := by
  subst hz
  exact h.bt (Bt.set (Bt.of (Below.refl _ w)) 1 _) (h.box.setP _) hp
theorem Ed.setE {W w : World} {g : Nat} {vs vl : Value} {S : List (List UInt8)} {p cur : Nat} {X : List Bck} {en : Bool} (h : Ed W g vs S p vl X cur en w) : Ed W g vs S p vl X cur true (w.setCell ⟨g, 5, none⟩ (.bool true)) := by
  have hb := Bt.set (g := g) (Bt.of (Below.refl _ w)) 5 (.bool true)
  exact ⟨h.scr, h.low.trans (hb.low h.gW h.low.size), h.gW, h.box.setE true, h.bks.bt h.box hb, h.hp, h.hc⟩
theorem Ed.setU {W w : World} {g : Nat} {vs vl : Value} {S : List (List UInt8)} {p cur : Nat} {X : List Bck} {en : Bool} (h : Ed W g vs S p vl X cur en w) (c' : Nat) (hc : c' ≤ (cat X).length) (z : Int) (hz : z = (c' : Int)) : Ed W g vs S p vl X c' en (w.setCell ⟨g, 4, none⟩ (.int .i64 z)) := by
  subst hz
  have hb := Bt.set (g := g) (Bt.of (Below.refl _ w)) 4 (.int .i64 (c' : Int))
  exact ⟨h.scr, h.low.trans (hb.low h.gW h.low.size), h.gW, h.box.setU _, h.bks.bt h.box hb, h.hp, hc⟩
set_option maxRecDepth 10000 in
set_option maxHeartbeats 4000000 in
theorem cutCur_f (W : World) (g : Nat) (vs vl : Value) (S : List (List UInt8)) (p : Nat) (X : List Bck) (cur : Nat) (en : Bool) (w : World) (hE : Ed W g vs S p vl X cur en w) (hS : S.length ≤ 1099511627776) (hp1 : p < S.length) (hX : X.length ≤ 549755813888) (hT : (cat X).length ≤ 274877906944)
    (r : Except (Nat × Int) (List (List UInt8) × Nat × Bool × Nat)) (HR : Hid ((if cur = 0 ∨ (cat X).getD (cur - 1) [] = [] then .error (p + 1, 130) else .ok ((cat X).set (cur - 1) ((cat X).getD (cur - 1) []).tail, cur, en, p + 1)) = r)) :
    Calls Tryz.prog 52 #[.pointer (some ⟨g, 0, none⟩)] w fun e w' => EdQ W g vs S (512 * X.length) r e w' := by
  obtain ⟨_, c1, c2, _, c4, _⟩ := hE.box.cells
  by_cases h0 : cur = 0
  · have hr := HR.out
    rw [if_pos (.inl h0)] at hr
    subst hr
    subst h0
    go_enter Tryz.func52, Tryz.ntmps52
    go_wp2
    go_ret
    exact ⟨rfl, by decide, _, _, _, _, _, rfl, hE⟩
  · have hc0 : ((cur : Int) == 0) = false := beq_eq_false_iff_ne.2 (by omega)
    obtain ⟨o, c, _, rfl, _⟩ := hE.bks.row
    obtain ⟨i, k', hF⟩ := fnd_ex X cur hE.bks.ne hE.hc
    obtain ⟨k, rfl⟩ : ∃ k, k' = k + 1 := ⟨k' - 1, by have := hF.pos (by omega); omega⟩
    have hbl : ∀ u, u.heap = w.heap → Calls Tryz.prog 80 #[.pointer (some ⟨g, 2, none⟩), .int .i64 (cur : Int)] u fun e w' => e = .returned (.pointer (some ⟨(X[i]'hF.lt).g, (X[i]'hF.lt).o + k, none⟩)) ∧ w' = u := (by
      intro u hu
      have hb : Below w.heap.size w u → True := fun _ => trivial
      have hku : Bks u W.heap.size (.slice (some ⟨o, 0, none⟩) X.length c) X := (by
        obtain ⟨o1, c1, cs1, q1, q2, q3, q4, q5⟩ := hE.bks.row
        exact ⟨⟨o1, c1, cs1, q1, q2, q3, by rw [hu]; exact q4, q5⟩, hE.bks.ne, fun x hx => (hE.bks.blk x hx).keep (by rw [hu]), hE.bks.apart⟩)
      have hcu : u.cell? ⟨g, 2, none⟩ = some (.slice (some ⟨o, 0, none⟩) X.length c) := (by
        rw [← c2]
        unfold World.cell?
        rw [hu])
      exact bline_at hku hcu (by omega) (by omega) hF hE.hc)
    have hget := fnd_get hF
    have hcell := (hE.bks.blk (X[i]'hF.lt) (List.getElem_mem _)).cell k (by have := hF.le; omega)
    obtain ⟨s, hs⟩ : ∃ s, (X[i]'hF.lt).xs[k]'(by have := hF.le; omega) = s := ⟨_, rfl⟩
    rw [hs] at hget hcell
    have hcut := fun t => hE.cut hF t
    have hcat := fun t => fnd_set hF t
    obtain ⟨l1, l2⟩ := hcell
    have hr := HR.out
    have HCT : Hid (∀ t, Ed W g vs S p (.slice (some ⟨o, 0, none⟩) X.length c) (X.set i ⟨(X[i]'hF.lt).g, (X[i]'hF.lt).o, (X[i]'hF.lt).c, (X[i]'hF.lt).xs.set k t⟩) cur en (w.setCell ⟨(X[i]'hF.lt).g, (X[i]'hF.lt).o + k, none⟩ (.string ⟨t.toArray⟩))) := hcut
    have HCC : Hid (∀ t, cat (X.set i ⟨(X[i]'hF.lt).g, (X[i]'hF.lt).o, (X[i]'hF.lt).c, (X[i]'hF.lt).xs.set k t⟩) = (cat X).set (cur - 1) t) := hcat
    clear hcut hcat HR
    rw [hget] at hr
    cases s with
    | nil =>
      rw [if_pos (.inr rfl)] at hr
      subst hr
      have hM : Hid (∀ n, Ed W g vs S p (.slice (some ⟨o, 0, none⟩) X.length c) X cur en (w.drewN n)) := fun n => hE.keep (Below.dN (Below.refl _ w) n)
      clear hE HCT HCC hs hget
      generalize (X[i]'hF.lt).g = xg at *
      generalize (X[i]'hF.lt).o = xo at *
      have l1' : ∀ n, (w.drewN n).cell? ⟨xg, xo + k, none⟩ = some (.string ⟨#[]⟩) := fun n => l1
      go_enter Tryz.func52, Tryz.ntmps52
      go_wp2_with fail
      go_quiet ((go_at_call 80; exact Calls.quiet_of_same (hbl _ rfl)))
      go_wp2
      go_ret
      exact ⟨rfl, by decide, _, _, _, _, _, rfl, hM.out _⟩
    | cons ch t =>
      rw [if_neg (by simp [h0])] at hr
      subst hr
      have hM : Hid (∀ n, Ed W g vs S (p + 1) (.slice (some ⟨o, 0, none⟩) X.length c) (X.set i ⟨(X[i]'hF.lt).g, (X[i]'hF.lt).o, (X[i]'hF.lt).c, (X[i]'hF.lt).xs.set k t⟩) cur en (((w.drewN n).setCell ⟨(X[i]'hF.lt).g, (X[i]'hF.lt).o + k, none⟩ (.string ⟨t.toArray⟩)).setCell ⟨g, 1, none⟩ (.int .i64 ((p : Int) + 1)))) := fun n => ((hE.keep (Below.dN (Below.refl _ w) n)).cut hF t).setP (p + 1) (by omega) _ (by omega)
      have hcu2 : ∀ n, ((w.drewN n).setCell ⟨(X[i]'hF.lt).g, (X[i]'hF.lt).o + k, none⟩ (.string ⟨t.toArray⟩)).cell? ⟨g, 1, none⟩ = some (.int .i64 (p : Int)) ∧ ((w.drewN n).setCell ⟨(X[i]'hF.lt).g, (X[i]'hF.lt).o + k, none⟩ (.string ⟨t.toArray⟩)).frozen? ⟨g, 1, none⟩ = false := fun n => by
        have h := (hE.keep (Below.dN (Below.refl _ w) n)).cut hF t
        exact ⟨h.box.cells.2.1, h.box.frozen 1⟩
      have HT2 : Hid (cat (X.set i ⟨(X[i]'hF.lt).g, (X[i]'hF.lt).o, (X[i]'hF.lt).c, (X[i]'hF.lt).xs.set k t⟩) = (cat X).set (cur - 1) t) := HCC.out t
      have HL2 : Hid (512 * (X.set i ⟨(X[i]'hF.lt).g, (X[i]'hF.lt).o, (X[i]'hF.lt).c, (X[i]'hF.lt).xs.set k t⟩).length ≤ 512 * X.length) := (by show _ ≤ _; rw [List.length_set]; exact Nat.le_refl _)
      clear hE HCT HCC hs hget
      generalize X.set i ⟨(X[i]'hF.lt).g, (X[i]'hF.lt).o, (X[i]'hF.lt).c, (X[i]'hF.lt).xs.set k t⟩ = X2 at *
      generalize (X[i]'hF.lt).g = xg at *
      generalize (X[i]'hF.lt).o = xo at *
      have hsl := fun u => run_tail1 ch t u
      go_enter Tryz.func52, Tryz.ntmps52
      go_wp2_with fail
      go_quiet ((go_at_call 80; exact Calls.quiet_of_same (hbl _ rfl)))
      have l1' : (w.drewN nq).cell? ⟨xg, xo + k, none⟩ = some (.string ⟨(ch :: t).toArray⟩) := l1
      have l2' : (w.drewN nq).frozen? ⟨xg, xo + k, none⟩ = false := l2
      obtain ⟨u1, u2⟩ := hcu2 nq
      have HM := hM.out nq
      have HMh : Hid (Ed W g vs S (p + 1) (.slice (some ⟨o, 0, none⟩) X.length c) X2 cur en (((w.drewN nq).setCell ⟨xg, xo + k, none⟩ (.string ⟨t.toArray⟩)).setCell ⟨g, 1, none⟩ (.int .i64 ((p : Int) + 1)))) := HM
      clear HM hM hcu2 l1 l2 c1 c2 c4 hbl
      go_wp2
      go_ret
      exact ⟨rfl, _, X2, HMh.out, HT2.out, HL2.out⟩
end Go.Proofs.YtnlbjknfahhfaaaGreatDoor

/- The editor's text of layer 13, walked: the text lines of a command. -/
set_option maxRecDepth 20000
namespace Go.Proofs.YtnlbjknfahhfaaaGreatDoor
open Go.RowKit

/-- the editor's place, as it lies in memory -/
def edP (g : Nat) (w : World) : Nat := match w.cell? ⟨g, 1, none⟩ with
  | some (.int _ z) => z.toNat
  | _ => 0
theorem edP_eq {g : Nat} {w : World} {vs vl : Value} {p : Nat} {cnt cur : Int} {en : Bool} (h : Eb w g vs vl (p : Int) cnt cur en) : edP g w = p := by
  unfold edP
  rw [h.cells.2.1]
  simp
theorem own_keep {a b : World} {base : Nat} {e : TypeId} {s : Nat} {v : Value} {n : Nat} {xs : List Value} (h : a.ownsRow base e s v n xs) (hk : ∀ k, v.ownBlock = some k → b.heap[k]? = a.heap[k]?) : b.ownsRow base e s v n xs := by
  refine ⟨h.1, ?_⟩
  rcases h.2 with q | ⟨g, cap, cur, rfl, q2, q3, q4⟩
  · exact .inl q
  · exact .inr ⟨g, cap, cur, rfl, q2, (hk g rfl).trans q3, q4⟩
theorem Bt.grown {g : Nat} {a b c : World} {row : Option Nat} (h : Bt g a b) (hg : b.grownBy c row) (hr : ∀ j, row = some j → a.heap.size ≤ j) : Bt g a c :=
  ⟨hg.os.trans h.os, hg.tape.trans h.tape, hg.output.trans h.output, Nat.le_trans h.size hg.size, fun k hk hq => (hg.block k (Nat.lt_of_lt_of_le hk h.size) (fun e => by have := hr k e.symm; omega)).trans (h.block k hk hq)⟩
def txA (l : List (List UInt8)) (r : Except (Nat × Int) (List (List UInt8) × Nat × List (List UInt8))) : Except (Nat × Int) (List (List UInt8) × Nat × List (List UInt8)) := match r with
  | .error e => .error e
  | .ok (l2, q, r2) => .ok (l ++ l2, q, r2)
theorem txA_txA (l : List (List UInt8)) (s : List UInt8) (r : Except (Nat × Int) (List (List UInt8) × Nat × List (List UInt8))) : txA l (match r with
    | .error e => .error e
    | .ok (l2, q, r2) => .ok (s :: l2, q, r2)) = txA (l ++ [s]) r := by
  cases r with
  | error e => rfl
  | ok x => simp [txA]
/-- how text ends -/
def TxQ (W : World) (g : Nat) (vs : Value) (S : List (List UInt8)) (vl : Value) (X : List Bck) (cur : Nat) (en : Bool) (R : Except (Nat × Int) (List (List UInt8) × Nat × List (List UInt8))) (w : World) (e : Ending) (w' : World) : Prop :=
  match R with
  | .error (k, z) => e = .returned (.tuple #[.slice none 0 0, .int .i64 z]) ∧ z ≠ 0 ∧ ∃ p, k = p + 1 ∧ Ed W g vs S p vl X cur en w'
  | .ok (l, q, _) => ∃ oo oc, e = .returned (.tuple #[.slice oo l.length oc, .int .i64 0]) ∧ HS w' (.slice oo l.length oc) l ∧ Ed W g vs S q vl X cur en w' ∧ Bt g w w'
set_option maxRecDepth 10000 in
set_option maxHeartbeats 4000000 in
theorem etext_f (W : World) (g : Nat) (vs vl : Value) (S : List (List UInt8)) (p : Nat) (X : List Bck) (cur : Nat) (en : Bool) (w : World) (hE : Ed W g vs S p vl X cur en w) (hS : S.length ≤ 1099511627776) (HTS : Hid (∀ s ∈ S, s.length ≤ 1099511627776))
    (R : Except (Nat × Int) (List (List UInt8) × Nat × List (List UInt8))) (HR : Hid (txR p (S.drop p) = R)) :
    Calls Tryz.prog 83 #[.pointer (some ⟨g, 0, none⟩)] w fun e w' => TxQ W g vs S vl X cur en R w e w' := by
  have hgl := hE.box.lt
  have HE : Hid (Ed W g vs S p vl X cur en w) := hE
  have HI0 : Hid (txA [] (txR p (S.drop p)) = R) := (by show _ = _; rw [HR.out]; cases R <;> rfl)
  have hp0 := hE.hp
  have hb0 := hE.box
  clear hE HR
  go_enter Tryz.func83, Tryz.ntmps83
  go_wp2
  go_loopw [4] (fun lv wr => ∃ (q : Nat) (l : List (List UInt8)), q ≤ S.length ∧ Hid (q = p + l.length) ∧ (∃ oo oc, lv = .slice oo l.length oc) ∧ Hid (wr.ownsRow w.heap.size 9 1 lv l.length (scells l)) ∧ Hid (Eb wr g vs vl (q : Int) ((cat X).length : Int) (cur : Int) en) ∧ Bt g w wr ∧ Hid (txA l (txR q (S.drop q)) = R)) (fun _ wr => S.length + 1 - edP g wr)
  case atStart => exact ⟨p, [], hp0, rfl, ⟨none, 0, rfl⟩, World.ownsRow_nil _ _ _ _, hb0, Bt.of (Below.refl _ w), HI0⟩
  case round =>
    clear HI0 hb0
    obtain ⟨q, l, hq, hql, ⟨oo, oc, rfl⟩, hO, hEb, hB, HI⟩ := hrel
    have HEr : Hid (Ed W g vs S q vl X cur en wr) := HE.out.bt hB hEb.out hq
    have hmeas := edP_eq hEb.out
    by_cases hlt : q < S.length
    · cases hf : fdB S[q] with
      | true =>
        obtain ⟨t, ht⟩ : ∃ t, S[q].dropLast = t := ⟨_, rfl⟩
        have HNX : Hid (nxE S q = (t, 0)) := (by
          show _ = _
          unfold nxE
          rw [dif_pos hlt, if_pos hf, ht])
        have HTX : Hid (txR q (S.drop q) = if t = [46] then .ok ([], q + 1, S.drop (q + 1)) else match txR (q + 1) (S.drop (q + 1)) with
            | .error e => .error e
            | .ok (l, q, r2) => .ok (t :: l, q, r2)) := (by
          show _ = _
          rw [List.drop_eq_getElem_cons hlt, txR, if_pos hf, ht]
          split
          · rfl
          · cases txR (q + 1) (S.drop (q + 1)) <;> rfl)
        have htl : t.length ≤ 1099511627776 := (by
          have := HTS.out S[q] (List.getElem_mem _)
          rw [← ht, List.length_dropLast]
          omega)
        clear ht hf
        go_wp2_with fail
        refine (eline_f W g vs vl S q X cur en wr HEr.out hS HTS t 0 HNX).mono ?_
        rintro e w1 ⟨rfl, hb1⟩
        have HE1 : Hid (Ed W g vs S q vl X cur en w1) := HEr.out.keep hb1
        obtain ⟨_, c1, _, _, _, _⟩ := HE1.out.box.cells
        have f1 := HE1.out.box.frozen 1
        have hB1 : Bt g w w1 := hB.trans (Bt.of hb1)
        have hO1 : Hid (w1.ownsRow w.heap.size 9 1 (.slice oo l.length oc) l.length (scells l)) := own_keep hO.out (fun k hk => hb1.block k (hO.out.lt k hk).2)
        have HE2 : Hid (Ed W g vs S (q + 1) vl X cur en (w1.setCell ⟨g, 1, none⟩ (.int .i64 ((q : Int) + 1)))) := HE1.out.setP (q + 1) (by omega) _ (by omega)
        have hB2 : Bt g w (w1.setCell ⟨g, 1, none⟩ (.int .i64 ((q : Int) + 1))) := hB1.set 1 _
        have hO2 : Hid ((w1.setCell ⟨g, 1, none⟩ (.int .i64 ((q : Int) + 1))).ownsRow w.heap.size 9 1 (.slice oo l.length oc) l.length (scells l)) := own_keep hO1.out (fun k hk => heap_setCell_other _ _ _ _ (by have := (hO1.out.lt k hk).1; show k ≠ g; omega))
        clear HEr hO hO1 hEb hB hB1 hb1 HE1
        by_cases hd : t = [46]
        · subst hd
          have HI2 : Hid (.ok (l, q + 1, S.drop (q + 1)) = R) := (by
            show _ = _
            rw [← HI.out, HTX.out, if_pos rfl]
            simp [txA])
          clear HI HTX
          go_wp2
          go_ret2
          have hr := HI2.out
          subst hr
          exact ⟨oo, oc, rfl, holds_of hO2.out, HE2.out, hB2⟩
        · have hdb : (t == [46]) = false := beq_eq_false_iff_ne.2 hd
          have HI2 : Hid (txA (l ++ [t]) (txR (q + 1) (S.drop (q + 1))) = R) := (by
            show _ = _
            rw [← HI.out, HTX.out, if_neg hd, txA_txA])
          clear HI HTX hd
          have hlb : l.length ≤ 1099511627776 := by have := hql.out; omega
          obtain ⟨w2, hw2⟩ : ∃ w2, w1.setCell ⟨g, 1, none⟩ (.int .i64 ((q : Int) + 1)) = w2 := ⟨_, rfl⟩
          rw [hw2] at HE2 hB2 hO2
          have hsz := hB2.size
          go_wp2_with (at_builtin; refine wpList_append_h _ (by kernel_rfl) (.tmp 25) (.tmp 27) 23 9 (.string ⟨#[]⟩) 1 16 rfl Tryz.underlying23 infoStr rfl (by decide) (by decide) w.heap.size _ _ _ rfl (hO2.out.alloc _) _ 1 (scells [t]) rfl (new_holds _ _ _ _ _ (by decide)) rfl (scells_one _) (by omega) (by simp; omega) ?_)
          intro v3 w3 hown3 hgrow3
          have hB3 : Bt g w w3 := (hB2.trans (Bt.of ((Below.refl _ w2).alloc (Nat.le_refl _) _))).grown hgrow3 (fun j hj => owns_ge (hO2.out.alloc (.cells #[.string ⟨t.toArray⟩] 9)) hj)
          have hEb3 : Hid (Eb w3 g vs vl ((q + 1 : Nat) : Int) ((cat X).length : Int) (cur : Int) en) := (by
            have h1 := HE2.out.box
            have h2 : Eb (w2.alloc (.cells #[.string ⟨t.toArray⟩] 9)) g vs vl ((q + 1 : Nat) : Int) ((cat X).length : Int) (cur : Int) en := h1.low ((Below.refl _ w2).alloc (Nat.le_refl _) _)
            refine (hgrow3.block g h2.lt (fun e => ?_)).trans h2
            have := owns_ge (hO2.out.alloc (.cells #[.string ⟨t.toArray⟩] 9)) e.symm
            omega)
          obtain ⟨o3, c3, rfl⟩ := (holds_of hown3).form
          rw [← scells_append] at hown3
          have HO3 : Hid (w3.ownsRow w.heap.size 9 1 (.slice o3 (l.length + 1) c3) (l.length + 1) (scells (l ++ [t]))) := hown3
          have hm3 := edP_eq hEb3.out
          clear hown3 hgrow3 hO2 HE2
          go_wp2
          refine ⟨⟨q + 1, l ++ [t], by omega, (by show _ = _; have := hql.out; simp; omega), ⟨o3, c3, by simp⟩, ?_, hEb3, hB3, HI2⟩, ?_⟩
          · show World.ownsRow _ _ _ _ _ _ _
            rw [List.length_append, List.length_singleton]
            exact HO3.out
          · rw [hm3, hmeas]
            omega
      | false =>
        have HNX : Hid (nxE S q = ([], 3)) := (by
          show _ = _
          unfold nxE
          rw [dif_pos hlt, if_neg (by rw [hf]; decide)])
        have HI2 : Hid (.error (q + 1, 3) = R) := (by
          show _ = _
          rw [← HI.out, List.drop_eq_getElem_cons hlt, txR, if_neg (by rw [hf]; decide)]
          rfl)
        clear HI hf
        go_wp2_with fail
        refine (eline_f W g vs vl S q X cur en wr HEr.out hS HTS [] 3 HNX).mono ?_
        rintro e w1 ⟨rfl, hb1⟩
        have HE1 : Hid (Ed W g vs S q vl X cur en w1) := HEr.out.keep hb1
        go_wp2
        go_ret2
        have hr := HI2.out
        subst hr
        exact ⟨rfl, by decide, q, rfl, HE1.out⟩
    · have HNX : Hid (nxE S q = ([], 1)) := (by
        show _ = _
        unfold nxE
        rw [dif_neg hlt])
      have HI2 : Hid (.error (q + 1, 1) = R) := (by
        show _ = _
        rw [← HI.out, List.drop_of_length_le (by omega), txR]
        rfl)
      clear HI
      go_wp2_with fail
      refine (eline_f W g vs vl S q X cur en wr HEr.out hS HTS [] 1 HNX).mono ?_
      rintro e w1 ⟨rfl, hb1⟩
      have HE1 : Hid (Ed W g vs S q vl X cur en w1) := HEr.out.keep hb1
      go_wp2
      go_ret2
      have hr := HI2.out
      subst hr
      exact ⟨rfl, by decide, q, rfl, HE1.out⟩
end Go.Proofs.YtnlbjknfahhfaaaGreatDoor

/- The editor's do and putFurther of layer 13, walked. -/
set_option maxRecDepth 20000
namespace Go.Proofs.YtnlbjknfahhfaaaGreatDoor
open Go.RowKit

/-- what a command comes to, as the run goes on with it -/
def doR (T : List (List UInt8)) (a b : Nat) (en : Bool) (R : Except (Nat × Int) (List (List UInt8) × Nat × List (List UInt8))) : Except (Nat × Int) (List (List UInt8) × Nat × Bool × Nat) := match R with
  | .error e => .error e
  | .ok (l, q, _) => .ok (putE T a b l, curE a l, en, q)
theorem txL_le : ∀ (r : List (List UInt8)) {p q : Nat} {l r2 : List (List UInt8)}, txR p r = .ok (l, q, r2) → l.length ≤ r.length
  | [], _, _, _, _, h => by cases h
  | s :: r, p, q, l, r2, h => by
    simp only [txR] at h
    split at h
    · split at h
      · cases h
        simp
      · split at h
        · cases h
        · rename_i l' q' r' h'
          cases h
          have := txL_le r h'
          simp only [List.length_cons]
          omega
    · cases h
set_option maxRecDepth 10000 in
set_option maxHeartbeats 8000000 in
theorem edo_f (W : World) (g : Nat) (vs vl : Value) (S : List (List UInt8)) (p : Nat) (X : List Bck) (cur : Nat) (en : Bool) (w : World) (hE : Ed W g vs S p vl X cur en w) (hS : S.length ≤ 274877906944) (HTS : Hid (∀ s ∈ S, s.length ≤ 1099511627776)) (hp1 : p < S.length) (hX : X.length ≤ 549755813888) (hT : (cat X).length ≤ 137438953472)
    (a b : Nat) (tx : Bool) (hab : a ≤ b) (hb : b ≤ (cat X).length) (R : Except (Nat × Int) (List (List UInt8) × Nat × List (List UInt8))) (HR : Hid (doE tx (p + 1) (S.drop (p + 1)) = R)) :
    Calls Tryz.prog 55 #[.pointer (some ⟨g, 0, none⟩), .agg #[.int .i64 (a : Int), .int .i64 (b : Int), .bool tx]] w fun e w' => EdQ W g vs S (512 * X.length + (cat X).length + S.length) (doR (cat X) a b en R) e w' := by
  have hB0 : Below w.heap.size w (w.alloc (.cells #[.int .i64 (a : Int), .int .i64 (b : Int), .bool tx] 109)) := (Below.refl _ w).alloc (Nat.le_refl _) _
  have hc0 : Cb (w.alloc (.cells #[.int .i64 (a : Int), .int .i64 (b : Int), .bool tx] 109)) w.heap.size (.int .i64 (a : Int)) (.int .i64 (b : Int)) (.bool tx) := _root_.Go.heap_alloc_new w _
  obtain ⟨w0, hw0⟩ : ∃ w0, w.alloc (.cells #[.int .i64 (a : Int), .int .i64 (b : Int), .bool tx] 109) = w0 := ⟨_, rfl⟩
  rw [hw0] at hB0 hc0
  have hE0 := hE.keep hB0
  have hne : w.heap.size ≠ g := by have := hE.box.lt; omega
  obtain ⟨_, c1, _, _, _, _⟩ := hE0.box.cells
  have f1 := hE0.box.frozen 1
  have hE1 := hE0.setP (p + 1) (by omega) ((p : Int) + 1) (by omega)
  have hc1 : Cb (w0.setCell ⟨g, 1, none⟩ (.int .i64 ((p : Int) + 1))) w.heap.size (.int .i64 (a : Int)) (.int .i64 (b : Int)) (.bool tx) := (heap_setCell_other _ _ _ _ hne).trans hc0
  obtain ⟨w1, hw1⟩ : ∃ w1, w0.setCell ⟨g, 1, none⟩ (.int .i64 ((p : Int) + 1)) = w1 := ⟨_, rfl⟩
  rw [hw1] at hE1 hc1
  obtain ⟨_, _, d2⟩ := hc1.cells
  have hpi : (p : Int) ≤ 274877906944 := by omega
  clear hE hE0 hB0 hc0
  cases tx with
  | true =>
    have HR2 : Hid (txR (p + 1) (S.drop (p + 1)) = R) := (by show _ = _; rw [← HR.out]; rfl)
    go_enter Tryz.func55, Tryz.ntmps55
    go_wp2_with fail
    refine (etext_f W g vs vl S (p + 1) X cur en w1 hE1 (by omega) HTS R HR2).mono ?_
    intro e w2 hq
    cases R with
    | error kz =>
      obtain ⟨k, z⟩ := kz
      obtain ⟨rfl, hz, p', rfl, hE2⟩ := hq
      have hzb : (z != 0) = true := bne_iff_ne.2 hz
      have HE2 : Hid (Ed W g vs S p' vl X cur en w2) := hE2
      clear hE2
      go_wp2
      go_ret
      exact ⟨rfl, hz, _, _, _, _, _, rfl, HE2.out⟩
    | ok x =>
      obtain ⟨l, q, r2⟩ := x
      obtain ⟨oo, oc, rfl, hHl, hE2, hB2⟩ := hq
      have hll : l.length ≤ S.length := (by
        have h1 := txR_len HR2.out
        have h2 := txR_drop HR2.out
        have h3 := txL_le _ HR2.out
        rw [List.length_drop] at h3
        omega)
      have hc2 : Cb w2 w.heap.size (.int .i64 (a : Int)) (.int .i64 (b : Int)) (.bool true) := (hB2.block _ hc1.lt hne).trans hc1
      obtain ⟨e0, e1, _⟩ := hc2.cells
      have hre := replace_f w2.drew g W.heap.size vs vl (.slice oo l.length oc) (q : Int) (cur : Int) en X (l) (hE2.keep (Below.refl _ w2).drew).box (hE2.keep (Below.refl _ w2).drew).bks hE2.gW (HS.keep hHl (Below.refl _ w2).drew (Nat.le_refl _)) (by omega) (by omega) (by omega) a b hab hb
      have hre2 : Calls Tryz.prog 84 #[.pointer (some ⟨g, 2, none⟩), .int .i64 (a : Int), .int .i64 (b : Int), .slice oo l.length oc] w2.drew fun e w' => e = .returned (.tuple #[]) ∧ w'.cell? ⟨w.heap.size, 0, none⟩ = some (.int .i64 (a : Int)) ∧ w'.cell? ⟨w.heap.size, 1, none⟩ = some (.int .i64 (b : Int)) ∧ Hid (∃ vl' X', Ed W g vs S q vl' X' 0 en (w'.setCell ⟨g, 4, none⟩ (.int .i64 0)) ∧ Eb w' g vs vl' (q : Int) ((cat X').length : Int) (cur : Int) en ∧ cat X' = putE (cat X) a b (l) ∧ 512 * X'.length ≤ 512 * X.length + (cat X).length + (l).length) := (by
        refine hre.mono ?_
        rintro e w' ⟨rfl, vl', X', h1, h2, h3, h4, h5⟩
        have hcb : Cb w' w.heap.size (.int .i64 (a : Int)) (.int .i64 (b : Int)) (.bool true) := (h5.block _ hc2.lt hne).trans hc2
        obtain ⟨q0, q1, _⟩ := hcb.cells
        refine ⟨rfl, q0, q1, vl', X', ?_, h1, h3, h4⟩
        have hb4 := Bt.set (g := g) (Bt.of (Below.refl _ w')) 4 (.int .i64 (0 : Int))
        exact ⟨hE2.scr, (hE2.low.trans ((Bt.trans (Bt.of (Below.refl _ w2).drew) h5).low hE2.gW hE2.low.size)).trans (hb4.low hE2.gW (Nat.le_trans hE2.low.size (Bt.trans (Bt.of (Below.refl _ w2).drew) h5).size)), hE2.gW, h1.setU 0, h2.bt h1 hb4, hE2.hp, Nat.zero_le _⟩)
      clear hre
      have e0d : w2.drew.cell? ⟨w.heap.size, 0, none⟩ = some (.int .i64 (a : Int)) := e0
      have e1d : w2.drew.cell? ⟨w.heap.size, 1, none⟩ = some (.int .i64 (b : Int)) := e1
      go_wp2_with fail
      go_region_held3 (fun w' => w'.cell? ⟨w.heap.size, 0, none⟩ = some (.int .i64 (a : Int)) ∧ w'.cell? ⟨w.heap.size, 1, none⟩ = some (.int .i64 (b : Int))) (go_keep)
        (first | (go_at_call 84; refine hre2.mono ?_; rintro e w3 ⟨rfl, y0, y1, HQ⟩))
      obtain ⟨vl', X', hE4, hEb, hcat, hlen⟩ := HQ.out
      have HC4 : Hid (cat X' = putE (cat X) a b (l)) := hcat
      have HL4 : Hid (512 * X'.length ≤ 512 * X.length + (cat X).length + S.length) := (by show _ ≤ _; omega)
      obtain ⟨_, _, _, _, z4, _⟩ := hEb.cells
      have zf := hEb.frozen 4
      have hne2 : w.heap.size ≠ (⟨g, 4, none⟩ : Addr).block := hne
      have hb3 : w3.heap[w.heap.size]? = _ := (rfl : w3.heap[w.heap.size]? = w3.heap[w.heap.size]?)
      have x0 : (w3.setCell ⟨g, 4, none⟩ (.int .i64 0)).cell? ⟨w.heap.size, 0, none⟩ = some (.int .i64 (a : Int)) := (by
        rw [← y0]
        unfold World.cell?
        dsimp only
        rw [heap_setCell_other _ _ _ _ hne2])
      have HE4 : Hid (Ed W g vs S q vl' X' 0 en (w3.setCell ⟨g, 4, none⟩ (.int .i64 0))) := hE4
      have z4b : (w3.setCell ⟨g, 4, none⟩ (.int .i64 0)).cell? ⟨g, 4, none⟩ = some (.int .i64 0) := hE4.box.cells.2.2.2.2.1
      have zfb : (w3.setCell ⟨g, 4, none⟩ (.int .i64 0)).frozen? ⟨g, 4, none⟩ = false := hE4.box.frozen 4
      clear hE4 hEb hcat hlen HQ y0 y1 e0 e1 e0d e1d hre2 hb3
      by_cases h0 : 0 < l.length
      · have hc5 : a + l.length ≤ (cat X').length := (by rw [HC4.out]; exact put_len _ _ _ _ (by omega))
        have HE5 : Hid (Ed W g vs S q vl' X' (a + l.length) en ((w3.setCell ⟨g, 4, none⟩ (.int .i64 0)).setCell ⟨g, 4, none⟩ (.int .i64 ((a : Int) + (l.length : Int))))) := HE4.out.setU (a + l.length) hc5 _ (by omega)
        have HCU : Hid (curE a l = a + l.length) := (by show _ = _; unfold curE; rw [if_neg (by omega)])
        have h0i : (0 : Int) < (l.length : Int) := by omega
        go_wp2
        go_ret
        refine ⟨rfl, vl', X', ?_, HC4.out, HL4.out⟩
        rw [HCU.out]
        exact HE5.out
      · have h0i : decide ((0 : Int) < (l.length : Int)) = false := decide_eq_false (by omega)
        have HCU : Hid (curE a l = 0) := (by show _ = _; unfold curE; rw [if_pos (by omega)])
        have h0j : decide (0 < l.length) = false := decide_eq_false h0
        go_wp2
        go_ret
        refine ⟨rfl, vl', X', ?_, HC4.out, HL4.out⟩
        rw [HCU.out]
        exact HE4.out
  | false =>
    have HR2 : Hid (.ok ([], p + 1, S.drop (p + 1)) = R) := (by show _ = _; rw [← HR.out]; rfl)
    have hr := HR2.out
    subst hr
    have hHl : HS w1 (.slice none 0 0) [] := Holds.nil w1
    have hll : ([] : List (List UInt8)).length ≤ S.length := Nat.zero_le _
    go_enter Tryz.func55, Tryz.ntmps55
    obtain ⟨e0, e1, _⟩ := hc1.cells
    have hre := replace_f w1.drew g W.heap.size vs vl (.slice none 0 0) ((p + 1 : Nat) : Int) (cur : Int) en X (([] : List (List UInt8))) (hE1.keep (Below.refl _ w1).drew).box (hE1.keep (Below.refl _ w1).drew).bks hE1.gW (HS.keep hHl (Below.refl _ w1).drew (Nat.le_refl _)) (by omega) (by omega) (by omega) a b hab hb
    have hre2 : Calls Tryz.prog 84 #[.pointer (some ⟨g, 2, none⟩), .int .i64 (a : Int), .int .i64 (b : Int), .slice none 0 0] w1.drew fun e w' => e = .returned (.tuple #[]) ∧ w'.cell? ⟨w.heap.size, 0, none⟩ = some (.int .i64 (a : Int)) ∧ w'.cell? ⟨w.heap.size, 1, none⟩ = some (.int .i64 (b : Int)) ∧ Hid (∃ vl' X', Ed W g vs S (p + 1 : Nat) vl' X' 0 en (w'.setCell ⟨g, 4, none⟩ (.int .i64 0)) ∧ Eb w' g vs vl' ((p + 1 : Nat) : Int) ((cat X').length : Int) (cur : Int) en ∧ cat X' = putE (cat X) a b (([] : List (List UInt8))) ∧ 512 * X'.length ≤ 512 * X.length + (cat X).length + (([] : List (List UInt8))).length) := (by
      refine hre.mono ?_
      rintro e w' ⟨rfl, vl', X', h1, h2, h3, h4, h5⟩
      have hcb : Cb w' w.heap.size (.int .i64 (a : Int)) (.int .i64 (b : Int)) (.bool false) := (h5.block _ hc1.lt hne).trans hc1
      obtain ⟨q0, q1, _⟩ := hcb.cells
      refine ⟨rfl, q0, q1, vl', X', ?_, h1, h3, h4⟩
      have hb4 := Bt.set (g := g) (Bt.of (Below.refl _ w')) 4 (.int .i64 (0 : Int))
      exact ⟨hE1.scr, (hE1.low.trans ((Bt.trans (Bt.of (Below.refl _ w1).drew) h5).low hE1.gW hE1.low.size)).trans (hb4.low hE1.gW (Nat.le_trans hE1.low.size (Bt.trans (Bt.of (Below.refl _ w1).drew) h5).size)), hE1.gW, h1.setU 0, h2.bt h1 hb4, hE1.hp, Nat.zero_le _⟩)
    clear hre
    have e0d : w1.drew.cell? ⟨w.heap.size, 0, none⟩ = some (.int .i64 (a : Int)) := e0
    have e1d : w1.drew.cell? ⟨w.heap.size, 1, none⟩ = some (.int .i64 (b : Int)) := e1
    go_wp2_with fail
    go_region_held3 (fun w' => w'.cell? ⟨w.heap.size, 0, none⟩ = some (.int .i64 (a : Int)) ∧ w'.cell? ⟨w.heap.size, 1, none⟩ = some (.int .i64 (b : Int))) (go_keep)
      (first | (go_at_call 84; refine hre2.mono ?_; rintro e w3 ⟨rfl, y0, y1, HQ⟩))
    obtain ⟨vl', X', hE4, hEb, hcat, hlen⟩ := HQ.out
    have HC4 : Hid (cat X' = putE (cat X) a b (([] : List (List UInt8)))) := hcat
    have HL4 : Hid (512 * X'.length ≤ 512 * X.length + (cat X).length + S.length) := (by show _ ≤ _; omega)
    obtain ⟨_, _, _, _, z4, _⟩ := hEb.cells
    have zf := hEb.frozen 4
    have hne2 : w.heap.size ≠ (⟨g, 4, none⟩ : Addr).block := hne
    have hb3 : w3.heap[w.heap.size]? = _ := (rfl : w3.heap[w.heap.size]? = w3.heap[w.heap.size]?)
    have x0 : (w3.setCell ⟨g, 4, none⟩ (.int .i64 0)).cell? ⟨w.heap.size, 0, none⟩ = some (.int .i64 (a : Int)) := (by
      rw [← y0]
      unfold World.cell?
      dsimp only
      rw [heap_setCell_other _ _ _ _ hne2])
    have HE4 : Hid (Ed W g vs S (p + 1 : Nat) vl' X' 0 en (w3.setCell ⟨g, 4, none⟩ (.int .i64 0))) := hE4
    have z4b : (w3.setCell ⟨g, 4, none⟩ (.int .i64 0)).cell? ⟨g, 4, none⟩ = some (.int .i64 0) := hE4.box.cells.2.2.2.2.1
    have zfb : (w3.setCell ⟨g, 4, none⟩ (.int .i64 0)).frozen? ⟨g, 4, none⟩ = false := hE4.box.frozen 4
    clear hE4 hEb hcat hlen HQ y0 y1 e0 e1 e0d e1d hre2 hb3
    have HCU : Hid (curE a [] = 0) := rfl
    go_wp2
    go_ret
    refine ⟨rfl, vl', X', ?_, HC4.out, HL4.out⟩
    rw [HCU.out]
    exact HE4.out
end Go.Proofs.YtnlbjknfahhfaaaGreatDoor
