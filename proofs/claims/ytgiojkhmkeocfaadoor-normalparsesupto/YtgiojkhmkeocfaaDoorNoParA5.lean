/-
  Texts that belong together, joined: NpX, NpC, NoLs, NoCm, NpD.
-/
import Derived.Test.YtgiojkhmkeocfaaDoorNoParA4
import Derived.Test.YtgiojkhmkeocfaaDoorNoParA3
import Derived.Lib.IndexAny
import Derived.Deep.QuietTactic
import Derived.BigQuiet
import Derived.Deep.CutBlock
import Derived.Test.YtgiojkhmkeocfaaDoorNoParA1
import Derived.Test.YtgiojkhmkeocfaaDoorNoParA2

/- strings.IndexAny at the letters a, c, d, and strings.Cut at a comma, for every text. -/
namespace Go.Proofs.YtgiojkhmkeocfaaDoor
open Go.RowKit
attribute [local go_sem] no_at ByteArray.extract_mk

theorem ret_int1 {k : IntKind} {a b : Int} (h : a = b) : Ending.returned (.int k a) = .returned (.int k b) := by rw [h]
theorem get_bang (s : ByteArray) (k : Nat) (h : k < s.size) : s.get! k = s[k] := by
  simp [ByteArray.get!, getElem!_pos, h]
  rfl

/-- every byte of a letter that begins with a byte from 128 on is such a byte, and lies in the text -/
theorem decode_rest (s : ByteArray) (pos : Nat) (h : pos < s.size) (ha : 128 ≤ (s[pos]'h).toNat) (k : Nat) (hk : k < (Utf8.decode s pos).2) : ∃ hq : pos + k < s.size, 128 ≤ (s[pos + k]'hq).toNat := by
  by_cases hk0 : k = 0
  · subst hk0; exact ⟨h, ha⟩
  have hn : ¬ (s.get! (pos + 0)).toNat < 128 := by rw [Nat.add_zero, get_bang s pos h]; omega
  have key : ∀ j, (decide (pos + j < s.size) && (s.get! (pos + j)).toNat / 64 == 2) = true → ∃ hq : pos + j < s.size, 128 ≤ (s[pos + j]'hq).toNat := by
    intro j hj
    simp only [Bool.and_eq_true, decide_eq_true_eq, beq_iff_eq] at hj
    refine ⟨hj.1, ?_⟩
    rw [← get_bang s (pos + j) hj.1]
    omega
  revert hk
  unfold Utf8.decode
  simp only [hn, if_false]
  split
  · rename_i h2
    simp only [Bool.and_eq_true] at h2
    split
    · intro hk
      have : k = 1 := by simp at hk; omega
      subst this
      exact key 1 (by simp only [Bool.and_eq_true]; exact h2.2)
    · intro hk; simp at hk; omega
  · split
    · rename_i h2
      simp only [Bool.and_eq_true] at h2
      split
      · intro hk
        have : k = 1 ∨ k = 2 := by simp at hk; omega
        rcases this with rfl | rfl
        · exact key 1 (by simp only [Bool.and_eq_true]; exact h2.1.2)
        · exact key 2 (by simp only [Bool.and_eq_true]; exact h2.2)
      · intro hk; simp at hk; omega
    · split
      · rename_i h2
        simp only [Bool.and_eq_true] at h2
        split
        · intro hk
          have : k = 1 ∨ k = 2 ∨ k = 3 := by simp at hk; omega
          rcases this with rfl | rfl | rfl
          · exact key 1 (by simp only [Bool.and_eq_true]; exact h2.1.1.2)
          · exact key 2 (by simp only [Bool.and_eq_true]; exact h2.1.2)
          · exact key 3 (by simp only [Bool.and_eq_true]; exact h2.2)
        · intro hk; simp at hk; omega
      · intro hk; simp at hk; omega

theorem enc_form (r : Int) (hv : Utf8.valid r = true) (h128 : 128 ≤ r) : (∃ a b : UInt8, 128 ≤ b.toNat ∧ Utf8.encode r = ⟨([a, b] : List UInt8).toArray⟩) ∨ (∃ a b c : UInt8, 128 ≤ c.toNat ∧ Utf8.encode r = ⟨([a, b, c] : List UInt8).toArray⟩) ∨ (∃ a b c d : UInt8, Utf8.encode r = ⟨([a, b, c, d] : List UInt8).toArray⟩) := by
  have hc : ¬ r.toNat < 128 := by omega
  unfold Utf8.encode
  simp only [hv, if_true, hc, if_false]
  split
  · refine .inl ⟨_, _, ?_, rfl⟩
    simp; omega
  · split
    · refine .inr (.inl ⟨_, _, _, ?_, rfl⟩)
      simp; omega
    · exact .inr (.inr ⟨_, _, _, _, rfl⟩)

theorem valid_of (r : Int) (h : Lib.validRune r = true) : Utf8.valid r = true := by
  simp [Lib.validRune, Utf8.valid] at h ⊢
  omega

theorem idx_nil (x : Int) (u : World) : Calls Tryd.prog 184 #[.string ⟨#[]⟩, .int .u8 x] u fun e w' => e = .returned (.int .i64 (-1)) ∧ w' = u := Tryd.strings_IndexByte ⟨#[]⟩ x u
theorem idx_d (b : UInt8) (hb : 128 ≤ b.toNat) (u : World) : Calls Tryd.prog 184 #[.string ⟨#[100]⟩, .int .u8 (b.toNat : Int)] u fun e w' => e = .returned (.int .i64 (-1)) ∧ w' = u := by
  refine (Tryd.strings_IndexByte ⟨#[100]⟩ (b.toNat : Int) u).mono ?_
  rintro e w' ⟨rfl, rfl⟩
  have e1 : ((b.toNat : Int).toNat).toUInt8 = b := by simp
  have e2 : Lib.indexByte [100] b = -1 := by
    have : ((100 : UInt8) == b) = false := by
      rw [beq_eq_false_iff_ne]
      rintro rfl
      simp at hb
    simp [Lib.indexByte, this]
  rw [e1]
  exact ⟨by rw [show Lib.indexByte (⟨#[100]⟩ : ByteArray).data.toList b = -1 from e2], rfl⟩

set_option maxHeartbeats 2000000 in
set_option maxRecDepth 100000 in
theorem IndexRune_high (r : Int) (h0 : 128 ≤ r) (h1 : r ≤ 2147483647) (w : World) :
    Calls Tryd.prog 170 #[.string ⟨([97, 99, 100] : List UInt8).toArray⟩, .int .i32 r] w fun e w' => e = .returned (.int .i64 (-1)) ∧ Below w.heap.size w w' := by
  by_cases h2 : r = 65533
  · subst h2
    have hn0 : ∀ ty, (Instr.next (.pointer (some ⟨w.heap.size, 0, none⟩)) true ty).run Tryd.prog (w.iter ⟨([97, 99, 100] : List UInt8).toArray⟩ 0) = .ok (.tuple #[.bool true, .int .i64 0, .int .i32 97]) (w.iter ⟨([97, 99, 100] : List UInt8).toArray⟩ 1) := fun ty => run_next_ascii w ⟨([97, 99, 100] : List UInt8).toArray⟩ 0 ty (by decide) (by decide)
    have hn1 : ∀ ty, (Instr.next (.pointer (some ⟨w.heap.size, 0, none⟩)) true ty).run Tryd.prog (w.iter ⟨([97, 99, 100] : List UInt8).toArray⟩ 1) = .ok (.tuple #[.bool true, .int .i64 1, .int .i32 99]) (w.iter ⟨([97, 99, 100] : List UInt8).toArray⟩ 2) := fun ty => run_next_ascii w ⟨([97, 99, 100] : List UInt8).toArray⟩ 1 ty (by decide) (by decide)
    have hn2 : ∀ ty, (Instr.next (.pointer (some ⟨w.heap.size, 0, none⟩)) true ty).run Tryd.prog (w.iter ⟨([97, 99, 100] : List UInt8).toArray⟩ 2) = .ok (.tuple #[.bool true, .int .i64 2, .int .i32 100]) (w.iter ⟨([97, 99, 100] : List UInt8).toArray⟩ 3) := fun ty => run_next_ascii w ⟨([97, 99, 100] : List UInt8).toArray⟩ 2 ty (by decide) (by decide)
    have hn3 : ∀ ty, (Instr.next (.pointer (some ⟨w.heap.size, 0, none⟩)) true ty).run Tryd.prog (w.iter ⟨([97, 99, 100] : List UInt8).toArray⟩ 3) = .ok (.tuple #[.bool false]) (w.iter ⟨([97, 99, 100] : List UInt8).toArray⟩ 3) := fun ty => run_next_end w ⟨([97, 99, 100] : List UInt8).toArray⟩ 3 ty (by decide)
    go_enter Tryd.func170, Tryd.ntmps170
    go_wp2
    refine wp_loop_rounds 4 ?_
    rw [rounds_succ]
    go_wp2
    rw [rounds_succ]
    go_wp2
    rw [rounds_succ]
    go_wp2
    rw [rounds_succ]
    go_wp2
    go_ret
    exact ⟨rfl, (Below.refl _ w).alloc (Nat.le_refl _) _⟩
  · have hb : (r == 65533) = false := by simp [h2]
    go_enter Tryd.func170, Tryd.ntmps170
    go_wp2_with fail
    refine (Tryd.utf8_ValidRune r _).mono ?_
    rintro e w' ⟨rfl, rfl⟩
    cases hv : Lib.validRune r
    · go_wp2
      go_ret
      exact ⟨rfl, Below.refl _ _⟩
    · rcases enc_form r (valid_of r hv) h0 with ⟨a, b, hb128, he⟩ | ⟨a, b, c, hb128, he⟩ | ⟨a, b, c, d, he⟩
      · have hbl := b.toNat_lt
        have hw2 : IntKind.i64.wrap 2 = 2 := by decide
        have hsl : ∀ u : World, (Instr.slice 9 (.string ⟨([97, 99, 100] : List UInt8).toArray⟩) (some (.int .i64 2)) none none).run Tryd.prog u = .ok (.string ⟨([100] : List UInt8).toArray⟩) u := fun u => by kernel_rfl
        have hne : ((99 : Int) != (b.toNat : Int)) = true := by simp; omega
        go_wp2_with fail
        go_step3
        go_wp2_with fail
        refine wp_loop_rounds 1 ?_
        rw [rounds_succ]
        go_wp2_with fail
        go_step3
        go_wp2_with fail
        go_quiet (fail)
        have hbq : Below w'.heap.size w' (w'.drewN nq) := Below.dN (Below.refl _ _) nq
        generalize w'.drewN nq = wq at *
        go_wp2_with fail
        go_quiet ((go_at_call 184; exact Calls.quiet_of_same (idx_d b hb128 _)))
        go_wp2
        rw [Exit.noGoto_ret]
        go_wp2
        rw [Exit.noGoto_ret]
        go_ret
        exact ⟨rfl, Below.dN hbq _⟩
      · have hbl := c.toNat_lt
        have hw2 : IntKind.i64.wrap 3 = 3 := by decide
        have hsl : ∀ u : World, (Instr.slice 9 (.string ⟨([97, 99, 100] : List UInt8).toArray⟩) (some (.int .i64 3)) none none).run Tryd.prog u = .ok (.string ⟨([] : List UInt8).toArray⟩) u := fun u => by kernel_rfl
        have hne : ((100 : Int) != (c.toNat : Int)) = true := by simp; omega
        go_wp2_with fail
        go_step3
        go_wp2_with fail
        refine wp_loop_rounds 1 ?_
        rw [rounds_succ]
        go_wp2_with fail
        go_step3
        go_wp2_with fail
        go_quiet (fail)
        have hbq : Below w'.heap.size w' (w'.drewN nq) := Below.dN (Below.refl _ _) nq
        generalize w'.drewN nq = wq at *
        go_wp2_with fail
        go_quiet ((go_at_call 184; exact Calls.quiet_of_same (idx_nil _ _)))
        go_wp2
        rw [Exit.noGoto_ret]
        go_wp2
        rw [Exit.noGoto_ret]
        go_ret
        exact ⟨rfl, Below.dN hbq _⟩
      · go_wp2_with fail
        go_step3
        go_wp2_with fail
        refine wp_loop_rounds 1 ?_
        rw [rounds_succ]
        go_wp2
        rw [Exit.noGoto_ret]
        go_ret
        exact ⟨rfl, Below.refl _ _⟩

theorem zero_set : ∀ w, (zeroValue 202).run Tryd.prog w = .ok (.agg (Array.replicate 256 (.bool false))) w :=
  (zero_of_info (P := Tryd.prog) (show (Tryd.prog.info? 202).map (fun i => (i.zero, i.size)) = some (some (.agg (Array.replicate 256 (.bool false))), 256) by kernel_rfl)).1

theorem idx_three (x : UInt8) : Lib.indexByte [97, 99, 100] x = if x.toNat = 97 then 0 else if x.toNat = 99 then 1 else if x.toNat = 100 then 2 else -1 := by
  have key : ∀ i : Fin 256, Lib.indexByte [97, 99, 100] (UInt8.ofNat i.val) = if i.val = 97 then 0 else if i.val = 99 then 1 else if i.val = 100 then 2 else -1 := by decide +kernel
  have := key ⟨x.toNat, x.toNat_lt⟩
  simpa using this
theorem isC_nat (x : UInt8) : isC x = decide (x.toNat = 97 ∨ x.toNat = 99 ∨ x.toNat = 100) := by
  rw [Bool.eq_iff_iff]
  simp [isC, ← UInt8.toNat_inj, or_assoc]

def idxB (x : UInt8) : Int := Lib.indexByte [97, 99, 100] x
theorem idxB_yes {x : UInt8} (h : isC x = true) : 0 ≤ idxB x := by
  rw [isC_nat] at h
  have h := of_decide_eq_true h
  unfold idxB; rw [idx_three]; split <;> (try split) <;> (try split) <;> omega
theorem idxB_no {x : UInt8} (h : isC x = false) : idxB x < 0 := by
  rw [isC_nat] at h
  have h := of_decide_eq_false h
  unfold idxB; rw [idx_three]; split <;> (try split) <;> (try split) <;> omega
theorem contains_three (c : UInt8) : ([97, 99, 100] : List UInt8).contains c = isC c := by
  rw [Bool.eq_iff_iff]
  simp [isC, or_assoc]
/-- where the first of the three letters is, or -1 -/
def wend (l : List UInt8) : Int := Lib.indexAny l [97, 99, 100]
theorem wend_at : ∀ (l : List UInt8) (k : Nat) (hk : k < l.length), (∀ j (h : j < l.length), j < k → isC l[j] = false) → isC l[k] = true → wend l = k
  | b :: l, 0, _, _, h => by
    unfold wend Lib.indexAny
    rw [contains_three, if_pos (by simpa using h)]
    rfl
  | b :: l, k + 1, hk, ha, h => by
    have h0 := ha 0 (by simp) (by omega)
    have ih := wend_at l k (by simpa using hk) (fun j hj hjk => ha (j + 1) (by simp; omega) (by omega)) (by simpa using h)
    unfold wend at ih ⊢
    unfold Lib.indexAny
    rw [contains_three, if_neg (by simpa using h0), ih]
    rw [if_neg (by simp)]
    omega

theorem wend_none : ∀ (l : List UInt8), (∀ j (h : j < l.length), isC l[j] = false) → wend l = -1
  | [], _ => rfl
  | b :: l, ha => by
    have h0 := ha 0 (by simp)
    have ih := wend_none l (fun j hj => ha (j + 1) (by simp; omega))
    unfold wend at ih ⊢
    unfold Lib.indexAny
    rw [contains_three, if_neg (by simpa using h0), ih]
    rfl

theorem IndexRune_low (x : UInt8) (h : x.toNat < 128) (w : World) :
    Calls Tryd.prog 170 #[.string ⟨([97, 99, 100] : List UInt8).toArray⟩, .int .i32 (x.toNat : Int)] w fun e w' => e = .returned (.int .i64 (idxB x)) ∧ w' = w := by
  have h1 := Tryd.strings_IndexRune_ascii ⟨([97, 99, 100] : List UInt8).toArray⟩ (x.toNat : Int) w (by omega) (by omega)
  refine h1.mono ?_
  rintro e w' ⟨rfl, rfl⟩
  have e : ((x.toNat : Int).toNat).toUInt8 = x := by simp
  rw [e]
  exact ⟨rfl, rfl⟩

set_option maxHeartbeats 2000000 in
theorem shouldUse_short (n : Int) (h : n ≤ 8) (w : World) : Calls Tryd.prog 171 #[.int .i64 n] w fun e w' => e = .returned (.bool false) ∧ w = w' := by
  go_enter Tryd.func171, Tryd.ntmps171
  go_wp2
  go_ret
  exact ⟨by simp; omega, rfl⟩

set_option maxHeartbeats 4000000 in
set_option maxRecDepth 100000 in
theorem IndexAny_short (l : List UInt8) (h8 : l.length ≤ 8) (w : World) :
    Calls Tryd.prog 148 #[.string ⟨l.toArray⟩, .string ⟨([97, 99, 100] : List UInt8).toArray⟩] w fun e w' => e = .returned (.int .i64 (wend l)) ∧ Below w.heap.size w w' := by
  go_enter Tryd.func148, Tryd.ntmps148
  go_wp2_with fail
  refine (shouldUse_short _ (by omega) _).mono ?_
  rintro e w' ⟨rfl, rfl⟩
  go_wp2
  go_loopw [] (fun wr => ∃ pos : Nat, pos ≤ l.length ∧ wr.heap[w.heap.size]? = some (.stringIter ⟨l.toArray⟩ pos) ∧ Below w.heap.size w wr ∧ (∀ k (hk : k < l.length), k < pos → isC l[k] = false)) (fun wr => l.length - wr.iterPos w.heap.size)
  case atStart => exact ⟨0, Nat.zero_le _, World.iter_heap w _ 0, (Below.refl _ w).alloc (Nat.le_refl _) _, fun k _ h => by omega⟩
  case round =>
    obtain ⟨pos, hp, hit, hbr, hall⟩ := hrel
    have HA : Hid (∀ k (hk : k < l.length), k < pos → isC l[k] = false) := hall
    clear hall
    have hwl : w.heap.size < wr.heap.size := (Array.getElem?_eq_some_iff.1 hit).1
    by_cases hlt : pos < l.length
    · by_cases ha : l[pos].toNat < 128
      · have hnx : ∀ ty, (Instr.next (.pointer (some ⟨w.heap.size, 0, none⟩)) true ty).run Tryd.prog wr = _ := fun ty => Lib.run_next_ascii_at wr w.heap.size ⟨l.toArray⟩ pos ty hit hlt ha
        have hit2 := Lib.iterAt_heap wr w.heap.size ⟨l.toArray⟩ pos (pos + 1) hit
        have hbr2 := Lib.below_iterAt hbr (k := w.heap.size) (Nat.le_refl _) ⟨l.toArray⟩ (pos + 1)
        go_wp2_with fail
        refine (IndexRune_low l[pos] ha _).mono ?_
        rintro e w4 ⟨rfl, rfl⟩
        cases hbl : isC l[pos]
        · have hneg := idxB_no hbl
          go_wp2
          go_roundw
          case rel =>
            refine ⟨pos + 1, by omega, hit2, hbr2, fun k hk h => ?_⟩
            by_cases e : k = pos
            · subst e; exact hbl
            · exact HA.out k hk (by omega)
          case measure => simp only [World.iterPos, hit, hit2]; omega
        · have hpos := idxB_yes hbl
          have HE : Hid ((pos : Int) = wend l) := (wend_at l pos hlt HA.out hbl).symm
          go_wp2
          go_ret
          exact ⟨ret_int1 HE.out, hbr2⟩
      · have hdh := (decode_high ⟨l.toArray⟩ pos hlt (by show 128 ≤ l[pos].toNat; omega))
        have hdr := decode_rest ⟨l.toArray⟩ pos hlt (by show 128 ≤ l[pos].toNat; omega)
        have hnx : ∀ ty, (Instr.next (.pointer (some ⟨w.heap.size, 0, none⟩)) true ty).run Tryd.prog wr = _ := fun ty => Lib.run_next_any_at wr w.heap.size ⟨l.toArray⟩ pos ty hit hlt
        have hit2 := Lib.iterAt_heap wr w.heap.size ⟨l.toArray⟩ pos (pos + (Utf8.decode ⟨l.toArray⟩ pos).2) hit
        have hbr2 := Lib.below_iterAt hbr (k := w.heap.size) (Nat.le_refl _) ⟨l.toArray⟩ (pos + (Utf8.decode ⟨l.toArray⟩ pos).2)
        have hdl := decode_le ⟨l.toArray⟩ pos
        have HR : Hid (∀ k, k < (Utf8.decode ⟨l.toArray⟩ pos).2 → ∃ h' : pos + k < l.length, 128 ≤ l[pos + k].toNat) := fun k hk => hdr k hk
        clear hdr
        obtain ⟨hd1, hd2⟩ := hdh
        generalize Utf8.decode ⟨l.toArray⟩ pos = dd at *
        have hwz : w.heap.size < (wr.iterAt w.heap.size ⟨l.toArray⟩ (pos + dd.2)).heap.size := by rw [Lib.iterAt_size]; exact hwl
        go_wp2_with fail
        refine (IndexRune_high (dd.1 : Int) (by omega) (by omega) _).mono ?_
        rintro e w4 ⟨rfl, hb4⟩
        have hit4 := (hb4.block w.heap.size hwz).trans hit2
        have hbr4 := hbr2.trans (hb4.mono (Nat.le_of_lt hwz))
        go_wp2
        go_roundw
        case rel =>
          refine ⟨pos + dd.2, ?_, hit4, hbr4, fun k hk h => ?_⟩
          · obtain ⟨h', _⟩ := HR.out (dd.2 - 1) (by omega)
            omega
          · by_cases e : k < pos
            · exact HA.out k hk e
            · obtain ⟨h', hh⟩ := HR.out (k - pos) (by omega)
              have ee : pos + (k - pos) = k := by omega
              simp only [ee] at hh
              exact (by rw [isC_nat]; exact decide_eq_false (by omega))
        case measure => simp only [World.iterPos, hit, hit4]; omega
    · have hnx : ∀ ty, (Instr.next (.pointer (some ⟨w.heap.size, 0, none⟩)) true ty).run Tryd.prog wr = _ := fun ty => Lib.run_next_end_at wr w.heap.size ⟨l.toArray⟩ pos ty hit hlt
      have HE : Hid (-1 = wend l) := (wend_none l (fun k hk => HA.out k hk (by omega))).symm
      go_wp2
      go_ret
      exact ⟨ret_int1 HE.out, hbr⟩

theorem IndexAny_any (l : List UInt8) (hl : l.length < 4294967281) (w : World) :
    Calls Tryd.prog 148 #[.string ⟨l.toArray⟩, .string ⟨([97, 99, 100] : List UInt8).toArray⟩] w fun e w' => e = .returned (.int .i64 (wend l)) ∧ Below w.heap.size w w' := by
  by_cases h8 : l.length ≤ 8
  · exact IndexAny_short l h8 w
  · have h := Tryd.strings_IndexAny_long zero_set ⟨l.toArray⟩ ⟨([97, 99, 100] : List UInt8).toArray⟩ w (by decide) (by show 8 < l.length; omega) hl (by decide) (fun j b h => by match j, h with | 0, h => simp at h; subst h; decide | 1, h => simp at h; subst h; decide | 2, h => simp at h; subst h; decide | j + 3, h => simp at h)
    refine h.mono ?_
    rintro e w' ⟨rfl, rfl⟩
    exact ⟨rfl, ((Below.refl _ w).alloc (Nat.le_refl _) _).alloc (by simp) _⟩

/-- where the first letter is, as the plain reader says -/
theorem wend_sp (l : List UInt8) : (spB isC l = none ∧ wend l = -1) ∨ (∃ k : Nat, ∃ h : k < l.length, wend l = k ∧ spB isC l = some (l.take k, l[k], l.drop (k + 1)) ∧ isC l[k] = true) := by
  induction l with
  | nil => exact .inl ⟨rfl, rfl⟩
  | cons c l ih =>
    unfold wend Lib.indexAny
    rw [contains_three]
    simp only [spB]
    cases hc : isC c with
    | true =>
      right
      refine ⟨0, by simp, by simp, by simp, by simpa using hc⟩
    | false =>
      rw [if_neg (by decide), if_neg (by decide)]
      rcases ih with ⟨h1, h2⟩ | ⟨k, hk, h1, h2, h3⟩
      · left
        unfold wend at h2
        rw [h1, h2]
        exact ⟨rfl, rfl⟩
      · right
        unfold wend at h1
        refine ⟨k + 1, by simpa using hk, ?_, ?_, by simpa using h3⟩
        · rw [h1, if_neg (by simp)]
          omega
        · rw [h2]
          rfl
/-- where a comma is -/
theorem comma_sp (l : List UInt8) : (spB isK l = none ∧ Lib.indexByte l 44 = -1) ∨ (∃ k : Nat, ∃ h : k < l.length, Lib.indexByte l 44 = k ∧ spB isK l = some (l.take k, l[k], l.drop (k + 1))) := by
  induction l with
  | nil => exact .inl ⟨rfl, rfl⟩
  | cons c l ih =>
    unfold Lib.indexByte
    simp only [spB]
    have e : (c == 44) = isK c := rfl
    rw [e]
    cases hc : isK c with
    | true =>
      right
      exact ⟨0, by simp, by simp, by simp⟩
    | false =>
      rw [if_neg (by decide), if_neg (by decide)]
      rcases ih with ⟨h1, h2⟩ | ⟨k, hk, h1, h2⟩
      · left
        rw [h1, h2]
        exact ⟨rfl, rfl⟩
      · right
        refine ⟨k + 1, by simpa using hk, ?_, ?_⟩
        · rw [h1, if_neg (by simp)]
          omega
        · rw [h2]
          rfl
end Go.Proofs.YtgiojkhmkeocfaaDoor

/- The code's numbers and change of layer 12, walked: a range of lines, a line that says a change. -/
namespace Go.Proofs.YtgiojkhmkeocfaaDoor
open Go.RowKit
attribute [local go_sem] ByteArray.extract_mk no_at

/-- what is ahead of the first comma, and behind it -/
def kA (l : List UInt8) : List UInt8 := match spB isK l with | none => l | some (x, _, _) => x
def kB (l : List UInt8) : List UInt8 := match spB isK l with | none => [] | some (_, _, y) => y
def kS (l : List UInt8) : Bool := match spB isK l with | none => false | some _ => true
set_option maxHeartbeats 2000000 in
theorem slCut_f (l : List UInt8) (w : World) (hl : l.length ≤ 1099511627776) :
    Calls Tryd.prog 186 #[.string ⟨l.toArray⟩, .string ⟨#[44]⟩] w fun e w' => e = .returned (.tuple #[.string ⟨(kA l).toArray⟩, .string ⟨(kB l).toArray⟩, .bool (kS l)]) ∧ ∃ n, w' = w.drewN n := by
  rcases comma_sp l with ⟨h1, h2⟩ | ⟨k, hk, h1, h2⟩
  · have HA : Hid (kA l = l ∧ kB l = [] ∧ kS l = false) := (by unfold kA kB kS; rw [h1]; exact ⟨rfl, rfl, rfl⟩)
    have HI : Hid (Lib.indexByte l 44 = -1) := h2
    clear h1 h2
    go_enter Tryd.func186, Tryd.ntmps186
    go_wp2_with fail
    refine (Tryd.stringslite_Index_one ⟨l.toArray⟩ 44 w).mono ?_
    rintro e w1 ⟨rfl, rfl⟩
    have e1 : Lib.indexByte (⟨l.toArray⟩ : ByteArray).data.toList 44 = -1 := HI.out
    rw [e1]
    clear e1
    go_wp2
    go_ret3
    obtain ⟨a1, a2, a3⟩ := HA.out
    rw [a1, a2, a3]
    exact ⟨rfl, 0, rfl⟩
  · have HA : Hid (kA l = l.take k ∧ kB l = l.drop (k + 1) ∧ kS l = true) := (by unfold kA kB kS; rw [h2]; exact ⟨rfl, rfl, rfl⟩)
    have HI : Hid (Lib.indexByte l 44 = (k : Int)) := h1
    clear h1 h2
    go_enter Tryd.func186, Tryd.ntmps186
    go_wp2_with fail
    refine (Tryd.stringslite_Index_one ⟨l.toArray⟩ 44 w).mono ?_
    rintro e w1 ⟨rfl, rfl⟩
    have e1 : Lib.indexByte (⟨l.toArray⟩ : ByteArray).data.toList 44 = (k : Int) := HI.out
    rw [e1]
    clear e1
    have i1 : (0 : Int) ≤ (k : Int) := by omega
    have i2 : (k : Int) ≤ (l.length : Int) := by omega
    have i3 : (k : Int) + 1 ≤ (l.length : Int) := by omega
    have i4 : (0 : Int) ≤ (k : Int) + 1 := by omega
    have i5 : IntKind.i64.wrap ((k : Int) + 1) = (k : Int) + 1 := wrap_s (by omega) (by omega)
    have i6 : ((k : Int) + 1).toNat = k + 1 := by omega
    go_wp2_with fail
    go_quiet (fail)
    go_wp2
    go_ret3
    obtain ⟨a1, a2, a3⟩ := HA.out
    rw [a1, a2, a3]
    have k5 : (l.drop (k + 1)).take (l.length - (k + 1)) = l.drop (k + 1) := List.take_of_length_le (by simp)
    exact ⟨by simp [k5], _, rfl⟩
set_option maxHeartbeats 1000000 in
theorem nCut_f (l : List UInt8) (w : World) (hl : l.length ≤ 1099511627776) :
    Calls Tryd.prog 174 #[.string ⟨l.toArray⟩, .string ⟨#[44]⟩] w fun e w' => e = .returned (.tuple #[.string ⟨(kA l).toArray⟩, .string ⟨(kB l).toArray⟩, .bool (kS l)]) ∧ ∃ n, w' = w.drewN n := by
  go_enter Tryd.func174, Tryd.ntmps174
  go_wp2_with fail
  refine (slCut_f l w hl).mono ?_
  rintro e w1 ⟨rfl, n, rfl⟩
  go_wp2
  go_ret3
  exact ⟨rfl, n, rfl⟩
/-- a text with a comma is no number -/
theorem comma_no {s : List UInt8} (h : kS s = true) : Pn.parseE s ≠ 0 := by
  unfold kS at h
  rcases comma_sp s with ⟨h1, _⟩ | ⟨k, hk, _, h2⟩
  · rw [h1] at h
    cases h
  · have hc : isK s[k] = true := (by
      have : ∀ (l : List UInt8) {a b : List UInt8} {c : UInt8}, spB isK l = some (a, c, b) → isK c = true := (by
        intro l
        induction l with
        | nil => intro a b c h; cases h
        | cons x l ih =>
          intro a b c h
          simp only [spB] at h
          split at h
          · rename_i hx
            cases h
            exact hx
          · split at h
            · cases h
            · rename_i hq
              cases h
              exact ih hq)
      exact this s h2)
    have hn : Pn.isNum s = false := Pn.isNum_bad k hk (by
      unfold isK at hc
      have : s[k] = 44 := by simpa using hc
      rw [this]
      decide)
    have := (Pn.parse_no hn).2
    omega
/-- a range, or the line ahead -/
def nmP (no : Bool) (s : List UInt8) : Option (Int × Int) := if no = true then oneP s else lnsP s
theorem kA_self {s : List UInt8} (h : kS s = false) : kA s = s ∧ spB isK s = none := by
  unfold kS at h
  unfold kA
  cases hq : spB isK s with
  | none => exact ⟨rfl, rfl⟩
  | some q => rw [hq] at h; cases h
theorem kS_some {s : List UInt8} (h : kS s = true) : ∃ c, spB isK s = some (kA s, c, kB s) := by
  unfold kS at h
  unfold kA kB
  cases hq : spB isK s with
  | none => rw [hq] at h; cases h
  | some q => exact ⟨q.2.1, rfl⟩
theorem nm_bad {no : Bool} {s : List UInt8} (h : Pn.parseE (kA s) ≠ 0) : nmP no s = none := by
  unfold nmP
  cases hk : kS s with
  | true =>
    obtain ⟨c, hc⟩ := kS_some hk
    have h2 := comma_no hk
    cases no with
    | true =>
      unfold oneP
      rw [if_pos rfl, if_neg h2]
    | false =>
      unfold lnsP
      rw [if_neg (by decide), hc]
      exact if_neg (fun q => h q.1)
  | false =>
    obtain ⟨h1, h2⟩ := kA_self hk
    rw [h1] at h
    cases no with
    | true =>
      unfold oneP
      rw [if_pos rfl, if_neg h]
    | false =>
      unfold lnsP
      rw [if_neg (by decide), h2]
      exact if_neg (fun q => h q.1)
theorem kA_le (s : List UInt8) : (kA s).length ≤ s.length ∧ (kB s).length ≤ s.length := by
  unfold kA kB
  rcases comma_sp s with ⟨h1, _⟩ | ⟨k, hk, _, h2⟩
  · rw [h1]; simp
  · rw [h2]; simp only [List.length_take, List.length_drop]; omega
/-- what numbers answers -/
def NmQ (w : World) (no : Bool) (s : List UInt8) (e : Ending) (w' : World) : Prop := ∃ x n r, e = .returned (.tuple #[.int .i64 x, .int .i64 n, .bool r]) ∧ nmP no s = (if r = true then some (x, n) else none) ∧ Below w.heap.size w w'
set_option maxHeartbeats 4000000 in
theorem nnumbers_f (s : List UInt8) (no : Bool) (w : World) (hl : s.length ≤ 1099511627776) :
    Calls Tryd.prog 149 #[.string ⟨s.toArray⟩, .bool no] w fun e w' => NmQ w no s e w' := by
  have hkl := kA_le s
  have b1 := @prs_num (kA s)
  have b2 := @prs_num (kB s)
  obtain ⟨V1, hV1⟩ : ∃ V, Pn.parseV (kA s) = V := ⟨_, rfl⟩
  obtain ⟨E1, hE1⟩ : ∃ V, Pn.parseE (kA s) = V := ⟨_, rfl⟩
  obtain ⟨V2, hV2⟩ : ∃ V, Pn.parseV (kB s) = V := ⟨_, rfl⟩
  obtain ⟨E2, hE2⟩ : ∃ V, Pn.parseE (kB s) = V := ⟨_, rfl⟩
  have P1 : ∀ u : World, Calls Tryd.prog 175 #[.string ⟨(kA s).toArray⟩] u fun e w' => e = .returned (.tuple #[.int .i64 V1, .int .i64 E1]) ∧ Below u.heap.size u w' := (by
    intro u
    have h := nParse_any (kA s) u (by unfold maxLen; omega)
    rw [hV1, hE1] at h
    exact h)
  have P2 : ∀ u : World, Calls Tryd.prog 175 #[.string ⟨(kB s).toArray⟩] u fun e w' => e = .returned (.tuple #[.int .i64 V2, .int .i64 E2]) ∧ Below u.heap.size u w' := (by
    intro u
    have h := nParse_any (kB s) u (by unfold maxLen; omega)
    rw [hV2, hE2] at h
    exact h)
  rw [hV1] at b1
  rw [hV2] at b2
  by_cases he1 : E1 = 0
  · have f1 : (E1 != 0) = false := by simp [he1]
    cases no with
    | true =>
      cases hk : kS s with
      | true =>
        have HN : Hid (nmP true s = none) := (by
          show _ = _
          unfold nmP oneP
          rw [if_pos rfl, if_neg (comma_no hk)])
        have C1 := nCut_f s w hl
        rw [hk] at C1
        clear hV1 hE1 hV2 hE2 hk he1 P2
        go_enter Tryd.func149, Tryd.ntmps149
        go_wp2_with fail
        refine C1.mono ?_
        rintro e w1 ⟨rfl, n, rfl⟩
        go_wp2_with fail
        refine (P1 _).mono ?_
        rintro e w2 ⟨rfl, hb2⟩
        go_wp2
        go_ret3
        exact ⟨_, _, _, rfl, HN.out, (Below.dN (Below.refl _ w) n).trans hb2⟩
      | false =>
        have HN : Hid (nmP true s = some (V1, 0)) := (by
          show _ = _
          obtain ⟨a1, _⟩ := kA_self hk
          rw [a1] at hV1 hE1
          unfold nmP oneP
          rw [if_pos rfl, if_pos (by rw [hE1]; exact he1), hV1])
        have C1 := nCut_f s w hl
        rw [hk] at C1
        clear hV1 hE1 hV2 hE2 hk he1 P2
        go_enter Tryd.func149, Tryd.ntmps149
        go_wp2_with fail
        refine C1.mono ?_
        rintro e w1 ⟨rfl, n, rfl⟩
        go_wp2_with fail
        refine (P1 _).mono ?_
        rintro e w2 ⟨rfl, hb2⟩
        go_wp2
        go_ret3
        exact ⟨_, _, _, rfl, HN.out, (Below.dN (Below.refl _ w) n).trans hb2⟩
    | false =>
      cases hk : kS s with
      | false =>
        have HN : Hid (nmP false s = if decide (0 < V1) = true then some (V1, 1) else none) := (by
          show _ = _
          obtain ⟨a1, a2⟩ := kA_self hk
          rw [a1] at hV1 hE1
          unfold nmP lnsP
          rw [if_neg (by decide), a2]
          dsimp only
          rw [hV1, hE1]
          by_cases h : 0 < V1
          · rw [if_pos ⟨he1, by omega⟩, if_pos (by simpa using h)]
          · rw [if_neg (by omega), if_neg (by simpa using h)])
        have C1 := nCut_f s w hl
        rw [hk] at C1
        clear hV1 hE1 hV2 hE2 hk he1 P2
        go_enter Tryd.func149, Tryd.ntmps149
        go_wp2_with fail
        refine C1.mono ?_
        rintro e w1 ⟨rfl, n, rfl⟩
        go_wp2_with fail
        refine (P1 _).mono ?_
        rintro e w2 ⟨rfl, hb2⟩
        go_wp2
        go_ret3
        exact ⟨_, _, _, rfl, HN.out, (Below.dN (Below.refl _ w) n).trans hb2⟩
      | true =>
        have HN : Hid (nmP false s = if (decide (E2 = 0) && decide (0 < V1) && decide (V1 < V2)) = true then some (V1, V2 - V1 + 1) else none) := (by
          show _ = _
          obtain ⟨c, a2⟩ := kS_some hk
          unfold nmP lnsP
          rw [if_neg (by decide), a2]
          dsimp only
          rw [hV1, hE1, hV2, hE2]
          by_cases h : E2 = 0 ∧ 0 < V1 ∧ V1 < V2
          · rw [if_pos ⟨he1, h.1, by omega, h.2.2⟩, if_pos (by simp [h.1, h.2.1, h.2.2])]
          · rw [if_neg (fun q => h ⟨q.2.1, by omega, q.2.2.2⟩), if_neg (fun q => h (by simp only [Bool.and_eq_true, decide_eq_true_eq] at q; exact ⟨q.1.1, q.1.2, q.2⟩))])
        have C1 := nCut_f s w hl
        rw [hk] at C1
        clear hV1 hE1 hV2 hE2 hk he1
        go_enter Tryd.func149, Tryd.ntmps149
        go_wp2_with fail
        refine C1.mono ?_
        rintro e w1 ⟨rfl, n, rfl⟩
        go_wp2_with fail
        refine (P1 _).mono ?_
        rintro e w2 ⟨rfl, hb2⟩
        go_wp2_with fail
        refine (P2 _).mono ?_
        rintro e w3 ⟨rfl, hb3⟩
        have hb23 := (Below.dN (Below.refl _ w) n).trans (hb2.trans (hb3.mono hb2.size))
        have i1 : IntKind.i64.wrap (V2 - V1) = V2 - V1 := wrap_s (by omega) (by omega)
        have i2 : IntKind.i64.wrap (V2 - V1 + 1) = V2 - V1 + 1 := wrap_s (by omega) (by omega)
        by_cases h1 : E2 = 0
        · have g1 : (E2 == 0) = true := by simp [h1]
          by_cases h2 : 0 < V1
          · have HN2 : Hid (nmP false s = if decide (V1 < V2) = true then some (V1, V2 - V1 + 1) else none) := (by
              show _ = _
              rw [HN.out]
              simp [h1, h2])
            clear HN h1
            go_wp2
            go_ret3
            exact ⟨_, _, _, rfl, HN2.out, hb23⟩
          · have HN2 : Hid (nmP false s = none) := (by have h := HN.out; rw [if_neg (by simp [h2])] at h; exact h)
            clear HN h1
            go_wp2
            go_ret3
            exact ⟨_, _, _, rfl, HN2.out, hb23⟩
        · have g1 : (E2 == 0) = false := by simp [h1]
          have HN2 : Hid (nmP false s = none) := (by have h := HN.out; rw [if_neg (by simp [h1])] at h; exact h)
          clear HN h1
          go_wp2
          go_ret3
          exact ⟨_, _, _, rfl, HN2.out, hb23⟩
  · have f1 : (E1 != 0) = true := by simp [he1]
    have HN : Hid (nmP no s = none) := nm_bad (by rw [hE1]; exact he1)
    have C1 := nCut_f s w hl
    clear hV1 hE1 hV2 hE2 he1 P2
    generalize kS s = ks at C1
    go_enter Tryd.func149, Tryd.ntmps149
    go_wp2_with fail
    refine C1.mono ?_
    rintro e w1 ⟨rfl, n, rfl⟩
    go_wp2_with fail
    refine (P1 _).mono ?_
    rintro e w2 ⟨rfl, hb2⟩
    go_wp2
    go_ret3
    exact ⟨_, _, _, rfl, HN.out, (Below.dN (Below.refl _ w) n).trans hb2⟩
end Go.Proofs.YtgiojkhmkeocfaaDoor

/- The reference's range of lines, walked. -/
namespace Go.Proofs.YtgiojkhmkeocfaaDoor
open Go.RowKit
attribute [local go_sem] ByteArray.extract_mk no_at

theorem spB_at {q : UInt8 → Bool} : ∀ (s : List UInt8) (i : Nat) (hi : i < s.length), q s[i] = true → (∀ j (hj : j < i), q (s[j]'(by omega)) = false) → spB q s = some (s.take i, s[i], s.drop (i + 1))
  | [], _, hi, _, _ => by simp at hi
  | c :: t, 0, _, hq, _ => by
    simp only [List.getElem_cons_zero] at hq
    simp [spB, hq]
  | c :: t, i + 1, hi, hq, h => by
    have h0 := h 0 (by omega)
    simp only [List.getElem_cons_zero] at h0
    have ih := spB_at t i (by simpa using hi) (by simpa using hq) (fun j hj => by have := h (j + 1) (by omega); simpa using this)
    simp [spB, h0, ih]
theorem spB_off {q : UInt8 → Bool} : ∀ (s : List UInt8), (∀ j (hj : j < s.length), q s[j] = false) → spB q s = none
  | [], _ => rfl
  | c :: t, h => by
    have h0 := h 0 (by simp)
    simp only [List.getElem_cons_zero] at h0
    have ih := spB_off t (fun j hj => by have := h (j + 1) (by simp; omega); simpa using this)
    simp [spB, h0, ih]
/-- what a range of lines is read as -/
def LnsP (s : List UInt8) (x : Ending) : Prop :=
  match lnsP s with
  | some (A, N) => x = .returned (.tuple #[.int .i64 A, .int .i64 N, .bool true])
  | none => ∃ A N, x = .returned (.tuple #[.int .i64 A, .int .i64 N, .bool false])
theorem LnsP.mk1 {s : List UInt8} {k : Nat} (hk : k < s.length) (h1 : isK s[k] = true) (h2 : ∀ j (hj : j < k), isK (s[j]'(by omega)) = false) {x y : List UInt8} (hx : s.take k = x) (hy : s.drop (k + 1) = y) {b : Bool} (hb : (decide (Pn.parseE x = 0) && (decide (Pn.parseE y = 0) && (decide (1 ≤ Pn.parseV x) && decide (Pn.parseV x < Pn.parseV y)))) = b) :
    LnsP s (.returned (.tuple #[.int .i64 (Pn.parseV x), .int .i64 (Pn.parseV y - Pn.parseV x + 1), .bool b])) := by
  unfold LnsP lnsP
  rw [spB_at s k hk h1 h2]
  dsimp only
  rw [hx, hy]
  cases b with
  | true =>
    simp only [Bool.and_eq_true, decide_eq_true_eq] at hb
    rw [if_pos hb]
  | false =>
    rw [if_neg (by intro hq; simp [hq] at hb)]
    exact ⟨_, _, rfl⟩
theorem LnsP.mk0 {s : List UInt8} (h2 : ∀ j (hj : j < s.length), isK s[j] = false) {b : Bool} (hb : (decide (Pn.parseE s = 0) && decide (1 ≤ Pn.parseV s)) = b) :
    LnsP s (.returned (.tuple #[.int .i64 (Pn.parseV s), .int .i64 1, .bool b])) := by
  unfold LnsP lnsP
  rw [spB_off s h2]
  dsimp only
  cases b with
  | true =>
    simp only [Bool.and_eq_true, decide_eq_true_eq] at hb
    rw [if_pos hb]
  | false =>
    rw [if_neg (by intro hq; simp [hq] at hb)]
    exact ⟨_, _, rfl⟩
set_option maxHeartbeats 4000000 in
theorem rLines_f (s : List UInt8) (hs : s.length ≤ 1099511627776) (w : World) :
    Calls Tryd.prog 122 #[.string ⟨s.toArray⟩] w fun x w' => LnsP s x ∧ Below w.heap.size w w' := by
  go_enter Tryd.func122, Tryd.ntmps122
  go_wp2
  go_loopw [5] (fun i wr => ∃ k : Nat, k ≤ s.length ∧ i = .int .i64 (k : Int) ∧ Hid (∀ j (_ : j < k) (hj : j < s.length), isK s[j] = false) ∧ wr = w) (fun i _ => s.length - (intOf i).toNat)
  case atStart => exact ⟨0, Nat.zero_le _, rfl, fun j hj => by omega, rfl⟩
  case round =>
    obtain ⟨k, hk, rfl, HK, rfl⟩ := hrel
    by_cases hlt : k < s.length
    · have i1 : 0 ≤ (k : Int) := by omega
      have i2 : (k : Int) < (s.length : Int) := by omega
      by_cases hc : s[k] = 44
      · have hb : ((s[k].toNat : Int) == 44) = true := by rw [hc]; rfl
        have HE : Hid (isK s[k] = true) := (by show _ = _; unfold isK; rw [hc]; rfl)
        obtain ⟨x, hx⟩ : ∃ x, s.take k = x := ⟨_, rfl⟩
        obtain ⟨y, hy⟩ : ∃ y, s.drop (k + 1) = y := ⟨_, rfl⟩
        have hxl : x.length ≤ 1099511627776 := (by rw [← hx, List.length_take]; omega)
        have hy3 : y.take (s.length - (k + 1)) = y := List.take_of_length_le (by rw [← hy, List.length_drop]; omega)
        have i3 : (k : Int) + 1 ≤ (s.length : Int) := by omega
        have i4 : ((k : Int) + 1).toNat = k + 1 := by omega
        have hyl : y.length ≤ 1099511627776 := (by rw [← hy, List.length_drop]; omega)
        have hm : ∀ b : Bool, _ = b → LnsP s _ := fun b hb => LnsP.mk1 hlt HE.out (fun j hj => HK.out j hj (by omega)) hx hy (b := b) hb
        obtain ⟨v1, hv1⟩ : ∃ v, Pn.parseV x = v := ⟨_, rfl⟩
        obtain ⟨e1, he1⟩ : ∃ e, Pn.parseE x = e := ⟨_, rfl⟩
        obtain ⟨v2, hv2⟩ : ∃ v, Pn.parseV y = v := ⟨_, rfl⟩
        obtain ⟨e2, he2⟩ : ∃ e, Pn.parseE y = e := ⟨_, rfl⟩
        have b1 := @prs_num x
        have b2 := @prs_num y
        rw [hv1] at b1
        rw [hv2] at b2
        rw [hv1, he1, hv2, he2] at hm
        have hrx := rParse_f x
        have hry := rParse_f y
        rw [hv1, he1] at hrx
        rw [hv2, he2] at hry
        have HM : Hid (∀ b : Bool, (decide (e1 = 0) && (decide (e2 = 0) && (decide (1 ≤ v1) && decide (v1 < v2)))) = b → LnsP s (.returned (.tuple #[.int .i64 v1, .int .i64 (v2 - v1 + 1), .bool b]))) := hm
        clear hm HK HE hc hv1 he1 hv2 he2
        go_wp2_with fail
        refine (hrx _ (by unfold maxLen; omega)).mono ?_
        rintro e' w1 ⟨rfl, hb1⟩
        go_wp2_with fail
        refine (hry _ (by unfold maxLen; omega)).mono ?_
        rintro e' w2 ⟨rfl, hb2⟩
        have hB := hb1.trans (hb2.mono hb1.size)
        by_cases h1 : e1 = 0
        · have g1 : (e1 == 0) = true := by rw [h1]; rfl
          by_cases h2 : e2 = 0
          · have g2 : (e2 == 0) = true := by rw [h2]; rfl
            by_cases h3 : 1 ≤ v1
            · by_cases h4 : v1 < v2
              · go_wp2
                go_ret3
                exact ⟨HM.out _ (by simp [h1, h2, h3, h4]), hB⟩
              · go_wp2
                go_ret3
                exact ⟨HM.out _ (by simp [h1, h2, h3]), hB⟩
            · have g3 : decide (1 ≤ v1) = false := decide_eq_false h3
              have G3 : Hid (decide (1 ≤ v1) = false) := g3
              go_wp2
              go_ret3
              exact ⟨HM.out _ (by rw [G3.out]; simp), hB⟩
          · have g2 : (e2 == 0) = false := beq_eq_false_iff_ne.2 h2
            go_wp2
            go_ret3
            exact ⟨HM.out _ (by simp [h1, h2]), hB⟩
        · have g1 : (e1 == 0) = false := beq_eq_false_iff_ne.2 h1
          go_wp2
          go_ret3
          exact ⟨HM.out _ (by simp [h1]), hB⟩
      · have hb : ((s[k].toNat : Int) == 44) = false := beq_eq_false_iff_ne.2 (fun h => hc (UInt8.toNat_inj.1 (by show _ = 44; omega)))
        have HE : Hid (isK s[k] = false) := (by show _ = _; unfold isK; simpa using hc)
        go_wp2
        go_roundw
        case rel => exact ⟨k + 1, by omega, by go_num, fun j hj hj2 => (by
            rcases Nat.lt_or_ge j k with h | h
            · exact HK.out j h hj2
            · have : j = k := by omega
              subst this
              exact HE.out), trivial⟩
        case measure => simp [intOf]; omega
    · have ek : k = s.length := by omega
      subst ek
      obtain ⟨v, hv⟩ : ∃ v, Pn.parseV s = v := ⟨_, rfl⟩
      obtain ⟨e, he⟩ : ∃ e, Pn.parseE s = e := ⟨_, rfl⟩
      go_wp2_with fail
      refine (rParse_f s _ (by unfold maxLen; omega)).mono ?_
      rintro e' w1 ⟨rfl, hb1⟩
      have hm : ∀ b : Bool, _ = b → LnsP s _ := fun b hb => LnsP.mk0 (s := s) (fun j hj => HK.out j hj hj) (b := b) hb
      rw [hv, he] at hm ⊢
      by_cases h1 : e = 0
      · have g1 : (e == 0) = true := by rw [h1]; rfl
        by_cases h2 : 1 ≤ v
        · go_wp2
          go_ret3
          exact ⟨hm _ (by simp [h1, h2]), hb1⟩
        · have G3 : Hid (decide (1 ≤ v) = false) := decide_eq_false h2
          go_wp2
          go_ret3
          exact ⟨hm _ (by rw [G3.out]; simp), hb1⟩
      · have g1 : (e == 0) = false := beq_eq_false_iff_ne.2 h1
        go_wp2
        go_ret3
        exact ⟨hm _ (by simp [h1]), hb1⟩
end Go.Proofs.YtgiojkhmkeocfaaDoor

/- The reference's line that says a change, walked. -/
namespace Go.Proofs.YtgiojkhmkeocfaaDoor
open Go.RowKit
attribute [local go_sem] ByteArray.extract_mk no_at

theorem LnsP.out {s : List UInt8} {x : Ending} (h : LnsP s x) : ∃ A N b, x = .returned (.tuple #[.int .i64 A, .int .i64 N, .bool b]) ∧ lnsP s = if b = true then some (A, N) else none := by
  unfold LnsP at h
  cases hl : lnsP s with
  | none =>
    rw [hl] at h
    obtain ⟨A, N, rfl⟩ := h
    exact ⟨A, N, false, rfl, rfl⟩
  | some z =>
    obtain ⟨A, N⟩ := z
    rw [hl] at h
    exact ⟨A, N, true, h, rfl⟩
/-- what a line that says a change is read as -/
def CmdP (s : List UInt8) (x : Ending) : Prop :=
  match cmdP s with
  | some (A, AN, B, BN) => x = .returned (.tuple #[hkV ⟨A, AN, B, BN, []⟩ (.slice none 0 0), .bool true])
  | none => ∃ A AN B BN, x = .returned (.tuple #[hkV ⟨A, AN, B, BN, []⟩ (.slice none 0 0), .bool false])
theorem CmdP.off {s : List UInt8} (h : ∀ j (hj : j < s.length), isC s[j] = false) : CmdP s (.returned (.tuple #[hkV ⟨0, 0, 0, 0, []⟩ (.slice none 0 0), .bool false])) := by
  unfold CmdP cmdP
  rw [spB_off s h]
  exact ⟨0, 0, 0, 0, rfl⟩
section
variable {u : World} {b : Nat} {h : Hk} {v : Value}
theorem Hx.putH5 (q : Hx u b h v) (A AN B BN : Int) (l : List Mk) (z : Value) : Hx (((((u.setCell ⟨b, 0, none⟩ (.int .i64 A)).setCell ⟨b, 1, none⟩ (.int .i64 AN)).setCell ⟨b, 2, none⟩ (.int .i64 B)).setCell ⟨b, 3, none⟩ (.int .i64 BN)).setCell ⟨b, 4, none⟩ z) b ⟨A, AN, B, BN, l⟩ z := by
  have s1 := heap_setCell_same u b 0 _ _ (.int .i64 A) q
  have s2 := heap_setCell_same _ b 1 _ _ (.int .i64 AN) s1
  have s3 := heap_setCell_same _ b 2 _ _ (.int .i64 B) s2
  have s4 := heap_setCell_same _ b 3 _ _ (.int .i64 BN) s3
  exact heap_setCell_same _ b 4 _ _ z s4
theorem Hx.put0 (q : Hx u b h v) (A : Int) : Hx (u.setCell ⟨b, 0, none⟩ (.int .i64 A)) b ⟨A, h.AN, h.B, h.BN, h.ls⟩ v := heap_setCell_same u b 0 _ _ (.int .i64 A) q
theorem Hx.put1 (q : Hx u b h v) (A : Int) : Hx (u.setCell ⟨b, 1, none⟩ (.int .i64 A)) b ⟨h.A, A, h.B, h.BN, h.ls⟩ v := heap_setCell_same u b 1 _ _ (.int .i64 A) q
theorem Hx.put2 (q : Hx u b h v) (A : Int) : Hx (u.setCell ⟨b, 2, none⟩ (.int .i64 A)) b ⟨h.A, h.AN, A, h.BN, h.ls⟩ v := heap_setCell_same u b 2 _ _ (.int .i64 A) q
theorem Hx.put3 (q : Hx u b h v) (A : Int) : Hx (u.setCell ⟨b, 3, none⟩ (.int .i64 A)) b ⟨h.A, h.AN, h.B, A, h.ls⟩ v := heap_setCell_same u b 3 _ _ (.int .i64 A) q
theorem Hx.off (q : Hx u b h v) {c j : Nat} (hc : b ≠ c) (z : Value) : Hx (u.setCell ⟨c, j, none⟩ z) b h v := (Below.heap_setCell _ _ _ b hc).trans q
end
theorem cm_low {w u : World} (h : Below w.heap.size w u) (z0 z1 z2 z3 z4 : Value) : Below w.heap.size w (((((u.setCell ⟨w.heap.size, 0, none⟩ z0).setCell ⟨w.heap.size, 1, none⟩ z1).setCell ⟨w.heap.size, 2, none⟩ z2).setCell ⟨w.heap.size, 3, none⟩ z3).setCell ⟨w.heap.size, 4, none⟩ z4) :=
  ((((h.setCell (Nat.le_refl _) _).setCell (Nat.le_refl _) _).setCell (Nat.le_refl _) _).setCell (Nat.le_refl _) _).setCell (Nat.le_refl _) _
theorem cm_ret (tmps : Array Value) (u : World) (B : Nat) (g : Hk) (v : Value) (h : Hx u B g v) {b : Value} (h2 : tmps.getD 2 undef = .pointer (some ⟨B, 0, none⟩)) (h3 : tmps.getD 3 undef = b) :
    (results Tryd.f81 tmps).run Tryd.prog u = .ok (.tuple #[hkV g v, b]) u := by
  rw [_root_.Go.results_cell_tmp rfl, h2, h3]
  have hL : (loadVar 43 ⟨B, 0, none⟩).run Tryd.prog u = .ok (hkV g v) u := run_loadVar_row u B _ _ _ _ _ h Tryd.underlying43 rfl (by kernel_rfl)
  simp [asAddr, hL, Result.andThen]
theorem CmdP.mk {s : List UInt8} {k : Nat} {c : UInt8} (hk : k < s.length) (hc : s[k] = c) (h1 : isC c = true) (h2 : ∀ j (hj : j < k), isC (s[j]'(by omega)) = false) {x y : List UInt8} (hx : s.take k = x) (hy : s.drop (k + 1) = y)
    {A AN B BN : Int} {b1 b2 b : Bool} (hA : (if c = 97 then oneP x else lnsP x) = if b1 = true then some (A, AN) else none) (hB : (if c = 100 then oneP y else lnsP y) = if b2 = true then some (B, BN) else none) (hb : (b1 && b2) = b) :
    CmdP s (.returned (.tuple #[hkV ⟨A, AN, B, BN, []⟩ (.slice none 0 0), .bool b])) := by
  unfold CmdP cmdP
  rw [spB_at s k hk (by rw [hc]; exact h1) h2]
  dsimp only
  rw [hx, hy, hc, hA, hB]
  cases b1 <;> cases b2 <;> cases hb
  · exact ⟨_, _, _, _, rfl⟩
  · exact ⟨_, _, _, _, rfl⟩
  · exact ⟨_, _, _, _, rfl⟩
  · rfl
theorem one_if {x : List UInt8} {v e : Int} (hv : Pn.parseV x = v) (he : Pn.parseE x = e) : oneP x = if decide (e = 0) = true then some (v, 0) else none := by
  unfold oneP
  rw [hv, he]
  by_cases h : e = 0 <;> simp [h]
set_option maxHeartbeats 4000000 in
theorem rcommand_f (s : List UInt8) (hs : s.length ≤ 1099511627776) (w : World) :
    Calls Tryd.prog 81 #[.string ⟨s.toArray⟩] w fun x w' => CmdP s x ∧ Below w.heap.size w w' := by
  have hx0 := Hx.new w ⟨0, 0, 0, 0, []⟩ (.slice none 0 0)
  have hB0 : Below w.heap.size w (w.alloc (hkO ⟨0, 0, 0, 0, []⟩ (.slice none 0 0))) := (Below.refl _ w).alloc (Nat.le_refl _) _
  go_enter Tryd.func81, Tryd.ntmps81
  go_wp2
  unfold hkO at hx0 hB0
  dsimp only at hx0 hB0
  generalize w.alloc (.cells #[.int .i64 0, .int .i64 0, .int .i64 0, .int .i64 0, .slice none 0 0] 43) = W0 at hx0 hB0 ⊢
  go_loopw [4] (fun i wr => ∃ k : Nat, k ≤ s.length ∧ i = .int .i64 (k : Int) ∧ Hid (∀ j (_ : j < k) (hj : j < s.length), isC s[j] = false) ∧ wr = W0) (fun i _ => s.length - (intOf i).toNat)
  case atStart => exact ⟨0, Nat.zero_le _, rfl, fun j hj => by omega, rfl⟩
  case round =>
    obtain ⟨k, hk, rfl, HK, rfl⟩ := hrel
    by_cases hlt : k < s.length
    · have i1 : 0 ≤ (k : Int) := by omega
      have i2 : (k : Int) < (s.length : Int) := by omega
      obtain ⟨c, hcd⟩ : ∃ c, s[k] = c := ⟨_, rfl⟩
      by_cases ha : c = 97
      · subst ha
        have HC : Hid (s[k] = 97) := hcd
        have na : ((s[k].toNat : Int) != 97) = false := by rw [hcd]; rfl
        have nc : ((s[k].toNat : Int) != 99) = true := by rw [hcd]; rfl
        have nd : ((s[k].toNat : Int) != 100) = true := by rw [hcd]; rfl
        have ea : ((s[k].toNat : Int) == 97) = true := by rw [hcd]; rfl
        have ed : ((s[k].toNat : Int) == 100) = false := by rw [hcd]; rfl
        have nl : ((k : Int) == (s.length : Int)) = false := beq_eq_false_iff_ne.2 (by omega)
        obtain ⟨x, hx⟩ : ∃ x, s.take k = x := ⟨_, rfl⟩
        obtain ⟨y, hy⟩ : ∃ y, s.drop (k + 1) = y := ⟨_, rfl⟩
        have hxl : x.length ≤ 1099511627776 := (by rw [← hx, List.length_take]; omega)
        have hy3 : y.take (s.length - (k + 1)) = y := List.take_of_length_le (by rw [← hy, List.length_drop]; omega)
        have i3 : (k : Int) + 1 ≤ (s.length : Int) := by omega
        have i4 : ((k : Int) + 1).toNat = k + 1 := by omega
        have hyl : y.length ≤ 1099511627776 := (by rw [← hy, List.length_drop]; omega)
        clear hcd
        have hxh := Hx.new wr ⟨0, 0, 0, 0, []⟩ (.slice none 0 0)
        have hx1 : Hx (wr.alloc (hkO ⟨0, 0, 0, 0, []⟩ (.slice none 0 0))) w.heap.size ⟨0, 0, 0, 0, []⟩ (.slice none 0 0) := hx0.low ((Below.refl _ wr).alloc (Nat.le_refl _) _)
        have hB1 := hB0.alloc hB0.size (hkO ⟨0, 0, 0, 0, []⟩ (.slice none 0 0))
        have hlt0 := hx0.lt
        unfold hkO at hxh hx1 hB1
        dsimp only at hxh hx1 hB1
        go_wp2_with fail
        have hne : w.heap.size ≠ wr.heap.size := by omega
        have hwle : w.heap.size ≤ wr.heap.size := by omega
        generalize wr.alloc (.cells #[.int .i64 0, .int .i64 0, .int .i64 0, .int .i64 0, .slice none 0 0] 43) = W1 at hxh hx1 hB1 ⊢
        refine (rParse_f x _ (by unfold maxLen; omega)).mono ?_
        rintro e' w2 ⟨rfl, hb2⟩
        have hxh2 := hxh.low hb2
        have hxr2 := hx1.low hb2
        have hBB2 := hB1.trans (hb2.mono hB1.size)
        obtain ⟨A2, hv2⟩ : ∃ v, Pn.parseV x = v := ⟨_, rfl⟩
        obtain ⟨e2, he2⟩ : ∃ e, Pn.parseE x = e := ⟨_, rfl⟩
        have hl2 := one_if hv2 he2
        rw [hv2, he2]
        clear hv2 he2
        have HL2 : Hid _ := hl2
        have f20 := hxh2.frozen 0
        have f21 := hxh2.frozen 1
        obtain ⟨q20, q21, -, -, -⟩ := hxh2.cells
        have hxg2 := hxh2.put0 A2
        have hxs2 := hxr2.off (j := 0) hne (.int .i64 A2)
        have hBC2 := hBB2.setCell (p := ⟨wr.heap.size, 0, none⟩) hwle (.int .i64 A2)
        try dsimp only at hxg2
        clear hxh2 hxr2 hBB2 hb2
        clear hxh hx1 hB1 hx0 hB0
        go_wp2_with fail
        generalize w2.setCell ⟨wr.heap.size, 0, none⟩ (.int .i64 A2) = w3 at hxg2 hxs2 hBC2 ⊢
        clear f20 f21 q20 q21
        refine (rLines_f y hyl _).mono ?_
        rintro x' w4 ⟨hl, hb4⟩
        obtain ⟨A4, N4, b4, rfl, hl4⟩ := hl.out
        clear hl
        have hxh4 := hxg2.low hb4
        have hxr4 := hxs2.low hb4
        have hBB4 := hBC2.trans (hb4.mono hBC2.size)
        have HL4 : Hid _ := hl4
        have f40 := hxh4.frozen 2
        have f41 := hxh4.frozen 3
        obtain ⟨-, -, q40, q41, -⟩ := hxh4.cells
        have hxg4 := (hxh4.put2 A4).put3 N4
        have hxs4 := (hxr4.off (j := 2) hne (.int .i64 A4)).off (j := 3) hne (.int .i64 N4)
        have hBC4 := (hBB4.setCell (p := ⟨wr.heap.size, 2, none⟩) hwle (.int .i64 A4)).setCell (p := ⟨wr.heap.size, 3, none⟩) hwle (.int .i64 N4)
        try dsimp only at hxg4
        clear hxh4 hxr4 hBB4 hb4
        clear hxg2 hxs2 hBC2
        go_upto_region 16 with fail
        clear f40 f41 q40 q41
        generalize (w4.setCell ⟨wr.heap.size, 2, none⟩ (.int .i64 A4)).setCell ⟨wr.heap.size, 3, none⟩ (.int .i64 N4) = w5 at hxg4 hxs4 hBC4 ⊢
        obtain ⟨d0, d1, d2, d3, d4⟩ := hxg4.cells
        obtain ⟨r0, r1, r2, r3, r4⟩ := hxs4.cells
        have g0 := hxs4.frozen 0
        have g1 := hxs4.frozen 1
        have g2 := hxs4.frozen 2
        have g3 := hxs4.frozen 3
        have g4 := hxs4.frozen 4
        have hp := hxs4.putH5 A2 0 A4 N4 [] (.slice none 0 0)
        have HM : Hid (∀ b : Bool, (decide (e2 = 0) && b4) = b → CmdP s (.returned (.tuple #[hkV ⟨A2, 0, A4, N4, []⟩ (.slice none 0 0), .bool b]))) := fun b hb => CmdP.mk hlt HC.out (by decide) (fun j hj => HK.out j hj (by omega)) hx hy (b1 := decide (e2 = 0)) (b2 := b4) (b := b) ((if_pos rfl).trans HL2.out) ((if_neg (by decide)).trans HL4.out) hb
        clear hl2 hl4 HL2 HL4 HK HC
        by_cases he2 : e2 = 0
        · have HD2 : Hid (decide (e2 = 0) = true) := decide_eq_true he2
          have z2 : (e2 == 0) = true := by rw [he2]; rfl
          clear he2
          cases b4 with
          | true =>
            go_wp2
            refine bodyPost_ret (v := .tuple #[hkV ⟨A2, 0, A4, N4, []⟩ (.slice none 0 0), .bool true]) (cm_ret _ _ _ _ _ hp rfl rfl) rfl ⟨HM.out _ (by rw [HD2.out]; rfl), cm_low hBC4 _ _ _ _ _⟩
          | false =>
            go_wp2
            refine bodyPost_ret (v := .tuple #[hkV ⟨A2, 0, A4, N4, []⟩ (.slice none 0 0), .bool false]) (cm_ret _ _ _ _ _ hp rfl rfl) rfl ⟨HM.out _ (by rw [HD2.out]; rfl), cm_low hBC4 _ _ _ _ _⟩
        · have HD2 : Hid (decide (e2 = 0) = false) := decide_eq_false he2
          have z2 : (e2 == 0) = false := beq_eq_false_iff_ne.2 he2
          clear he2
          cases b4 with
          | true =>
            go_wp2
            refine bodyPost_ret (v := .tuple #[hkV ⟨A2, 0, A4, N4, []⟩ (.slice none 0 0), .bool false]) (cm_ret _ _ _ _ _ hp rfl rfl) rfl ⟨HM.out _ (by rw [HD2.out]; rfl), cm_low hBC4 _ _ _ _ _⟩
          | false =>
            go_wp2
            refine bodyPost_ret (v := .tuple #[hkV ⟨A2, 0, A4, N4, []⟩ (.slice none 0 0), .bool false]) (cm_ret _ _ _ _ _ hp rfl rfl) rfl ⟨HM.out _ (by rw [HD2.out]; rfl), cm_low hBC4 _ _ _ _ _⟩
      · have na : ((c.toNat : Int) != 97) = true := bne_iff_ne.2 (fun h => ha (UInt8.toNat_inj.1 (by show _ = 97; omega)))
        by_cases hc : c = 99
        · subst hc
          clear na
          have HC : Hid (s[k] = 99) := hcd
          have na : ((s[k].toNat : Int) != 97) = true := by rw [hcd]; rfl
          have nc : ((s[k].toNat : Int) != 99) = false := by rw [hcd]; rfl
          have nd : ((s[k].toNat : Int) != 100) = true := by rw [hcd]; rfl
          have ea : ((s[k].toNat : Int) == 97) = false := by rw [hcd]; rfl
          have ed : ((s[k].toNat : Int) == 100) = false := by rw [hcd]; rfl
          have nl : ((k : Int) == (s.length : Int)) = false := beq_eq_false_iff_ne.2 (by omega)
          obtain ⟨x, hx⟩ : ∃ x, s.take k = x := ⟨_, rfl⟩
          obtain ⟨y, hy⟩ : ∃ y, s.drop (k + 1) = y := ⟨_, rfl⟩
          have hxl : x.length ≤ 1099511627776 := (by rw [← hx, List.length_take]; omega)
          have hy3 : y.take (s.length - (k + 1)) = y := List.take_of_length_le (by rw [← hy, List.length_drop]; omega)
          have i3 : (k : Int) + 1 ≤ (s.length : Int) := by omega
          have i4 : ((k : Int) + 1).toNat = k + 1 := by omega
          have hyl : y.length ≤ 1099511627776 := (by rw [← hy, List.length_drop]; omega)
          clear hcd
          have hxh := Hx.new wr ⟨0, 0, 0, 0, []⟩ (.slice none 0 0)
          have hx1 : Hx (wr.alloc (hkO ⟨0, 0, 0, 0, []⟩ (.slice none 0 0))) w.heap.size ⟨0, 0, 0, 0, []⟩ (.slice none 0 0) := hx0.low ((Below.refl _ wr).alloc (Nat.le_refl _) _)
          have hB1 := hB0.alloc hB0.size (hkO ⟨0, 0, 0, 0, []⟩ (.slice none 0 0))
          have hlt0 := hx0.lt
          unfold hkO at hxh hx1 hB1
          dsimp only at hxh hx1 hB1
          go_wp2_with fail
          have hne : w.heap.size ≠ wr.heap.size := by omega
          have hwle : w.heap.size ≤ wr.heap.size := by omega
          generalize wr.alloc (.cells #[.int .i64 0, .int .i64 0, .int .i64 0, .int .i64 0, .slice none 0 0] 43) = W1 at hxh hx1 hB1 ⊢
          refine (rLines_f x hxl _).mono ?_
          rintro x' w2 ⟨hl, hb2⟩
          obtain ⟨A2, N2, b2, rfl, hl2⟩ := hl.out
          clear hl
          have hxh2 := hxh.low hb2
          have hxr2 := hx1.low hb2
          have hBB2 := hB1.trans (hb2.mono hB1.size)
          have HL2 : Hid _ := hl2
          have f20 := hxh2.frozen 0
          have f21 := hxh2.frozen 1
          obtain ⟨q20, q21, -, -, -⟩ := hxh2.cells
          have hxg2 := (hxh2.put0 A2).put1 N2
          have hxs2 := (hxr2.off (j := 0) hne (.int .i64 A2)).off (j := 1) hne (.int .i64 N2)
          have hBC2 := (hBB2.setCell (p := ⟨wr.heap.size, 0, none⟩) hwle (.int .i64 A2)).setCell (p := ⟨wr.heap.size, 1, none⟩) hwle (.int .i64 N2)
          try dsimp only at hxg2
          clear hxh2 hxr2 hBB2 hb2
          clear hxh hx1 hB1 hx0 hB0
          go_wp2_with fail
          generalize (w2.setCell ⟨wr.heap.size, 0, none⟩ (.int .i64 A2)).setCell ⟨wr.heap.size, 1, none⟩ (.int .i64 N2) = w3 at hxg2 hxs2 hBC2 ⊢
          clear f20 f21 q20 q21
          refine (rLines_f y hyl _).mono ?_
          rintro x' w4 ⟨hl, hb4⟩
          obtain ⟨A4, N4, b4, rfl, hl4⟩ := hl.out
          clear hl
          have hxh4 := hxg2.low hb4
          have hxr4 := hxs2.low hb4
          have hBB4 := hBC2.trans (hb4.mono hBC2.size)
          have HL4 : Hid _ := hl4
          have f40 := hxh4.frozen 2
          have f41 := hxh4.frozen 3
          obtain ⟨-, -, q40, q41, -⟩ := hxh4.cells
          have hxg4 := (hxh4.put2 A4).put3 N4
          have hxs4 := (hxr4.off (j := 2) hne (.int .i64 A4)).off (j := 3) hne (.int .i64 N4)
          have hBC4 := (hBB4.setCell (p := ⟨wr.heap.size, 2, none⟩) hwle (.int .i64 A4)).setCell (p := ⟨wr.heap.size, 3, none⟩) hwle (.int .i64 N4)
          try dsimp only at hxg4
          clear hxh4 hxr4 hBB4 hb4
          clear hxg2 hxs2 hBC2
          go_upto_region 16 with fail
          clear f40 f41 q40 q41
          generalize (w4.setCell ⟨wr.heap.size, 2, none⟩ (.int .i64 A4)).setCell ⟨wr.heap.size, 3, none⟩ (.int .i64 N4) = w5 at hxg4 hxs4 hBC4 ⊢
          obtain ⟨d0, d1, d2, d3, d4⟩ := hxg4.cells
          obtain ⟨r0, r1, r2, r3, r4⟩ := hxs4.cells
          have g0 := hxs4.frozen 0
          have g1 := hxs4.frozen 1
          have g2 := hxs4.frozen 2
          have g3 := hxs4.frozen 3
          have g4 := hxs4.frozen 4
          have hp := hxs4.putH5 A2 N2 A4 N4 [] (.slice none 0 0)
          have HM : Hid (∀ b : Bool, (b2 && b4) = b → CmdP s (.returned (.tuple #[hkV ⟨A2, N2, A4, N4, []⟩ (.slice none 0 0), .bool b]))) := fun b hb => CmdP.mk hlt HC.out (by decide) (fun j hj => HK.out j hj (by omega)) hx hy (b1 := b2) (b2 := b4) (b := b) ((if_neg (by decide)).trans HL2.out) ((if_neg (by decide)).trans HL4.out) hb
          clear hl2 hl4 HL2 HL4 HK HC
          cases b2 with
          | true =>
            cases b4 with
            | true =>
              go_wp2
              refine bodyPost_ret (v := .tuple #[hkV ⟨A2, N2, A4, N4, []⟩ (.slice none 0 0), .bool true]) (cm_ret _ _ _ _ _ hp rfl rfl) rfl ⟨HM.out _ (by rfl), cm_low hBC4 _ _ _ _ _⟩
            | false =>
              go_wp2
              refine bodyPost_ret (v := .tuple #[hkV ⟨A2, N2, A4, N4, []⟩ (.slice none 0 0), .bool false]) (cm_ret _ _ _ _ _ hp rfl rfl) rfl ⟨HM.out _ (by rfl), cm_low hBC4 _ _ _ _ _⟩
          | false =>
            cases b4 with
            | true =>
              go_wp2
              refine bodyPost_ret (v := .tuple #[hkV ⟨A2, N2, A4, N4, []⟩ (.slice none 0 0), .bool false]) (cm_ret _ _ _ _ _ hp rfl rfl) rfl ⟨HM.out _ (by rfl), cm_low hBC4 _ _ _ _ _⟩
            | false =>
              go_wp2
              refine bodyPost_ret (v := .tuple #[hkV ⟨A2, N2, A4, N4, []⟩ (.slice none 0 0), .bool false]) (cm_ret _ _ _ _ _ hp rfl rfl) rfl ⟨HM.out _ (by rfl), cm_low hBC4 _ _ _ _ _⟩
        · have nc : ((c.toNat : Int) != 99) = true := bne_iff_ne.2 (fun h => hc (UInt8.toNat_inj.1 (by show _ = 99; omega)))
          by_cases hd : c = 100
          · subst hd
            clear na nc
            have HC : Hid (s[k] = 100) := hcd
            have na : ((s[k].toNat : Int) != 97) = true := by rw [hcd]; rfl
            have nc : ((s[k].toNat : Int) != 99) = true := by rw [hcd]; rfl
            have nd : ((s[k].toNat : Int) != 100) = false := by rw [hcd]; rfl
            have ea : ((s[k].toNat : Int) == 97) = false := by rw [hcd]; rfl
            have ed : ((s[k].toNat : Int) == 100) = true := by rw [hcd]; rfl
            have nl : ((k : Int) == (s.length : Int)) = false := beq_eq_false_iff_ne.2 (by omega)
            obtain ⟨x, hx⟩ : ∃ x, s.take k = x := ⟨_, rfl⟩
            obtain ⟨y, hy⟩ : ∃ y, s.drop (k + 1) = y := ⟨_, rfl⟩
            have hxl : x.length ≤ 1099511627776 := (by rw [← hx, List.length_take]; omega)
            have hy3 : y.take (s.length - (k + 1)) = y := List.take_of_length_le (by rw [← hy, List.length_drop]; omega)
            have i3 : (k : Int) + 1 ≤ (s.length : Int) := by omega
            have i4 : ((k : Int) + 1).toNat = k + 1 := by omega
            have hyl : y.length ≤ 1099511627776 := (by rw [← hy, List.length_drop]; omega)
            clear hcd
            have hxh := Hx.new wr ⟨0, 0, 0, 0, []⟩ (.slice none 0 0)
            have hx1 : Hx (wr.alloc (hkO ⟨0, 0, 0, 0, []⟩ (.slice none 0 0))) w.heap.size ⟨0, 0, 0, 0, []⟩ (.slice none 0 0) := hx0.low ((Below.refl _ wr).alloc (Nat.le_refl _) _)
            have hB1 := hB0.alloc hB0.size (hkO ⟨0, 0, 0, 0, []⟩ (.slice none 0 0))
            have hlt0 := hx0.lt
            unfold hkO at hxh hx1 hB1
            dsimp only at hxh hx1 hB1
            go_wp2_with fail
            have hne : w.heap.size ≠ wr.heap.size := by omega
            have hwle : w.heap.size ≤ wr.heap.size := by omega
            generalize wr.alloc (.cells #[.int .i64 0, .int .i64 0, .int .i64 0, .int .i64 0, .slice none 0 0] 43) = W1 at hxh hx1 hB1 ⊢
            refine (rLines_f x hxl _).mono ?_
            rintro x' w2 ⟨hl, hb2⟩
            obtain ⟨A2, N2, b2, rfl, hl2⟩ := hl.out
            clear hl
            have hxh2 := hxh.low hb2
            have hxr2 := hx1.low hb2
            have hBB2 := hB1.trans (hb2.mono hB1.size)
            have HL2 : Hid _ := hl2
            have f20 := hxh2.frozen 0
            have f21 := hxh2.frozen 1
            obtain ⟨q20, q21, -, -, -⟩ := hxh2.cells
            have hxg2 := (hxh2.put0 A2).put1 N2
            have hxs2 := (hxr2.off (j := 0) hne (.int .i64 A2)).off (j := 1) hne (.int .i64 N2)
            have hBC2 := (hBB2.setCell (p := ⟨wr.heap.size, 0, none⟩) hwle (.int .i64 A2)).setCell (p := ⟨wr.heap.size, 1, none⟩) hwle (.int .i64 N2)
            try dsimp only at hxg2
            clear hxh2 hxr2 hBB2 hb2
            clear hxh hx1 hB1 hx0 hB0
            go_wp2_with fail
            generalize (w2.setCell ⟨wr.heap.size, 0, none⟩ (.int .i64 A2)).setCell ⟨wr.heap.size, 1, none⟩ (.int .i64 N2) = w3 at hxg2 hxs2 hBC2 ⊢
            clear f20 f21 q20 q21
            refine (rParse_f y _ (by unfold maxLen; omega)).mono ?_
            rintro e' w4 ⟨rfl, hb4⟩
            have hxh4 := hxg2.low hb4
            have hxr4 := hxs2.low hb4
            have hBB4 := hBC2.trans (hb4.mono hBC2.size)
            obtain ⟨A4, hv4⟩ : ∃ v, Pn.parseV y = v := ⟨_, rfl⟩
            obtain ⟨e4, he4⟩ : ∃ e, Pn.parseE y = e := ⟨_, rfl⟩
            have hl4 := one_if hv4 he4
            rw [hv4, he4]
            clear hv4 he4
            have HL4 : Hid _ := hl4
            have f40 := hxh4.frozen 2
            have f41 := hxh4.frozen 3
            obtain ⟨-, -, q40, q41, -⟩ := hxh4.cells
            have hxg4 := hxh4.put2 A4
            have hxs4 := hxr4.off (j := 2) hne (.int .i64 A4)
            have hBC4 := hBB4.setCell (p := ⟨wr.heap.size, 2, none⟩) hwle (.int .i64 A4)
            try dsimp only at hxg4
            clear hxh4 hxr4 hBB4 hb4
            clear hxg2 hxs2 hBC2
            go_upto_region 16 with fail
            clear f40 f41 q40 q41
            generalize w4.setCell ⟨wr.heap.size, 2, none⟩ (.int .i64 A4) = w5 at hxg4 hxs4 hBC4 ⊢
            obtain ⟨d0, d1, d2, d3, d4⟩ := hxg4.cells
            obtain ⟨r0, r1, r2, r3, r4⟩ := hxs4.cells
            have g0 := hxs4.frozen 0
            have g1 := hxs4.frozen 1
            have g2 := hxs4.frozen 2
            have g3 := hxs4.frozen 3
            have g4 := hxs4.frozen 4
            have hp := hxs4.putH5 A2 N2 A4 0 [] (.slice none 0 0)
            have HM : Hid (∀ b : Bool, (b2 && decide (e4 = 0)) = b → CmdP s (.returned (.tuple #[hkV ⟨A2, N2, A4, 0, []⟩ (.slice none 0 0), .bool b]))) := fun b hb => CmdP.mk hlt HC.out (by decide) (fun j hj => HK.out j hj (by omega)) hx hy (b1 := b2) (b2 := decide (e4 = 0)) (b := b) ((if_neg (by decide)).trans HL2.out) ((if_pos rfl).trans HL4.out) hb
            clear hl2 hl4 HL2 HL4 HK HC
            cases b2 with
            | true =>
              by_cases he4 : e4 = 0
              · have HD4 : Hid (decide (e4 = 0) = true) := decide_eq_true he4
                have z4 : (e4 == 0) = true := by rw [he4]; rfl
                clear he4
                go_wp2
                refine bodyPost_ret (v := .tuple #[hkV ⟨A2, N2, A4, 0, []⟩ (.slice none 0 0), .bool true]) (cm_ret _ _ _ _ _ hp rfl rfl) rfl ⟨HM.out _ (by rw [HD4.out]; rfl), cm_low hBC4 _ _ _ _ _⟩
              · have HD4 : Hid (decide (e4 = 0) = false) := decide_eq_false he4
                have z4 : (e4 == 0) = false := beq_eq_false_iff_ne.2 he4
                clear he4
                go_wp2
                refine bodyPost_ret (v := .tuple #[hkV ⟨A2, N2, A4, 0, []⟩ (.slice none 0 0), .bool false]) (cm_ret _ _ _ _ _ hp rfl rfl) rfl ⟨HM.out _ (by rw [HD4.out]; rfl), cm_low hBC4 _ _ _ _ _⟩
            | false =>
              by_cases he4 : e4 = 0
              · have HD4 : Hid (decide (e4 = 0) = true) := decide_eq_true he4
                have z4 : (e4 == 0) = true := by rw [he4]; rfl
                clear he4
                go_wp2
                refine bodyPost_ret (v := .tuple #[hkV ⟨A2, N2, A4, 0, []⟩ (.slice none 0 0), .bool false]) (cm_ret _ _ _ _ _ hp rfl rfl) rfl ⟨HM.out _ (by rw [HD4.out]; rfl), cm_low hBC4 _ _ _ _ _⟩
              · have HD4 : Hid (decide (e4 = 0) = false) := decide_eq_false he4
                have z4 : (e4 == 0) = false := beq_eq_false_iff_ne.2 he4
                clear he4
                go_wp2
                refine bodyPost_ret (v := .tuple #[hkV ⟨A2, N2, A4, 0, []⟩ (.slice none 0 0), .bool false]) (cm_ret _ _ _ _ _ hp rfl rfl) rfl ⟨HM.out _ (by rw [HD4.out]; rfl), cm_low hBC4 _ _ _ _ _⟩
          · have nd : ((c.toNat : Int) != 100) = true := bne_iff_ne.2 (fun h => hd (UInt8.toNat_inj.1 (by show _ = 100; omega)))
            have HE : Hid (isC s[k] = false) := (by show _ = _; unfold isC; rw [hcd]; simp [ha, hc, hd])
            go_wp2
            go_roundw
            case rel => exact ⟨k + 1, by omega, by go_num, fun j hj hj2 => (by
                rcases Nat.lt_or_ge j k with h | h
                · exact HK.out j h hj2
                · have : j = k := by omega
                  subst this
                  exact HE.out), trivial⟩
            case measure => simp [intOf]; omega
    · have ek : k = s.length := by omega
      subst ek
      have f := hx0.frozen
      obtain ⟨c0, c1, c2, c3, c4⟩ := hx0.cells
      have f0 := f 0
      have f1 := f 1
      have f2 := f 2
      have f3 := f 3
      have f4 := f 4
      clear f
      have nlt : ¬ ((s.length : Int) < (s.length : Int)) := by omega
      have hp := hx0.putH5 0 0 0 0 [] (.slice none 0 0)
      go_wp2
      refine bodyPost_ret (v := .tuple #[hkV ⟨0, 0, 0, 0, []⟩ (.slice none 0 0), .bool false]) (cm_ret _ _ _ _ _ hp rfl rfl) rfl ⟨CmdP.off (fun j hj => HK.out j hj hj), cm_low hB0 _ _ _ _ _⟩
end Go.Proofs.YtgiojkhmkeocfaaDoor

/- The code's change of layer 12, walked: a line that says a change. -/
namespace Go.Proofs.YtgiojkhmkeocfaaDoor
open Go.RowKit
attribute [local go_sem] ByteArray.extract_mk no_at

theorem low_drw {W u : World} (h : Low W u) : Low W u.drew := Below.drew h
theorem exec_slTo {u : World} {s x : List UInt8} {k : Nat} (hk : k ≤ s.length) (hx : s.take k = x) {op : Oper} (p q : Operand) (ho : op.op = .slice 9 p none (some q) none) {ev : Operand → Value} (h1 : ev p = .string ⟨s.toArray⟩) (h2 : ev q = .int .i64 (k : Int)) :
    (execOp ev op).run Tryd.prog u = .ok (.value (.string ⟨x.toArray⟩)) u := by
  have i1 : (0 : Int) ≤ (k : Int) := by omega
  have i2 : (k : Int) ≤ (s.length : Int) := by omega
  subst hx
  simp only [execOp, ho, h1, h2, Option.map]
  go_simp
theorem exec_slFrom {u : World} {s y : List UInt8} {k : Nat} (hk : k < s.length) (hy : s.drop (k + 1) = y) {op : Oper} (p q : Operand) (ho : op.op = .slice 9 p (some q) none none) {ev : Operand → Value} (h1 : ev p = .string ⟨s.toArray⟩) (h2 : ev q = .int .i64 ((k : Int) + 1)) :
    (execOp ev op).run Tryd.prog u = .ok (.value (.string ⟨y.toArray⟩)) u := by
  have i1 : (0 : Int) ≤ (k : Int) + 1 := by omega
  have i2 : (k : Int) + 1 ≤ (s.length : Int) := by omega
  have i3 : ((k : Int) + 1).toNat = k + 1 := by omega
  subst hy
  have k5 : (s.drop (k + 1)).take (s.length - (k + 1)) = s.drop (k + 1) := List.take_of_length_le (by simp)
  simp only [execOp, ho, h1, h2, Option.map]
  go_simp
theorem exec_ixS {u : World} {s : List UInt8} {k : Nat} {c : UInt8} (hk : k < s.length) (hc : s[k] = c) {op : Oper} (p q : Operand) (ho : op.op = .index 9 p q) {ev : Operand → Value} (h1 : ev p = .string ⟨s.toArray⟩) (h2 : ev q = .int .i64 (k : Int)) :
    (execOp ev op).run Tryd.prog u = .ok (.value (.int .u8 (c.toNat : Int))) u := by
  have i1 : (0 : Int) ≤ (k : Int) := by omega
  have i2 : (k : Int) < (s.length : Int) := by omega
  subst hc
  simp only [execOp, ho, h1, h2]
  go_simp
theorem u8_eq (c d : UInt8) : ((c.toNat : Int) == (d.toNat : Int)) = (c == d) := by
  rw [Bool.eq_iff_iff, beq_iff_eq, beq_iff_eq, ← UInt8.toNat_inj]
  omega
theorem exec_eq8 {u : World} {a b : Int} {r : Bool} {op : Oper} (p q : Operand) (ho : op.op = .binOp .eql 5 p q 5) {ev : Operand → Value} (h1 : ev p = .int .u8 a) (h2 : ev q = .int .u8 b) (hr : (a == b) = r) :
    (execOp ev op).run Tryd.prog u = .ok (.value (.bool r)) u := by
  simp only [execOp, ho, h1, h2]
  go_simp
theorem exec_addI {u : World} {p q : Int} (h : IntKind.i64.wrap (p + q) = p + q) {op : Oper} (x y : Operand) (ho : op.op = .binOp .add 3 x y 3) {ev : Operand → Value} (hx : ev x = .int .i64 p) (hy : ev y = .int .i64 q) :
    (execOp ev op).run Tryd.prog u = .ok (.value (.int .i64 (p + q))) u := by
  simp only [execOp, ho, hx, hy]
  go_simp
theorem num_held {W u : World} {s : List UInt8} {no : Bool} (hL : Low W u) (hl : s.length ≤ 1099511627776) : Calls Tryd.prog 149 (#[.string ⟨s.toArray⟩, .bool no] ++ #[]) u fun e w' => ∃ v, e = .returned v ∧ Low W w' ∧ ∃ A AN b1, v = .tuple #[.int .i64 A, .int .i64 AN, .bool b1] ∧ nmP no s = (if b1 = true then some (A, AN) else none) := by
  refine (nnumbers_f s no u hl).mono ?_
  rintro e w' ⟨x, n, r, rfl, h1, h2⟩
  exact ⟨_, rfl, Below.trans hL (h2.mono (Below.size hL)), x, n, r, rfl, h1⟩
theorem nm_ret (tmps : Array Value) (u : World) (B : Nat) (g : Hk) (v : Value) (h : Hx u B g v) {b : Value} (h2 : tmps.getD 2 undef = .pointer (some ⟨B, 0, none⟩)) (h3 : tmps.getD 3 undef = b) :
    (results Tryd.f114 tmps).run Tryd.prog u = .ok (.tuple #[hkV g v, b]) u := by
  rw [_root_.Go.results_cell_tmp rfl, h2, h3]
  have hL : (loadVar 43 ⟨B, 0, none⟩).run Tryd.prog u = .ok (hkV g v) u := run_loadVar_row u B _ _ _ _ _ h Tryd.underlying43 rfl (by kernel_rfl)
  simp [asAddr, hL, Result.andThen]
set_option maxHeartbeats 4000000 in
theorem nchange_f (s : List UInt8) (hs : s.length < 4294967281) (w : World) :
    Calls Tryd.prog 114 #[.string ⟨s.toArray⟩] w fun x w' => CmdP s x ∧ Below w.heap.size w w' := by
  have hx0 := Hx.new w ⟨0, 0, 0, 0, []⟩ (.slice none 0 0)
  have hB0 : Below w.heap.size w (w.alloc (hkO ⟨0, 0, 0, 0, []⟩ (.slice none 0 0))) := (Below.refl _ w).alloc (Nat.le_refl _) _
  unfold hkO at hx0 hB0
  dsimp only at hx0 hB0
  have hIx := fun u => IndexAny_any s hs u
  rcases wend_sp s with ⟨h1, h2⟩ | ⟨k, hlt, h1, h2, h3⟩
  · have HC : Hid (∀ A AN B BN, CmdP s (.returned (.tuple #[hkV ⟨A, AN, B, BN, []⟩ (.slice none 0 0), .bool false]))) := (by
      intro A AN B BN
      unfold CmdP cmdP
      rw [h1]
      exact ⟨_, _, _, _, rfl⟩)
    rw [h2] at hIx
    clear h1 h2
    go_enter Tryd.func114, Tryd.ntmps114
    go_wp2_with fail
    generalize w.alloc (.cells #[.int .i64 0, .int .i64 0, .int .i64 0, .int .i64 0, .slice none 0 0] 43) = W at hx0 hB0 ⊢
    refine (hIx _).mono ?_
    rintro e w1 ⟨rfl, hb1⟩
    have hx1 := hx0.low hb1
    have hB1 := hB0.trans (hb1.mono hB0.size)
    obtain ⟨c0, c1, c2, c3, c4⟩ := hx1.cells
    have f0 := hx1.frozen 0
    have f1 := hx1.frozen 1
    have f2 := hx1.frozen 2
    have f3 := hx1.frozen 3
    have f4 := hx1.frozen 4
    have hP := hx1.putH5 0 0 0 0 [] (.slice none 0 0)
    have hBP := cm_low hB1 (.int .i64 0) (.int .i64 0) (.int .i64 0) (.int .i64 0) (.slice none 0 0)
    go_wp2
    refine bodyPost_ret (nm_ret _ _ _ _ _ hP rfl rfl) rfl ⟨HC.out _ _ _ _, hBP⟩
  · obtain ⟨c, hcd⟩ : ∃ c, s[k] = c := ⟨_, rfl⟩
    obtain ⟨x, hx⟩ : ∃ x, s.take k = x := ⟨_, rfl⟩
    obtain ⟨y, hy⟩ : ∃ y, s.drop (k + 1) = y := ⟨_, rfl⟩
    have hxl : x.length ≤ 1099511627776 := (by rw [← hx, List.length_take]; omega)
    have hyl : y.length ≤ 1099511627776 := (by rw [← hy, List.length_drop]; omega)
    have hkl : k ≤ s.length := by omega
    have HC : Hid (∀ A AN B BN b1 b2, nmP (c == 97) x = (if b1 = true then some (A, AN) else none) → nmP (c == 100) y = (if b2 = true then some (B, BN) else none) → CmdP s (.returned (.tuple #[hkV ⟨A, AN, B, BN, []⟩ (.slice none 0 0), .bool (b1 && b2)]))) := (by
      intro A AN B BN b1 b2 hA hB
      unfold CmdP cmdP
      rw [h2, hcd, hx, hy]
      dsimp only
      have e1 : (if c = 97 then oneP x else lnsP x) = nmP (c == 97) x := (by
        unfold nmP
        by_cases h : c = 97 <;> simp [h])
      have e2 : (if c = 100 then oneP y else lnsP y) = nmP (c == 100) y := (by
        unfold nmP
        by_cases h : c = 100 <;> simp [h])
      rw [e1, e2, hA, hB]
      cases b1 <;> cases b2
      · exact ⟨_, _, _, _, rfl⟩
      · exact ⟨_, _, _, _, rfl⟩
      · exact ⟨_, _, _, _, rfl⟩
      · rfl)
    rw [h1] at hIx
    clear h1 h2 h3
    go_enter Tryd.func114, Tryd.ntmps114
    go_wp2_with fail
    generalize w.alloc (.cells #[.int .i64 0, .int .i64 0, .int .i64 0, .int .i64 0, .slice none 0 0] 43) = W0 at hx0 hB0 ⊢
    refine (hIx _).mono ?_
    rintro e W ⟨rfl, hb1⟩
    have hx1 := hx0.low hb1
    have hB1 := hB0.trans (hb1.mono hB0.size)
    clear hx0 hB0 hb1
    have hlow : Low W W.drew := Below.drew (Below.refl _ _)
    have i0 : ¬ ((k : Int) < 0) := by omega
    go_upto_region 4 with fail
    refine wp_region_noPanic ?_
    refine wp_region_held_drew (S := fun u => Low W u) (by kernel_rfl) hlow (fun hHeld => ?_)
    generalize W.drew = wd at hHeld ⊢
    refine go_take 0 17 _ (.string ⟨s.toArray⟩) rfl (by kernel_rfl) (by kernel_rfl) (by kernel_rfl) (by kernel_rfl) (fun _ _ _ h => h) (Or.inl ⟨by kernel_rfl, fun u hu => by kernel_rfl⟩) hHeld ?_
    simp only [Act.put, List.setIfInBounds_toArray, List.set_cons_zero, List.set_cons_succ]
    refine go_take 1 18 _ (.int .i64 (k : Int)) rfl (by kernel_rfl) (by kernel_rfl) (by kernel_rfl) (by kernel_rfl) (fun _ _ _ h => h) (Or.inl ⟨by kernel_rfl, fun u hu => by kernel_rfl⟩) hHeld ?_
    simp only [Act.put, List.setIfInBounds_toArray, List.set_cons_zero, List.set_cons_succ]
    refine go_take 2 19 _ (.string ⟨x.toArray⟩) rfl (by kernel_rfl) (by kernel_rfl) (by kernel_rfl) (by kernel_rfl) (fun _ _ _ h => h) (Or.inl ⟨by kernel_rfl, fun u hu => exec_slTo hkl hx (.tmp 17) (.tmp 18) (by kernel_rfl) (by kernel_rfl) (by kernel_rfl)⟩) hHeld ?_
    simp only [Act.put, List.setIfInBounds_toArray, List.set_cons_zero, List.set_cons_succ]
    refine go_take 3 20 _ (.string ⟨s.toArray⟩) rfl (by kernel_rfl) (by kernel_rfl) (by kernel_rfl) (by kernel_rfl) (fun _ _ _ h => h) (Or.inl ⟨by kernel_rfl, fun u hu => by kernel_rfl⟩) hHeld ?_
    simp only [Act.put, List.setIfInBounds_toArray, List.set_cons_zero, List.set_cons_succ]
    refine go_take 4 21 _ (.int .i64 (k : Int)) rfl (by kernel_rfl) (by kernel_rfl) (by kernel_rfl) (by kernel_rfl) (fun _ _ _ h => h) (Or.inl ⟨by kernel_rfl, fun u hu => by kernel_rfl⟩) hHeld ?_
    simp only [Act.put, List.setIfInBounds_toArray, List.set_cons_zero, List.set_cons_succ]
    refine go_take 5 22 _ (.int .u8 (c.toNat : Int)) rfl (by kernel_rfl) (by kernel_rfl) (by kernel_rfl) (by kernel_rfl) (fun _ _ _ h => h) (Or.inl ⟨by kernel_rfl, fun u hu => exec_ixS hlt hcd (.tmp 20) (.tmp 21) (by kernel_rfl) (by kernel_rfl) (by kernel_rfl)⟩) hHeld ?_
    simp only [Act.put, List.setIfInBounds_toArray, List.set_cons_zero, List.set_cons_succ]
    refine go_take 6 23 _ (.bool (c == 97)) rfl (by kernel_rfl) (by kernel_rfl) (by kernel_rfl) (by kernel_rfl) (fun _ _ _ h => h) (Or.inl ⟨by kernel_rfl, fun u hu => exec_eq8 (.tmp 22) (.const (.int .u8 97)) (by kernel_rfl) (by kernel_rfl) (by kernel_rfl) (u8_eq c 97)⟩) hHeld ?_
    simp only [Act.put, List.setIfInBounds_toArray, List.set_cons_zero, List.set_cons_succ]
    refine go_callE 7 24 _ rfl (by kernel_rfl) (by kernel_rfl) (by kernel_rfl) 149 (.func 149) #[.tmp 19, .tmp 23] #[9, 4] (by kernel_rfl) #[] (by kernel_rfl) #[.string ⟨x.toArray⟩, .bool (c == 97)] (by kernel_rfl) (enters_of Tryd.func149 (by kernel_rfl) rfl) (fun v u => ∃ A AN b1, v = .tuple #[.int .i64 A, .int .i64 AN, .bool b1] ∧ nmP (c == 97) x = (if b1 = true then some (A, AN) else none)) ?_ ?_
    · exact num_held hHeld hxl
    rintro _ u1 hH1 ⟨A, AN, b1, rfl, hA⟩
    simp only [Act.put, List.setIfInBounds_toArray, List.set_cons_zero, List.set_cons_succ]
    refine go_take 8 16 _ (.tuple #[.int .i64 A, .int .i64 AN, .bool b1]) rfl (by kernel_rfl) (by kernel_rfl) (by kernel_rfl) (by kernel_rfl) (fun _ _ _ h => h) (Or.inl ⟨by kernel_rfl, fun u hu => by kernel_rfl⟩) hH1 ?_
    simp only [Act.put, List.setIfInBounds_toArray, List.set_cons_zero, List.set_cons_succ]
    refine go_take 9 25 _ (.int .i64 A) rfl (by kernel_rfl) (by kernel_rfl) (by kernel_rfl) (by kernel_rfl) (fun _ _ _ h => h) (Or.inl ⟨by kernel_rfl, fun u hu => by kernel_rfl⟩) hH1 ?_
    simp only [Act.put, List.setIfInBounds_toArray, List.set_cons_zero, List.set_cons_succ]
    refine go_take 10 26 _ (.int .i64 AN) rfl (by kernel_rfl) (by kernel_rfl) (by kernel_rfl) (by kernel_rfl) (fun _ _ _ h => h) (Or.inl ⟨by kernel_rfl, fun u hu => by kernel_rfl⟩) hH1 ?_
    simp only [Act.put, List.setIfInBounds_toArray, List.set_cons_zero, List.set_cons_succ]
    refine go_take 11 27 _ (.bool b1) rfl (by kernel_rfl) (by kernel_rfl) (by kernel_rfl) (by kernel_rfl) (fun _ _ _ h => h) (Or.inl ⟨by kernel_rfl, fun u hu => by kernel_rfl⟩) hH1 ?_
    simp only [Act.put, List.setIfInBounds_toArray, List.set_cons_zero, List.set_cons_succ]
    refine go_take 12 5 _ (.int .i64 A) rfl (by kernel_rfl) (by kernel_rfl) (by kernel_rfl) (by kernel_rfl) (fun _ _ _ h => h) (Or.inl ⟨by kernel_rfl, fun u hu => by kernel_rfl⟩) hH1 ?_
    simp only [Act.put, List.setIfInBounds_toArray, List.set_cons_zero, List.set_cons_succ]
    refine go_take 13 6 _ (.int .i64 AN) rfl (by kernel_rfl) (by kernel_rfl) (by kernel_rfl) (by kernel_rfl) (fun _ _ _ h => h) (Or.inl ⟨by kernel_rfl, fun u hu => by kernel_rfl⟩) hH1 ?_
    simp only [Act.put, List.setIfInBounds_toArray, List.set_cons_zero, List.set_cons_succ]
    refine go_take 14 7 _ (.bool b1) rfl (by kernel_rfl) (by kernel_rfl) (by kernel_rfl) (by kernel_rfl) (fun _ _ _ h => h) (Or.inl ⟨by kernel_rfl, fun u hu => by kernel_rfl⟩) hH1 ?_
    simp only [Act.put, List.setIfInBounds_toArray, List.set_cons_zero, List.set_cons_succ]
    refine wpAnyH_done (by kernel_rfl) ?_ _
    refine NoPanic.normal ?_
    go_upto_region 5 with fail
    refine wp_region_noPanic ?_
    refine wp_region_held_drew (S := fun u => Low W u) (by kernel_rfl) (low_drw hH1) (fun hHeld => ?_)
    generalize u1.drew = wd2 at hHeld ⊢
    refine go_take 0 29 _ (.string ⟨s.toArray⟩) rfl (by kernel_rfl) (by kernel_rfl) (by kernel_rfl) (by kernel_rfl) (fun _ _ _ h => h) (Or.inl ⟨by kernel_rfl, fun u hu => by kernel_rfl⟩) hHeld ?_
    simp only [Act.put, List.setIfInBounds_toArray, List.set_cons_zero, List.set_cons_succ]
    refine go_take 1 30 _ (.int .i64 (k : Int)) rfl (by kernel_rfl) (by kernel_rfl) (by kernel_rfl) (by kernel_rfl) (fun _ _ _ h => h) (Or.inl ⟨by kernel_rfl, fun u hu => by kernel_rfl⟩) hHeld ?_
    simp only [Act.put, List.setIfInBounds_toArray, List.set_cons_zero, List.set_cons_succ]
    refine go_take 2 31 _ (.int .i64 ((k : Int) + 1)) rfl (by kernel_rfl) (by kernel_rfl) (by kernel_rfl) (by kernel_rfl) (fun _ _ _ h => h) (Or.inl ⟨by kernel_rfl, fun u hu => exec_addI (p := (k : Int)) (q := 1) (wrap_s (by omega) (by omega)) (.tmp 30) (.const (.int .i64 1)) (by kernel_rfl) (by kernel_rfl) (by kernel_rfl)⟩) hHeld ?_
    simp only [Act.put, List.setIfInBounds_toArray, List.set_cons_zero, List.set_cons_succ]
    refine go_take 3 32 _ (.string ⟨y.toArray⟩) rfl (by kernel_rfl) (by kernel_rfl) (by kernel_rfl) (by kernel_rfl) (fun _ _ _ h => h) (Or.inl ⟨by kernel_rfl, fun u hu => exec_slFrom hlt hy (.tmp 29) (.tmp 31) (by kernel_rfl) (by kernel_rfl) (by kernel_rfl)⟩) hHeld ?_
    simp only [Act.put, List.setIfInBounds_toArray, List.set_cons_zero, List.set_cons_succ]
    refine go_take 4 33 _ (.string ⟨s.toArray⟩) rfl (by kernel_rfl) (by kernel_rfl) (by kernel_rfl) (by kernel_rfl) (fun _ _ _ h => h) (Or.inl ⟨by kernel_rfl, fun u hu => by kernel_rfl⟩) hHeld ?_
    simp only [Act.put, List.setIfInBounds_toArray, List.set_cons_zero, List.set_cons_succ]
    refine go_take 5 34 _ (.int .i64 (k : Int)) rfl (by kernel_rfl) (by kernel_rfl) (by kernel_rfl) (by kernel_rfl) (fun _ _ _ h => h) (Or.inl ⟨by kernel_rfl, fun u hu => by kernel_rfl⟩) hHeld ?_
    simp only [Act.put, List.setIfInBounds_toArray, List.set_cons_zero, List.set_cons_succ]
    refine go_take 6 35 _ (.int .u8 (c.toNat : Int)) rfl (by kernel_rfl) (by kernel_rfl) (by kernel_rfl) (by kernel_rfl) (fun _ _ _ h => h) (Or.inl ⟨by kernel_rfl, fun u hu => exec_ixS hlt hcd (.tmp 33) (.tmp 34) (by kernel_rfl) (by kernel_rfl) (by kernel_rfl)⟩) hHeld ?_
    simp only [Act.put, List.setIfInBounds_toArray, List.set_cons_zero, List.set_cons_succ]
    refine go_take 7 36 _ (.bool (c == 100)) rfl (by kernel_rfl) (by kernel_rfl) (by kernel_rfl) (by kernel_rfl) (fun _ _ _ h => h) (Or.inl ⟨by kernel_rfl, fun u hu => exec_eq8 (.tmp 35) (.const (.int .u8 100)) (by kernel_rfl) (by kernel_rfl) (by kernel_rfl) (u8_eq c 100)⟩) hHeld ?_
    simp only [Act.put, List.setIfInBounds_toArray, List.set_cons_zero, List.set_cons_succ]
    refine go_callE 8 37 _ rfl (by kernel_rfl) (by kernel_rfl) (by kernel_rfl) 149 (.func 149) #[.tmp 32, .tmp 36] #[9, 4] (by kernel_rfl) #[] (by kernel_rfl) #[.string ⟨y.toArray⟩, .bool (c == 100)] (by kernel_rfl) (enters_of Tryd.func149 (by kernel_rfl) rfl) (fun v u => ∃ A AN b1, v = .tuple #[.int .i64 A, .int .i64 AN, .bool b1] ∧ nmP (c == 100) y = (if b1 = true then some (A, AN) else none)) ?_ ?_
    · exact num_held hHeld hyl
    rintro _ u2 hH2 ⟨B, BN, b2, rfl, hB⟩
    simp only [Act.put, List.setIfInBounds_toArray, List.set_cons_zero, List.set_cons_succ]
    refine go_take 9 28 _ (.tuple #[.int .i64 B, .int .i64 BN, .bool b2]) rfl (by kernel_rfl) (by kernel_rfl) (by kernel_rfl) (by kernel_rfl) (fun _ _ _ h => h) (Or.inl ⟨by kernel_rfl, fun u hu => by kernel_rfl⟩) hH2 ?_
    simp only [Act.put, List.setIfInBounds_toArray, List.set_cons_zero, List.set_cons_succ]
    refine go_take 10 38 _ (.int .i64 B) rfl (by kernel_rfl) (by kernel_rfl) (by kernel_rfl) (by kernel_rfl) (fun _ _ _ h => h) (Or.inl ⟨by kernel_rfl, fun u hu => by kernel_rfl⟩) hH2 ?_
    simp only [Act.put, List.setIfInBounds_toArray, List.set_cons_zero, List.set_cons_succ]
    refine go_take 11 39 _ (.int .i64 BN) rfl (by kernel_rfl) (by kernel_rfl) (by kernel_rfl) (by kernel_rfl) (fun _ _ _ h => h) (Or.inl ⟨by kernel_rfl, fun u hu => by kernel_rfl⟩) hH2 ?_
    simp only [Act.put, List.setIfInBounds_toArray, List.set_cons_zero, List.set_cons_succ]
    refine go_take 12 40 _ (.bool b2) rfl (by kernel_rfl) (by kernel_rfl) (by kernel_rfl) (by kernel_rfl) (fun _ _ _ h => h) (Or.inl ⟨by kernel_rfl, fun u hu => by kernel_rfl⟩) hH2 ?_
    simp only [Act.put, List.setIfInBounds_toArray, List.set_cons_zero, List.set_cons_succ]
    refine go_take 13 8 _ (.int .i64 B) rfl (by kernel_rfl) (by kernel_rfl) (by kernel_rfl) (by kernel_rfl) (fun _ _ _ h => h) (Or.inl ⟨by kernel_rfl, fun u hu => by kernel_rfl⟩) hH2 ?_
    simp only [Act.put, List.setIfInBounds_toArray, List.set_cons_zero, List.set_cons_succ]
    refine go_take 14 9 _ (.int .i64 BN) rfl (by kernel_rfl) (by kernel_rfl) (by kernel_rfl) (by kernel_rfl) (fun _ _ _ h => h) (Or.inl ⟨by kernel_rfl, fun u hu => by kernel_rfl⟩) hH2 ?_
    simp only [Act.put, List.setIfInBounds_toArray, List.set_cons_zero, List.set_cons_succ]
    refine go_take 15 10 _ (.bool b2) rfl (by kernel_rfl) (by kernel_rfl) (by kernel_rfl) (by kernel_rfl) (fun _ _ _ h => h) (Or.inl ⟨by kernel_rfl, fun u hu => by kernel_rfl⟩) hH2 ?_
    simp only [Act.put, List.setIfInBounds_toArray, List.set_cons_zero, List.set_cons_succ]
    refine wpAnyH_done (by kernel_rfl) ?_ _
    refine NoPanic.normal ?_
    have hx2 := hx1.low hH2
    have hB2 := hB1.trans (Below.mono hH2 hB1.size)
    obtain ⟨c0, c1, c2, c3, c4⟩ := hx2.cells
    have f0 := hx2.frozen 0
    have f1 := hx2.frozen 1
    have f2 := hx2.frozen 2
    have f3 := hx2.frozen 3
    have f4 := hx2.frozen 4
    have hP := hx2.putH5 A AN B BN [] (.slice none 0 0)
    have hBP := cm_low hB2 (.int .i64 A) (.int .i64 AN) (.int .i64 B) (.int .i64 BN) (.slice none 0 0)
    have HD := HC.out A AN B BN b1 b2 hA hB
    clear HC hA hB hx hy hcd
    cases b1 with
    | true =>
      go_wp2
      refine bodyPost_ret (nm_ret _ _ _ _ _ hP rfl rfl) rfl ⟨?_, hBP⟩
      simpa using HD
    | false =>
      go_wp2
      refine bodyPost_ret (nm_ret _ _ _ _ _ hP rfl rfl) rfl ⟨?_, hBP⟩
      simpa using HD
end Go.Proofs.YtgiojkhmkeocfaaDoor
