/-
  strings.IndexAny at the cutset of a blank and a tab, for every text: the first place of either, or -1.
-/
import Derived.Test.YtoelblofdgimfaaDoorLeaf
import Derived.Test.YtoelblofdgimfaaDoorShelf
import Derived.Test.YtoelblofdgimfaaDoorShelfW
import Derived.Test.YtoelblofdgimfaaDoorDecMath
import Derived.Deep.QuietTactic
import Derived.BigQuiet
namespace Go.Proofs.YtoelblofdgimfaaDoor
open Go.RowKit
attribute [local go_sem] ba_at ByteArray.extract_mk

theorem enc_form (r : Int) (hv : Utf8.valid r = true) (h128 : 128 ≤ r) : (∃ a b : UInt8, 128 ≤ b.toNat ∧ Utf8.encode r = ⟨([a, b] : List UInt8).toArray⟩) ∨ (∃ a b c : UInt8, Utf8.encode r = ⟨([a, b, c] : List UInt8).toArray⟩) ∨ (∃ a b c d : UInt8, Utf8.encode r = ⟨([a, b, c, d] : List UInt8).toArray⟩) := by
  have hc : ¬ r.toNat < 128 := by omega
  unfold Utf8.encode
  simp only [hv, if_true, hc, if_false]
  split
  · refine .inl ⟨_, _, ?_, rfl⟩
    simp; omega
  · split
    · exact .inr (.inl ⟨_, _, _, rfl⟩)
    · exact .inr (.inr ⟨_, _, _, _, rfl⟩)

theorem valid_of (r : Int) (h : Lib.validRune r = true) : Utf8.valid r = true := by
  simp [Lib.validRune, Utf8.valid] at h ⊢
  omega

theorem idx_nil (x : Int) (u : World) : Calls Tryd.prog 38 #[.string ⟨#[]⟩, .int .u8 x] u fun e w' => e = .returned (.int .i64 (-1)) ∧ w' = u := Tryd.strings_IndexByte ⟨#[]⟩ x u

set_option maxHeartbeats 2000000 in
set_option maxRecDepth 100000 in
theorem IndexRune_high (r : Int) (h0 : 128 ≤ r) (h1 : r ≤ 2147483647) (w : World) :
    Calls Tryd.prog 43 #[.string ⟨([32, 9] : List UInt8).toArray⟩, .int .i32 r] w fun e w' => e = .returned (.int .i64 (-1)) ∧ Below w.heap.size w w' := by
  by_cases h2 : r = 65533
  · subst h2
    have hn0 : ∀ ty, (Instr.next (.pointer (some ⟨w.heap.size, 0, none⟩)) true ty).run Tryd.prog (w.iter ⟨([32, 9] : List UInt8).toArray⟩ 0) = .ok (.tuple #[.bool true, .int .i64 0, .int .i32 32]) (w.iter ⟨([32, 9] : List UInt8).toArray⟩ 1) := fun ty => run_next_ascii w ⟨([32, 9] : List UInt8).toArray⟩ 0 ty (by decide) (by decide)
    have hn1 : ∀ ty, (Instr.next (.pointer (some ⟨w.heap.size, 0, none⟩)) true ty).run Tryd.prog (w.iter ⟨([32, 9] : List UInt8).toArray⟩ 1) = .ok (.tuple #[.bool true, .int .i64 1, .int .i32 9]) (w.iter ⟨([32, 9] : List UInt8).toArray⟩ 2) := fun ty => run_next_ascii w ⟨([32, 9] : List UInt8).toArray⟩ 1 ty (by decide) (by decide)
    have hn2 : ∀ ty, (Instr.next (.pointer (some ⟨w.heap.size, 0, none⟩)) true ty).run Tryd.prog (w.iter ⟨([32, 9] : List UInt8).toArray⟩ 2) = .ok (.tuple #[.bool false]) (w.iter ⟨([32, 9] : List UInt8).toArray⟩ 2) := fun ty => run_next_end w ⟨([32, 9] : List UInt8).toArray⟩ 2 ty (by decide)
    go_enter Tryd.func43, Tryd.ntmps43
    go_wp2
    refine wp_loop_rounds 3 ?_
    rw [rounds_succ]
    go_wp2
    rw [rounds_succ]
    go_wp2
    rw [rounds_succ]
    go_wp2
    go_ret
    exact ⟨rfl, (Below.refl _ w).alloc (Nat.le_refl _) _⟩
  · have hb : (r == 65533) = false := by simp [h2]
    go_enter Tryd.func43, Tryd.ntmps43
    go_wp2_with fail
    refine (Tryd.utf8_ValidRune r _).mono ?_
    rintro e w' ⟨rfl, rfl⟩
    cases hv : Lib.validRune r
    · go_wp2
      go_ret
      exact ⟨rfl, Below.refl _ _⟩
    · rcases enc_form r (valid_of r hv) h0 with ⟨a, b, hb128, he⟩ | ⟨a, b, c, he⟩ | ⟨a, b, c, d, he⟩
      · have hbl := b.toNat_lt
        have hw2 : IntKind.i64.wrap 2 = 2 := by decide
        have hsl : ∀ u : World, (Instr.slice 9 (.string ⟨([32, 9] : List UInt8).toArray⟩) (some (.int .i64 2)) none none).run Tryd.prog u = .ok (.string ⟨([] : List UInt8).toArray⟩) u := fun u => by kernel_rfl
        have hne : ((9 : Int) != (b.toNat : Int)) = true := by simp; omega
        go_wp2_with fail
        go_step3
        go_wp2_with fail
        refine wp_loop_rounds 1 ?_
        rw [rounds_succ]
        go_wp2_with fail
        go_step3
        go_wp2_with fail
        go_quiet (fail)
        have hbq : Below w'.heap.size w' (w'.drewN nq) := below_drewN (Below.refl _ _) nq
        generalize w'.drewN nq = wq at *
        go_wp2_with fail
        go_quiet ((go_at_call 38; exact Calls.quiet_of_same (idx_nil _ _)))
        go_wp2
        rw [Exit.noGoto_ret]
        go_wp2
        rw [Exit.noGoto_ret]
        go_ret
        exact ⟨rfl, below_drewN hbq _⟩
      · go_wp2_with fail
        go_step3
        go_wp2_with fail
        refine wp_loop_rounds 1 ?_
        rw [rounds_succ]
        go_wp2
        rw [Exit.noGoto_ret]
        go_ret
        exact ⟨rfl, Below.refl _ _⟩
      · go_wp2_with fail
        go_step3
        go_wp2_with fail
        refine wp_loop_rounds 1 ?_
        rw [rounds_succ]
        go_wp2
        rw [Exit.noGoto_ret]
        go_ret
        exact ⟨rfl, Below.refl _ _⟩

theorem zero_set : ∀ w, (zeroValue 56).run Tryd.prog w = .ok (.agg (Array.replicate 256 (.bool false))) w :=
  (zero_of_info (P := Tryd.prog) (show (Tryd.prog.info? 56).map (fun i => (i.zero, i.size)) = some (some (.agg (Array.replicate 256 (.bool false))), 256) by kernel_rfl)).1

theorem idx_blank (x : UInt8) : Lib.indexByte [32, 9] x = if x.toNat = 32 then 0 else if x.toNat = 9 then 1 else -1 := by
  have key : ∀ i : Fin 256, Lib.indexByte [32, 9] (UInt8.ofNat i.val) = if i.val = 32 then 0 else if i.val = 9 then 1 else -1 := by decide +kernel
  have := key ⟨x.toNat, x.toNat_lt⟩
  simpa using this

/-- strings.IndexRune in a blank and a tab, of a byte below 128: 0 or more just for these two -/
def idxB (x : UInt8) : Int := Lib.indexByte [32, 9] x
theorem idxB_yes {x : UInt8} (h : blankB x = true) : 0 ≤ idxB x := by
  unfold idxB; rw [idx_blank]; have := blankB_out h; split <;> (try split) <;> omega
theorem idxB_no {x : UInt8} (h : blankB x = false) : idxB x < 0 := by
  unfold idxB; rw [idx_blank]; have := blankB_no h; split <;> (try split) <;> omega

theorem IndexRune_low (x : UInt8) (h : x.toNat < 128) (w : World) :
    Calls Tryd.prog 43 #[.string ⟨([32, 9] : List UInt8).toArray⟩, .int .i32 (x.toNat : Int)] w fun e w' => e = .returned (.int .i64 (idxB x)) ∧ w' = w := by
  have h1 := Tryd.strings_IndexRune_ascii ⟨([32, 9] : List UInt8).toArray⟩ (x.toNat : Int) w (by omega) (by omega)
  refine h1.mono ?_
  rintro e w' ⟨rfl, rfl⟩
  have e : ((x.toNat : Int).toNat).toUInt8 = x := by simp
  rw [e]
  exact ⟨rfl, rfl⟩

set_option maxHeartbeats 2000000 in
theorem shouldUse_short (n : Int) (h : n ≤ 8) (w : World) : Calls Tryd.prog 44 #[.int .i64 n] w fun e w' => e = .returned (.bool false) ∧ w = w' := by
  go_enter Tryd.func44, Tryd.ntmps44
  go_wp2
  go_ret
  exact ⟨by simp; omega, rfl⟩

set_option maxHeartbeats 4000000 in
set_option maxRecDepth 100000 in
theorem IndexAny_short (l : List UInt8) (h8 : l.length ≤ 8) (w : World) :
    Calls Tryd.prog 34 #[.string ⟨l.toArray⟩, .string ⟨([32, 9] : List UInt8).toArray⟩] w fun e w' => e = .returned (.int .i64 (wend l)) ∧ Below w.heap.size w w' := by
  go_enter Tryd.func34, Tryd.ntmps34
  go_wp2_with fail
  refine (shouldUse_short _ (by omega) _).mono ?_
  rintro e w' ⟨rfl, rfl⟩
  go_wp2
  go_loopw [] (fun wr => ∃ pos : Nat, pos ≤ l.length ∧ wr.heap[w.heap.size]? = some (.stringIter ⟨l.toArray⟩ pos) ∧ Below w.heap.size w wr ∧ (∀ k (hk : k < l.length), k < pos → blankB l[k] = false)) (fun wr => l.length - wr.iterPos w.heap.size)
  case atStart => exact ⟨0, Nat.zero_le _, World.iter_heap w _ 0, (Below.refl _ w).alloc (Nat.le_refl _) _, fun k _ h => by omega⟩
  case round =>
    obtain ⟨pos, hp, hit, hbr, hall⟩ := hrel
    have HA : Hid (∀ k (hk : k < l.length), k < pos → blankB l[k] = false) := hall
    clear hall
    have hwl : w.heap.size < wr.heap.size := (Array.getElem?_eq_some_iff.1 hit).1
    by_cases hlt : pos < l.length
    · by_cases ha : l[pos].toNat < 128
      · have hnx : ∀ ty, (Instr.next (.pointer (some ⟨w.heap.size, 0, none⟩)) true ty).run Tryd.prog wr = _ := fun ty => Lib.run_next_ascii_at wr w.heap.size ⟨l.toArray⟩ pos ty hit hlt ha
        have hit2 := Lib.iterAt_heap wr w.heap.size ⟨l.toArray⟩ pos (pos + 1) hit
        have hbr2 := Lib.below_iterAt hbr (k := w.heap.size) (Nat.le_refl _) ⟨l.toArray⟩ (pos + 1)
        go_wp2_with fail
        refine (IndexRune_low l[pos] ha _).mono ?_
        rintro e w4 ⟨rfl, rfl⟩
        cases hbl : blankB l[pos]
        · have hneg := idxB_no hbl
          go_wp2
          go_roundw
          case rel =>
            refine ⟨pos + 1, by omega, hit2, hbr2, fun k hk h => ?_⟩
            by_cases e : k = pos
            · subst e; exact hbl
            · exact HA.out k hk (by omega)
          case measure => simp only [World.iterPos, hit, hit2]; omega
        · have hpos := idxB_yes hbl
          have HE : Hid ((pos : Int) = wend l) := (wend_at l pos hlt HA.out hbl).symm
          go_wp2
          go_ret
          exact ⟨ret_int HE.out, hbr2⟩
      · have hdh := (decode_high ⟨l.toArray⟩ pos hlt (by show 128 ≤ l[pos].toNat; omega))
        have hdr := decode_rest ⟨l.toArray⟩ pos hlt (by show 128 ≤ l[pos].toNat; omega)
        have hnx : ∀ ty, (Instr.next (.pointer (some ⟨w.heap.size, 0, none⟩)) true ty).run Tryd.prog wr = _ := fun ty => Lib.run_next_any_at wr w.heap.size ⟨l.toArray⟩ pos ty hit hlt
        have hit2 := Lib.iterAt_heap wr w.heap.size ⟨l.toArray⟩ pos (pos + (Utf8.decode ⟨l.toArray⟩ pos).2) hit
        have hbr2 := Lib.below_iterAt hbr (k := w.heap.size) (Nat.le_refl _) ⟨l.toArray⟩ (pos + (Utf8.decode ⟨l.toArray⟩ pos).2)
        have hdl := decode_le ⟨l.toArray⟩ pos
        have HR : Hid (∀ k, k < (Utf8.decode ⟨l.toArray⟩ pos).2 → ∃ h' : pos + k < l.length, 128 ≤ l[pos + k].toNat) := fun k hk => hdr k hk
        clear hdr
        obtain ⟨hd1, hd2⟩ := hdh
        generalize Utf8.decode ⟨l.toArray⟩ pos = dd at *
        have hwz : w.heap.size < (wr.iterAt w.heap.size ⟨l.toArray⟩ (pos + dd.2)).heap.size := by rw [Lib.iterAt_size]; exact hwl
        go_wp2_with fail
        refine (IndexRune_high (dd.1 : Int) (by omega) (by omega) _).mono ?_
        rintro e w4 ⟨rfl, hb4⟩
        have hit4 := (hb4.block w.heap.size hwz).trans hit2
        have hbr4 := hbr2.trans (hb4.mono (Nat.le_of_lt hwz))
        go_wp2
        go_roundw
        case rel =>
          refine ⟨pos + dd.2, ?_, hit4, hbr4, fun k hk h => ?_⟩
          · obtain ⟨h', _⟩ := HR.out (dd.2 - 1) (by omega)
            omega
          · by_cases e : k < pos
            · exact HA.out k hk e
            · obtain ⟨h', hh⟩ := HR.out (k - pos) (by omega)
              have ee : pos + (k - pos) = k := by omega
              simp only [ee] at hh
              exact decide_eq_false (by omega)
        case measure => simp only [World.iterPos, hit, hit4]; omega
    · have hnx : ∀ ty, (Instr.next (.pointer (some ⟨w.heap.size, 0, none⟩)) true ty).run Tryd.prog wr = _ := fun ty => Lib.run_next_end_at wr w.heap.size ⟨l.toArray⟩ pos ty hit hlt
      have HE : Hid (-1 = wend l) := (wend_none l (fun k hk => HA.out k hk (by omega))).symm
      go_wp2
      go_ret
      exact ⟨ret_int HE.out, hbr⟩

theorem IndexAny_any (l : List UInt8) (hl : l.length < 4294967281) (w : World) :
    Calls Tryd.prog 34 #[.string ⟨l.toArray⟩, .string ⟨([32, 9] : List UInt8).toArray⟩] w fun e w' => e = .returned (.int .i64 (wend l)) ∧ Below w.heap.size w w' := by
  by_cases h8 : l.length ≤ 8
  · exact IndexAny_short l h8 w
  · have h := Tryd.strings_IndexAny_long zero_set ⟨l.toArray⟩ ⟨([32, 9] : List UInt8).toArray⟩ w (by decide) (by show 8 < l.length; omega) hl (by decide) (fun j b h => by match j, h with | 0, h => simp at h; subst h; decide | 1, h => simp at h; subst h; decide | j + 2, h => simp at h)
    refine h.mono ?_
    rintro e w' ⟨rfl, rfl⟩
    exact ⟨rfl, ((Below.refl _ w).alloc (Nat.le_refl _) _).alloc (by simp) _⟩
end Go.Proofs.YtoelblofdgimfaaDoor
