/-
  Texts that belong together, joined: NoPr, NoLen, NcW, PtL, NcL, NpE, NoM4, NpM, NpF, NpG, NpH, CxMath.
-/
import Derived.Test.YtgiojkhmkeocfaaDoorPartA9
import Derived.Test.YtgiojkhmkeocfaaDoorPartA4
import Derived.Test.YtgiojkhmkeocfaaDoorPartA8
import Derived.Test.YtgiojkhmkeocfaaDoorPartA5
import Derived.Lib.AppendIntMem
import Derived.Lib.FrozenHead2
import Derived.WalkLawsBesides

/- The reference's Print of the normal form, walked. -/
namespace Go.Proofs.YtgiojkhmkeocfaaDoor
open Go.RowKit

theorem prt_more {l : List Ch} {a b : List (List UInt8)} {k : Nat} (hk : k < l.length) : prtT (l.take (k + 1)) a b = prtT (l.take k) a b ++ (chgL a b l[k]).flatten := by
  unfold prtT prtL
  rw [List.take_succ_eq_append_getElem hk, List.flatMap_append, List.flatten_append, List.flatMap_singleton]
theorem prt_pre {l : List Ch} {a b : List (List UInt8)} (k : Nat) : (prtT (l.take k) a b).length ≤ (prtT l a b).length := by
  have e : prtT l a b = prtT (l.take k) a b ++ prtT (l.drop k) a b := by
    unfold prtT prtL
    rw [← List.flatten_append, ← List.flatMap_append, List.take_append_drop]
  rw [e, List.length_append]
  omega
set_option maxHeartbeats 4000000 in
theorem rPrint_f (l : List Ch) (vl va vb : Value) (a b : List (List UInt8)) (w : World) (hl : HCh w vl l) (ha : HS w va a) (hb : HS w vb b) (hll : l.length ≤ 1099511627776) (hla : a.length ≤ 1099511627776) (hlb : b.length ≤ 1099511627776) (hta : ∀ s ∈ a, s.length ≤ 1099511627776) (htb : ∀ s ∈ b, s.length ≤ 1099511627776)
    (r : Int) (HR : Hid (chk l a.length b.length = r)) (T : List UInt8) (HT : Hid ((if r = 0 then prtT l a b else []) = T)) (hT : T.length ≤ 1152921504606846976) :
    Calls Tryd.prog 9 #[vl, va, vb] w fun e w' => e = .returned (.tuple #[.string ⟨T.toArray⟩, .int .i64 r]) ∧ Below w.heap.size w w' := by
  obtain ⟨lo, lc, rfl⟩ := Holds.form hl
  obtain ⟨ao, ca, rfl⟩ := Holds.form ha
  obtain ⟨bo, cb, rfl⟩ := Holds.form hb
  go_enter Tryd.func9, Tryd.ntmps9
  go_wp2_with fail
  refine (rCheck_f l a.length b.length r (.slice lo l.length lc) _ hl (by omega) (by omega) (by omega) HR).mono ?_
  rintro e w1 ⟨rfl, hb1⟩
  by_cases hr : r = 0
  · subst hr
    have hTT := HT.out
    rw [if_pos rfl] at hTT
    have hs : Script l a.length b.length := (by
      by_cases h : Script l a.length b.length
      · exact h
      · have := chk_no h
        rw [HR.out] at this
        cases this)
    have HM := right_mem hs.2.2
    have HMH : Hid (∀ c ∈ l, numB c = true ∧ c.A + c.AN ≤ (a.length : Int) ∧ c.B + c.BN ≤ (b.length : Int)) := HM
    clear HM hs HT
    subst hTT
    go_wp2
    go_loopw [9, 10] (fun s i wr => ∃ k : Nat, k ≤ l.length ∧ s = .string ⟨(prtT (l.take k) a b).toArray⟩ ∧ i = .int .i64 (k : Int) ∧ Below w.heap.size w wr) (fun _ i _ => l.length - (intOf i).toNat)
    case atStart => exact ⟨0, Nat.zero_le _, rfl, rfl, hb1⟩
    case round =>
      obtain ⟨k, hk, rfl, rfl, hbr⟩ := hrel
      by_cases hlt : k < l.length
      · obtain ⟨bk, off, rfl, hbk, hc⟩ := HCh.at (HCh.keep hl hbr (Nat.le_refl _)) (by omega)
        obtain ⟨c0, c1, c2, c3⟩ := hc k hlt
        obtain ⟨c, hcd⟩ : ∃ c, l[k] = c := ⟨_, rfl⟩
        have hm := HMH.out l[k] (List.getElem_mem hlt)
        have HE : Hid (prtT (l.take (k + 1)) a b = prtT (l.take k) a b ++ (chgL a b l[k]).flatten) := prt_more hlt
        rw [hcd] at hm c0 c1 c2 c3 HE
        have hn := hm.1
        rw [numB_iff] at hn
        have l1 := @prt_pre l a b k
        have l2 := @prt_pre l a b (k + 1)
        have l3 : ((chgL a b c).flatten).length ≤ (prtT l a b).length := (by
          rw [HE.out, List.length_append] at l2
          omega)
        have i1 : 0 ≤ (k : Int) := by omega
        have i2 : (k : Int) < (l.length : Int) := by omega
        have haw : HS wr (.slice ao a.length ca) a := ha.keep hbr (Nat.le_refl _)
        have hbw : HS wr (.slice bo b.length cb) b := hb.keep hbr (Nat.le_refl _)
        obtain ⟨Z, hZ⟩ : ∃ Z, (chgL a b c).flatten = Z := ⟨_, rfl⟩
        have HZ : Hid ((chgL a b c).flatten = Z) := hZ
        rw [hZ] at l3 HE
        clear hc hcd hZ l2 HMH
        obtain ⟨P, hP⟩ : ∃ P, prtT (l.take k) a b = P := ⟨_, rfl⟩
        rw [hP] at l1 HE ⊢
        clear hP
        obtain ⟨n, hN⟩ : ∃ n, (prtT l a b).length = n := ⟨_, rfl⟩
        rw [hN] at l1 l3 hT
        go_wp2_with fail
        refine (rchange_f c (.slice ao a.length ca) (.slice bo b.length cb) a b _ haw hbw (by omega) hla hlb hta htb Z HZ (by omega)).mono ?_
        rintro e w2 ⟨rfl, hb2⟩
        go_wp2
        go_roundw
        case rel => exact ⟨k + 1, by omega, by rw [HE.out]; simp [ba_join], by go_num, hbr.trans (hb2.mono hbr.size)⟩
        case measure => simp [intOf]; omega
      · have ek : k = l.length := by omega
        subst ek
        go_wp2
        go_ret2
        exact ⟨by rw [List.take_length]; rfl, hbr⟩
  · have hrb : (r != 0) = true := bne_iff_ne.2 hr
    have hTT := HT.out
    rw [if_neg hr] at hTT
    subst hTT
    go_wp2
    go_ret2
    exact ⟨rfl, hb1⟩
/-- how long what is written is -/
theorem lnL_len (ah s : List UInt8) : (lnL ah s).flatten.length ≤ ah.length + s.length + 29 := by
  unfold lnL
  split <;> simp [markT] <;> omega
theorem lns_len (ah : List UInt8) (x : List (List UInt8)) : (x.flatMap (lnL ah)).flatten.length ≤ x.length * (ah.length + 29) + x.flatten.length := by
  induction x with
  | nil => simp
  | cons s x ih =>
    have h := lnL_len ah s
    simp only [List.flatMap_cons, List.flatten_append, List.length_append, List.length_cons, List.flatten_cons]
    have e : (x.length + 1) * (ah.length + 29) = x.length * (ah.length + 29) + (ah.length + 29) := Nat.succ_mul _ _
    omega
end Go.Proofs.YtgiojkhmkeocfaaDoor

/- How long the normal form of a script is; plain mathematics. -/
namespace Go.Proofs.YtgiojkhmkeocfaaDoor

theorem cmd_len {c : Ch} (h : numB c = true) : (cmdT c).length ≤ 100 := by
  rw [numB_iff] at h
  have r1 := rng_short c.A c.AN h.1.1 (by omega) h.2.1.1 (by omega)
  have r2 := rng_short c.B c.BN h.2.2.1.1 (by omega) h.2.2.2.1.1 (by omega)
  have r3 := itoa_short c.A (by omega) (by omega)
  have r4 := itoa_short c.B (by omega) (by omega)
  unfold cmdT
  split
  · simp only [List.length_append, List.length_cons]; omega
  · split
    · simp only [List.length_append, List.length_cons]; omega
    · simp only [List.length_append, List.length_cons]; omega
theorem flat_drop {a : List (List UInt8)} {p A AN : Int} (hp : 0 ≤ p) (hA : p ≤ A) (hN : 0 ≤ AN) : (cut a A AN).flatten.length + (a.drop (A + AN).toNat).flatten.length ≤ (a.drop p.toNat).flatten.length := by
  have e1 : a.drop p.toNat = (a.drop p.toNat).take (A - p).toNat ++ a.drop A.toNat := by
    have h := (List.take_append_drop (A - p).toNat (a.drop p.toNat)).symm
    rw [List.drop_drop] at h
    have e : p.toNat + (A - p).toNat = A.toNat := by omega
    rw [e] at h
    exact h
  have e2 : a.drop A.toNat = cut a A AN ++ a.drop (A + AN).toNat := by
    have h := (List.take_append_drop AN.toNat (a.drop A.toNat)).symm
    rw [List.drop_drop] at h
    have e : A.toNat + AN.toNat = (A + AN).toNat := by omega
    rw [e] at h
    exact h
  rw [e1, e2]
  simp only [List.flatten_append, List.length_append]
  omega
theorem cut_le (a : List (List UInt8)) (p n : Int) : (cut a p n).length ≤ n.toNat := by
  unfold cut
  rw [List.length_take]
  omega
theorem chg_len {a b : List (List UInt8)} {c : Ch} (h : numB c = true) : (chgL a b c).flatten.length ≤ 105 + 31 * (c.AN.toNat + c.BN.toNat) + (cut a c.A c.AN).flatten.length + (cut b c.B c.BN).flatten.length := by
  have h1 := cmd_len h
  have h2 := lns_len [60, 32] (cut a c.A c.AN)
  have h3 := lns_len [62, 32] (cut b c.B c.BN)
  have h4 := cut_le a c.A c.AN
  have h5 := cut_le b c.B c.BN
  have h6 : (sepL c).flatten.length ≤ 4 := by
    unfold sepL
    split <;> simp
  simp only [List.length_cons, List.length_nil] at h2 h3
  simp only [chgL, List.flatten_cons, List.flatten_append, List.length_append, List.length_cons, List.length_nil]
  omega
theorem prt_len_at {a b : List (List UInt8)} {n m : Int} (l : List Ch) : ∀ {f : Bool} {p q : Int}, 0 ≤ p → 0 ≤ q → Right f p q n m l → (prtT l a b).length ≤ 105 * l.length + 31 * ((n - p).toNat + (m - q).toNat) + (a.drop p.toNat).flatten.length + (b.drop q.toNat).flatten.length := by
  induction l with
  | nil =>
    intro f p q _ _ _
    simp [prtT, prtL]
  | cons c l ih =>
    intro f p q hp hq h
    obtain ⟨⟨h1, h2, h3, _⟩, h5⟩ := h
    have hn := (numB_iff c).1 h1
    have hle := h5.le
    have g := ih (by omega) (by omega) h5
    have g1 := @chg_len a b c h1
    have g2 := @flat_drop a p c.A c.AN hp h3 hn.2.1.1
    have g3 := @flat_drop b q c.B c.BN hq (by omega) hn.2.2.2.1.1
    have e : prtT (c :: l) a b = (chgL a b c).flatten ++ prtT l a b := by simp [prtT, prtL]
    rw [e, List.length_append, List.length_cons]
    omega
/-- what is written of a right script -/
theorem prt_len {a b : List (List UInt8)} {l : List Ch} (h : Script l a.length b.length) : (prtT l a b).length ≤ 105 * l.length + 31 * (a.length + b.length) + a.flatten.length + b.flatten.length := by
  have g := @prt_len_at a b a.length b.length l true 0 0 (by omega) (by omega) h.2.2
  simpa using g
end Go.Proofs.YtgiojkhmkeocfaaDoor

/- The code's small functions of layer 12's Print, walked: numbers, ranges, letters, lines that are written. -/
namespace Go.Proofs.YtgiojkhmkeocfaaDoor
open Go.RowKit

/-- the table of powers of ten, in every later world -/
def Tab10 (w : World) : Prop := ∀ u : World, Below w.heap.size w u → Lib.TabIs Tryd.prog u "internal/strconv.uint64pow10" .u64 Lib.pow10Tab
theorem Tab10.on {w u : World} (h : Tab10 w) (hb : Below w.heap.size w u) : Tab10 u := fun v hv => h v (hb.trans (hv.mono hb.size))
set_option maxHeartbeats 1000000 in
theorem nText_f (n : Int) (h0 : -9223372036854775808 ≤ n) (h1 : n ≤ 9223372036854775807) (w : World) (HT : Hid (Tab10 w)) :
    Calls Tryd.prog 71 #[.int .i64 n] w fun e w' => e = .returned (.string ⟨(Lib.itoa n).toArray⟩) ∧ Below w.heap.size w w' := by
  go_enter Tryd.func71, Tryd.ntmps71
  go_wp2_with fail
  refine (Tryd.strconv_Itoa n h0 h1 _ (HT.out _ (Below.refl _ _))).mono ?_
  rintro e w1 ⟨rfl, k, os, rfl⟩
  go_wp2
  go_ret
  exact ⟨rfl, Lib.below_grow w.heap.size w (Nat.le_refl _) k os⟩
/-- a range as the code writes it -/
def rgx (A N : Int) : List UInt8 := if N ≤ 1 then Lib.itoa A else Lib.itoa A ++ 44 :: Lib.itoa (A + N - 1)
theorem rgx_len {A N : Int} (h0 : 0 ≤ A) (h1 : A ≤ 4611686018427387904) (h2 : 0 ≤ N) (h3 : N ≤ 4611686018427387900) : (rgx A N).length ≤ 43 := by
  have l1 := itoa_short A (by omega) (by omega)
  have l2 := itoa_short (A + N - 1) (by omega) (by omega)
  unfold rgx
  split
  · omega
  · simp only [List.length_append, List.length_cons]
    omega
set_option maxHeartbeats 1000000 in
theorem nrange_f (A N : Int) (h0 : 0 ≤ A) (h1 : A ≤ 4611686018427387904) (h2 : 0 ≤ N) (h3 : N ≤ 4611686018427387900) (w : World) (HT : Hid (Tab10 w)) (T : List UInt8) (HR : Hid (rgx A N = T)) :
    Calls Tryd.prog 29 #[.int .i64 A, .int .i64 N] w fun e w' => e = .returned (.string ⟨T.toArray⟩) ∧ Below w.heap.size w w' := by
  have l1 := itoa_short A (by omega) (by omega)
  have l2 := itoa_short (A + N - 1) (by omega) (by omega)
  by_cases hN : N ≤ 1
  · have HE1 : Hid (Lib.itoa A = T) := (by have h := HR.out; unfold rgx at h; rw [if_pos hN] at h; exact h)
    clear HR
    go_enter Tryd.func29, Tryd.ntmps29
    go_wp2_with fail
    refine (nText_f A (by omega) (by omega) _ HT).mono ?_
    rintro e w1 ⟨rfl, hb1⟩
    go_wp2
    go_ret
    exact ⟨by rw [← HE1.out]; rfl, hb1⟩
  · have HE : Hid (Lib.itoa A ++ 44 :: Lib.itoa (A + N - 1) = T) := (by have h := HR.out; unfold rgx at h; rw [if_neg hN] at h; exact h)
    clear HR
    have q1 := add_fits (x := Lib.itoa A) (y := [44]) (by unfold Fits; simp only [List.length_cons, List.length_nil]; omega) Tryd.prog
    have q2 := add_fits (x := Lib.itoa A ++ [44]) (y := Lib.itoa (A + N - 1)) (by unfold Fits; simp only [List.length_append, List.length_cons, List.length_nil]; omega) Tryd.prog
    go_enter Tryd.func29, Tryd.ntmps29
    go_wp2_with fail
    refine (nText_f A (by omega) (by omega) _ HT).mono ?_
    rintro e w1 ⟨rfl, hb1⟩
    have HT1 : Hid (Tab10 w1) := HT.out.on hb1
    go_wp2_with fail
    refine (nText_f (A + N - 1) (by omega) (by omega) _ HT1).mono ?_
    rintro e w2 ⟨rfl, hb2⟩
    go_wp2
    go_ret
    exact ⟨by rw [← HE.out]; rfl, hb1.trans (hb2.mono hb1.size)⟩
/-- what a hunk does, as the code writes it -/
def ltrT (AN BN : Int) : List UInt8 := if AN = 0 then [97] else if BN = 0 then [100] else [99]
theorem ltr_len (AN BN : Int) : (ltrT AN BN).length = 1 := by
  unfold ltrT
  split
  · rfl
  · split <;> rfl
set_option maxHeartbeats 1000000 in
theorem nletter_f (h : Hk) (v : Value) (w : World) (hv : HMk w v h.ls) (T : List UInt8) (HR : Hid (ltrT h.AN h.BN = T)) :
    Calls Tryd.prog 30 #[hkV h v] w fun e w' => e = .returned (.string ⟨T.toArray⟩) ∧ Below w.heap.size w w' := by
  have hBl : Below w.heap.size w (w.alloc (hkO h v)) := (Below.refl _ w).alloc (Nat.le_refl _) _
  obtain ⟨c0, c1, c2, c3, c4⟩ := (Hx.new w h v).cells
  unfold hkO at c0 c1 c2 c3 c4 hBl
  obtain ⟨lo, lc, rfl⟩ := HMk.form hv
  have e : hkV h (.slice lo h.ls.length lc) = .agg #[.int .i64 h.A, .int .i64 h.AN, .int .i64 h.B, .int .i64 h.BN, .slice lo h.ls.length lc] := rfl
  rw [e]
  clear e
  by_cases h1 : h.AN = 0
  · have e1 : (h.AN == 0) = true := by rw [h1]; rfl
    have hE : [97] = T := (by have q := HR.out; unfold ltrT at q; rw [if_pos h1] at q; exact q)
    subst hE
    clear HR h1
    go_enter Tryd.func30, Tryd.ntmps30
    go_wp2
    go_ret
    exact ⟨rfl, hBl⟩
  · have e1 : (h.AN == 0) = false := beq_eq_false_iff_ne.2 h1
    by_cases h2 : h.BN = 0
    · have e2 : (h.BN == 0) = true := by rw [h2]; rfl
      have hE : [100] = T := (by have q := HR.out; unfold ltrT at q; rw [if_neg h1, if_pos h2] at q; exact q)
      subst hE
      clear HR h1 h2
      go_enter Tryd.func30, Tryd.ntmps30
      go_wp2
      go_ret
      exact ⟨rfl, hBl⟩
    · have e2 : (h.BN == 0) = false := beq_eq_false_iff_ne.2 h2
      have hE : [99] = T := (by have q := HR.out; unfold ltrT at q; rw [if_neg h1, if_neg h2] at q; exact q)
      subst hE
      clear HR h1 h2
      go_enter Tryd.func30, Tryd.ntmps30
      go_wp2
      go_ret
      exact ⟨rfl, hBl⟩
set_option maxHeartbeats 1000000 in
theorem ndivided_f (h : Hk) (v : Value) (w : World) (hv : ∃ lo n lc, v = .slice lo n lc) (r : Bool) (HR : Hid ((decide (0 < h.AN) && decide (0 < h.BN)) = r)) :
    Calls Tryd.prog 33 #[hkV h v] w fun e w' => e = .returned (.bool r) ∧ Below w.heap.size w w' := by
  have hBl : Below w.heap.size w (w.alloc (hkO h v)) := (Below.refl _ w).alloc (Nat.le_refl _) _
  obtain ⟨c0, c1, c2, c3, c4⟩ := (Hx.new w h v).cells
  unfold hkO at c0 c1 c2 c3 c4 hBl
  obtain ⟨lo, n, lc, rfl⟩ := hv
  have e : hkV h (.slice lo n lc) = .agg #[.int .i64 h.A, .int .i64 h.AN, .int .i64 h.B, .int .i64 h.BN, .slice lo n lc] := rfl
  rw [e]
  clear e
  by_cases h1 : 0 < h.AN
  · have hE : decide (0 < h.BN) = r := (by rw [← HR.out]; simp [h1])
    subst hE
    clear HR
    go_enter Tryd.func33, Tryd.ntmps33
    go_wp2
    go_ret
    exact ⟨rfl, hBl⟩
  · have hE : false = r := (by rw [← HR.out]; simp [h1])
    subst hE
    clear HR
    go_enter Tryd.func33, Tryd.ntmps33
    go_wp2
    go_ret
    exact ⟨rfl, hBl⟩
end Go.Proofs.YtgiojkhmkeocfaaDoor

/- A line as it stands in a patch (package patchtext), walked. -/
namespace Go.Proofs.YtgiojkhmkeocfaaDoor
open Go.RowKit

theorem suf_feed (s : List UInt8) : Lib.hasSuffix s [10] = fdB s := by
  unfold Lib.hasSuffix fdB
  rw [Bool.eq_iff_iff, List.isSuffixOf_iff_suffix, beq_iff_eq]
  constructor
  · rintro ⟨t, rfl⟩
    simp
  · intro h
    obtain ⟨t, rfl⟩ := List.getLast?_eq_some_iff.1 h
    exact ⟨t, rfl⟩
/-- a line of a file as it stands behind its sign -/
def plT (s : List UInt8) : List UInt8 := if fdB s = true then s else s ++ 10 :: markT
theorem pl_lines (ah s : List UInt8) : (lnL ah s).flatten = ah ++ plT s := by
  unfold lnL plT
  split <;> simp
set_option maxHeartbeats 1000000 in
theorem pline_f (s : List UInt8) (w : World) (hs : s.length ≤ 1099511627776) (Z : List UInt8) (HZ : Hid (plT s = Z)) :
    Calls Tryd.prog 72 #[.string ⟨s.toArray⟩] w fun e w' => e = .returned (.string ⟨Z.toArray⟩) ∧ w' = w := by
  cases hf : fdB s with
  | true =>
    have HE : Hid (s = Z) := (by have h := HZ.out; unfold plT at h; rw [if_pos hf] at h; exact h)
    clear HZ
    go_enter Tryd.func72, Tryd.ntmps72
    go_wp2_with fail
    refine (Tryd.strings_HasSuffix ⟨s.toArray⟩ ⟨#[10]⟩ w (by show s.length ≤ _; omega)).mono ?_
    rintro e w2 ⟨rfl, rfl⟩
    have e1 : Lib.hasSuffix (⟨s.toArray⟩ : ByteArray).data.toList (⟨#[10]⟩ : ByteArray).data.toList = true := (suf_feed s).trans hf
    rw [e1]
    clear e1 hf
    go_wp2
    go_ret
    exact ⟨by rw [← HE.out]; rfl, rfl⟩
  | false =>
    have HE : Hid (s ++ 10 :: markT = Z) := (by have h := HZ.out; unfold plT at h; rw [if_neg (by rw [hf]; decide)] at h; exact h)
    have q1 := add_fits (x := s) (y := 10 :: markT) (by unfold Fits; simp only [markT, List.length_cons, List.length_nil]; omega) Tryd.prog
    rw [HE.out] at q1
    unfold markT at q1
    have q2 := add_fits (x := s) (y := [10]) (by unfold Fits; simp only [List.length_cons, List.length_nil]; omega) Tryd.prog
    have q3 := add_fits (x := s ++ [10]) (y := markT) (by unfold Fits; simp only [markT, List.length_append, List.length_cons, List.length_nil]; omega) Tryd.prog
    have q4 : s ++ [10] ++ markT = Z := (by rw [← HE.out]; simp)
    rw [q4] at q3
    unfold markT at q3
    clear HZ q4
    go_enter Tryd.func72, Tryd.ntmps72
    go_wp2_with fail
    refine (Tryd.strings_HasSuffix ⟨s.toArray⟩ ⟨#[10]⟩ w (by show s.length ≤ _; omega)).mono ?_
    rintro e w2 ⟨rfl, rfl⟩
    have e1 : Lib.hasSuffix (⟨s.toArray⟩ : ByteArray).data.toList (⟨#[10]⟩ : ByteArray).data.toList = false := (suf_feed s).trans hf
    rw [e1]
    clear e1 hf
    go_wp2
    go_ret
    exact ⟨rfl, rfl⟩
end Go.Proofs.YtgiojkhmkeocfaaDoor

/- The code's writeLines of layer 12, walked: lines behind a sign are written into a builder. -/
namespace Go.Proofs.YtgiojkhmkeocfaaDoor
open Go.RowKit

theorem bcells_len (l : List UInt8) : (Lib.byteCells l).length = l.length := by simp [Lib.byteCells]
/-- a builder stays as it is where all ahead stays -/
theorem isF_low {T e : TypeId} {B b : Nat} {bs : List Value} {w w' : World} (h : Lib.IsBuilderF T e B b bs w) (hb : Below w.heap.size w w') : Lib.IsBuilderF T e B b bs w' := by
  have key : ∀ p, Lib.BuilderAtF T e B b p bs w → Lib.BuilderAtF T e B b p bs w' := by
    rintro p ⟨h1, v, h2, h3, h4⟩
    refine ⟨h1, v, (hb.block b (Array.getElem?_eq_some_iff.1 h2).1).trans h2, ⟨h3.1, ?_⟩, h4⟩
    rcases h3.2 with q | ⟨g, cap, cur, fz, q1, q2, q3, q4⟩
    · exact .inl q
    · exact .inr ⟨g, cap, cur, fz, q1, q2, (hb.block g (Array.getElem?_eq_some_iff.1 q3).1).trans q3, q4⟩
  rcases h with h | h
  · exact .inl (key _ h)
  · exact .inr (key _ h)
theorem isF_fresh (w : World) : Lib.IsBuilderF 61 5 w.heap.size w.heap.size (Lib.byteCells []) (w.alloc (.cells #[.pointer none, .slice none 0 0] 61)) :=
  .inl ⟨Nat.le_refl _, .slice none 0 0, heap_alloc_new w _, ⟨rfl, .inl ⟨rfl, rfl⟩⟩, by simp [Value.ownBlock]⟩
/-- a row of texts of one's own stays where a builder is written -/
theorem owns_others {w u : World} {base b : Nat} {v : Value} {n : Nat} {xs : List Value} (h : w.ownsRow base 9 1 v n xs) (hk : Lib.OthersKept 5 (some b) w u) (hb : ∀ g, v.ownBlock = some g → g ≠ b) : u.ownsRow base 9 1 v n xs := by
  refine ⟨h.1, ?_⟩
  rcases h.2 with q | ⟨g, cap, cur, rfl, q2, q3, q4⟩
  · exact .inl q
  · refine .inr ⟨g, cap, cur, rfl, q2, hk g _ q3 (fun e => hb g rfl (Option.some.inj e)) (fun c fz e => ?_), q4⟩
    cases e
theorem hx_others {w u : World} {b B : Nat} {h : Hk} {v : Value} (q : Hx w B h v) (hk : Lib.OthersKept 5 (some b) w u) (hb : B ≠ b) : Hx u B h v :=
  hk B _ q (fun e => hb (Option.some.inj e)) (fun c fz e => by cases e)
set_option maxHeartbeats 2000000 in
theorem nlines_f (B b : Nat) (acc ah : List UInt8) (x : List (List UInt8)) (v : Value) (w : World) (hB : Lib.IsBuilderF 61 5 B b (Lib.byteCells acc) w) (hBw : B ≤ w.heap.size)
    (hv : ∃ vo vc, v = .slice vo x.length vc) (HV : Hid (∀ u, Lib.OthersKept 5 (some b) w u → HS u v x)) (hxl : x.length ≤ 1099511627776) (HTX : Hid (∀ s ∈ x, s.length ≤ 1099511627776)) (hal : ah.length ≤ 10) (Z : List UInt8) (HZ : Hid (acc ++ (x.flatMap (lnL ah)).flatten = Z)) (hZ : Z.length ≤ 70368744177664) :
    Calls Tryd.prog 31 #[.pointer (some ⟨b, 0, none⟩), .string ⟨ah.toArray⟩, v] w fun e w' => e = .returned (.tuple #[]) ∧ Lib.IsBuilderF 61 5 B b (Lib.byteCells Z) w' ∧ Below B w w' ∧ Lib.OthersKept 5 (some b) w w' := by
  obtain ⟨vo, vc, rfl⟩ := hv
  go_enter Tryd.func31, Tryd.ntmps31
  go_wp2
  go_loopw [10] (fun i wr => ∃ (k : Nat) (ac : List UInt8), k ≤ x.length ∧ i = .int .i64 (k : Int) ∧ Lib.IsBuilderF 61 5 B b (Lib.byteCells ac) wr ∧ Below B w wr ∧ Lib.OthersKept 5 (some b) w wr ∧ Hid (ac ++ ((x.drop k).flatMap (lnL ah)).flatten = Z)) (fun i _ => x.length - (intOf i).toNat)
  case atStart => exact ⟨0, acc, Nat.zero_le _, by go_num, hB, Below.refl _ _, Lib.OthersKept.refl _ _ _, HZ⟩
  case round =>
    obtain ⟨k, ac, hk, rfl, hBr, hbr, hor, HI⟩ := hrel
    have hbz : B ≤ wr.heap.size := Nat.le_trans hBw hbr.size
    have hacl : ac.length ≤ 70368744177664 := (by
      have h1 := congrArg List.length HI.out
      rw [List.length_append] at h1
      omega)
    by_cases hlt : k < x.length
    · obtain ⟨bk, off, rfl, hbk, hcl⟩ := HS.at (HV.out wr hor) (by omega)
      have c0 := hcl k hlt
      have hsl := HTX.out x[k] (List.getElem_mem _)
      have HE : Hid (ac ++ (lnL ah x[k]).flatten ++ ((x.drop (k + 1)).flatMap (lnL ah)).flatten = Z) := (by
        show _ = _
        rw [← HI.out, List.drop_eq_getElem_cons hlt, List.flatMap_cons, List.flatten_append, List.append_assoc])
      obtain ⟨s, hs⟩ : ∃ s, x[k] = s := ⟨_, rfl⟩
      rw [hs] at c0 hsl HE
      clear hcl hs HI HV HTX HZ
      have i1 : 0 ≤ (k : Int) := by omega
      have i2 : (k : Int) < (x.length : Int) := by omega
      obtain ⟨T, hT⟩ : ∃ T, plT s = T := ⟨_, rfl⟩
      have HT : Hid (plT s = T) := hT
      have hTl : T.length ≤ s.length + 29 := (by
        rw [← hT]
        unfold plT
        split
        · omega
        · simp only [markT, List.length_append, List.length_cons, List.length_nil]
          omega)
      have HE2 : Hid (ac ++ (ah ++ T) ++ ((x.drop (k + 1)).flatMap (lnL ah)).flatten = Z) := (by
        show _ = _
        rw [← HE.out, pl_lines, hT])
      have hZl : ac.length + (ah ++ T).length ≤ 70368744177664 := (by
        have h1 := congrArg List.length HE2.out
        simp only [List.length_append] at h1 ⊢
        omega)
      have q1 := add_fits (x := ah) (y := T) (by unfold Fits; omega) Tryd.prog
      clear hT HE
      go_wp2_with fail
      refine (pline_f s wr hsl T HT).mono ?_
      rintro e w0 ⟨rfl, rfl⟩
      go_wp2_with fail
      refine (Tryd.WriteString_h B b _ _ w0 hBr (by rw [bcells_len]; show ac.length + (ah ++ T).length ≤ _; omega) hbz).mono ?_
      rintro e w1 ⟨rfl, hB1, hb1, ho1⟩
      have hB2 : Lib.IsBuilderF 61 5 B b (Lib.byteCells (ac ++ (ah ++ T))) w1 := .inr (by rw [Lib.byteCells_append]; exact hB1)
      have hb2 := hbr.trans hb1
      have ho2 := hor.trans ho1
      clear hB1 hb1 ho1 hBr hbr hor q1 c0
      go_wp2
      exact ⟨⟨k + 1, _, by omega, by go_num, hB2, hb2, ho2, HE2⟩, by simp [intOf]; omega⟩
    · have HE : Hid (ac = Z) := (by
        have h := HI.out
        rw [List.drop_of_length_le (by omega)] at h
        show ac = Z
        simpa using h)
      have hend : decide ((k : Int) < (x.length : Int)) = false := decide_eq_false (by omega)
      clear HI
      go_wp2
      first
        | go_end0
        | refine bodyPost_ret (results_none rfl _ _ _) rfl ?_
        | refine bodyPost_end (results_none rfl _ _ _) rfl ?_
      exact ⟨rfl, by rw [← HE.out]; exact hBr, hbr, hor⟩
end Go.Proofs.YtgiojkhmkeocfaaDoor

/- The code's reader of lines, walked: what is wrong is thrown; the next line; the line between. -/
namespace Go.Proofs.YtgiojkhmkeocfaaDoor
open Go.RowKit
attribute [local go_sem] ByteArray.extract_mk no_at

/-- a reader: its lines, how many are read -/
def ryO (vL : Value) (p : Int) : Obj := .cells #[vL, .int .i64 p] 116
def Ry (u : World) (R : Nat) (vL : Value) (p : Int) : Prop := u.heap[R]? = some (ryO vL p)
/-- a fault -/
def fltO (a z : Int) : Obj := .cells #[.int .i64 a, .iface 24 (.int .i64 z)] 76
section
variable {u u' : World} {R : Nat} {vL : Value} {p : Int}
theorem Ry.cells (q : Ry u R vL p) : u.cell? ⟨R, 0, none⟩ = some vL ∧ u.cell? ⟨R, 1, none⟩ = some (.int .i64 p) := by
  unfold Ry ryO at q
  refine ⟨?_, ?_⟩ <;> rw [Lib.cell_of_heap q] <;> rfl
theorem Ry.frozen (q : Ry u R vL p) (j : Nat) : u.frozen? ⟨R, j, none⟩ = false := Lib.frozen_of_heap q j
theorem Ry.lt (q : Ry u R vL p) : R < u.heap.size := (Array.getElem?_eq_some_iff.1 q).1
theorem Ry.dN (q : Ry u R vL p) (n : Nat) : Ry (u.drewN n) R vL p := q
theorem Ry.at (q : Ry u R vL p) (p' : Int) : Ry (u.setCell ⟨R, 1, none⟩ (.int .i64 p')) R vL p' := heap_setCell_same u R 1 _ _ (.int .i64 p') q
theorem Ry.low (q : Ry u R vL p) (hg : Below u.heap.size u u') : Ry u' R vL p := (hg.block R q.lt).trans q
theorem Ry.keep (q : Ry u R vL p) {g : Option Nat} (hg : u.grownBy u' g) (hr : some R ≠ g) : Ry u' R vL p := (hg.block R q.lt hr).trans q
end
/-- what is wrong is thrown -/
def Thr (a z : Int) (x : Ending) (w' : World) : Prop := ∃ g, x = .panicked [{ v := .iface 74 (.pointer (some ⟨g, 0, none⟩)), recovered := false }] ∧ w'.heap[g]? = some (fltO a z)
set_option maxHeartbeats 1000000 in
theorem nthrow_f {R : Nat} {vL : Value} {p : Nat} (z : Int) (w : World) (q : Ry w R vL (p : Int)) (hp : p ≤ 4398046511104) :
    Calls Tryd.prog 117 #[.pointer (some ⟨R, 0, none⟩), .int .i64 z] w fun x w' => Thr ((p : Int) + 1) z x w' ∧ w.grownBy w' (some R) := by
  obtain ⟨c0, c1⟩ := q.cells
  have HQ : Hid ((w.alloc (fltO ((p : Int) + 1) z)).heap[w.heap.size]? = some (fltO ((p : Int) + 1) z) ∧ w.grownBy (w.alloc (fltO ((p : Int) + 1) z)) (some R)) := ⟨heap_alloc_new w _, World.grownBy_alloc w _ _⟩
  clear q
  go_enter Tryd.func117, Tryd.ntmps117
  go_wp2
  exact ⟨rfl, ⟨_, rfl, HQ.out.1⟩, HQ.out.2⟩
/-- what a line that is read leaves behind -/
def LnQ (R : Nat) (_vL : Value) (_p : Nat) (X : Except (Nat × Int) (List UInt8 × List (List UInt8))) (w : World) (x : Ending) (w' : World) : Prop :=
  match X with
  | .error (a, e) => Thr (a : Int) e x w' ∧ w.grownBy w' (some R)
  | .ok (s, _) => x = .returned (.string ⟨(s ++ [10]).toArray⟩) ∧ ∃ n, w' = w.drewN n
theorem drop_feed {s : List UInt8} (h : fdB s = true) : s.dropLast ++ [10] = s := (fd_form h).symm
set_option maxHeartbeats 4000000 in
theorem nline_f {R : Nat} {L : List (List UInt8)} {lo : Option Addr} {lc : Nat} {p : Nat} (w : World) (q : Ry w R (.slice lo L.length lc) p) (hL : HS w (.slice lo L.length lc) L) (hp : p ≤ L.length) (hLl : L.length ≤ 2199023255552) (hs : ∀ s ∈ L, s.length ≤ 1099511627776)
    (X : Except (Nat × Int) (List UInt8 × List (List UInt8))) (HX : Hid (nxt p (L.drop p) = X)) :
    Calls Tryd.prog 116 #[.pointer (some ⟨R, 0, none⟩)] w fun x w' => LnQ R (.slice lo L.length lc) p X w x w' := by
  have hX := HX.out
  clear HX
  by_cases hlt : p < L.length
  · rw [nxt_drop hlt] at hX
    obtain ⟨bk, off, rfl, hbk, hcl⟩ := HS.at hL (by omega)
    have d4 := hcl p hlt
    have hsl := hs L[p] (List.getElem_mem _)
    generalize L[p] = s at d4 hsl hX
    clear hcl hs hL
    obtain ⟨c0, c1⟩ := q.cells
    have e0 : ((p : Int) == (L.length : Int)) = false := beq_eq_false_iff_ne.2 (by omega)
    have i1 : (0 : Int) ≤ (p : Int) := by omega
    have i2 : (p : Int) < (L.length : Int) := by omega
    have i3 : (p : Int).toNat = p := by omega
    cases hf : fdB s with
    | true =>
      rw [if_pos hf] at hX
      subst hX
      have HD : Hid (s.dropLast ++ [10] = s) := drop_feed hf
      clear q
      go_enter Tryd.func116, Tryd.ntmps116
      go_wp2_with fail
      go_quiet (fail)
      go_wp2_with fail
      have c0' : (w.drewN nq).cell? ⟨R, 0, none⟩ = _ := c0
      have c1' : (w.drewN nq).cell? ⟨R, 1, none⟩ = _ := c1
      have d4' : (w.drewN nq).cell? ⟨bk, off + p, none⟩ = _ := d4
      have HM : Hid (∀ n, ∃ k, (w.drewN nq).drewN n = w.drewN k) := fun n => ⟨_, World.drewN_drewN w nq n⟩
      clear c0 c1 d4
      generalize w.drewN nq = W1 at c0' c1' d4' HM ⊢
      have j1 : (0 : Int) ≤ (p : Int) := by omega
      have j2 : (p : Int) < (L.length : Int) := by omega
      have j3 : (p : Int).toNat = p := by omega
      go_quiet (fail)
      go_wp2_with fail
      refine (Tryd.strings_HasSuffix ⟨s.toArray⟩ ⟨#[10]⟩ _ (by show s.length ≤ _; omega)).mono ?_
      rintro e w2 ⟨rfl, rfl⟩
      have e1 : Lib.hasSuffix (⟨s.toArray⟩ : ByteArray).data.toList (⟨#[10]⟩ : ByteArray).data.toList = true := (suf_feed s).trans hf
      rw [e1]
      clear e1 hf
      go_wp2
      go_ret
      refine ⟨?_, HM.out _⟩
      rw [HD.out]
      rfl
    | false =>
      rw [if_neg (by rw [hf]; decide)] at hX
      subst hX
      have q0 := q
      clear q
      go_enter Tryd.func116, Tryd.ntmps116
      go_wp2_with fail
      go_quiet (fail)
      go_wp2_with fail
      have c0' : (w.drewN nq).cell? ⟨R, 0, none⟩ = _ := c0
      have c1' : (w.drewN nq).cell? ⟨R, 1, none⟩ = _ := c1
      have d4' : (w.drewN nq).cell? ⟨bk, off + p, none⟩ = _ := d4
      have HM : Hid (∀ n, w.grownBy ((w.drewN nq).drewN n) (some R)) := fun n => grown_drewN (grown_drewN (low_grown (Below.refl _ _) _) nq) n
      have HQ : Hid (∀ n, Ry ((w.drewN nq).drewN n) R (.slice (some ⟨bk, off, none⟩) L.length lc) p) := fun n => (q0.dN nq).dN n
      clear c0 c1 d4 q0
      generalize w.drewN nq = W1 at c0' c1' d4' HM HQ ⊢
      have j1 : (0 : Int) ≤ (p : Int) := by omega
      have j2 : (p : Int) < (L.length : Int) := by omega
      have j3 : (p : Int).toNat = p := by omega
      go_quiet (fail)
      go_wp2_with fail
      refine (Tryd.strings_HasSuffix ⟨s.toArray⟩ ⟨#[10]⟩ _ (by show s.length ≤ _; omega)).mono ?_
      rintro e w2 ⟨rfl, rfl⟩
      have e1 : Lib.hasSuffix (⟨s.toArray⟩ : ByteArray).data.toList (⟨#[10]⟩ : ByteArray).data.toList = false := (suf_feed s).trans hf
      rw [e1]
      clear e1 hf
      go_wp2_with fail
      refine (nthrow_f 3 _ (HQ.out _) (by omega)).mono ?_
      rintro e w3 ⟨⟨g, rfl, hg⟩, hgr⟩
      go_wp2
      exact ⟨rfl, ⟨_, rfl, hg⟩, grown_two (HM.out _) hgr⟩
  · rw [nxt_end (by omega)] at hX
    subst hX
    obtain ⟨c0, c1⟩ := q.cells
    have e0 : ((p : Int) == (L.length : Int)) = true := beq_iff_eq.2 (by omega)
    have HM : Hid (∀ n, w.grownBy (w.drewN n) (some R)) := fun n => grown_drewN (low_grown (Below.refl _ _) _) n
    have HQ : Hid (∀ n, Ry (w.drewN n) R (.slice lo L.length lc) p) := fun n => q.dN n
    clear q hs hL
    go_enter Tryd.func116, Tryd.ntmps116
    go_wp2_with fail
    go_quiet (fail)
    go_wp2_with fail
    refine (nthrow_f 1 _ (HQ.out _) (by omega)).mono ?_
    rintro e w3 ⟨⟨g, rfl, hg⟩, hgr⟩
    go_wp2
    exact ⟨rfl, ⟨_, rfl, hg⟩, grown_two (HM.out _) hgr⟩
end Go.Proofs.YtgiojkhmkeocfaaDoor

/- What is read in the normal form are right hunks; plain mathematics. -/
namespace Go.Proofs.YtgiojkhmkeocfaaDoor
open Ln

theorem sat_pos : ∀ (l : List UInt8) (n : Int), 0 ≤ n → l.all Pn.digB = true → 0 ≤ Pn.sat n l
  | [], _, hn, _ => hn
  | c :: t, n, hn, h => by
    simp only [List.all_cons, Bool.and_eq_true] at h
    have h1 := Pn.digB_out h.1
    rw [Pn.sat]
    exact sat_pos t _ (by omega) h.2
theorem prs_num {s : List UInt8} : 0 ≤ Pn.parseV s ∧ Pn.parseV s ≤ 2147483647 := by
  unfold Pn.parseV
  split
  · rename_i h
    exact ⟨sat_pos s 0 (by omega) (Pn.isNum_all h.1), h.2⟩
  · omega
theorem lns_right {s : List UInt8} {x n : Int} (h : lnsP s = some (x, n)) : 1 ≤ x ∧ x ≤ 2147483647 ∧ 1 ≤ n ∧ n ≤ 2147483647 := by
  unfold lnsP at h
  split at h
  · split at h
    · rename_i y _ z _ hc
      cases h
      have h1 := @prs_num y
      have h2 := @prs_num z
      omega
    · cases h
  · split at h
    · rename_i hc
      cases h
      have h1 := @prs_num s
      omega
    · cases h
theorem one_right {s : List UInt8} {x n : Int} (h : oneP s = some (x, n)) : 0 ≤ x ∧ x ≤ 2147483647 ∧ n = 0 := by
  unfold oneP at h
  split at h
  · cases h
    have h1 := @prs_num s
    omega
  · cases h
theorem cmd_right {s : List UInt8} {A AN B BN : Int} (h : cmdP s = some (A, AN, B, BN)) : (0 ≤ A ∧ A ≤ 2147483647 ∧ 0 ≤ AN ∧ AN ≤ 2147483647 ∧ (0 < AN → 1 ≤ A)) ∧ (0 ≤ B ∧ B ≤ 2147483647 ∧ 0 ≤ BN ∧ BN ≤ 2147483647 ∧ (0 < BN → 1 ≤ B)) ∧ (0 < AN ∨ 0 < BN) := by
  unfold cmdP at h
  split at h
  · cases h
  · rename_i x c y _
    split at h
    · rename_i A' AN' B' BN' h1 h2
      cases h
      by_cases hc : c = 97
      · subst hc
        rw [if_pos rfl] at h1
        rw [if_neg (by decide)] at h2
        have q1 := one_right h1
        have q2 := lns_right h2
        omega
      · rw [if_neg hc] at h1
        have q1 := lns_right h1
        by_cases hd : c = 100
        · subst hd
          rw [if_pos rfl] at h2
          have q2 := one_right h2
          omega
        · rw [if_neg hd] at h2
          have q2 := lns_right h2
          omega
    · cases h
theorem pk_out {no : Int} {l : List Mk} (h : ∀ m ∈ l, m.sg = no) : pkL no l = [] := by
  induction l with
  | nil => rfl
  | cons m l ih =>
    have hm := h m (by simp)
    simp only [pkL]
    rw [if_neg (fun hq => hq.1 hm)]
    exact ih fun x hx => h x (by simp [hx])
theorem pk_in {no s : Int} (hs : s ≠ no) (ho : okS s = true) {l : List Mk} (h : ∀ m ∈ l, m.sg = s) : (pkL no l).length = l.length := by
  induction l with
  | nil => rfl
  | cons m l ih =>
    have hm := h m (by simp)
    simp only [pkL]
    rw [if_pos (by rw [hm]; exact ⟨hs, ho⟩), List.length_cons, List.length_cons, ih fun x hx => h x (by simp [hx])]
theorem fld_last {S no : Int} (hS : okS S = true) (hn : (no = 43 ∧ S = 45) ∨ (no = 45 ∧ S = 43)) : ∀ (l r : List Mk), (∀ m ∈ l, m.sg = S ∧ linB m.tx = true) → (∀ m ∈ l.dropLast, fdB m.tx = true) → (∀ m ∈ r, m.sg = no) → fldB r = true → fldB (l ++ r) = true
  | [], _, _, _, _, hr => hr
  | [m], r, h1, _, h3, hr => by
    obtain ⟨a1, a2⟩ := h1 m (by simp)
    have h4 : lstB S r = true := (by
      unfold lstB
      rw [List.all_eq_true]
      intro x hx
      have := h3 x hx
      rw [this]
      rcases hn with ⟨rfl, rfl⟩ | ⟨rfl, rfl⟩ <;> decide)
    simp only [List.singleton_append, fldB, a1, a2, hS, hr, Bool.and_true, Bool.true_and]
    rcases hn with ⟨rfl, rfl⟩ | ⟨rfl, rfl⟩ <;> simp [h4]
  | m :: x :: l, r, h1, h2, h3, hr => by
    obtain ⟨a1, a2⟩ := h1 m (by simp)
    have h4 : fdB m.tx = true := h2 m (by simp [List.dropLast_cons_cons])
    have := fld_last hS hn (x :: l) r (fun y hy => h1 y (by simp at hy ⊢; exact Or.inr hy)) (fun y hy => h2 y (by rw [List.dropLast_cons_cons]; exact List.mem_cons_of_mem _ hy)) h3 hr
    rw [List.cons_append, fldB, this, a1, a2, hS, h4]
    rfl
/-- a hunk that was read is right -/
theorem hk_right {k p p1 : Nat} {ls r : List (List UInt8)} {h : Hk} (hP : Plain ls) (hh : hkP k p ls = .ok (h, p1, r)) : chkH h = 0 := by
  unfold hkP at hh
  split at hh
  · cases hh
  · rename_i s r0 hn
    obtain ⟨a1, a2⟩ := nxt_len hP hn
    split at hh
    · cases hh
    · rename_i A AN B BN hc
      have hr := cmd_right hc
      split at hh
      · cases hh
      · split at hh
        · cases hh
        · rename_i l1 q1 r1 h1
          obtain ⟨b1, b2, b3, b4, b5, b6⟩ := rdN_ok _ a2 h1
          split at hh
          · cases hh
          · rename_i q2 r2 h2
            have hs : Plain r2 := (by
              split at h2
              · unfold sepP at h2
                split at h2
                · cases h2
                · rename_i s3 r3 hn3
                  obtain ⟨c1, c2⟩ := nxt_len b4 hn3
                  split at h2
                  · cases h2
                    exact c2
                  · cases h2
              · cases h2
                exact b4)
            split at hh
            · cases hh
            · rename_i l2 q3 r3 h3
              obtain ⟨d1, d2, d3, d4, d5, d6⟩ := rdN_ok _ hs h3
              cases hh
              have e1 : rngB ⟨A, AN, B, BN, l1 ++ l2⟩ = true := (by
                simp only [rngB, nat31, Bool.and_eq_true, Bool.not_eq_true', Bool.and_eq_false_iff, decide_eq_true_eq, decide_eq_false_iff_not]
                omega)
              have e2 : fldB (l1 ++ l2) = true := (by
                have g := fld_last (S := 43) (no := 45) (by decide) (Or.inr ⟨rfl, rfl⟩) l2 [] d5 d6 (fun m hm => by cases hm) rfl
                rw [List.append_nil] at g
                exact fld_last (S := 45) (no := 43) (by decide) (Or.inl ⟨rfl, rfl⟩) l1 l2 b5 b6 (fun m hm => (d5 m hm).1) g)
              have e3 : (oldL ⟨A, AN, B, BN, l1 ++ l2⟩).length = l1.length := (by
                show (pkL 43 (l1 ++ l2)).length = _
                rw [pkL_append, List.length_append, pk_in (s := 45) (by decide) (by decide) (fun m hm => (b5 m hm).1), pk_out (fun m hm => (d5 m hm).1)]
                simp)
              have e4 : (newL ⟨A, AN, B, BN, l1 ++ l2⟩).length = l2.length := (by
                show (pkL 45 (l1 ++ l2)).length = _
                rw [pkL_append, List.length_append, pk_out (fun m hm => (b5 m hm).1), pk_in (s := 43) (by decide) (by decide) (fun m hm => (d5 m hm).1)]
                simp)
              have e5 : (l1 ++ l2).all (fun m => decide (m.sg = 32)) = false := (by
                rw [List.all_eq_false]
                rcases hr.2.2 with hq | hq
                · obtain ⟨x, hx⟩ := List.exists_mem_of_length_pos (l := l1) (by omega)
                  exact ⟨x, by simp [hx], by rw [(b5 x hx).1]; decide⟩
                · obtain ⟨x, hx⟩ := List.exists_mem_of_length_pos (l := l2) (by omega)
                  exact ⟨x, by simp [hx], by rw [(d5 x hx).1]; decide⟩)
              unfold chkH
              rw [if_neg (by rw [e1]; decide), if_neg (by rw [e2]; decide), if_neg (by rw [e3, e4]; simp only [b1, d1, not_or, Decidable.not_not]; omega), e5]
              rfl
/-- all hunks that were read are right -/
theorem hks_right (f : Nat) : ∀ {k p : Nat} {ls : List (List UInt8)} {l : List Hk}, Plain ls → hksP f k p ls = .ok l → ∀ h ∈ l, chkH h = 0 := by
  induction f with
  | zero =>
    intro k p ls l _ h
    simp only [hksP] at h
    cases h
    intro x hx
    cases hx
  | succ f ih =>
    intro k p ls l hP h
    simp only [hksP] at h
    split at h
    · cases h
      intro x hx
      cases hx
    · split at h
      · cases h
      · rename_i hk q1 r1 h1
        split at h
        · cases h
        · rename_i l' h2
          cases h
          intro x hx
          rcases List.mem_cons.1 hx with rfl | hx
          · exact hk_right hP h1
          · exact ih (hkP_ok hP h1).2.2 h2 x hx
theorem prs_right {t : List UInt8} {l : List Hk} (h : prsT t = .ok l) : ∀ x ∈ l, chkH x = 0 := by
  unfold prsT at h
  split at h
  · cases h
  · exact hks_right _ (split_plain t) h
end Go.Proofs.YtgiojkhmkeocfaaDoor

/- The normal form as the code reads it, and that it is read as the plain reader does; plain mathematics. -/
namespace Go.Proofs.YtgiojkhmkeocfaaDoor
open Ln

/-- so many lines with a sign, with their line feeds -/
def rdL (sg : List UInt8) (S : Int) : Nat → Nat → List (List UInt8) → Except (Nat × Int) (List Mk × Nat × List (List UInt8))
  | 0, p, ls => .ok ([], p, ls)
  | n + 1, p, ls => match nxt p ls with
    | .error e => .error e
    | .ok (s, r) => if sg.isPrefixOf s = true then match rdL sg S n (p + 1) r with
        | .error e => .error e
        | .ok (l, p2, r2) => .ok (⟨S, s.drop sg.length ++ [10]⟩ :: l, p2, r2)
      else .error (p + 1, 3)
/-- the last text without its line feed -/
def cutL : List Mk → List Mk
  | [] => []
  | [m] => [⟨m.sg, m.tx.dropLast⟩]
  | m :: l => m :: cutL l
def lastT (l : List Mk) : List UInt8 := (l.getLast?.map (·.tx)).getD []
/-- does the last line lose its line feed? -/
def endK (l : List Mk) (r : List (List UInt8)) : Bool := lastT l != [10] && pkM r
/-- a side as the code reads it -/
def sdC (sg : List UInt8) (S : Int) (n p : Nat) (ls : List (List UInt8)) : Except (Nat × Int) (List Mk × Nat × List (List UInt8)) :=
  match rdL sg S n p ls with
  | .error e => .error e
  | .ok (l, p1, r) => if (decide (0 < n) && endK l r) = true then .ok (cutL l, p1 + 1, r.tail) else .ok (l, p1, r)
/-- a hunk as the code reads it -/
def hkK (k p : Nat) (ls : List (List UInt8)) : Except (Nat × Int) (Hk × Nat × List (List UInt8)) :=
  match nxt p ls with
  | .error e => .error e
  | .ok (s, r) => match cmdP s with
    | none => .error (p + 1, 3)
    | some (A, AN, B, BN) => if k = 4096 then .error (p + 1, 9) else match sdC [60, 32] 45 AN.toNat (p + 1) r with
      | .error e => .error e
      | .ok (l1, p1, r1) => match (if 0 < AN ∧ 0 < BN then sepP p1 r1 else .ok (p1, r1)) with
        | .error e => .error e
        | .ok (p2, r2) => match sdC [62, 32] 43 BN.toNat p2 r2 with
          | .error e => .error e
          | .ok (l2, p3, r3) => .ok (⟨A, AN, B, BN, l1 ++ l2⟩, p3, r3)
def hksK : Nat → Nat → Nat → List (List UInt8) → Except (Nat × Int) (List Hk)
  | 0, _, _, _ => .ok []
  | f + 1, k, p, ls => if ls = [] then .ok [] else match hkK k p ls with
    | .error e => .error e
    | .ok (h, p1, r) => match hksK f (k + 1) p1 r with
      | .error e => .error e
      | .ok l => .ok (h :: l)
/-- a side that is followed by a mark behind an empty line: wrong in both ways of reading -/
def Bad (X Y : Except (Nat × Int) (List Mk × Nat × List (List UInt8))) : Prop := ∃ l p r, Y = .ok (l, p, markT :: r) ∧ X = .error (p + 1, 3)
theorem mark_eq {s : List UInt8} (hp : ∀ c ∈ s.dropLast, c ≠ 10) (h : markT.isPrefixOf s = true) : s = markT := by
  rw [List.isPrefixOf_iff_prefix] at h
  obtain ⟨t, rfl⟩ := h
  cases t with
  | nil => simp
  | cons c t =>
    exfalso
    have h1 : (10 : UInt8) ∈ (markT ++ c :: t).dropLast := by
      rw [List.dropLast_append_of_ne_nil (by simp)]
      exact List.mem_append_left _ (by decide)
    exact hp 10 h1 rfl
theorem cutL_cons {m : Mk} {l : List Mk} (h : l ≠ []) : cutL (m :: l) = m :: cutL l := by
  cases l with
  | nil => exact absurd rfl h
  | cons y l => rfl
theorem cutL_snoc (l : List Mk) (m : Mk) : cutL (l ++ [m]) = l ++ [⟨m.sg, m.tx.dropLast⟩] := by
  induction l with
  | nil => rfl
  | cons x l ih =>
    rw [List.cons_append, cutL_cons (by simp), ih]
    rfl
theorem lastT_snoc (l : List Mk) (m : Mk) : lastT (l ++ [m]) = m.tx := by simp [lastT]
theorem sdC_zero (sg : List UInt8) (S : Int) (p : Nat) (ls : List (List UInt8)) : sdC sg S 0 p ls = .ok ([], p, ls) := by
  unfold sdC rdL
  rfl
theorem lastT_cons {m : Mk} {l : List Mk} (h : l ≠ []) : lastT (m :: l) = lastT l := by
  cases l with
  | nil => exact absurd rfl h
  | cons y l => simp [lastT]
theorem rdL_len {sg : List UInt8} {S : Int} (n : Nat) : ∀ {p : Nat} {ls : List (List UInt8)} {l : List Mk} {p1 : Nat} {r : List (List UInt8)}, rdL sg S n p ls = .ok (l, p1, r) → l.length = n ∧ p1 = p + n ∧ ls.drop n = r ∧ n ≤ ls.length := by
  induction n with
  | zero =>
    intro p ls l p1 r h
    simp only [rdL] at h
    cases h
    exact ⟨rfl, rfl, rfl, Nat.zero_le _⟩
  | succ n ih =>
    intro p ls l p1 r h
    simp only [rdL] at h
    split at h
    · cases h
    · rename_i s r0 hn
      have hls := nxt_ok hn
      split at h
      · split at h
        · cases h
        · rename_i l' q r' hq
          obtain ⟨a1, a2, a3, a4⟩ := ih hq
          cases h
          subst hls
          exact ⟨by simp [a1], by omega, by simpa using a3, by simp; omega⟩
      · cases h
/-- the two ways of reading a side -/
theorem side_both {sg : List UInt8} {S : Int} (n : Nat) : ∀ {p : Nat} {ls : List (List UInt8)}, Plain ls → rdN sg S n p ls = sdC sg S n p ls ∨ Bad (rdN sg S n p ls) (sdC sg S n p ls) := by
  induction n with
  | zero =>
    intro p ls _
    left
    rw [sdC_zero]
    rfl
  | succ n ih =>
    intro p ls hP
    unfold sdC
    simp only [rdN, rdL, mkd]
    cases hn : nxt p ls with
    | error e => left; rfl
    | ok z =>
      obtain ⟨s, r⟩ := z
      dsimp only
      have hls := nxt_ok hn
      subst hls
      have hPr : Plain r := fun x hx => hP x (by simp [hx])
      have hsn : ∀ c ∈ s, c ≠ 10 := by
        have := hP (s ++ [10]) (by simp)
        simpa using this
      by_cases hpre : sg.isPrefixOf s = true
      · rw [if_pos hpre, if_pos hpre]
        cases n with
        | zero =>
          simp only [rdN, rdL]
          have e1 : ((0 : Nat) == 0) = true := rfl
          rw [e1, Bool.true_and]
          have e2 : lastT [(⟨S, s.drop sg.length ++ [10]⟩ : Mk)] = s.drop sg.length ++ [10] := rfl
          unfold endK
          rw [e2]
          have e3 : decide (0 < 0 + 1) = true := rfl
          rw [e3, Bool.true_and]
          cases hk : pkM r with
          | false =>
            left
            rw [if_neg (by decide), Bool.and_false, if_neg (by decide)]
          | true =>
            rw [if_pos rfl, Bool.and_true]
            by_cases hem : s.drop sg.length = []
            · right
              rw [if_pos hem, hem]
              rw [if_neg (by decide)]
              cases r with
              | nil => cases hk
              | cons y r =>
                have : y = markT := mark_eq (hPr y (by simp)) hk
                subst this
                exact ⟨_, _, _, rfl, rfl⟩
            · left
              have e4 : (s.drop sg.length ++ [10] != [10]) = true := by
                rw [bne_iff_ne]
                intro h
                apply hem
                have := congrArg List.length h
                simp at this
                exact List.eq_nil_of_length_eq_zero (by simpa using this)
              rw [if_neg hem, e4, if_pos rfl]
              simp [cutL]
        | succ n =>
          have e1 : ((n + 1 : Nat) == 0) = false := rfl
          rw [e1, Bool.false_and, if_neg (by decide)]
          dsimp only
          have hi := @ih (p + 1) r hPr
          unfold sdC at hi
          cases hL : rdL sg S (n + 1) (p + 1) r with
          | error e =>
            rw [hL] at hi
            left
            rcases hi with hi | ⟨_, _, _, h, _⟩
            · rw [hi]
            · cases h
          | ok z =>
            obtain ⟨l, p1, r1⟩ := z
            rw [hL] at hi
            dsimp only at hi ⊢
            have hlen := (rdL_len _ hL).1
            have hne : l ≠ [] := by
              rintro rfl
              simp at hlen
            unfold endK at hi ⊢
            rw [lastT_cons hne, cutL_cons hne]
            have e3 : decide (0 < n + 1) = true := decide_eq_true (by omega)
            have e4 : decide (0 < n + 1 + 1) = true := decide_eq_true (by omega)
            rw [e3] at hi
            rw [e4]
            by_cases hb : (true && (lastT l != [10] && pkM r1)) = true
            · rw [if_pos hb] at hi ⊢
              rcases hi with hi | ⟨l', p', r', h, h'⟩
              · left
                rw [hi]
              · right
                simp only [Except.ok.injEq, Prod.mk.injEq] at h
                obtain ⟨rfl, rfl, h⟩ := h
                exact ⟨_, _, r', by rw [h], by rw [h']⟩
            · rw [if_neg hb] at hi ⊢
              rcases hi with hi | ⟨l', p', r', h, h'⟩
              · left
                rw [hi]
              · right
                cases h
                exact ⟨_, _, _, rfl, by rw [h']⟩
      · left
        rw [if_neg hpre, if_neg hpre]
theorem sdC_drop {sg : List UInt8} {S : Int} {n p : Nat} {ls : List (List UInt8)} {l : List Mk} {p1 : Nat} {r : List (List UInt8)} (h : sdC sg S n p ls = .ok (l, p1, r)) : ∃ j, r = ls.drop j ∧ p1 = p + j ∧ j ≤ ls.length := by
  unfold sdC at h
  split at h
  · cases h
  · rename_i l' q r' hq
    obtain ⟨a1, a2, a3, a4⟩ := rdL_len _ hq
    split at h
    · rename_i hb
      cases h
      have hk : pkM r' = true := by
        unfold endK at hb
        simp only [Bool.and_eq_true] at hb
        exact hb.2.2
      have h1 : 0 < r'.length := by
        cases r' with
        | nil => cases hk
        | cons => simp
      rw [← a3, List.length_drop] at h1
      exact ⟨n + 1, by rw [← a3, List.tail_drop], by omega, by omega⟩
    · cases h
      exact ⟨n, a3.symm, a2, a4⟩
theorem cutL_len (l : List Mk) : (cutL l).length = l.length := by
  induction l with
  | nil => rfl
  | cons m l ih =>
    cases l with
    | nil => rfl
    | cons y l => rw [cutL_cons (by simp), List.length_cons, ih]; rfl
theorem sdC_len {sg : List UInt8} {S : Int} {n p : Nat} {ls : List (List UInt8)} {l : List Mk} {p1 : Nat} {r : List (List UInt8)} (h : sdC sg S n p ls = .ok (l, p1, r)) : l.length = n := by
  unfold sdC at h
  split at h
  · cases h
  · rename_i l' q r' hq
    obtain ⟨a1, a2, a3, a4⟩ := rdL_len _ hq
    split at h
    · cases h
      rw [cutL_len, a1]
    · cases h
      exact a1
theorem sepP_drop {p p1 : Nat} {ls r : List (List UInt8)} (h : sepP p ls = .ok (p1, r)) : r = ls.drop 1 ∧ p1 = p + 1 ∧ 1 ≤ ls.length := by
  unfold sepP at h
  split at h
  · cases h
  · rename_i s r0 hn
    have := nxt_ok hn
    subst this
    split at h
    · cases h
      exact ⟨rfl, rfl, by simp⟩
    · cases h
theorem hkK_drop {k p p1 : Nat} {ls r : List (List UInt8)} {h : Hk} (hh : hkK k p ls = .ok (h, p1, r)) : ∃ j, r = ls.drop j ∧ p1 = p + j ∧ 1 ≤ j ∧ j ≤ ls.length ∧ k ≠ 4096 := by
  unfold hkK at hh
  split at hh
  · cases hh
  · rename_i s r0 hn
    have := nxt_ok hn
    subst this
    split at hh
    · cases hh
    · split at hh
      · cases hh
      · rename_i hk
        split at hh
        · cases hh
        · rename_i l1 q1 r1 h1
          obtain ⟨j1, b1, b2, b3⟩ := sdC_drop h1
          split at hh
          · cases hh
          · rename_i q2 r2 h2
            have hs : ∃ j, r2 = r1.drop j ∧ q2 = q1 + j ∧ j ≤ r1.length := (by
              split at h2
              · obtain ⟨c1, c2, c3⟩ := sepP_drop h2
                exact ⟨1, c1, c2, c3⟩
              · cases h2
                exact ⟨0, rfl, rfl, Nat.zero_le _⟩)
            obtain ⟨j2, c1, c2, c3⟩ := hs
            split at hh
            · cases hh
            · rename_i l2 q3 r3 h3
              obtain ⟨j3, d1, d2, d3⟩ := sdC_drop h3
              cases hh
              subst d1 c1 b1
              simp only [List.length_drop] at c3 d3
              refine ⟨1 + (j1 + (j2 + j3)), ?_, by omega, by omega, by simp only [List.length_cons]; omega, hk⟩
              rw [List.drop_drop, List.drop_drop, Nat.add_comm 1, List.drop_succ_cons]
theorem plain_drop {ls : List (List UInt8)} (h : Plain ls) (j : Nat) : Plain (ls.drop j) := fun x hx => h x (List.mem_of_mem_drop hx)
theorem mark_nxt (p : Nat) (r : List (List UInt8)) : nxt p (markT :: r) = .ok (markT.dropLast, r) := rfl
theorem mark_cmd : cmdP markT.dropLast = none := by decide +kernel
theorem mark_sep (p : Nat) (r : List (List UInt8)) : sepP p (markT :: r) = .error (p + 1, 3) := by
  unfold sepP
  rw [mark_nxt]
  rfl
theorem mark_hk (k p : Nat) (r : List (List UInt8)) : hkK k p (markT :: r) = .error (p + 1, 3) ∧ hkP k p (markT :: r) = .error (p + 1, 3) := by
  unfold hkK hkP
  rw [mark_nxt]
  dsimp only
  rw [mark_cmd]
  exact ⟨rfl, rfl⟩
theorem hk_both {k p : Nat} {ls : List (List UInt8)} (hP : Plain ls) (hk : k ≤ 4096) : hkP k p ls = hkK k p ls ∨ ∃ h p1 r, hkK k p ls = .ok (h, p1, markT :: r) ∧ hkP k p ls = .error (p1 + 1, 3) := by
  unfold hkP hkK
  cases hn : nxt p ls with
  | error e => left; rfl
  | ok z =>
    obtain ⟨s, r⟩ := z
    dsimp only
    have hls := nxt_ok hn
    subst hls
    have hPr : Plain r := fun x hx => hP x (by simp [hx])
    cases hc : cmdP s with
    | none => left; rfl
    | some z =>
      obtain ⟨A, AN, B, BN⟩ := z
      dsimp only
      by_cases hk2 : k = 4096
      · left
        rw [if_pos (by omega), if_pos hk2]
      · rw [if_neg (by omega), if_neg hk2]
        have hr := cmd_right hc
        rcases @side_both [60, 32] 45 AN.toNat (p + 1) r hPr with h1 | ⟨l, q, r', h1, h2⟩
        · rw [h1]
          cases hs : sdC [60, 32] 45 AN.toNat (p + 1) r with
          | error e => left; rfl
          | ok z =>
            obtain ⟨l1, p1, r1⟩ := z
            dsimp only
            obtain ⟨j, b1, _, _⟩ := sdC_drop hs
            have hP1 : Plain r1 := by rw [b1]; exact plain_drop hPr j
            cases hp : (if 0 < AN ∧ 0 < BN then sepP p1 r1 else Except.ok (p1, r1)) with
            | error e => left; rfl
            | ok z =>
              obtain ⟨p2, r2⟩ := z
              dsimp only
              have hP2 : Plain r2 := (by
                split at hp
                · obtain ⟨c1, _, _⟩ := sepP_drop hp
                  rw [c1]
                  exact plain_drop hP1 1
                · cases hp
                  exact hP1)
              rcases @side_both [62, 32] 43 BN.toNat p2 r2 hP2 with h3 | ⟨l, q, r', h3, h4⟩
              · left
                rw [h3]
                cases sdC [62, 32] 43 BN.toNat p2 r2 <;> rfl
              · right
                rw [h3, h4]
                exact ⟨_, _, _, rfl, rfl⟩
        · rw [h1, h2]
          dsimp only
          by_cases hb : 0 < AN ∧ 0 < BN
          · left
            rw [if_pos hb, mark_sep]
          · rw [if_neg hb]
            dsimp only
            have hBN : BN.toNat = 0 := (by
              have hA : AN.toNat ≠ 0 := (by
                intro h0
                rw [h0] at h2
                cases h2)
              omega)
            rw [hBN, sdC_zero]
            right
            exact ⟨_, _, _, rfl, rfl⟩
theorem hks_both (f : Nat) : ∀ {k p : Nat} {ls : List (List UInt8)}, Plain ls → ls.length ≤ f → k ≤ 4096 → hksP f k p ls = hksK f k p ls := by
  induction f with
  | zero => intros; rfl
  | succ f ih =>
    intro k p ls hP hf hk
    simp only [hksP, hksK]
    by_cases h0 : ls = []
    · rw [if_pos h0, if_pos h0]
    · rw [if_neg h0, if_neg h0]
      rcases @hk_both k p ls hP hk with h | ⟨h, p1, r, h1, h2⟩
      · rw [h]
        cases hc : hkK k p ls with
        | error e => rfl
        | ok z =>
          obtain ⟨h', p1, r⟩ := z
          obtain ⟨j, b1, b2, b3, b4, b5⟩ := hkK_drop hc
          dsimp only
          rw [@ih (k + 1) p1 r (by rw [b1]; exact plain_drop hP j) (by rw [b1, List.length_drop]; omega) (by omega)]
          cases hksK f (k + 1) p1 r <;> rfl
      · rw [h1, h2]
        dsimp only
        obtain ⟨j, b1, b2, b3, b4, b5⟩ := hkK_drop h1
        have hl : (markT :: r).length ≤ f := by rw [b1, List.length_drop]; omega
        cases f with
        | zero => simp at hl
        | succ f =>
          simp only [hksK]
          rw [if_neg (by simp), (mark_hk (k + 1) p1 r).1]
/-- a text as the code reads it -/
theorem prs_code (t : List UInt8) : prsT t = if 1048576 < t.length then .error (0, 9) else hksK (splitL t).length 0 0 (splitL t) := by
  unfold prsT
  split
  · rfl
  · exact hks_both _ (split_plain t) (Nat.le_refl _) (by omega)
end Go.Proofs.YtgiojkhmkeocfaaDoor

/- The code's reader, walked: the line between, the end of a side, a side. -/
namespace Go.Proofs.YtgiojkhmkeocfaaDoor
open Go.RowKit
attribute [local go_sem] ByteArray.extract_mk no_at

/-- all below B but the reader's block is as it was -/
structure Fr (B R : Nat) (w w' : World) : Prop where
  os : w'.os = w.os
  tape : w'.tape = w.tape
  output : w'.output = w.output
  size : w.heap.size ≤ w'.heap.size
  block : ∀ k, k < B → k ≠ R → w'.heap[k]? = w.heap[k]?
theorem Fr.refl (B R : Nat) (w : World) : Fr B R w w := ⟨rfl, rfl, rfl, Nat.le_refl _, fun _ _ _ => rfl⟩
theorem Fr.trans {B R : Nat} {w u v : World} (h : Fr B R w u) (h' : Fr B R u v) : Fr B R w v := ⟨h'.os.trans h.os, h'.tape.trans h.tape, h'.output.trans h.output, Nat.le_trans h.size h'.size, fun k h1 h2 => (h'.block k h1 h2).trans (h.block k h1 h2)⟩
theorem Fr.of {B R : Nat} {w u : World} (h : w.grownBy u (some R)) (hB : B ≤ w.heap.size) : Fr B R w u := ⟨h.os, h.tape, h.output, h.size, fun k h1 h2 => h.block k (Nat.lt_of_lt_of_le h1 hB) (fun e => h2 (Option.some.inj e))⟩
theorem Fr.own {B R : Nat} {w u : World} {g : Option Nat} (h : w.grownBy u g) (hB : B ≤ w.heap.size) (hg : ∀ j, g = some j → B ≤ j) : Fr B R w u := ⟨h.os, h.tape, h.output, h.size, fun k h1 _ => h.block k (Nat.lt_of_lt_of_le h1 hB) (fun e => by have := hg k e.symm; omega)⟩
theorem Fr.low {B R : Nat} {w u : World} (h : Below w.heap.size w u) (hB : B ≤ w.heap.size) : Fr B R w u := Fr.of (low_grown h _) hB
theorem Fr.grown {R : Nat} {w u : World} (h : Fr w.heap.size R w u) : w.grownBy u (some R) := ⟨h.os, h.tape, h.output, h.size, fun k h1 h2 => h.block k h1 (fun e => h2 (by rw [e]))⟩
/-- what the line between leaves behind -/
def SpQ (R : Nat) (vL : Value) (X : Except (Nat × Int) (Nat × List (List UInt8))) (w : World) (x : Ending) (w' : World) : Prop :=
  match X with
  | .error (a, e) => Thr (a : Int) e x w' ∧ w.grownBy w' (some R)
  | .ok (p1, _) => x = .returned (.tuple #[]) ∧ Ry w' R vL (p1 : Int) ∧ w.grownBy w' (some R)
set_option maxHeartbeats 4000000 in
theorem ndivider_f {R : Nat} {L : List (List UInt8)} {lo : Option Addr} {lc : Nat} {p : Nat} (w : World) (q : Ry w R (.slice lo L.length lc) p) (hL : HS w (.slice lo L.length lc) L) (hp : p ≤ L.length) (hLl : L.length ≤ 2199023255552) (hs : ∀ s ∈ L, s.length ≤ 1099511627776)
    (X : Except (Nat × Int) (Nat × List (List UInt8))) (HX : Hid (sepP p (L.drop p) = X)) :
    Calls Tryd.prog 119 #[.pointer (some ⟨R, 0, none⟩)] w fun x w' => SpQ R (.slice lo L.length lc) X w x w' := by
  obtain ⟨Y, hY⟩ : ∃ Y, nxt p (L.drop p) = Y := ⟨_, rfl⟩
  have hl := nline_f w q hL hp hLl hs Y hY
  have hX := HX.out
  clear HX
  unfold sepP at hX
  rw [hY] at hX
  cases Y with
  | error z =>
    obtain ⟨a, e⟩ := z
    dsimp only at hX
    subst hX
    go_enter Tryd.func119, Tryd.ntmps119
    go_wp2_with fail
    refine hl.mono ?_
    rintro x w1 ⟨⟨g, rfl, hg⟩, hgr⟩
    go_wp2
    exact ⟨rfl, ⟨_, rfl, hg⟩, hgr⟩
  | ok z =>
    obtain ⟨s, r⟩ := z
    dsimp only at hX
    by_cases h : s = [45, 45, 45]
    · rw [if_pos h] at hX
      subst hX h
      go_enter Tryd.func119, Tryd.ntmps119
      go_wp2_with fail
      refine hl.mono ?_
      rintro x w1 ⟨rfl, n, rfl⟩
      have q1 := q.dN n
      have g1 := grown_drewN (low_grown (Below.refl w.heap.size w) (some R)) n
      generalize w.drewN n = W1 at q1 g1 ⊢
      obtain ⟨c0, c1⟩ := q1.cells
      have f1 := q1.frozen 1
      have HQ : Hid (Ry (W1.setCell ⟨R, 1, none⟩ (.int .i64 ((p : Int) + 1))) R (.slice lo L.length lc) (((p + 1 : Nat)) : Int) ∧ w.grownBy (W1.setCell ⟨R, 1, none⟩ (.int .i64 ((p : Int) + 1))) (some R)) := ⟨by have := q1.at ((p : Int) + 1); simpa using this, grown_two g1 (grown_set W1 R 1 _)⟩
      clear q q1 g1 hl hY
      go_wp2
      first
        | go_end0
        | refine bodyPost_ret (results_none rfl _ _ _) rfl ?_
        | refine bodyPost_end (results_none rfl _ _ _) rfl ?_
      exact ⟨rfl, HQ.out⟩
    · rw [if_neg h] at hX
      subst hX
      have hne : (s ++ [10] == [45, 45, 45, 10]) = false := (by
        rw [beq_eq_false_iff_ne]
        intro e
        have e2 : s ++ [10] = [45, 45, 45] ++ [10] := e
        exact h (List.append_cancel_right e2))
      have q1 := fun n => q.dN n
      have g1 := fun n => grown_drewN (low_grown (Below.refl w.heap.size w) (some R)) n
      go_enter Tryd.func119, Tryd.ntmps119
      go_wp2_with fail
      refine hl.mono ?_
      rintro x w1 ⟨rfl, n, rfl⟩
      go_wp2_with fail
      refine (nthrow_f 3 _ (q1 n) (by omega)).mono ?_
      rintro e w3 ⟨⟨g, rfl, hg⟩, hgr⟩
      go_wp2
      exact ⟨rfl, ⟨_, rfl, by simpa using hg⟩, grown_two (g1 n) hgr⟩
end Go.Proofs.YtgiojkhmkeocfaaDoor

/- The code's reader, walked: the end of a side. -/
namespace Go.Proofs.YtgiojkhmkeocfaaDoor
open Go.RowKit
attribute [local go_sem] ByteArray.extract_mk no_at

theorem pkM_at {L : List (List UInt8)} (hP : Plain L) {p : Nat} (h : p < L.length) : pkM (L.drop p) = (L[p] == markT) := by
  rw [List.drop_eq_getElem_cons h]
  unfold pkM
  rw [Bool.eq_iff_iff, beq_iff_eq]
  constructor
  · intro q
    exact mark_eq (hP _ (List.getElem_mem h)) q
  · intro q
    rw [q]
    show markT.isPrefixOf markT = true
    decide
set_option maxHeartbeats 4000000 in
theorem nend_no {R g o : Nat} {L : List (List UInt8)} {lo : Option Addr} {lc : Nat} {p : Nat} (w : World) (q : Ry w R (.slice lo L.length lc) p) (hL : HS w (.slice lo L.length lc) L) (hPl : Plain L) (hp : p ≤ L.length) (hLl : L.length ≤ 2199023255552)
    (t : List UInt8) (ct : w.cell? ⟨g, o + 1, none⟩ = some (.string ⟨t.toArray⟩)) (HB : Hid ((t != [10] && pkM (L.drop p)) = false)) :
    Calls Tryd.prog 151 #[.pointer (some ⟨R, 0, none⟩), .pointer (some ⟨g, o, none⟩)] w fun x w' => x = .returned (.tuple #[]) ∧ ∃ n, w' = w.drewN n := by
  obtain ⟨c0, c1⟩ := q.cells
  by_cases ht : t = [10]
  · subst ht
    clear HB hL q
    go_enter Tryd.func151, Tryd.ntmps151
    go_wp2_with fail
    go_quiet (fail)
    go_wp2
    first
      | go_end0
      | refine bodyPost_ret (results_none rfl _ _ _) rfl ?_
      | refine bodyPost_end (results_none rfl _ _ _) rfl ?_
    exact ⟨rfl, _, rfl⟩
  · have e1 : (t == [10]) = false := beq_eq_false_iff_ne.2 ht
    by_cases hlt : p < L.length
    · have hm : (L[p] == markT) = false := (by
        have h := HB.out
        rw [pkM_at hPl hlt] at h
        have : (t != [10]) = true := bne_iff_ne.2 ht
        rw [this, Bool.true_and] at h
        exact h)
      obtain ⟨bk, off, rfl, hbk, hcl⟩ := HS.at hL (by omega)
      have d4 := hcl p hlt
      generalize L[p] = s at d4 hm
      have hm2 : (s == [92, 32, 78, 111, 32, 110, 101, 119, 108, 105, 110, 101, 32, 97, 116, 32, 101, 110, 100, 32, 111, 102, 32, 102, 105, 108, 101, 10]) = false := hm
      have hm3 : (s != [92, 32, 78, 111, 32, 110, 101, 119, 108, 105, 110, 101, 32, 97, 116, 32, 101, 110, 100, 32, 111, 102, 32, 102, 105, 108, 101, 10]) = true := (by unfold bne; rw [hm2]; rfl)
      have e0 : ((p : Int) == (L.length : Int)) = false := beq_eq_false_iff_ne.2 (by omega)
      clear HB hL q hcl hm hPl
      have i1 : (0 : Int) ≤ (p : Int) := by omega
      have i2 : (p : Int) < (L.length : Int) := by omega
      have i3 : (p : Int).toNat = p := by omega
      go_enter Tryd.func151, Tryd.ntmps151
      go_wp2_with fail
      go_quiet (fail)
      go_wp2
      first
        | go_end0
        | refine bodyPost_ret (results_none rfl _ _ _) rfl ?_
        | refine bodyPost_end (results_none rfl _ _ _) rfl ?_
      exact ⟨rfl, _, rfl⟩
    · have e0 : ((p : Int) == (L.length : Int)) = true := beq_iff_eq.2 (by omega)
      clear HB hL q hPl
      go_enter Tryd.func151, Tryd.ntmps151
      go_wp2_with fail
      go_quiet (fail)
      go_wp2
      first
        | go_end0
        | refine bodyPost_ret (results_none rfl _ _ _) rfl ?_
        | refine bodyPost_end (results_none rfl _ _ _) rfl ?_
      exact ⟨rfl, _, rfl⟩
set_option maxRecDepth 20000 in
set_option maxHeartbeats 4000000 in
theorem nend_yes {R g o : Nat} {L : List (List UInt8)} {lo : Option Addr} {lc : Nat} {p : Nat} (w : World) (q : Ry w R (.slice lo L.length lc) p) (hL : HS w (.slice lo L.length lc) L) (hPl : Plain L) (hLl : L.length ≤ 2199023255552) (hgR : R ≠ g)
    (T t : List UInt8) (HTt : Hid (T = t ++ [10])) (htl : T.length ≤ 1099511627776) (ct : w.cell? ⟨g, o + 1, none⟩ = some (.string ⟨T.toArray⟩)) (cf : w.frozen? ⟨g, o + 1, none⟩ = false) (HB : Hid ((T != [10] && pkM (L.drop p)) = true)) :
    Calls Tryd.prog 151 #[.pointer (some ⟨R, 0, none⟩), .pointer (some ⟨g, o, none⟩)] w fun x w' => x = .returned (.tuple #[]) ∧ ∃ n, w' = ((w.drewN n).setCell ⟨g, o + 1, none⟩ (.string ⟨t.toArray⟩)).setCell ⟨R, 1, none⟩ (.int .i64 ((p : Int) + 1)) := by
  obtain ⟨c0, c1⟩ := q.cells
  have hb := HB.out
  rw [Bool.and_eq_true] at hb
  have hlt : p < L.length := (by
    by_cases h : p < L.length
    · exact h
    · have e : L.drop p = [] := List.drop_eq_nil_of_le (by omega)
      rw [e] at hb
      cases hb.2)
  have e1 : (T == [10]) = false := (by
    have := bne_iff_ne.1 hb.1
    exact beq_eq_false_iff_ne.2 this)
  have hm : L[p] = markT := (by
    have h := hb.2
    rw [pkM_at hPl hlt, beq_iff_eq] at h
    exact h)
  obtain ⟨bk, off, rfl, hbk, hcl⟩ := HS.at hL (by omega)
  have d4 := hcl p hlt
  rw [hm] at d4
  have e0 : ((p : Int) == (L.length : Int)) = false := beq_eq_false_iff_ne.2 (by omega)
  have f1 := q.frozen 1
  have HTS : Hid (Lib.trimSuffix T [10] = t) := (by
    show _ = _
    rw [HTt.out]
    unfold Lib.trimSuffix
    rw [suf_feed, if_pos (fd_snoc t)]
    simp)
  unfold markT at d4
  clear HB hL q hcl hm hPl hb
  have i1 : (0 : Int) ≤ (p : Int) := by omega
  have i2 : (p : Int) < (L.length : Int) := by omega
  have i3 : (p : Int).toNat = p := by omega
  go_enter Tryd.func151, Tryd.ntmps151
  go_wp2_with fail
  go_quiet (fail)
  go_wp2_with fail
  have c1' : (w.drewN nq).cell? ⟨R, 1, none⟩ = _ := c1
  have ct' : (w.drewN nq).cell? ⟨g, o + 1, none⟩ = _ := ct
  have cf' : (w.drewN nq).frozen? ⟨g, o + 1, none⟩ = false := cf
  have f1' : (w.drewN nq).frozen? ⟨R, 1, none⟩ = false := f1
  have HM : Hid (∃ k, w.drewN nq = w.drewN k) := ⟨_, rfl⟩
  clear c0 c1 d4 ct cf f1
  generalize w.drewN nq = W1 at c1' ct' cf' f1' HM ⊢
  refine (Tryd.strings_TrimSuffix ⟨T.toArray⟩ ⟨#[10]⟩ W1 (by show T.length ≤ _; omega)).mono ?_
  rintro e w2 ⟨rfl, rfl⟩
  have e2 : Lib.trimSuffix (⟨T.toArray⟩ : ByteArray).data.toList (⟨#[10]⟩ : ByteArray).data.toList = t := HTS.out
  rw [e2]
  clear e2
  have c1'' : (w2.setCell ⟨g, o + 1, none⟩ (.string ⟨t.toArray⟩)).cell? ⟨R, 1, none⟩ = some (.int .i64 (p : Int)) := (by
    have h := (grown_set w2 g (o + 1) (.string ⟨t.toArray⟩)).cell c1' (fun e => hgR (Option.some.inj e))
    exact h)
  have f1'' : (w2.setCell ⟨g, o + 1, none⟩ (.string ⟨t.toArray⟩)).frozen? ⟨R, 1, none⟩ = false := (by
    unfold World.frozen? at f1' ⊢
    dsimp only at f1' ⊢
    rw [Below.heap_setCell _ _ _ R hgR]
    exact f1')
  go_wp2
  first
    | go_end0
    | refine bodyPost_ret (results_none rfl _ _ _) rfl ?_
    | refine bodyPost_end (results_none rfl _ _ _) rfl ?_
  obtain ⟨k, hk⟩ := HM.out
  exact ⟨rfl, k, by rw [← hk]⟩
end Go.Proofs.YtgiojkhmkeocfaaDoor

/- The code's reader, walked: a side of a hunk. -/
namespace Go.Proofs.YtgiojkhmkeocfaaDoor
open Go.RowKit
attribute [local go_sem] ByteArray.extract_mk no_at

theorem owns_fr {w u : World} {B R : Nat} {e : TypeId} {s : Nat} {v : Value} {n : Nat} {xs : List Value} (h : w.ownsRow B e s v n xs) (hg : w.grownBy u (some R)) (hR : R < B) : u.ownsRow B e s v n xs := by
  refine ⟨h.1, ?_⟩
  rcases h.2 with q | ⟨g, cap, cur, rfl, q2, q3, q4⟩
  · exact .inl q
  · refine .inr ⟨g, cap, cur, rfl, q2, ?_, q4⟩
    rw [hg.block g (Array.getElem?_eq_some_iff.1 q3).1 (fun e => by cases e; omega)]
    exact q3
/-- the last text of a row of one's own can be written -/
theorem owns_last {w : World} {B : Nat} {v : Value} {l : List Mk} {m : Mk} (h : w.ownsRow B 91 2 v (l.length + 1) (mkcells (l ++ [m]))) : ∃ g cap, v = .slice (some ⟨g, 0, none⟩) (l.length + 1) cap ∧ B ≤ g ∧ g < w.heap.size ∧ w.cell? ⟨g, l.length * 2 + 1, none⟩ = some (.string ⟨m.tx.toArray⟩) ∧ w.frozen? ⟨g, l.length * 2 + 1, none⟩ = false ∧
    ∀ (u : World) (t : List UInt8), u.heap[g]? = w.heap[g]? → (u.setCell ⟨g, l.length * 2 + 1, none⟩ (.string ⟨t.toArray⟩)).ownsRow B 91 2 v (l.length + 1) (mkcells (l ++ [⟨m.sg, t⟩])) := by
  rcases h.2 with ⟨_, q⟩ | ⟨g, cap, cur, rfl, q2, q3, q4, q5, q6, q7⟩
  · omega
  · have hmk : ∀ x : Mk, mkcells (l ++ [x]) = mkcells l ++ [.int .u8 x.sg, .string ⟨x.tx.toArray⟩] := fun x => by rw [mkcells_append]; rfl
    have hl := mkcells_length l
    have hcur : cur.toList.take ((l.length + 1) * 2) = mkcells l ++ [.int .u8 m.sg, .string ⟨m.tx.toArray⟩] := by rw [q7, hmk]
    have hcell : cur[l.length * 2 + 1]? = some (.string ⟨m.tx.toArray⟩) := by
      have h1 : (cur.toList.take ((l.length + 1) * 2))[l.length * 2 + 1]? = some (.string ⟨m.tx.toArray⟩) := by
        rw [hcur, List.getElem?_append_right (by omega), hl]
        have : l.length * 2 + 1 - l.length * 2 = 1 := by omega
        rw [this]
        rfl
      rw [List.getElem?_take_of_lt (by omega)] at h1
      simpa using h1
    refine ⟨g, cap, rfl, q2, (Array.getElem?_eq_some_iff.1 q3).1, ?_, Lib.frozen_of_heap q3 _, ?_⟩
    · rw [Lib.cell_of_heap q3]
      exact hcell
    · intro u t hu
      have hs := heap_setCell_same u g (l.length * 2 + 1) cur _ (.string ⟨t.toArray⟩) (hu.trans q3)
      refine ⟨by rw [mkcells_length]; simp, .inr ⟨g, cap, _, rfl, q2, hs, q4, q5, by simpa using q6, ?_⟩⟩
      rw [hmk]
      have e1 : (cur.setIfInBounds (l.length * 2 + 1) (.string ⟨t.toArray⟩)).toList = cur.toList.set (l.length * 2 + 1) (.string ⟨t.toArray⟩) := by simp
      rw [e1, List.take_set, hcur, List.set_append_right _ _ (by omega), hl]
      have : l.length * 2 + 1 - l.length * 2 = 1 := by omega
      rw [this]
      rfl
theorem pre_feed {sg s : List UInt8} (h : ∀ c ∈ sg, c ≠ 10) : Lib.hasPrefix (s ++ [10]) sg = sg.isPrefixOf s := by
  unfold Lib.hasPrefix
  rw [Bool.eq_iff_iff, List.isPrefixOf_iff_prefix, List.isPrefixOf_iff_prefix]
  constructor
  · intro hp
    have hp2 := List.prefix_iff_eq_take.1 hp
    by_cases hl : sg.length ≤ s.length
    · rw [List.take_append_of_le_length hl] at hp2
      exact List.prefix_iff_eq_take.2 hp2
    · exfalso
      have h3 : (s ++ [10]).take sg.length = s ++ [10] := List.take_of_length_le (by simp; omega)
      rw [h3] at hp2
      exact h 10 (by rw [hp2]; simp) rfl
  · rintro ⟨t, rfl⟩
    exact ⟨t ++ [10], by simp⟩
theorem trim_feed {sg s : List UInt8} (h : ∀ c ∈ sg, c ≠ 10) (hp : sg.isPrefixOf s = true) : Lib.trimPrefix (s ++ [10]) sg = s.drop sg.length ++ [10] := by
  unfold Lib.trimPrefix
  rw [pre_feed h, if_pos hp, List.drop_append_of_le_length]
  exact (List.isPrefixOf_iff_prefix.1 hp).length_le
/-- what a side leaves behind -/
def SdQ (B R : Nat) (vL : Value) (m0 : List Mk) (X : Except (Nat × Int) (List Mk × Nat × List (List UInt8))) (w : World) (x : Ending) (w' : World) : Prop :=
  match X with
  | .error (a, e) => Thr (a : Int) e x w' ∧ Fr B R w w'
  | .ok (l, p1, _) => ∃ v', x = .returned v' ∧ w'.ownsRow B 91 2 v' (m0 ++ l).length (mkcells (m0 ++ l)) ∧ Ry w' R vL (p1 : Int) ∧ Fr B R w w'
def thenL (m : List Mk) (X : Except (Nat × Int) (List Mk × Nat × List (List UInt8))) : Except (Nat × Int) (List Mk × Nat × List (List UInt8)) :=
  match X with
  | .error e => .error e
  | .ok (l, p1, r) => .ok (m ++ l, p1, r)
theorem thenL_nil (X : Except (Nat × Int) (List Mk × Nat × List (List UInt8))) : thenL [] X = X := by
  unfold thenL
  rcases X with e | ⟨l, p, r⟩ <;> rfl
theorem rdL_succ {sg : List UInt8} {S : Int} {n p : Nat} {ls r : List (List UInt8)} {s : List UInt8} (h : nxt p ls = .ok (s, r)) (m : List Mk) : thenL m (rdL sg S (n + 1) p ls) = if sg.isPrefixOf s = true then thenL (m ++ [⟨S, s.drop sg.length ++ [10]⟩]) (rdL sg S n (p + 1) r) else .error (p + 1, 3) := by
  simp only [rdL]
  rw [h]
  dsimp only
  split
  · cases rdL sg S n (p + 1) r with
    | error e => rfl
    | ok z => simp [thenL]
  · rfl
theorem nxt_rest {p : Nat} {L r : List (List UInt8)} {s : List UInt8} (h : nxt p (L.drop p) = .ok (s, r)) : r = L.drop (p + 1) ∧ p < L.length ∧ ∃ hp : p < L.length, L[p] = s ++ [10] := by
  have h1 := nxt_ok h
  have hp : p < L.length := by
    by_cases h2 : p < L.length
    · exact h2
    · rw [List.drop_eq_nil_of_le (by omega)] at h1
      cases h1
  have h3 := List.drop_eq_getElem_cons hp
  rw [h3] at h1
  injection h1 with h4 h5
  exact ⟨h5.symm, hp, hp, h4⟩
end Go.Proofs.YtgiojkhmkeocfaaDoor

/- The context form as texts and as lines: how it is written, how it is read; plain mathematics. -/
namespace Go.Proofs.YtgiojkhmkeocfaaDoor
open Ln

/-- a patch -/
structure Pth where
  old : List UInt8
  new : List UInt8
  hs : List Hk

/-- /dev/null -/
def devN : List UInt8 := [47, 100, 101, 118, 47, 110, 117, 108, 108]
/-- a byte that stands for itself in a name -/
def nameC (c : UInt8) : Bool := decide (33 ≤ c.toNat ∧ c.toNat ≤ 126 ∧ c.toNat ≠ 34)
/-- a name as it stands in a patch -/
def nameT (s : List UInt8) : List UInt8 := if s = [] then devN else if s.all nameC = true ∧ s ≠ devN then s else Q.quote s
/-- the name that a text may stand for -/
def unN (s : List UInt8) : Option (List UInt8) := if s = devN then some [] else if s.head? = some 34 then (match Q.unquote s with | some (t, []) => some t | _ => none) else some s
/-- the name that stands in a patch -/
def namedP (s : List UInt8) : Option (List UInt8) := match unN s with
  | none => none
  | some n => if n.length ≤ 64 ∧ nameT n = s then some n else none

/-- a range of n lines behind the number p -/
def spanT (p n : Int) : List UInt8 := if n ≤ 1 then Lib.itoa p else Lib.itoa p ++ 44 :: Lib.itoa (p + n - 1)
/-- does the piece that a list begins within have a sign? -/
def anyS (sg : Int) : List Mk → Bool
  | [] => false
  | m :: l => if m.sg = 32 then false else decide (m.sg = sg) || anyS sg l
/-- the lines of a side; r, a: the piece has lines that are taken out, put in, so far -/
def sidL (sg : Int) : Bool → Bool → List Mk → List (List UInt8)
  | _, _, [] => []
  | r, a, m :: l => if m.sg = 32 then lnL [32, 32] m.tx ++ sidL sg false false l
    else if m.sg = sg then lnL (if ((r || anyS 45 (m :: l)) && (a || anyS 43 (m :: l))) = true then [33, 32] else [UInt8.ofNat sg.toNat, 32]) m.tx ++ sidL sg (r || decide (m.sg = 45)) (a || decide (m.sg = 43)) l
    else sidL sg (r || decide (m.sg = 45)) (a || decide (m.sg = 43)) l
/-- the lines of a side, nothing, if none of them is changed -/
def sideL (sg : Int) (l : List Mk) : List (List UInt8) := if (l.any fun m => decide (m.sg = sg)) = true then sidL sg false false l else []
def starsT : List UInt8 := [42, 42, 42, 42, 42, 42, 42, 42, 42, 42, 42, 42, 42, 42, 42]
/-- a line with a range -/
def rlT (e : UInt8) (p n : Int) : List UInt8 := [e, e, e, 32] ++ spanT p n ++ [32, e, e, e, e, 10]
/-- a hunk, as lines -/
def hkL (h : Hk) : List (List UInt8) := (starsT ++ [10]) :: rlT 42 h.A h.AN :: (sideL 45 h.ls ++ rlT 45 h.B h.BN :: sideL 43 h.ls)
/-- a patch, as lines -/
def ptL (p : Pth) : List (List UInt8) := if p.hs = [] then [] else ([42, 42, 42, 32] ++ nameT p.old ++ [10]) :: ([45, 45, 45, 32] ++ nameT p.new ++ [10]) :: p.hs.flatMap hkL
/-- what is wrong with a patch -/
def wrgP (p : Pth) : Int := if 64 < p.old.length ∨ 64 < p.new.length then 253 else if 4096 < p.hs.length then 9 else errs p.hs
/-- Print's text -/
def ptT (p : Pth) : List UInt8 := if wrgP p = 0 then (ptL p).flatten else []

/-- a line with a name -/
def namP (ah : List UInt8) (p : Nat) (ls : List (List UInt8)) : Except (Nat × Int) (List UInt8 × List (List UInt8)) :=
  match nxt p ls with
  | .error e => .error e
  | .ok (s, r) => if ah.isPrefixOf s = true then match namedP (s.drop 4) with
    | none => .error (p + 1, 253)
    | some n => .ok (n, r) else .error (p + 1, 3)
/-- a range: the number, how many (-1: one or none) -/
def rngI (s : List UInt8) : Option (Int × Int) := if Pn.parseE s = 0 then some (Pn.parseV s, -1) else lnsP s
/-- what stands between three bytes and a blank, a blank and four bytes -/
def innR (e : UInt8) (s : List UInt8) : Option (List UInt8) := if 9 ≤ s.length ∧ s.take 4 = [e, e, e, 32] ∧ s.drop (s.length - 5) = [32, e, e, e, e] then some ((s.drop 4).take (s.length - 9)) else none
/-- a line with a range -/
def rngP (e : UInt8) (p : Nat) (ls : List (List UInt8)) : Except (Nat × Int) ((Int × Int) × List (List UInt8)) :=
  match nxt p ls with
  | .error x => .error x
  | .ok (s, r) => match innR e s with
    | none => .error (p + 1, 3)
    | some t => match rngI t with
      | none => .error (p + 1, 3)
      | some q => .ok (q, r)
/-- a line of a side begins so -/
def isSd (sg : UInt8) : List UInt8 → Bool
  | a :: b :: _ => (a == 32 || a == sg || a == 33) && b == 32
  | _ => false
/-- the lines of a side: kinds and texts -/
def rdS (sg : UInt8) : Nat → List (List UInt8) → Except (Nat × Int) (List (UInt8 × List UInt8) × Nat × List (List UInt8))
  | p, [] => .ok ([], p, [])
  | p, s :: r => if isSd sg s = true then if fdB s = true then if pkM r = true ∧ 3 < s.length then .ok ([(s.headD 0, (s.drop 2).dropLast)], p + 2, r.tail) else match rdS sg (p + 1) r with
      | .error e => .error e
      | .ok (l, p2, r2) => .ok ((s.headD 0, s.drop 2) :: l, p2, r2)
    else .error (p + 1, 3) else .ok ([], p, s :: r)
abbrev Sde := List (UInt8 × List UInt8)
/-- the lines with two blanks -/
def keptS (x : Sde) : Sde := x.filter fun y => y.1 == 32
/-- is no line of a side changed? -/
def sameS (x : Sde) : Bool := x.all fun y => y.1 == 32
/-- the changed lines ahead, and what is behind them -/
def chgS (x : Sde) : Sde := x.takeWhile fun y => y.1 != 32
def rstS (x : Sde) : Sde := x.dropWhile fun y => y.1 != 32
def allS (k : UInt8) (x : Sde) : Bool := x.all fun y => y.1 == k
def okJ (x y : Sde) : Bool := if x ≠ [] ∧ y ≠ [] then allS 33 x && allS 33 y else allS 45 x && allS 43 y
def mkS (s : Int) (x : Sde) : List Mk := x.map fun y => ⟨s, y.2⟩
/-- both sides as one -/
def jnS : Nat → Sde → Sde → Option (List Mk)
  | 0, _, _ => none
  | f + 1, o, w => if okJ (chgS o) (chgS w) = true then match rstS o, rstS w with
      | [], [] => some (mkS 45 (chgS o) ++ mkS 43 (chgS w))
      | (_, s) :: o2, (_, t) :: w2 => if s = t then match jnS f o2 w2 with
        | none => none
        | some l => some (mkS 45 (chgS o) ++ (mkS 43 (chgS w) ++ ⟨32, s⟩ :: l)) else none
      | _, _ => none
    else none
/-- what a range says is other than there are lines -/
def cntS (n : Int) (x : Sde) : Bool := decide (n < 0 ∧ 1 < x.length ∨ 0 ≤ n ∧ n ≠ x.length)
def oldF (o w : Sde) : Sde := if o = [] then keptS w else o
def newF (o w : Sde) : Sde := if o ≠ [] ∧ w = [] then keptS o else w
/-- a hunk's lines are through: at the line of stars, the lines of both ranges -/
def finH (at0 ato atw : Nat) (po no pw nw : Int) (o w : Sde) : Except (Nat × Int) Hk :=
  if sameS o = true ∧ sameS w = true then .error (at0, 50) else
  if cntS no (oldF o w) = true then .error (ato, 120) else
  if cntS nw (newF o w) = true then .error (atw, 120) else
  if po = 0 ∧ oldF o w ≠ [] then .error (ato, 2) else
  if pw = 0 ∧ newF o w ≠ [] then .error (atw, 2) else
  match jnS ((oldF o w).length + 1) (oldF o w) (newF o w) with
  | none => .error (at0, 190)
  | some l => .ok ⟨po, (oldF o w).length, pw, (newF o w).length, l⟩
/-- is a line a line of stars? -/
def isSt (s : List UInt8) : Bool := starsT.isPrefixOf s && ((s.drop 15).isEmpty || (s.drop 15).head? == some 32)
/-- a hunk; so many are ahead of it -/
def cxH (k p : Nat) (ls : List (List UInt8)) : Except (Nat × Int) (Hk × Nat × List (List UInt8)) :=
  match nxt p ls with
  | .error e => .error e
  | .ok (s, r) => if isSt s = true then if 4096 ≤ k then .error (p + 1, 9) else match rngP 42 (p + 1) r with
    | .error e => .error e
    | .ok ((po, no), r1) => match rdS 45 (p + 2) r1 with
      | .error e => .error e
      | .ok (o, p2, r2) => match rngP 45 p2 r2 with
        | .error e => .error e
        | .ok ((pw, nw), r3) => match rdS 43 (p2 + 1) r3 with
          | .error e => .error e
          | .ok (w, p4, r4) => match finH (p + 1) (p + 2) (p2 + 1) po no pw nw o w with
            | .error e => .error e
            | .ok h => .ok (h, p4, r4)
    else .error (p + 1, 3)
/-- does the next line begin with stars? -/
def pkS : List (List UInt8) → Bool
  | [] => false
  | s :: _ => starsT.isPrefixOf s
/-- the hunks of a patch, by as many steps as there are lines -/
def cxHs : Nat → Nat → Nat → List (List UInt8) → Except (Nat × Int) (List Hk × Nat × List (List UInt8))
  | 0, _, p, _ => .error (p + 1, 1)
  | f + 1, k, p, ls => match cxH k p ls with
    | .error e => .error e
    | .ok (h, p1, r) => if pkS r = true then match cxHs f (k + 1) p1 r with
        | .error e => .error e
        | .ok (l, p2, r2) => .ok (h :: l, p2, r2)
      else .ok ([h], p1, r)
/-- all patches -/
def cxPs : Nat → Nat → Nat → List (List UInt8) → Except (Nat × Int) (List Pth)
  | 0, _, _, _ => .ok []
  | f + 1, k, p, ls => if ls = [] then .ok [] else match namP [42, 42, 42, 32] p ls with
    | .error e => .error e
    | .ok (n1, r1) => if 64 ≤ k then .error (p + 1, 9) else match namP [45, 45, 45, 32] (p + 1) r1 with
      | .error e => .error e
      | .ok (n2, r2) => match cxHs (r2.length + 1) 0 (p + 2) r2 with
        | .error e => .error e
        | .ok (hs, p3, r3) => match cxPs f (k + 1) p3 r3 with
          | .error e => .error e
          | .ok l => .ok (⟨n1, n2, hs⟩ :: l)
/-- a text is read -/
def cxT (t : List UInt8) : Except (Nat × Int) (List Pth) := if 1048576 < t.length then .error (0, 9) else cxPs (splitL t).length 0 0 (splitL t)

/- names -/
theorem quote_head (s : List UInt8) : (Q.quote s).head? = some 34 := by simp [Q.quote]
theorem quote_dev (s : List UInt8) : Q.quote s ≠ devN := by
  intro h
  have := congrArg List.head? h
  rw [quote_head] at this
  exact absurd this (by decide)
theorem name_un (n : List UInt8) : unN (nameT n) = some n := by
  unfold nameT
  split
  · rename_i h
    subst h
    rfl
  · split
    · rename_i h0 h
      unfold unN
      rw [if_neg h.2, if_neg ?_]
      cases n with
      | nil => exact absurd rfl h0
      | cons c t =>
        intro hq
        simp only [List.head?_cons, Option.some.injEq] at hq
        have := List.all_eq_true.1 h.1 c (by simp)
        rw [hq] at this
        exact absurd this (by decide)
    · unfold unN
      rw [if_neg (quote_dev n), if_pos (quote_head n)]
      have := unquote_back n []
      rw [List.append_nil] at this
      rw [this]
theorem named_iff (s n : List UInt8) : namedP s = some n ↔ s = nameT n ∧ n.length ≤ 64 := by
  constructor
  · intro h
    unfold namedP at h
    split at h
    · cases h
    · split at h
      · rename_i hq
        cases h
        exact ⟨hq.2.symm, hq.1⟩
      · cases h
  · rintro ⟨rfl, h⟩
    unfold namedP
    rw [name_un]
    show (if n.length ≤ 64 ∧ nameT n = nameT n then some n else none) = some n
    rw [if_pos ⟨h, rfl⟩]
theorem nameC_ne {c : UInt8} (h : nameC c = true) : c ≠ 10 := by
  intro e
  subst e
  exact absurd h (by decide)
theorem name_plain (n : List UInt8) : ∀ c ∈ nameT n, c ≠ 10 := by
  unfold nameT
  split
  · decide
  · split
    · rename_i h
      intro c hc
      exact nameC_ne (List.all_eq_true.1 h.1 c hc)
    · intro c hc e
      subst e
      have := (quote_print n 10 hc).1
      exact absurd this (by decide)

/- ranges -/
theorem span_plain {p n : Int} (hp : 0 ≤ p) : ∀ c ∈ spanT p n, numC c = true := by
  unfold spanT
  split
  · intro c hc
    simp [numC, itoa_dig hp c hc]
  · intro c hc
    rcases List.mem_append.1 hc with hc | hc
    · simp [numC, itoa_dig hp c hc]
    · rcases List.mem_cons.1 hc with rfl | hc
      · decide
      · simp [numC, itoa_dig (by omega) c hc]
/-- how many a range says -/
def sayN (n : Int) : Int := if n ≤ 1 then -1 else n
theorem not_num {x y : List UInt8} : Pn.parseE (x ++ 44 :: y) ≠ 0 := by
  have h : Pn.isNum (x ++ 44 :: y) = false := by
    refine Pn.isNum_bad x.length (by simp) ?_
    simp
  unfold Pn.parseE
  rw [if_neg (by rw [h]; decide)]
  decide
theorem span_back {p n : Int} (hp : 0 ≤ p) (h1 : 2 ≤ n → 1 ≤ p) (hb : p ≤ 2147483647) (h2 : 2 ≤ n → p + n - 1 ≤ 2147483647) : rngI (spanT p n) = some (p, sayN n) := by
  unfold spanT sayN rngI
  by_cases h : n ≤ 1
  · rw [if_pos h, if_pos h]
    obtain ⟨e1, e2⟩ := parse_itoa_ok hp hb
    rw [if_pos e2, e1]
  · rw [if_neg h, if_neg h, if_neg not_num]
    have := lnsP_rng (p := p - 1) (n := n) (by have := h1 (by omega); omega) (by omega) (by have := h2 (by omega); omega)
    unfold rngT at this
    rw [if_neg (by omega)] at this
    have e1 : p - 1 + 1 = p := by omega
    have e2 : p - 1 + n = p + n - 1 := by omega
    rw [e1, e2] at this
    exact this
theorem inn_back (e : UInt8) (t : List UInt8) : innR e ([e, e, e, 32] ++ t ++ [32, e, e, e, e]) = some t := by
  unfold innR
  have hl : ([e, e, e, 32] ++ t ++ [32, e, e, e, e]).length = t.length + 9 := by simp
  rw [if_pos]
  · rw [hl]
    simp
  · refine ⟨by omega, by simp, ?_⟩
    rw [hl]
    have : t.length + 9 - 5 = ([e, e, e, 32] ++ t).length := by simp
    rw [this, List.drop_left]
theorem rl_back {e : UInt8} (p : Nat) {q n : Int} (hp : 0 ≤ q) (h1 : 2 ≤ n → 1 ≤ q) (hb : q ≤ 2147483647) (h2 : 2 ≤ n → q + n - 1 ≤ 2147483647) (r : List (List UInt8)) : rngP e p (rlT e q n :: r) = .ok ((q, sayN n), r) := by
  have e1 : rlT e q n = ([e, e, e, 32] ++ spanT q n ++ [32, e, e, e, e]) ++ [10] := by simp [rlT]
  unfold rngP
  rw [e1]
  simp only [nxt, fd_snoc, if_true, List.dropLast_concat]
  rw [inn_back]
  simp only
  rw [span_back hp h1 hb h2]
end Go.Proofs.YtgiojkhmkeocfaaDoor
