/-
  Texts that belong together, joined: HuC1, EdRChk, HuIv, PaMath, PaRow, PaCp, MiMath, EdMk, MiLen, MiMs, MiFr, MiLc, MiRep, MiKp, MiKw, MiDf, MiKm, PcMath, HiMath, HiRuns, EdOpen, HiMp, PcSl, HiGr, HiCm, HiOd, HiBm.
-/
import Derived.Test.YtgiojkhmkeocfaaGreatDoorCtParA2
import Derived.Deep.CutRange
import Derived.Laws.CopyOwn
import Derived.Lib.Overlaps
import Derived.Lib.AppendZerosOnto
import Derived.Sort.AtCall
import Derived.Laws.Bits64b
import Derived.Test.YtgiojkhmkeocfaaGreatDoorRows
import Derived.Test.YtgiojkhmkeocfaaGreatDoorChecked
import Derived.ProofKit
import Derived.OpenShut
import Derived.ShutString
import Derived.ChangeOld
import Derived.Below
import Derived.SliceStrings
import Derived.ChangeSlices
import Derived.Deep.Slices
import Derived.Deep.SlicePairs
import Derived.JoinedCond
import Derived.Maps.OwnSet
import Derived.Carry
import Derived.Maps.OwnRows
import Derived.Maps.GroupsBeside

/- The code's small functions of layer 11, walked: the lines of a side, numbers, places, signs. -/
set_option maxRecDepth 20000
namespace Go.Proofs.YtgiojkhmkeocfaaGreatDoor
open Go.RowKit

/-- which sign a side has, and which it has not -/
def Sd (sg no : Int) : Prop := sg = 45 ∧ no = 43 ∨ sg = 43 ∧ no = 45
theorem sd_iff {sg no : Int} (h : Sd sg no) (s : Int) : (s ≠ no ∧ okS s = true) ↔ (s = 32 ∨ s = sg) := by
  simp only [okS, Bool.or_eq_true, decide_eq_true_eq]
  rcases h with ⟨rfl, rfl⟩ | ⟨rfl, rfl⟩ <;> omega
theorem pk_take {sg no : Int} (h : Sd sg no) {s : Int} (hs : s = 32 ∨ s = sg) {out R : List (List UInt8)} {tx : List UInt8} {l : List Mk} (hI : out ++ (if s ≠ no ∧ okS s = true then tx :: pkL no l else pkL no l) = R) : out ++ [tx] ++ pkL no l = R := by
  rw [if_pos ((sd_iff h s).2 hs)] at hI
  rw [← hI]
  simp
theorem pk_pass {sg no : Int} (h : Sd sg no) {s : Int} (h1 : s ≠ 32) (h2 : s ≠ sg) {out R : List (List UInt8)} {tx : List UInt8} {l : List Mk} (hI : out ++ (if s ≠ no ∧ okS s = true then tx :: pkL no l else pkL no l) = R) : out ++ pkL no l = R := by
  rw [if_neg (fun q => by rcases (sd_iff h s).1 q with q | q <;> contradiction)] at hI
  exact hI

theorem owns_less {u : World} {base base' : Nat} {e : TypeId} {s : Nat} {v : Value} {n : Nat} {xs : List Value} (h : u.ownsRow base e s v n xs) (hb : base' ≤ base) : u.ownsRow base' e s v n xs := by
  refine ⟨h.1, ?_⟩
  rcases h.2 with q | ⟨b, cap, cur, rfl, q2, q3, q4⟩
  · exact .inl q
  · exact .inr ⟨b, cap, cur, rfl, Nat.le_trans hb q2, q3, q4⟩

set_option maxHeartbeats 2000000 in
theorem hside_o (h : Hk) (v : Value) (sd no : Int) (HSD : Hid (Sd sd no)) (w : World) (hv : HMk w v h.ls) (hl : h.ls.length ≤ 1099511627776) (R : List (List UInt8)) (HR : Hid (pkL no h.ls = R)) : Calls Tryz.prog 83 #[hkV h v, .int .u8 sd] w fun e w' => ∃ v', e = .returned v' ∧ w'.ownsRow w.heap.size 9 1 v' R.length (scells R) ∧ Below w.heap.size w w' := by
  obtain ⟨A, AN, B, BN, ls⟩ := h
  dsimp only at hv hl HR
  obtain ⟨lo, lc, rfl⟩ := HMk.form hv
  have hx := Hx.new w ⟨A, AN, B, BN, ls⟩ (.slice lo ls.length lc)
  have hBl : Below w.heap.size w (w.alloc (hkO ⟨A, AN, B, BN, ls⟩ (.slice lo ls.length lc))) := (Below.refl _ w).alloc (Nat.le_refl _) _
  have hv1 := HMk.keep hv hBl (Nat.le_refl _)
  obtain ⟨_, _, _, _, x4⟩ := hx.cells
  have hW : w.alloc (Obj.cells #[Value.int IntKind.i64 A, Value.int IntKind.i64 AN, Value.int IntKind.i64 B, Value.int IntKind.i64 BN, .slice lo ls.length lc] 59) = w.alloc (hkO ⟨A, AN, B, BN, ls⟩ (.slice lo ls.length lc)) := rfl
  have HSZ : Hid ((w.alloc (hkO ⟨A, AN, B, BN, ls⟩ (.slice lo ls.length lc))).heap.size = w.heap.size + 1) := (by show _ = _; simp)
  unfold hkV
  dsimp only
  clear hv hx
  generalize w.alloc (hkO ⟨A, AN, B, BN, ls⟩ (.slice lo ls.length lc)) = W at *
  go_enter Tryz.func83, Tryz.ntmps83
  go_wp2
  clear hW x4
  go_loopw [5, 11] (fun ov iv wr => ∃ (k : Nat) (out : List (List UInt8)), k ≤ ls.length ∧ out.length ≤ k ∧ iv = .int .i64 (k : Int) ∧ (∃ oo oc, ov = .slice oo out.length oc) ∧ St W 9 1 ov out.length (scells out) wr ∧ Hid (out ++ pkL no (ls.drop k) = R)) (fun _ iv _ => ls.length - (intOf iv).toNat)
  case atStart => exact ⟨0, [], Nat.zero_le _, Nat.le_refl _, by go_num, ⟨_, _, rfl⟩, ⟨hnil_row _ _ _ _, Below.refl _ _⟩, HR⟩
  case round =>
    obtain ⟨k, out, hk, hok, rfl, ⟨oo, oc, rfl⟩, hS, HI⟩ := hrel
    by_cases hlt : k < ls.length
    · obtain ⟨b, off, rfl, hb, _⟩ := HMk.at hv1 (by omega)
      obtain ⟨m, hm⟩ : ∃ m, ls[k] = m := ⟨_, rfl⟩
      obtain ⟨c0, c1⟩ := Low.mk hS.low hv1 k hlt hm
      have HI2 : Hid (out ++ (if m.sg ≠ no ∧ okS m.sg = true then m.tx :: pkL no (ls.drop (k + 1)) else pkL no (ls.drop (k + 1))) = R) := (by
        show _ = _
        rw [← HI.out, List.drop_eq_getElem_cons hlt, hm]
        rfl)
      have i1 : 0 ≤ (k : Int) := by omega
      have i2 : (k : Int) < (ls.length : Int) := by omega
      obtain ⟨m0, m1⟩ := (Mx.new wr m).cells
      have hS1 := st_alloc (mkO m) hS
      have hsS := hS.low.size
      have HSM : Hid ((wr.alloc (mkO m)).heap.size = wr.heap.size + 1) := (by show _ = _; simp)
      have hW2 : wr.alloc (Obj.cells #[Value.int IntKind.u8 m.sg, Value.string ⟨m.tx.toArray⟩] 103) = wr.alloc (mkO m) := rfl
      clear HI hm HR
      go_upto_region 5 with fail
      obtain ⟨sg, tx⟩ := m
      dsimp only at m0 m1 c0 c1 HI2 hW2
      generalize hwr1 : wr.alloc (mkO ⟨sg, tx⟩) = wr1 at *
      clear hW2
      have hs1 := hS1.low.size
      by_cases h1 : sg = 32
      · subst h1
        have HI3 : Hid (out ++ [tx] ++ pkL no (ls.drop (k + 1)) = R) := pk_take HSD.out (.inl rfl) HI2.out
        clear HI2
        go_wp2_with (at_builtin; refine wpList_append_h _ (by kernel_rfl) (.tmp 24) (.tmp 27) 23 9 (.string ⟨#[]⟩) 1 16 rfl Tryz.underlying23 infoStr rfl (by decide) (by decide) W.heap.size _ _ _ rfl (hS1.own.alloc _) _ 1 (scells [tx]) rfl (new_holds _ _ _ _ _ (by decide)) rfl (scells_one _) (by omega) (by simp; omega) ?_)
        intro v2 w2 hown2 hgrow2
        have hB2 : Below W.heap.size W w2 := (hS1.low.alloc hS1.low.size _).grown hgrow2 (by simp; omega) (fun _ hj => owns_ge hS1.own hj)
        rw [← scells_append] at hown2
        obtain ⟨oo2, oc2, rfl⟩ := (holds_of hown2).form
        clear hgrow2
        go_wp2
        exact ⟨⟨k + 1, out ++ [tx], by omega, by simp; omega, by go_num, ⟨_, _, by rw [List.length_append]; rfl⟩, ⟨by rw [List.length_append]; exact hown2, hB2⟩, HI3⟩, by simp [intOf]; omega⟩
      · have e1 : (sg == 32) = false := by simpa using h1
        by_cases h2 : sg = sd
        · subst h2
          have HI3 : Hid (out ++ [tx] ++ pkL no (ls.drop (k + 1)) = R) := pk_take HSD.out (.inr rfl) HI2.out
          clear HI2 h1
          go_wp2_with (at_builtin; refine wpList_append_h _ (by kernel_rfl) (.tmp 24) (.tmp 27) 23 9 (.string ⟨#[]⟩) 1 16 rfl Tryz.underlying23 infoStr rfl (by decide) (by decide) W.heap.size _ _ _ rfl (hS1.own.alloc _) _ 1 (scells [tx]) rfl (new_holds _ _ _ _ _ (by decide)) rfl (scells_one _) (by omega) (by simp; omega) ?_)
          intro v2 w2 hown2 hgrow2
          have hB2 : Below W.heap.size W w2 := (hS1.low.alloc hS1.low.size _).grown hgrow2 (by simp; omega) (fun _ hj => owns_ge hS1.own hj)
          rw [← scells_append] at hown2
          obtain ⟨oo2, oc2, rfl⟩ := (holds_of hown2).form
          clear hgrow2
          go_wp2
          exact ⟨⟨k + 1, out ++ [tx], by omega, by simp; omega, by go_num, ⟨_, _, by rw [List.length_append]; rfl⟩, ⟨by rw [List.length_append]; exact hown2, hB2⟩, HI3⟩, by simp [intOf]; omega⟩
        · have e2 : (sg == sd) = false := by simpa using h2
          have HI3 : Hid (out ++ pkL no (ls.drop (k + 1)) = R) := pk_pass HSD.out h1 h2 HI2.out
          clear HI2 h1 h2
          go_wp2
          exact ⟨⟨k + 1, out, by omega, by omega, by go_num, ⟨_, _, rfl⟩, hS1, HI3⟩, by simp [intOf]; omega⟩
    · have HI3 : Hid (out = R) := (by
        have h := HI.out
        rw [List.drop_of_length_le (by omega)] at h
        show out = R
        simpa [pkL] using h)
      clear HI
      have hend : decide ((k : Int) < (ls.length : Int)) = false := decide_eq_false (by omega)
      go_wp2
      go_ret
      refine ⟨_, rfl, ?_, hBl.trans (hS.low.mono (by have := HSZ.out; omega))⟩
      rw [← HI3.out]
      exact owns_less hS.own (by have := HSZ.out; omega)
theorem hOld_o (h : Hk) (v : Value) (w : World) (hv : HMk w v h.ls) (hl : h.ls.length ≤ 1099511627776) (R : List (List UInt8)) (HR : Hid (oldL h = R)) : Calls Tryz.prog 38 #[hkV h v] w fun e w' => ∃ v', e = .returned v' ∧ w'.ownsRow w.heap.size 9 1 v' R.length (scells R) ∧ Below w.heap.size w w' := by
  have hBl : Below w.heap.size w (w.alloc (hkO h v)) := (Below.refl _ w).alloc (Nat.le_refl _) _
  have hv1 := HMk.keep hv hBl (Nat.le_refl _)
  obtain ⟨c0, c1, c2, c3, c4⟩ := (Hx.new w h v).cells
  unfold hkO at c0 c1 c2 c3 c4 hBl hv1
  obtain ⟨lo, lc, rfl⟩ := HMk.form hv
  have e : hkV h (.slice lo h.ls.length lc) = .agg #[.int .i64 h.A, .int .i64 h.AN, .int .i64 h.B, .int .i64 h.BN, .slice lo h.ls.length lc] := rfl
  rw [e]
  go_enter Tryz.func38, Tryz.ntmps38
  go_wp2_with fail
  refine (hside_o h _ 45 43 (.inl ⟨rfl, rfl⟩) _ hv1 hl R HR).mono ?_
  rintro e w1 ⟨v1, rfl, hv1, hB1⟩
  obtain ⟨vo, vc, rfl⟩ := Holds.form (holds_of hv1)
  go_wp2
  go_ret
  exact ⟨_, rfl, owns_less hv1 hBl.size, hBl.trans (hB1.mono hBl.size)⟩
theorem hOld_f (h : Hk) (v : Value) (w : World) (hv : HMk w v h.ls) (hl : h.ls.length ≤ 1099511627776) (R : List (List UInt8)) (HR : Hid (oldL h = R)) : Calls Tryz.prog 38 #[hkV h v] w fun e w' => ∃ v', e = .returned v' ∧ HS w' v' R ∧ Below w.heap.size w w' := by
  refine (hOld_o h v w hv hl R HR).mono ?_
  rintro e w1 ⟨v1, rfl, h1, hB1⟩
  exact ⟨v1, rfl, holds_of h1, hB1⟩
theorem hNew_o (h : Hk) (v : Value) (w : World) (hv : HMk w v h.ls) (hl : h.ls.length ≤ 1099511627776) (R : List (List UInt8)) (HR : Hid (newL h = R)) : Calls Tryz.prog 40 #[hkV h v] w fun e w' => ∃ v', e = .returned v' ∧ w'.ownsRow w.heap.size 9 1 v' R.length (scells R) ∧ Below w.heap.size w w' := by
  have hBl : Below w.heap.size w (w.alloc (hkO h v)) := (Below.refl _ w).alloc (Nat.le_refl _) _
  have hv1 := HMk.keep hv hBl (Nat.le_refl _)
  obtain ⟨c0, c1, c2, c3, c4⟩ := (Hx.new w h v).cells
  unfold hkO at c0 c1 c2 c3 c4 hBl hv1
  obtain ⟨lo, lc, rfl⟩ := HMk.form hv
  have e : hkV h (.slice lo h.ls.length lc) = .agg #[.int .i64 h.A, .int .i64 h.AN, .int .i64 h.B, .int .i64 h.BN, .slice lo h.ls.length lc] := rfl
  rw [e]
  go_enter Tryz.func40, Tryz.ntmps40
  go_wp2_with fail
  refine (hside_o h _ 43 45 (.inr ⟨rfl, rfl⟩) _ hv1 hl R HR).mono ?_
  rintro e w1 ⟨v1, rfl, hv1, hB1⟩
  obtain ⟨vo, vc, rfl⟩ := Holds.form (holds_of hv1)
  go_wp2
  go_ret
  exact ⟨_, rfl, owns_less hv1 hBl.size, hBl.trans (hB1.mono hBl.size)⟩
theorem hNew_f (h : Hk) (v : Value) (w : World) (hv : HMk w v h.ls) (hl : h.ls.length ≤ 1099511627776) (R : List (List UInt8)) (HR : Hid (newL h = R)) : Calls Tryz.prog 40 #[hkV h v] w fun e w' => ∃ v', e = .returned v' ∧ HS w' v' R ∧ Below w.heap.size w w' := by
  refine (hNew_o h v w hv hl R HR).mono ?_
  rintro e w1 ⟨v1, rfl, h1, hB1⟩
  exact ⟨v1, rfl, holds_of h1, hB1⟩

/-- may a hunk say that number of its lines? -/
def nmB (a n : Int) : Bool := nat31 a && nat31 n && !(decide (a = 0) && decide (0 < n))
theorem hnumbered_f (a n : Int) (w : World) (r : Bool) (HR : Hid (nmB a n = r)) : Calls Tryz.prog 59 #[.int .i64 a, .int .i64 n] w fun e w' => e = .returned (.bool r) ∧ w' = w := by
  have hr : r = true ↔ (0 ≤ a ∧ a ≤ 2147483647 ∧ 0 ≤ n ∧ n ≤ 2147483647 ∧ (0 < a ∨ n = 0)) := by
    rw [← HR.out]
    unfold nmB nat31
    simp only [Bool.and_eq_true, decide_eq_true_eq, Bool.not_eq_true', Bool.and_eq_false_iff, decide_eq_false_iff_not]
    omega
  have HRR : Hid (r = true ↔ (0 ≤ a ∧ a ≤ 2147483647 ∧ 0 ≤ n ∧ n ≤ 2147483647 ∧ (0 < a ∨ n = 0))) := hr
  clear hr HR
  have no : ∀ {p : Prop}, p → (p → ¬ (0 ≤ a ∧ a ≤ 2147483647 ∧ 0 ≤ n ∧ n ≤ 2147483647 ∧ (0 < a ∨ n = 0))) → Ending.returned (.bool false) = .returned (.bool r) := fun hp h => by
    cases r with
    | false => rfl
    | true => exact absurd (HRR.out.1 rfl) (h hp)
  go_enter Tryz.func59, Tryz.ntmps59
  by_cases h1 : a < 0
  · go_wp2
    go_ret
    exact ⟨no h1 (fun _ => by omega), rfl⟩
  · have e1 : decide (a < 0) = false := decide_eq_false h1
    by_cases h2 : 2147483647 < a
    · go_wp2
      go_ret
      exact ⟨no h2 (fun _ => by omega), rfl⟩
    · have e2 : decide (2147483647 < a) = false := decide_eq_false h2
      by_cases h3 : n < 0
      · go_wp2
        go_ret
        exact ⟨no h3 (fun _ => by omega), rfl⟩
      · have e3 : decide (n < 0) = false := decide_eq_false h3
        by_cases h4 : 2147483647 < n
        · go_wp2
          go_ret
          exact ⟨no h4 (fun _ => by omega), rfl⟩
        · have e4 : decide (2147483647 < n) = false := decide_eq_false h4
          by_cases h5 : 0 < a
          · obtain rfl : r = true := HRR.out.2 (by omega)
            go_wp2
            go_ret
            exact ⟨rfl, rfl⟩
          · have e5 : decide (0 < a) = false := decide_eq_false h5
            by_cases h6 : n = 0
            · obtain rfl : r = true := HRR.out.2 (by omega)
              subst h6
              go_wp2
              go_ret
              exact ⟨rfl, rfl⟩
            · have e6 : (n == 0) = false := by simpa using h6
              go_wp2
              go_ret
              exact ⟨no h6 (fun _ => by omega), rfl⟩
/-- is a line changed? is its sign none? -/
def chgB (m : Mk) : Bool := decide (m.sg = 45) || decide (m.sg = 43)
theorem hchanged_f (m : Mk) (w : World) : Calls Tryz.prog 63 #[.agg #[.int .u8 m.sg, .string ⟨m.tx.toArray⟩]] w fun e w' => e = .returned (.bool (chgB m)) ∧ Below w.heap.size w w' := by
  obtain ⟨sg, tx⟩ := m
  obtain ⟨m0, m1⟩ := (Mx.new w ⟨sg, tx⟩).cells
  have hB : Below w.heap.size w (w.alloc (mkO ⟨sg, tx⟩)) := (Below.refl _ w).alloc (Nat.le_refl _) _
  unfold mkO at m0 m1 hB
  dsimp only at m0 m1 hB
  unfold chgB
  by_cases h1 : sg = 45
  · subst h1
    go_enter Tryz.func63, Tryz.ntmps63
    go_wp2
    go_ret
    exact ⟨rfl, hB⟩
  · have e1 : (sg == 45) = false := by simpa using h1
    by_cases h2 : sg = 43
    · subst h2
      go_enter Tryz.func63, Tryz.ntmps63
      go_wp2
      go_ret
      exact ⟨rfl, hB⟩
    · have e2 : (sg == 43) = false := by simpa using h2
      have HE : Hid ((decide (sg = 45) || decide (sg = 43)) = false) := (by show _ = _; simp [h1, h2])
      rw [HE.out]
      clear HE h1 h2
      go_enter Tryz.func63, Tryz.ntmps63
      go_wp2
      go_ret
      exact ⟨rfl, hB⟩
theorem hstrange_f (m : Mk) (w : World) : Calls Tryz.prog 61 #[.agg #[.int .u8 m.sg, .string ⟨m.tx.toArray⟩]] w fun e w' => e = .returned (.bool (!okS m.sg)) ∧ Below w.heap.size w w' := by
  obtain ⟨m0, m1⟩ := (Mx.new w m).cells
  have hB : Below w.heap.size w (w.alloc (mkO m)) := (Below.refl _ w).alloc (Nat.le_refl _) _
  have hW : w.alloc (.cells #[.int .u8 m.sg, .string ⟨m.tx.toArray⟩] 103) = w.alloc (mkO m) := rfl
  generalize w.alloc (mkO m) = W at *
  by_cases h1 : m.sg = 32
  · have HE : Hid (okS m.sg = true) := (by show _ = _; rw [h1]; rfl)
    rw [HE.out]
    have e1 : (m.sg != 32) = false := by simpa using h1
    clear HE h1
    go_enter Tryz.func61, Tryz.ntmps61
    go_wp2
    go_ret
    exact ⟨rfl, hB⟩
  · have e1 : (m.sg != 32) = true := by simpa using h1
    obtain ⟨r, hr⟩ : ∃ r, chgB m = r := ⟨_, rfl⟩
    have HE : Hid (okS m.sg = r) := (by
      show _ = _
      rw [← hr]
      unfold okS chgB
      simp [h1])
    have HC := hchanged_f m W
    rw [hr] at HC
    rw [HE.out]
    clear HE h1 hr
    go_enter Tryz.func61, Tryz.ntmps61
    go_wp2_with fail
    refine HC.mono ?_
    rintro e w1 ⟨rfl, hB1⟩
    go_wp2
    go_ret
    exact ⟨rfl, hB.trans (hB1.mono hB.size)⟩
end Go.Proofs.YtgiojkhmkeocfaaGreatDoor

/- Which lists of changes are edit scripts: the reference's Check, walked. -/
set_option maxRecDepth 20000
namespace Go.Proofs.YtgiojkhmkeocfaaGreatDoor
open Go.RowKit

end Go.Proofs.YtgiojkhmkeocfaaGreatDoor

/- The reference's Invert of layer 11, walked. -/
set_option maxRecDepth 20000
namespace Go.Proofs.YtgiojkhmkeocfaaGreatDoor
open Go.RowKit

/-- two operations that yield values, whichever comes first -/
theorem go_two {P : Program} {S : World → Prop} {md : Region.Mode} {ops : Array Oper} {Q : Exit → Act → World → Prop} {fuel : Nat} {listed : Array Bool} {A : Act} {w : World}
    (i d : Nat) (op : Oper) (j e : Nat) (oq : Oper) (hi : ops[i]? = some op) (hd : op.dst = some d) (hj : ops[j]? = some oq) (he : oq.dst = some e) (hr : Region.ready md ops listed = [i, j]) (hwt : Region.wanted op (yielded ops A.tmps) = true) (hwq : Region.wanted oq (yielded ops A.tmps) = true)
    (vp : Value) (wp : World) (hp : (execOp A.eval op).run P w = .ok (.value vp) wp) (hSp : S wp)
    (vq : Value) (wq : World) (hq : (execOp A.eval oq).run P w = .ok (.value vq) wq) (hSq : S wq)
    (h : wpAnyH P md ops Q S fuel (listed.setIfInBounds i true) (A.put (some d) vp) wp)
    (h2 : wpAnyH P md ops Q S fuel (listed.setIfInBounds j true) (A.put (some e) vq) wq) :
    wpAnyH P md ops Q S (fuel + 1) listed A w := by
  refine wpAnyH_ready hr (by simp) (AllReadyH.cons hi (fun K hK => ?_) (AllReadyH.cons hj (fun K hK => ?_) AllReadyH.nil))
  · refine step_want hwt ?_
    unfold Oper.wp
    rw [hp, Oper.upon_value]
    exact hK.out _ _ hSp (fun _ => by rw [hd]; exact h)
  · refine step_want hwq ?_
    unfold Oper.wp
    rw [hq, Oper.upon_value]
    exact hK.out _ _ hSq (fun _ => by rw [he]; exact h2)
/-- append, run by itself -/
theorem exec_app {w w' : World} {T : TypeId} {v vx v' : Value} {op : Oper} (x y : Operand) (ho : op.op = .call { callee := .builtin .append, args := #[x, y], argTypes := #[T, T] }) {ev : Operand → Value} (hx : ev x = v) (hy : ev y = vx) (hr : (Builtin.append_ #[T, T] op.type #[v, vx]).run Tryz.prog w = .ok v' w') :
    (execOp ev op).run Tryz.prog w = .ok (.value v') w' := by
  simp [execOp, ho, resolve, invoke, builtin, hx, hy, hr, Result.andThen]
/-- lines that grow in a hunk's box, and lines that wait: all else as it was -/
structure Iv (w : World) (q : Hk) (ov : Value) (x : List Mk) (av : Value) (y : List Mk) (u : World) : Prop where
  low : Below w.heap.size w u
  box : Hx u w.heap.size q ov
  own : u.ownsRow (w.heap.size + 1) 103 2 ov x.length (mkcells x)
  add : u.ownsRow (w.heap.size + 1) 103 2 av y.length (mkcells y)
  ne : ∀ g, ov.ownBlock = some g → av.ownBlock ≠ some g
section
variable {w : World} {q : Hk} {ov ov' av av' : Value} {x x' y y' : List Mk} {u u' : World}
theorem Iv.alloc (h : Iv w q ov x av y u) (o : Obj) : Iv w q ov x av y (u.alloc o) :=
  ⟨h.low.alloc h.low.size o, h.box.low ((Below.refl _ u).alloc (Nat.le_refl _) o), h.own.alloc o, h.add.alloc o, h.ne⟩
theorem Iv.drewN (h : Iv w q ov x av y u) (n : Nat) : Iv w q ov x av y (u.drewN n) := ⟨Below.dN h.low n, h.box, h.own, h.add, h.ne⟩
theorem own_kept {e : TypeId} {s B : Nat} {v : Value} {n : Nat} {xs : List Value} (ho : u.ownsRow B e s v n xs) {g : Option Nat} (hg : u.grownBy u' g) (hne : ∀ k, g = some k → v.ownBlock ≠ some k) : u'.ownsRow B e s v n xs := by
  refine ⟨ho.1, ?_⟩
  rcases ho.2 with q | ⟨b, cap, cur, rfl, q2, q3, q4⟩
  · exact .inl q
  · refine .inr ⟨b, cap, cur, rfl, q2, ?_, q4⟩
    rw [hg.block b (Array.getElem?_eq_some_iff.1 q3).1 (fun e => hne b e.symm rfl)]
    exact q3
/-- lines more -/
theorem Iv.grow (h : Iv w q ov x av y u) (hg : u.grownBy u' ov.ownBlock) (ho : u'.ownsRow (w.heap.size + 1) 103 2 ov' x'.length (mkcells x')) (hb : ov'.ownBlock = ov.ownBlock ∨ ov'.ownBlock = some u.heap.size) : Hx u' w.heap.size q ov ∧ Iv w q ov' x' av y (u'.setCell ⟨w.heap.size, 4, none⟩ ov') := by
  have hbx : Hx u' w.heap.size q ov := h.box.keep hg (fun e => by have := owns_ge h.own e.symm; omega)
  have hadd := own_kept h.add hg (fun k hk => h.ne k hk)
  have hs := grown_set u' w.heap.size 4 ov'
  have hlow : Below w.heap.size w u' := h.low.grown hg h.low.size (fun j hj => by have := owns_ge h.own hj; omega)
  refine ⟨hbx, hlow.grown hs hlow.size (fun j hj => by cases hj; exact Nat.le_refl _), hbx.setl ov', own_kept ho hs ?_, own_kept hadd hs ?_, ?_⟩
  · intro k hk e
    cases hk
    have := owns_ge ho e
    omega
  · intro k hk e
    cases hk
    have := owns_ge h.add e
    omega
  · intro g hg' e
    rcases hb with hb | hb
    · rw [hb] at hg'
      exact h.ne g hg' e
    · rw [hb] at hg'
      cases hg'
      have := own_lt h.add e
      omega
/-- lines more that wait -/
theorem Iv.wait (h : Iv w q ov x av y u) (hg : u.grownBy u' av.ownBlock) (ho : u'.ownsRow (w.heap.size + 1) 103 2 av' y'.length (mkcells y')) (hb : av'.ownBlock = av.ownBlock ∨ av'.ownBlock = some u.heap.size) : Iv w q ov x av' y' u' := by
  refine ⟨h.low.grown hg h.low.size (fun j hj => by have := owns_ge h.add hj; omega), h.box.keep hg (fun e => by have := owns_ge h.add e.symm; omega), own_kept h.own hg (fun k hk e => h.ne k e hk), ho, ?_⟩
  intro g hg' e
  rcases hb with hb | hb
  · rw [hb] at e
    exact h.ne g hg' e
  · rw [hb] at e
    cases e
    have := own_lt h.own hg'
    omega
/-- lines more, and none that wait -/
theorem Iv.last (h : Iv w q ov x av y u) (hg : u.grownBy u' ov.ownBlock) (ho : u'.ownsRow (w.heap.size + 1) 103 2 ov' x'.length (mkcells x')) : Hx u' w.heap.size q ov ∧ Iv w q ov' x' (.slice none 0 0) [] (u'.setCell ⟨w.heap.size, 4, none⟩ ov') := by
  have hbx : Hx u' w.heap.size q ov := h.box.keep hg (fun e => by have := owns_ge h.own e.symm; omega)
  have hs := grown_set u' w.heap.size 4 ov'
  have hlow : Below w.heap.size w u' := h.low.grown hg h.low.size (fun j hj => by have := owns_ge h.own hj; omega)
  refine ⟨hbx, hlow.grown hs hlow.size (fun j hj => by cases hj; exact Nat.le_refl _), hbx.setl ov', own_kept ho hs ?_, hnil_row _ _ _ _, fun g _ e => by cases e⟩
  intro k hk e
  cases hk
  have := owns_ge ho e
  omega
theorem Hx.put5 {b : Nat} {h : Hk} {v : Value} (p : Hx u b h v) (z0 z1 z2 z3 z4 : Value) : (((((u.setCell ⟨b, 0, none⟩ z0).setCell ⟨b, 1, none⟩ z1).setCell ⟨b, 2, none⟩ z2).setCell ⟨b, 3, none⟩ z3).setCell ⟨b, 4, none⟩ z4).heap[b]? = some (.cells #[z0, z1, z2, z3, z4] 59 (0, 0)) := by
  have s1 := heap_setCell_same u b 0 _ _ z0 p
  have s2 := heap_setCell_same _ b 1 _ _ z1 s1
  have s3 := heap_setCell_same _ b 2 _ _ z2 s2
  have s4 := heap_setCell_same _ b 3 _ _ z3 s3
  exact heap_setCell_same _ b 4 _ _ z4 s4
theorem own_base {e : TypeId} {s B B' : Nat} {v : Value} {n : Nat} {xs : List Value} (ho : u.ownsRow B e s v n xs) (hB : B' ≤ B) : u.ownsRow B' e s v n xs := by
  refine ⟨ho.1, ?_⟩
  rcases ho.2 with q | ⟨b, cap, cur, rfl, q2, q3, q4⟩
  · exact .inl q
  · exact .inr ⟨b, cap, cur, rfl, by omega, q3, q4⟩
theorem Iv.none (h : Iv w q ov x av y u) : Iv w q ov x (.slice none 0 0) [] u := ⟨h.low, h.box, h.own, hnil_row _ _ _ _, fun g _ e => by cases e⟩
end
theorem mk_row (w : World) (m : Mk) : Holds (w.alloc (mkO m)) (.slice (some ⟨w.heap.size, 0, none⟩) 1 1) 1 (mkcells [m]) := new_holds w #[.int .u8 m.sg, .string ⟨m.tx.toArray⟩] 103 1 1 (by decide)

end Go.Proofs.YtgiojkhmkeocfaaGreatDoor

/- Rising rows of pairs: how long the longest one is that begins with each member, heads of rows, what is picked: plain. -/
set_option maxRecDepth 20000
namespace Go.Proofs.YtgiojkhmkeocfaaGreatDoor

/-- a place of each text -/
structure Pr where
  X : Int
  Y : Int
/-- p may stand behind q in a rising row -/
abbrev ab (p q : Pr) : Prop := q.X < p.X ∧ q.Y < p.Y
theorem ab_trans {p q r : Pr} (h : ab p q) (h' : ab q r) : ab p r := ⟨Int.lt_trans h'.1 h.1, Int.lt_trans h'.2 h.2⟩
/-- the greatest length among those that may stand behind p -/
def mxl (p : Pr) : List Pr → List Nat → Nat
  | t :: ts, n :: ns => if ab t p then max n (mxl p ts ns) else mxl p ts ns
  | _, _ => 0
/-- how long the longest rising row is that begins with each member -/
def rl : List Pr → List Nat
  | [] => []
  | p :: t => (mxl p t (rl t) + 1) :: rl t
theorem mxl_at (p : Pr) (t : List Pr) (ns : List Nat) (h : 0 < mxl p t ns) : ∃ (k : Nat) (q : Pr), t[k]? = some q ∧ ns[k]? = some (mxl p t ns) ∧ ab q p := by
  induction t generalizing ns with
  | nil => simp [mxl] at h
  | cons a t ih =>
    cases ns with
    | nil => simp [mxl] at h
    | cons b ns =>
      rw [mxl] at h ⊢
      by_cases ha : ab a p
      · rw [if_pos ha] at h ⊢
        by_cases hb : mxl p t ns ≤ b
        · exact ⟨0, a, rfl, by simp; omega, ha⟩
        · obtain ⟨k, q, h1, h2, h3⟩ := ih ns (by omega)
          exact ⟨k + 1, q, by simpa using h1, by simp [h2]; omega, h3⟩
      · rw [if_neg ha] at h ⊢
        obtain ⟨k, q, h1, h2, h3⟩ := ih ns h
        exact ⟨k + 1, q, by simpa using h1, by simpa using h2, h3⟩
/-- a row of n + 1 members may stand behind p -/
def Hd (t : List Pr) (n : Nat) (p : Pr) : Prop := ∃ (k : Nat) (q : Pr), t[k]? = some q ∧ (rl t)[k]? = some (n + 1) ∧ ab q p
theorem Hd.down {t : List Pr} {n : Nat} {p : Pr} (h : Hd t (n + 1) p) : Hd t n p := by
  obtain ⟨k, q, h1, h2, h3⟩ := h
  induction t generalizing k with
  | nil => simp at h1
  | cons a t ih =>
    cases k with
    | zero =>
      simp [rl] at h1 h2
      subst h1
      obtain ⟨j, r, g1, g2, g3⟩ := mxl_at a t (rl t) (by omega)
      exact ⟨j + 1, r, by simpa using g1, by simp [rl, g2, h2], ab_trans g3 h3⟩
    | succ k =>
      obtain ⟨j, r, g1, g2, g3⟩ := ih k (by simpa using h1) (by simpa [rl] using h2)
      exact ⟨j + 1, r, by simpa using g1, by simpa [rl] using g2, g3⟩
/-- X falls, Y rises, each of which may stay -/
def Stair (h : List Pr) : Prop := h.Pairwise fun a b => b.X ≤ a.X ∧ a.Y ≤ b.Y
/-- the heads of rows of each length, for what stands behind -/
structure Hds (t : List Pr) (H : List (List Pr)) : Prop where
  st : ∀ h ∈ H, Stair h
  eq : ∀ n h, H[n]? = some h → ∀ p, (∃ a ∈ h, ab a p) ↔ Hd t n p
  top : ∀ n ∈ rl t, n ≤ H.length
theorem Hds.start : Hds [] [] := ⟨by simp, by simp, by simp [rl]⟩
/-- how many of the heads have a greater X -/
def upto (h : List Pr) (x : Int) : Nat := h.findIdx fun a => decide (a.X ≤ x)
/-- how many of the heads have no greater Y -/
def grt (h : List Pr) (y : Int) : Nat := h.findIdx fun a => decide (y < a.Y)
/-- the heads and p -/
def ins (h : List Pr) (p : Pr) : List Pr := h.take (upto h p.X) ++ p :: h.drop (grt h p.Y)
end Go.Proofs.YtgiojkhmkeocfaaGreatDoor

/- Rows of pairs in memory: two cells a pair. -/
set_option maxRecDepth 20000
namespace Go.Proofs.YtgiojkhmkeocfaaGreatDoor
open Go.RowKit

def prC (p : Pr) : List Value := [.int .i64 p.X, .int .i64 p.Y]
def prcells (l : List Pr) : List Value := l.flatMap prC
theorem prcells_length (l : List Pr) : (prcells l).length = l.length * 2 := by
  induction l with
  | nil => rfl
  | cons p t ih => simp only [prcells, List.flatMap_cons, List.length_append, List.length_cons, prC, List.length_nil] at ih ⊢; omega
theorem prcells_at (l : List Pr) (k : Nat) (hk : k < l.length) : (prcells l)[2 * k]? = some (.int .i64 l[k].X) ∧ (prcells l)[2 * k + 1]? = some (.int .i64 l[k].Y) := by
  induction l generalizing k with
  | nil => simp at hk
  | cons p t ih =>
    have e : prcells (p :: t) = .int .i64 p.X :: .int .i64 p.Y :: prcells t := rfl
    cases k with
    | zero => rw [e]; exact ⟨rfl, rfl⟩
    | succ k =>
      have := ih k (by simpa using hk)
      rw [e, show 2 * (k + 1) = 2 * k + 1 + 1 by omega]
      simpa using this
def HPr (w : World) (v : Value) (l : List Pr) : Prop := Holds w v l.length (prcells l)
theorem HPr.keep {w w' : World} {v : Value} {l : List Pr} (h : HPr w v l) {N : Nat} (hk : Below N w w') (hN : w.heap.size ≤ N) : HPr w' v l := Holds.keep h fun k hk' => hk.block k (by omega)
theorem HPr.at {w : World} {ao : Option Addr} {n c : Nat} {l : List Pr} (h : HPr w (.slice ao n c) l) (h0 : 0 < l.length) : ∃ b off, ao = some ⟨b, off, none⟩ ∧ b < w.heap.size ∧
    ∀ k (hk : k < l.length), w.cell? ⟨b, off + k * 2, none⟩ = some (.int .i64 l[k].X) ∧ w.cell? ⟨b, off + k * 2 + 1, none⟩ = some (.int .i64 l[k].Y) := by
  obtain ⟨b, off, c', hv, hb, hc⟩ := Holds.at h (by rw [prcells_length]; omega)
  cases hv
  refine ⟨b, off, rfl, hb, fun k hk => ?_⟩
  obtain ⟨h1, h2⟩ := prcells_at l k hk
  obtain ⟨l1, e1⟩ := List.getElem?_eq_some_iff.1 h1
  obtain ⟨l2, e2⟩ := List.getElem?_eq_some_iff.1 h2
  have g1 := hc _ l1
  have g2 := hc _ l2
  rw [e1] at g1
  rw [e2] at g2
  rw [show k * 2 = 2 * k by omega, Nat.add_assoc]
  exact ⟨g1, g2⟩
end Go.Proofs.YtgiojkhmkeocfaaGreatDoor

/- Laws for rows of pairs within their block: copy, clear, append with room, parts of a slice. -/
set_option maxRecDepth 20000
namespace Go.Proofs.YtgiojkhmkeocfaaGreatDoor
open Go.RowKit

/-- a block of pairs -/
def Blk (w : World) (g : Nat) (cur : List Value) : Prop := w.heap[g]? = some (.cells cur.toArray 249 (0, 0))
/-- cells put over others -/
def spl (cur : List Value) (o : Nat) (cs : List Value) : List Value := cur.take o ++ cs ++ cur.drop (o + cs.length)
theorem spl_length {cur : List Value} {o : Nat} {cs : List Value} (h : o + cs.length ≤ cur.length) : (spl cur o cs).length = cur.length := by
  unfold spl
  simp
  omega
theorem Blk.cell {w : World} {g : Nat} {cur : List Value} (h : Blk w g cur) (j : Nat) : w.cell? ⟨g, j, none⟩ = cur[j]? := by
  rw [cell_of_row w g j cur.toArray _ (0, 0) h]
  simp
theorem setRow_grown (w : World) (g : Nat) (cs : Array Value) : w.grownBy (w.setRow g cs) (some g) :=
  ⟨rfl, rfl, rfl, by simp [World.setRow], fun k _ hk => setRow_other w g k cs (fun e => hk (by rw [e]))⟩

theorem wpList_cl {ops : Array Oper} {rest : List Oper} {o : Oper} {a : Act} {Q : Exit → Act → World → Prop} (w : World) (hw : Region.wanted o (yielded ops a.tmps) = true) (d : Operand) (T : TypeId)
    (ho : o.op = .call { callee := .builtin .clear, args := #[d], argTypes := #[T] }) (v : Value) (hd : a.eval d = v) (v' : Value) (w' : World)
    (hr : (Builtin.clear_ #[T] o.type #[v]).run Tryz.prog w = .ok v' w') (h : wpList Tryz.prog ops Q rest (a.put o.dst v') w') : wpList Tryz.prog ops Q (o :: rest) a w := by
  refine wpList_step fun K hK => ?_
  rw [if_pos hw]
  unfold Oper.wp
  simp [execOp, ho, resolve, invoke, builtin, hd, hr, Result.andThen]
  exact hK _ _ h

end Go.Proofs.YtgiojkhmkeocfaaGreatDoor

/- How long the longest common row of two rows of numbers is, what is kept, and what follows: plain. -/
set_option maxRecDepth 20000
namespace Go.Proofs.YtgiojkhmkeocfaaGreatDoor

/-- how long the longest common row is -/
def lc : List Int → List Int → Nat
  | [], _ => 0
  | _ :: _, [] => 0
  | a :: x, b :: y => if a = b then lc x y + 1 else max (lc x (b :: y)) (lc (a :: x) y)
theorem lc_nil_left (y : List Int) : lc [] y = 0 := by rw [lc]
theorem lc_nil_right (x : List Int) : lc x [] = 0 := by cases x <;> rw [lc]
/-- how much of x is found in y, going through y once -/
def gr : List Int → List Int → Nat
  | [], _ => 0
  | _ :: _, [] => 0
  | a :: x, b :: y => if a = b then gr x y + 1 else gr (a :: x) y
/-- what is kept: with which of y's members, numbered from b on, each of x's makes a pair -/
def kp (b : Int) : List Int → List Int → List Int
  | [], _ => []
  | _ :: x, [] => -1 :: kp b x []
  | a :: x, c :: y => if a = c then b :: kp (b + 1) x y else if lc (a :: x) y ≤ lc x (c :: y) then -1 :: kp b x (c :: y) else kp (b + 1) (a :: x) y
theorem kp_nil (b : Int) (y : List Int) : kp b [] y = [] := by rw [kp]
theorem kp_none (b : Int) (x : List Int) : kp b x [] = List.replicate x.length (-1) := by
  induction x with
  | nil => rw [kp]; rfl
  | cons a x ih => rw [kp, ih]; rfl
theorem Vk.up {a b m : Int} {K : List Int} (h : Vk b m K) (hab : a ≤ b) : Vk a m K := by
  induction K with
  | nil => trivial
  | cons z t ih =>
    rcases h with ⟨h1, h2⟩ | ⟨h1, h2, h3⟩
    · exact .inl ⟨h1, ih h2⟩
    · exact .inr ⟨h1, by omega, h3⟩
theorem Vk.none (b m : Int) (k : Nat) : Vk b m (List.replicate k (-1)) := by
  induction k with
  | zero => trivial
  | succ k ih => exact .inl ⟨rfl, ih⟩
/-- how many members are the same at the front -/
def fr : List Int → List Int → Nat
  | a :: x, b :: y => if a = b then fr x y + 1 else 0
  | _, _ => 0
/-- a length of two places -/
def ln (x y : List Int) (i j : Nat) : Nat := lc (x.drop i) (y.drop j)
theorem ln_end (x y : List Int) (i j : Nat) (h : x.length ≤ i ∨ y.length ≤ j) : ln x y i j = 0 := by
  rcases h with h | h
  · rw [ln, List.drop_of_length_le h, lc_nil_left]
  · rw [ln, List.drop_of_length_le h, lc_nil_right]
end Go.Proofs.YtgiojkhmkeocfaaGreatDoor

/- Scripts are made: between, Make, walked. -/
set_option maxRecDepth 20000
namespace Go.Proofs.YtgiojkhmkeocfaaGreatDoor
open Go.RowKit

theorem Vk.lt {nx m : Int} {K : List Int} (h : Vk nx m K) : ∀ z ∈ K, z = -1 ∨ z < m := by
  induction K generalizing nx with
  | nil => simp
  | cons y t ih =>
    intro z hz
    rw [List.mem_cons] at hz
    rcases h with ⟨rfl, h⟩ | ⟨hy, h1, h2, h3⟩
    · rcases hz with rfl | hz
      · exact .inl rfl
      · exact ih h z hz
    · rcases hz with rfl | hz
      · exact .inr h2
      · exact ih h3 z hz
end Go.Proofs.YtgiojkhmkeocfaaGreatDoor

/- The table of lengths: row, at, measure, walked. -/
set_option maxRecDepth 20000
namespace Go.Proofs.YtgiojkhmkeocfaaGreatDoor
open Go.RowKit

end Go.Proofs.YtgiojkhmkeocfaaGreatDoor

/- The table of lengths is filled: measure, walked. -/
set_option maxRecDepth 20000
namespace Go.Proofs.YtgiojkhmkeocfaaGreatDoor
open Go.RowKit

theorem idx_inj {W i j i' j' : Nat} (hj : j < W) (hj' : j' < W) (h : i * W + j = i' * W + j') : i = i' ∧ j = j' := by
  have h1 : (i * W + j) / W = i := by rw [Nat.mul_comm, Nat.mul_add_div (by omega), Nat.div_eq_of_lt hj, Nat.add_zero]
  have h2 : (i' * W + j') / W = i' := by rw [Nat.mul_comm, Nat.mul_add_div (by omega), Nat.div_eq_of_lt hj', Nat.add_zero]
  have h3 : i = i' := by rw [← h1, ← h2, h]
  subst h3
  exact ⟨rfl, by omega⟩
theorem idx_lt {W i j n : Nat} (hj : j < W) (hi : i ≤ n) : i * W + j < (n + 1) * W := by
  have : i * W ≤ n * W := Nat.mul_le_mul_right _ hi
  rw [Nat.succ_mul]
  omega
/-- which lengths stand in the table: those of the rows below row k, and of row k from place c on -/
def Done (x y : List Int) (k c : Nat) (Y : List Value) : Prop := ∀ i j, i ≤ x.length → j ≤ y.length → (k < i ∨ (i = k ∧ c ≤ j) ∨ j = y.length) → Y[i * (y.length + 1) + j]? = some (.int .i16 ((ln x y i j : Nat) : Int))
theorem Done.start (x y : List Int) (N : Nat) (hN : N = (x.length + 1) * (y.length + 1)) : Done x y x.length 0 (List.replicate N (.int .i16 0)) := by
  intro i j hi hj h
  rw [ln_end x y i j (by omega), List.getElem?_replicate, if_pos (by rw [hN]; exact idx_lt (by omega) hi)]
  rfl
theorem Done.next {x y : List Int} {i : Nat} {Y : List Value} (h : Done x y (i + 1) 0 Y) : Done x y i y.length Y := by
  intro i' j' hi hj hc
  exact h i' j' hi hj (by omega)
theorem Done.set {x y : List Int} {i j : Nat} {Y : List Value} (h : Done x y i (j + 1) Y) (hi : i ≤ x.length) (hj : j < y.length) (hY : Y.length = (x.length + 1) * (y.length + 1)) (p : Nat) (hp : p = i * (y.length + 1) + j) (v : Int) (hv : v = ((ln x y i j : Nat) : Int)) : Done x y i j (Y.set p (.int .i16 v)) := by
  intro i' j' hi' hj' hc
  subst hp hv
  by_cases e : i' * (y.length + 1) + j' = i * (y.length + 1) + j
  · obtain ⟨rfl, rfl⟩ := idx_inj (by omega) (by omega) e
    rw [List.getElem?_set_self]
    rw [hY]
    exact idx_lt (by omega) hi
  · rw [List.getElem?_set_ne (fun h => e h.symm)]
    refine h i' j' hi' hj' ?_
    rcases hc with hc | ⟨rfl, hc⟩ | hc
    · exact .inl hc
    · exact .inr (.inl ⟨rfl, by by_cases q : j' = j; · subst q; exact absurd rfl e
                                · omega⟩)
    · exact .inr (.inr hc)
/-- the variable that holds the table, and all else as it was -/
structure Bx (b W g N : Nat) (wr w : World) : Prop where
  box : w.heap[b]? = some (Obj.cells #[.int .i64 (W : Int), .slice (some ⟨g, 0, none⟩) N N] 277 (0, 0))
  low : Below wr.heap.size wr w
theorem Bx.cells {b W g N : Nat} {wr w : World} (h : Bx b W g N wr w) : w.cell? ⟨b, 0, none⟩ = some (.int .i64 (W : Int)) ∧ w.cell? ⟨b, 1, none⟩ = some (.slice (some ⟨g, 0, none⟩) N N) := ⟨by rw [Lib.cell_of_heap h.box]; rfl, by rw [Lib.cell_of_heap h.box]; rfl⟩
theorem bx_drew (b W g N : Nat) (wr w : World) : Bx b W g N wr w.drew ↔ Bx b W g N wr w := ⟨fun h => ⟨h.box, ⟨h.low.os, h.low.tape, h.low.output, h.low.size, h.low.block⟩⟩, fun h => ⟨h.box, Below.dN h.low 1⟩⟩
theorem Bx.keep {b W g N : Nat} {wr w w' : World} (h : Bx b W g N wr w) (hb : Below w.heap.size w w') : Bx b W g N wr w' := ⟨(hb.block b (Array.getElem?_eq_some_iff.1 h.box).1).trans h.box, h.low.trans (hb.mono h.low.size)⟩
attribute [local simp] bx_drew

/-- the state of the walk: the answer's variable, the table, the variable that holds it -/
structure Ms (w : World) (M N : Nat) (Y : List Value) (wr : World) : Prop where
  low : Below w.heap.size w wr
  res : wr.heap[w.heap.size]? = some (Obj.cells #[Value.int IntKind.i64 0, Value.slice none 0 0] 277 (0, 0))
  own : wr.ownsRow w.heap.size 305 1 (.slice (some ⟨w.heap.size + 1, 0, none⟩) N N) N Y
  box : wr.heap[w.heap.size + 1 + 1]? = some (Obj.cells #[.int .i64 (M : Int), .slice (some ⟨w.heap.size + 1, 0, none⟩) N N] 277 (0, 0))
theorem Ms.keep {w : World} {M N : Nat} {Y : List Value} {wr w' : World} (h : Ms w M N Y wr) (hb : Below wr.heap.size wr w') : Ms w M N Y w' :=
  ⟨h.low.trans (hb.mono h.low.size), (hb.block _ (Array.getElem?_eq_some_iff.1 h.res).1).trans h.res, owns_keep h.own hb, (hb.block _ (Array.getElem?_eq_some_iff.1 h.box).1).trans h.box⟩
theorem Ms.bx {w : World} {M N : Nat} {Y : List Value} {wr : World} (h : Ms w M N Y wr) : Bx (w.heap.size + 1 + 1) M (w.heap.size + 1) N wr wr := ⟨h.box, Below.refl _ _⟩
theorem Ms.store {w : World} {M N : Nat} {Y : List Value} {wr : World} (h : Ms w M N Y wr) (p : Nat) (v : Value) : Ms w M N (Y.set p v) (wr.setCell ⟨w.heap.size + 1, p, none⟩ v) := by
  obtain ⟨p1, g1⟩ := h.own.stored p v
  refine ⟨h.low.grown g1 h.low.size (fun j hj => by cases hj; omega), ?_, p1, ?_⟩
  · exact (g1.block _ (Array.getElem?_eq_some_iff.1 h.res).1 (fun e => by have := Option.some.inj e; omega)).trans h.res
  · exact (g1.block _ (Array.getElem?_eq_some_iff.1 h.box).1 (fun e => by have := Option.some.inj e; omega)).trans h.box
theorem Ms.drewN {w : World} {M N : Nat} {Y : List Value} {wr : World} (h : Ms w M N Y wr) (n : Nat) : Ms w M N Y (wr.drewN n) := ⟨Below.dN h.low n, h.res, h.own, h.box⟩
/-- a length that stands in the table -/
theorem Ms.at {w : World} {M N : Nat} {Y : List Value} {wr : World} (h : Ms w M N Y wr) {x y : List Int} {k c i j p : Nat} (hd : Done x y k c Y) (hM : M = y.length + 1) (hN : N = (x.length + 1) * M) (hi : i ≤ x.length) (hj : j ≤ y.length) (hc : k < i ∨ (i = k ∧ c ≤ j) ∨ j = y.length) (hp : p = i * M) : wr.cell? ⟨w.heap.size + 1, p + j, none⟩ = some (.int .i16 ((ln x y i j : Nat) : Int)) := by
  have := h.own.cellAt (p + j) (by rw [hp, hN, Nat.mul_one]; exact idx_lt (by omega) hi)
  rw [this, hp, hM]
  exact hd i j hi hj hc

end Go.Proofs.YtgiojkhmkeocfaaGreatDoor

/- How much is the same at the front; Length: front, tooLong, Length, walked. -/
set_option maxRecDepth 20000
namespace Go.Proofs.YtgiojkhmkeocfaaGreatDoor
open Go.RowKit

end Go.Proofs.YtgiojkhmkeocfaaGreatDoor

/- Length, walked. -/
set_option maxRecDepth 20000
namespace Go.Proofs.YtgiojkhmkeocfaaGreatDoor
open Go.RowKit
attribute [local simp] low_drew

theorem Low.then {W w w' : World} (h : Low W w) (hb : Below w.heap.size w w') : Low W w' := Below.trans h (hb.mono (Below.size h))
end Go.Proofs.YtgiojkhmkeocfaaGreatDoor

/- A row of one number, again and again: bits.Mul, slices.Repeat, walked. -/
set_option maxRecDepth 20000
namespace Go.Proofs.YtgiojkhmkeocfaaGreatDoor
open Go.RowKit
attribute [local simp] low_drew

/-- a row whose first k cells are -1 -/
def Ones (cur : List Value) (N k : Nat) : Prop := cur.length = N ∧ cur.take k = icells (List.replicate k (-1))
theorem Ones.more {cur : List Value} {N k d : Nat} (h : Ones cur N k) (hk : k + d ≤ N) : Ones (splice cur k (icells (List.replicate d (-1)))) N (k + d) := by
  refine ⟨?_, ?_⟩
  · rw [length_splice _ _ _ (by rw [icells_length, h.1]; simpa using hk), h.1]
  · have h1 : (cur.take k).length = k := by rw [List.length_take, h.1]; omega
    rw [splice, ← List.append_assoc, List.take_left' (by rw [List.length_append, h1, icells_length, List.length_replicate]), h.2, ← icells_append, List.replicate_append_replicate]
theorem Ones.cell {cur : List Value} {N k : Nat} (h : Ones cur N k) (j : Nat) (hj : j < k) : cur[j]? = some (.int .i64 (-1)) := by
  have : (cur.take k)[j]? = some (.int .i64 (-1)) := by rw [h.2]; simp [icells, hj]
  rw [List.getElem?_take] at this
  simpa [hj] using this

end Go.Proofs.YtgiojkhmkeocfaaGreatDoor

/- What the least edit script keeps: kept, walked. -/
set_option maxRecDepth 20000
namespace Go.Proofs.YtgiojkhmkeocfaaGreatDoor
open Go.RowKit

/-- how far what is kept is written down: the first a members, b of y's behind them; X and Y are left -/
def Pt (K Z : List Int) (n a : Nat) (b : Int) (X Y : List Int) : Prop := ∃ P : List Int, P.length = a ∧ a ≤ n ∧ Z = P ++ List.replicate (n - a) (-1) ∧ P ++ kp b X Y = K
theorem Pt.start (x y : List Int) : Pt (kp 0 x y) (List.replicate x.length (-1)) x.length 0 0 x y := ⟨[], rfl, Nat.zero_le _, by simp, by simp⟩
theorem Pt.len {K Z : List Int} {n a : Nat} {b : Int} {X Y : List Int} (h : Pt K Z n a b X Y) : Z.length = n := by
  obtain ⟨P, h1, h2, h3, _⟩ := h
  rw [h3, List.length_append, h1, List.length_replicate]
  omega
theorem Pt.pair {K Z : List Int} {n a : Nat} {b : Int} {X Y X' Y' : List Int} (h : Pt K Z n a b X Y) (hn : a < n) (hk : kp b X Y = b :: kp (b + 1) X' Y') : Pt K (Z.set a b) n (a + 1) (b + 1) X' Y' := by
  obtain ⟨P, h1, h2, h3, h4⟩ := h
  refine ⟨P ++ [b], by simp [h1], hn, ?_, by rw [← h4, hk]; simp⟩
  rw [h3, show n - a = (n - (a + 1)) + 1 by omega, List.replicate_succ, List.set_append_right _ _ (by omega), h1]
  simp
theorem Pt.out {K Z : List Int} {n a : Nat} {b : Int} {X Y X' : List Int} (h : Pt K Z n a b X Y) (hn : a < n) (hk : kp b X Y = -1 :: kp b X' Y) : Pt K Z n (a + 1) b X' Y := by
  obtain ⟨P, h1, h2, h3, h4⟩ := h
  refine ⟨P ++ [-1], by simp [h1], hn, ?_, by rw [← h4, hk]; simp⟩
  rw [h3, show n - a = (n - (a + 1)) + 1 by omega, List.replicate_succ]
  simp
theorem Pt.skip {K Z : List Int} {n a : Nat} {b : Int} {X Y Y' : List Int} (h : Pt K Z n a b X Y) (hk : kp b X Y = kp (b + 1) X Y') : Pt K Z n a (b + 1) X Y' := by
  obtain ⟨P, h1, h2, h3, h4⟩ := h
  exact ⟨P, h1, h2, h3, by rw [← h4, hk]⟩
theorem Pt.done {K Z : List Int} {n a : Nat} {b : Int} {X Y : List Int} (h : Pt K Z n a b X Y) (hX : X.length = n - a) (he : X = [] ∨ Y = []) : Z = K := by
  obtain ⟨P, h1, h2, h3, h4⟩ := h
  rcases he with rfl | rfl
  · rw [kp_nil, List.append_nil] at h4
    simp at hX
    rw [h3, ← hX, ← h4]
    simp
  · rw [kp_none, hX] at h4
    rw [h3, h4]

/-- the state of the walk: the row of what is kept, the table, the variable that holds it -/
structure Kst (w : World) (g gt bx n M N : Nat) (Z : List Int) (T : List Value) (wr : World) : Prop where
  low : Below w.heap.size w wr
  own : wr.ownsRow w.heap.size 3 1 (.slice (some ⟨g, 0, none⟩) n n) n (icells Z)
  tab : wr.ownsRow w.heap.size 305 1 (.slice (some ⟨gt, 0, none⟩) N N) N T
  box : wr.heap[bx]? = some (Obj.cells #[.int .i64 (M : Int), .slice (some ⟨gt, 0, none⟩) N N] 277 (0, 0))
section
variable {w : World} {g gt bx n M N : Nat} {Z : List Int} {T : List Value} {wr : World}
theorem Kst.keep {w' : World} (h : Kst w g gt bx n M N Z T wr) (hb : Below wr.heap.size wr w') : Kst w g gt bx n M N Z T w' :=
  ⟨h.low.trans (hb.mono h.low.size), owns_keep h.own hb, owns_keep h.tab hb, (hb.block _ (Array.getElem?_eq_some_iff.1 h.box).1).trans h.box⟩
theorem Kst.drewN (h : Kst w g gt bx n M N Z T wr) (k : Nat) : Kst w g gt bx n M N Z T (wr.drewN k) := ⟨Below.dN h.low k, h.own, h.tab, h.box⟩
theorem own_at {base : Nat} {e : TypeId} {s : Nat} {g n c : Nat} {xs : List Value} (h : wr.ownsRow base e s (.slice (some ⟨g, 0, none⟩) n c) n xs) : base ≤ g ∧ ∃ cur, wr.heap[g]? = some (.cells cur e (0, 0)) := by
  rcases h.2 with ⟨h, _⟩ | ⟨g', cap, cur, h, hb, hc, _⟩
  · cases h
  · cases h
    exact ⟨hb, cur, hc⟩
theorem Kst.store (h : Kst w g gt bx n M N Z T wr) (p : Nat) (v : Int) : Kst w g gt bx n M N (Z.set p v) T (wr.setCell ⟨g, p, none⟩ (.int .i64 v)) := by
  obtain ⟨p1, g1⟩ := h.own.stored p (.int .i64 v)
  obtain ⟨hgb, cur, hg⟩ := own_at h.own
  obtain ⟨_, cur', hgt⟩ := own_at h.tab
  have e : (icells Z).set p (.int .i64 v) = icells (Z.set p v) := by simp [icells, List.map_set]
  rw [e] at p1
  refine ⟨h.low.grown g1 h.low.size (fun j hj => by have := Option.some.inj hj; omega), p1, ?_, ?_⟩
  · refine h.tab.kept g1 (.inr ?_)
    intro q
    have : gt = g := by simpa [Value.ownBlock] using q
    subst this
    rw [hg] at hgt
    cases hgt
  · refine (g1.block _ (Array.getElem?_eq_some_iff.1 h.box).1 (fun q => ?_)).trans h.box
    have : bx = g := by simpa using q
    subst this
    have := h.box
    rw [hg] at this
    cases this
end
theorem Bx.cell {b W g N : Nat} {wr w : World} (h : Bx b W g N wr w) {a : Addr} {v : Value} (hc : wr.cell? a = some v) : w.cell? a = some v := by
  rw [World.cell?_of_block (w := wr) (h.low.block _ (World.block_lt_of_cell? wr _ hc))]; exact hc
end Go.Proofs.YtgiojkhmkeocfaaGreatDoor

/- What the least edit script keeps: kept, walked (the walk itself). -/
set_option maxRecDepth 20000
namespace Go.Proofs.YtgiojkhmkeocfaaGreatDoor
open Go.RowKit
attribute [local simp] bx_drew

end Go.Proofs.YtgiojkhmkeocfaaGreatDoor

/- Diff and the law's own test works, walked. -/
set_option maxRecDepth 20000
namespace Go.Proofs.YtgiojkhmkeocfaaGreatDoor
open Go.RowKit

end Go.Proofs.YtgiojkhmkeocfaaGreatDoor

/- A script that is made of what is kept keeps it: plain. -/
set_option maxRecDepth 20000
namespace Go.Proofs.YtgiojkhmkeocfaaGreatDoor

theorem Right.many {f : Bool} {a b n m : Int} {l : List Ch} (h : Right f a b n m l) : (l.length : Int) ≤ (n - a) + (m - b) := by
  induction l generalizing f a b with
  | nil => have := h.le; simp; omega
  | cons c l ih =>
    obtain ⟨⟨h1, h2, h3, h4⟩, h5⟩ := h
    rw [numB_iff] at h1
    have := ih h5
    simp only [List.length_cons]
    omega
end Go.Proofs.YtgiojkhmkeocfaaGreatDoor

/- Pieces of two rows of classes, and what of them is kept, whatever an engine does with the middle: plain. -/
set_option maxRecDepth 20000
namespace Go.Proofs.YtgiojkhmkeocfaaGreatDoor

/-- how many are the same at the front of two pieces -/
def tfN (x y : List Int) : Nat → Nat → Nat → Nat
  | 0, _, _ => 0
  | n + 1, a, c => if x[a]? = y[c]? then tfN x y n (a + 1) (c + 1) + 1 else 0
def tf (x y : List Int) (a b c d : Nat) : Nat := tfN x y (min (b - a) (d - c)) a c
theorem tf_eq (x y : List Int) (a b c d : Nat) : tf x y a b c d = if a < b ∧ c < d ∧ x[a]? = y[c]? then tf x y (a + 1) b (c + 1) d + 1 else 0 := by
  unfold tf
  by_cases h : a < b ∧ c < d
  · rw [show min (b - a) (d - c) = min (b - (a + 1)) (d - (c + 1)) + 1 by omega, tfN]
    by_cases e : x[a]? = y[c]?
    · rw [if_pos e, if_pos ⟨h.1, h.2, e⟩]
    · rw [if_neg e, if_neg (fun q => e q.2.2)]
  · rw [show min (b - a) (d - c) = 0 by omega, tfN, if_neg (fun q => h ⟨q.1, q.2.1⟩)]
/-- at the end -/
def tb (x y : List Int) (a b c d : Nat) : Nat := if a < b ∧ c < d ∧ x[b - 1]? = y[d - 1]? then tb x y a (b - 1) c (d - 1) + 1 else 0
/-- the pairs at the front, at the end -/
def fp (a c : Nat) : Nat → List Pr
  | 0 => []
  | k + 1 => ⟨a, c⟩ :: fp (a + 1) (c + 1) k
def bp (b d : Nat) : Nat → List Pr
  | 0 => []
  | k + 1 => ⟨(b - 1 : Nat), (d - 1 : Nat)⟩ :: bp (b - 1) (d - 1) k
/-- within these bounds -/
def Wn (a b c d : Nat) (p : Pr) : Prop := (a : Int) ≤ p.X ∧ p.X < b ∧ (c : Int) ≤ p.Y ∧ p.Y < d
/-- both ends, and the middle by N -/
def ends (x y : List Int) (N : Nat → Nat → Nat → Nat → List Pr) (a b c d : Nat) : List Pr :=
  fp a c (tf x y a b c d) ++ (bp b d (tb x y (a + tf x y a b c d) b (c + tf x y a b c d) d) ++
    (if a + tf x y a b c d < b - tb x y (a + tf x y a b c d) b (c + tf x y a b c d) d ∧ c + tf x y a b c d < d - tb x y (a + tf x y a b c d) b (c + tf x y a b c d) d then
      N (a + tf x y a b c d) (b - tb x y (a + tf x y a b c d) b (c + tf x y a b c d) d) (c + tf x y a b c d) (d - tb x y (a + tf x y a b c d) b (c + tf x y a b c d) d)
    else []))
/-- the pairs are written down -/
def wrk (K : List Int) (l : List Pr) : List Int := l.foldl (fun K p => K.set p.X.toNat p.Y) K
theorem wrk_cons (K : List Int) (p : Pr) (b : List Pr) : wrk K (p :: b) = wrk (K.set p.X.toNat p.Y) b := rfl
theorem wrk_length (K : List Int) (l : List Pr) : (wrk K l).length = K.length := by
  induction l generalizing K with
  | nil => rfl
  | cons p l ih => rw [wrk_cons, ih, List.length_set]
/-- a pair elsewhere may be written first -/
theorem wrk_comm (K : List Int) (l : List Pr) (u : Nat) (v : Int) (h : ∀ p ∈ l, p.X.toNat ≠ u) : wrk (K.set u v) l = (wrk K l).set u v := by
  induction l generalizing K with
  | nil => rfl
  | cons p l ih =>
    rw [wrk_cons, wrk_cons, List.set_comm _ _ (fun e => h p (List.mem_cons_self ..) e.symm), ih _ (fun q hq => h q (List.mem_cons_of_mem _ hq))]

/-- any two are the same, or one is above the other -/
def Ris (l : List Pr) : Prop := ∀ p ∈ l, ∀ q ∈ l, p = q ∨ ab q p ∨ ab p q
/-- within these bounds, rising, and of the same class -/
structure Okp (x y : List Int) (a b c d : Nat) (l : List Pr) : Prop where
  wn : ∀ p ∈ l, Wn a b c d p
  ris : Ris l
  eqs : ∀ p ∈ l, x[p.X.toNat]? = y[p.Y.toNat]?
section
variable {x y : List Int}
theorem Okp.nil (a b c d : Nat) : Okp x y a b c d [] := ⟨fun p hp => by simp at hp, fun p hp => by simp at hp, fun p hp => by simp at hp⟩
theorem Okp.mono {a b c d a' b' c' d' : Nat} {l : List Pr} (h : Okp x y a b c d l) (ha : a' ≤ a) (hb : b ≤ b') (hc : c' ≤ c) (hd : d ≤ d') : Okp x y a' b' c' d' l := ⟨fun p hp => by have := h.wn p hp; unfold Wn at this ⊢; omega, h.ris, h.eqs⟩
theorem Okp.one {a c : Nat} (h : x[a]? = y[c]?) : Okp x y a (a + 1) c (c + 1) [⟨a, c⟩] := ⟨fun p hp => by simp at hp; subst hp; unfold Wn; dsimp only; omega, fun p hp q hq => by simp at hp hq; subst hp; subst hq; exact .inl rfl, fun p hp => by simp at hp; subst hp; simpa using h⟩
end
/-- what is written of pairs is found there -/
theorem wrk_has (l : List Pr) (n : Nat) (hr : Ris l) (hw : ∀ p ∈ l, 0 ≤ p.X ∧ p.X < n) : ∀ K : List Int, K.length = n → ∀ p ∈ l, (wrk K l)[p.X.toNat]? = some p.Y := by
  induction l with
  | nil => intro K _ p hp; simp at hp
  | cons q l ih =>
    intro K hK p hp
    rw [wrk_cons]
    have ih' := ih (fun a ha b hb => hr a (List.mem_cons_of_mem _ ha) b (List.mem_cons_of_mem _ hb)) (fun a ha => hw a (List.mem_cons_of_mem _ ha)) (K.set q.X.toNat q.Y) (by rw [List.length_set]; exact hK)
    by_cases h : p ∈ l
    · exact ih' p h
    · have e : p = q := (List.mem_cons.1 hp).resolve_right h
      subst e
      have hb := hw p (List.mem_cons_self ..)
      by_cases hx : ∃ r ∈ l, r.X.toNat = p.X.toNat
      · obtain ⟨r, h1, h2⟩ := hx
        have hrb := hw r (List.mem_cons_of_mem _ h1)
        rcases hr p (List.mem_cons_self ..) r (List.mem_cons_of_mem _ h1) with e | e | e
        · subst e; exact ih' p h1
        · have := e.1; omega
        · have := e.1; omega
      · rw [wrk_comm K l _ _ (fun r h1 h2 => hx ⟨r, h1, h2⟩), List.getElem?_set_self (by rw [wrk_length]; omega)]
/-- all that is written of a right list of pairs -/
structure Kpt (x y K : List Int) : Prop where
  vk : Vk 0 y.length K
  len : K.length = x.length
  eqs : ∀ (i q : Nat), K[i]? = some (q : Int) → x[i]? = y[q]?
theorem Okp.at {x y : List Int} {l : List Pr} (h : Okp x y 0 x.length 0 y.length l) {p : Pr} (hp : p ∈ l) : (wrk (List.replicate x.length (-1)) l)[p.X.toNat]? = some p.Y :=
  wrk_has l x.length h.ris (fun q hq => by have := h.wn q hq; unfold Wn at this; omega) _ (by simp) p hp
end Go.Proofs.YtgiojkhmkeocfaaGreatDoor

/- Runs of two rows of numbers, and the one to hold on to: plain. -/
set_option maxRecDepth 20000
namespace Go.Proofs.YtgiojkhmkeocfaaGreatDoor

/-- a run -/
structure Hr where
  X : Nat
  Y : Nat
  N : Nat
  R : Nat
/-- how often the member at a place stands in x -/
def cnt (x : List Int) (k : Nat) : Nat := match x[k]? with
  | some c => x.count c
  | none => x.length
/-- how rare n members from i on are -/
def rar (x : List Int) (i : Nat) : Nat → Nat
  | 0 => x.length
  | n + 1 => min (rar x i n) (cnt x (i + n))
/-- how many are the same from i and j on -/
def tl (x y : List Int) (i j : Nat) : Nat := tf x y i x.length j y.length
/-- how many are the same ahead of i and j -/
def hd (x y : List Int) (i j : Nat) : Nat := tb x y 0 i 0 j
theorem tl_step (x y : List Int) (i j : Nat) : tl x y i j = if i < x.length ∧ j < y.length ∧ x[i]? = y[j]? then tl x y (i + 1) (j + 1) + 1 else 0 := by unfold tl; rw [tf_eq]
/-- a run of x and y -/
structure IsRun (x y : List Int) (r : Hr) : Prop where
  hx : r.X < x.length
  hy : r.Y < y.length
  same : x[r.X]? = y[r.Y]?
  fst : ¬ (0 < r.X ∧ 0 < r.Y ∧ x[r.X - 1]? = y[r.Y - 1]?)
  n : r.N = tl x y r.X r.Y
  r : r.R = rar x r.X r.N
/-- rather held on to -/
def hlt (r b : Hr) : Prop := r.R < b.R ∨ (r.R = b.R ∧ (b.N < r.N ∨ (r.N = b.N ∧ (r.X < b.X ∨ (r.X = b.X ∧ r.Y < b.Y)))))
def Bst (x y : List Int) (b : Hr) : Prop := IsRun x y b ∧ ∀ r, IsRun x y r → r = b ∨ hlt b r
theorem Bst.one {x y : List Int} {a b : Hr} (ha : Bst x y a) (hb : Bst x y b) : a = b := by
  rcases ha.2 b hb.1 with h | h
  · exact h.symm
  · rcases hb.2 a ha.1 with h' | h'
    · exact h'
    · unfold hlt at h h'
      omega
theorem IsRun.pos {x y : List Int} {r : Hr} (h : IsRun x y r) : 0 < r.N := by
  rw [h.n, tl_step, if_pos ⟨h.hx, h.hy, h.same⟩]
  omega
end Go.Proofs.YtgiojkhmkeocfaaGreatDoor

/- All runs, and those that hold one of the rarest members; both ways find the same one: plain. -/
set_option maxRecDepth 20000
namespace Go.Proofs.YtgiojkhmkeocfaaGreatDoor

/-- the run that begins at two places, if one does -/
def rj (x y : List Int) (i j : Nat) : List Hr := if x[i]? = y[j]? ∧ ¬ (0 < i ∧ 0 < j ∧ x[i - 1]? = y[j - 1]?) then [⟨i, j, tl x y i j, rar x i (tl x y i j)⟩] else []
def rowR (x y : List Int) (i : Nat) : List Hr := (List.range' 0 y.length).flatMap (rj x y i)
/-- all runs -/
def runs (x y : List Int) : List Hr := (List.range' 0 x.length).flatMap (rowR x y)
/-- the run in which two equal members stand -/
def runAt (x y : List Int) (i j R : Nat) : Hr := ⟨i - hd x y i j, j - hd x y i j, hd x y i j + tl x y i j, R⟩
/-- a rarest member stands ahead of it in its run -/
def skp (x : List Int) (R i t : Nat) : Bool := (List.range t).any fun s => cnt x (i - (s + 1)) == R
/-- where the class of a member stands in y, if it is one of the rarest -/
def pj (x y : List Int) (R i : Nat) : List Nat := if cnt x i = R then (List.range y.length).filter (fun j => decide (y[j]? = x[i]?)) else []
def ck (x y : List Int) (R i j : Nat) : List Hr := if skp x R i (hd x y i j) then [] else [runAt x y i j R]
/-- R is how often the rarest class stands that is in both -/
structure Rst (x y : List Int) (R : Nat) : Prop where
  le : ∀ i j, i < x.length → j < y.length → x[i]? = y[j]? → R ≤ cnt x i
  ex : ∃ i j, i < x.length ∧ j < y.length ∧ x[i]? = y[j]? ∧ cnt x i = R
section
variable {x y : List Int} {R : Nat}
end
/-- the least number of times that a class of y stands in x, with what was found ahead of it; 0: none -/
def rs (x : List Int) : Nat → List Int → Nat
  | l, [] => l
  | l, c :: y => rs x (if 0 < x.count c ∧ (l = 0 ∨ x.count c < l) then x.count c else l) y
end Go.Proofs.YtgiojkhmkeocfaaGreatDoor

/- What an argument of type []int, []api.Change holds, and how much of it there is by the statement's own count. -/
set_option maxRecDepth 20000
namespace Go.Proofs.YtgiojkhmkeocfaaGreatDoor
open Go.ChangeShapes Go.WideShapes Go.ChangeAt Go.RowKit

theorem own : ownKnob Tryz.prog.godebug = none := by kernel_rfl
theorem laidOut : laidOutB Tryz.prog = true := by kernel_rfl
theorem cellsInt : Tryz.prog.cellsOf 3 = 1 := by kernel_rfl
theorem cellsCh : Tryz.prog.cellsOf 64 = 4 := by kernel_rfl

/-- numbers that an int holds -/
def w64 (z : Int) : Prop := -9223372036854775808 ≤ z ∧ z ≤ 9223372036854775807
theorem w64_of {z : Int} (h : (Lit.int .i64 z).wf = true) : w64 z := bounds_i64 h
/-- a change of numbers that an int holds -/
def wCh (c : Ch) : Prop := w64 c.A ∧ w64 c.AN ∧ w64 c.B ∧ w64 c.BN

theorem lits_len {H : Type} (l : List Int) : l.length ≤ Rows.uptoBulkAll (lits (H := H) .i64 l) := by
  induction l with
  | nil => simp [lits, Rows.uptoBulkAll]
  | cons s t ih =>
    have e : lits (H := H) .i64 (s :: t) = .lit (.int .i64 s) :: lits .i64 t := rfl
    rw [e]
    simp only [Rows.uptoBulkAll, Rows.uptoBulk, List.length_cons]
    omega

/-- the numbers that an argument holds -/
theorem open_nums {H : Type} {enc : TypeId × Value → H} {W : World} {fuel : Nat} {ao : Option Addr} {len cap : Nat} {d : DataW H} {p : List MemPlace}
    (h : DataW.trod enc Tryz.prog W 0 (fun _ => true) true fuel 71 [.slice ao len cap] = some (d, p)) :
    ∃ zs : List Int, HI W (.slice ao len cap) zs ∧ zs.length ≤ Rows.uptoBulk d ∧ ∀ z ∈ zs, w64 z := by
  rcases open_ints Tryz.underlying71 Tryz.underlying3 cellsInt h with ⟨hcs, hx⟩ | ⟨a, l, c, zs, hcs, _, hl, hm, hz, hx, hcell, hwf⟩
  · simp at hcs
    obtain ⟨rfl, rfl, rfl⟩ := hcs
    exact ⟨[], .inl ⟨rfl, rfl, rfl⟩, by simp, by simp⟩
  · simp at hcs
    obtain ⟨rfl, rfl, rfl⟩ := hcs
    simp at hz
    simp only [Prod.mk.injEq] at hx
    obtain ⟨rfl, _⟩ := hx
    have hlen : (zs.take len).length = len := by simp; omega
    refine ⟨zs.take len, .inr ⟨a, cap, by rw [hlen], by omega, fun j u hj => ?_⟩, ?_, fun z hz => w64_of (hwf z (List.mem_of_mem_take hz))⟩
    · have hj' : j < len := by
        have := (List.getElem?_eq_some_iff.1 hj).1
        rw [icells_length, hlen] at this
        exact this
      rw [hcell j (by omega)]
      have hjs : j < zs.length := by omega
      simp [icells, hj', hjs] at hj
      simp [List.getD, hjs, ← hj]
    · have := lits_len (H := H) (zs.take len)
      rw [Rows.uptoBulk]
      omega

theorem bulk_range {H : Type} (D : Nat → DataW H) (n : Nat) (h : ∀ i, i < n → 1 ≤ Rows.uptoBulk (D i)) : n ≤ Rows.uptoBulkAll ((List.range n).map D) := by
  have hall : ∀ l : List (DataW H), (∀ d ∈ l, 1 ≤ Rows.uptoBulk d) → l.length ≤ Rows.uptoBulkAll l := by
    intro l
    induction l with
    | nil => simp
    | cons d t ih =>
      intro hd
      have h1 := hd d (List.mem_cons_self ..)
      have h2 := ih fun x hx => hd x (List.mem_cons_of_mem _ hx)
      rw [Rows.uptoBulkAll]
      simp only [List.length_cons]
      omega
  have := hall ((List.range n).map D) (by
    intro d hd
    simp only [List.mem_map, List.mem_range] at hd
    obtain ⟨i, hi, rfl⟩ := hd
    exact h i hi)
  simpa using this

set_option maxRecDepth 10000 in
/-- the changes that an argument holds -/
theorem open_chs {H : Type} {enc : TypeId × Value → H} {W : World} {fuel : Nat} {ao : Option Addr} {len cap : Nat} {d : DataW H} {p : List MemPlace}
    (h : DataW.trod enc Tryz.prog W 0 (fun _ => true) true fuel 25 [.slice ao len cap] = some (d, p)) :
    ∃ l : List Ch, HCh W (.slice ao len cap) l ∧ l.length ≤ Rows.uptoBulk d ∧ ∀ c ∈ l, wCh c := by
  rcases Go.Deep.open_slice Tryz.underlying25 h with ⟨hcs, hx⟩ | ⟨a, l, c, m, n, D, Pl, hcs, _, hl, hm, hmm, hx, hel⟩
  · simp at hcs
    obtain ⟨rfl, rfl, rfl⟩ := hcs
    exact ⟨[], .inl ⟨rfl, rfl, rfl⟩, by simp, by simp⟩
  · simp at hcs
    obtain ⟨rfl, rfl, rfl⟩ := hcs
    simp only [Prod.mk.injEq] at hx
    obtain ⟨rfl, _⟩ := hx
    have hlm : len ≤ m := by rw [hmm]; split <;> omega
    have each : ∀ i, i < len → ∃ c : Ch, wCh c ∧ W.cell? (a.add (i * 4)) = some (.int .i64 c.A) ∧ W.cell? (a.add (i * 4 + 1)) = some (.int .i64 c.AN) ∧ W.cell? (a.add (i * 4 + 2)) = some (.int .i64 c.B) ∧ W.cell? (a.add (i * 4 + 3)) = some (.int .i64 c.BN) ∧ 1 ≤ Rows.uptoBulk (D i) := by
      intro i hi
      obtain ⟨cs', h1, h2⟩ := hel i (by omega)
      rw [cellsCh] at h1
      obtain ⟨_, hlen, hcell⟩ := World.cells?_some h1
      obtain ⟨xs, k, hk, hxy, _, hxl, hf⟩ := DataW.trod_struct Tryz.underlying64 h2
      match xs, hxl, cs', hlen with
      | [y0, y1, y2, y3], _, [v0, v1, v2, v3], _ =>
        have g0 := hf 0 _ rfl
        have g1 := hf 1 _ rfl
        have g2 := hf 2 _ rfl
        have g3 := hf 3 _ rfl
        simp [cellsInt] at g0 g1 g2 g3
        obtain ⟨z0, e0, _, w0⟩ := DataW.trod_int Tryz.underlying3 g0
        obtain ⟨z1, e1, _, w1⟩ := DataW.trod_int Tryz.underlying3 g1
        obtain ⟨z2, e2, _, w2⟩ := DataW.trod_int Tryz.underlying3 g2
        obtain ⟨z3, e3, _, w3⟩ := DataW.trod_int Tryz.underlying3 g3
        cases e0
        cases e1
        cases e2
        cases e3
        have c0 := hcell 0 (by omega)
        have c1 := hcell 1 (by omega)
        have c2 := hcell 2 (by omega)
        have c3 := hcell 3 (by omega)
        rw [Go.Deep.add_add] at c0 c1 c2 c3
        simp only [Prod.mk.injEq] at hxy
        refine ⟨⟨z0, z1, z2, z3⟩, ⟨w64_of w0, w64_of w1, w64_of w2, w64_of w3⟩, by simpa using c0, by simpa using c1, by simpa using c2, by simpa using c3, ?_⟩
        rw [hxy.1, Rows.uptoBulk]
        omega
    have : Inhabited Ch := ⟨⟨0, 0, 0, 0⟩⟩
    obtain ⟨f, hf⟩ := Go.Deep.choose_lt each
    have hlen : ((List.range len).map f).length = len := by simp
    refine ⟨(List.range len).map f, .inr ⟨a, cap, by rw [hlen], by rw [hlen]; exact hl, fun j u hj => ?_⟩, ?_, ?_⟩
    · have hj' : j < len * 4 := by
        have := (List.getElem?_eq_some_iff.1 hj).1
        rw [chcells_length, hlen] at this
        exact this
      obtain ⟨h0, h1, h2, h3⟩ := chcells_at ((List.range len).map f) (j / 4) (by rw [hlen]; omega)
      obtain ⟨_, g0, g1, g2, g3, _⟩ := hf (j / 4) (by omega)
      simp only [List.getElem_map, List.getElem_range] at h0 h1 h2 h3
      rcases (by omega : j = 4 * (j / 4) ∨ j = 4 * (j / 4) + 1 ∨ j = 4 * (j / 4) + 2 ∨ j = 4 * (j / 4) + 3) with e | e | e | e
      · rw [e, h0] at hj
        rw [e, Nat.mul_comm, g0, hj]
      · rw [e, h1] at hj
        rw [e, Nat.mul_comm, g1, hj]
      · rw [e, h2] at hj
        rw [e, Nat.mul_comm, g2, hj]
      · rw [e, h3] at hj
        rw [e, Nat.mul_comm, g3, hj]
    · rw [hlen, Rows.uptoBulk]
      have := bulk_range D len fun i hi => (hf i hi).2.2.2.2.2
      omega
    · intro c hc
      simp only [List.mem_map, List.mem_range] at hc
      obtain ⟨i, hi, rfl⟩ := hc
      exact (hf i hi).1
end Go.Proofs.YtgiojkhmkeocfaaGreatDoor

/- How often each class stands: count and rarest, walked. -/
set_option maxRecDepth 20000
namespace Go.Proofs.YtgiojkhmkeocfaaGreatDoor
open Go.RowKit Go.Maps

/-- a map that tells how often each class stands -/
structure Cnt {H : Type} (D : DataW H) (t : List Int) : Prop where
  tidy : Tidy D
  at_ : ∀ c, D.atKey (.int .i64 c) (.lit (.int .i64 0)) = .lit (.int .i64 (t.count c : Nat))
theorem Cnt.nil {H : Type} : Cnt (H := H) (.map []) [] := ⟨tidy_empty, fun _ => by rw [atKey_of_not_has rfl]; rfl⟩
theorem Cnt.put {H : Type} {D : DataW H} {t : List Int} (h : Cnt D t) (a : Int) : Cnt (D.put (.int .i64 a) (.lit (.int .i64 ((t.count a : Nat) + 1)))) (t ++ [a]) := by
  have hk : WideAt.IsKeyLit (.int .i64 a) := trivial
  have hne : ∀ {g : Int}, a ≠ g → (Lit.int .i64 g) ≠ .int .i64 a := fun hg e => hg (by cases e; rfl)
  refine ⟨h.tidy.put hk _, fun c => ?_⟩
  by_cases e : a = c
  · subst e
    rw [atKey_put_same h.tidy.isMap hk, List.count_append, List.count_singleton_self]
    rfl
  · rw [atKey_put_other (hne e), h.at_, List.count_append]
    have : [a].count c = 0 := by rw [List.count_eq_zero]; simp; exact fun q => e q.symm
    rw [this, Nat.add_zero]
theorem hKeyed : Keyed Tryz.prog 3 := int_keyed Tryz.underlying3
theorem hKey {c : Int} (hc : w64 c) : keyOf Tryz.prog 3 (.int .i64 c) = some (.int .i64 c) := keyOf_int_mk Tryz.underlying3 (WalkArith.wf_i64 hc)
/-- such a map in memory -/
def Mc (t : List Int) (B : Nat) (w : World) : Prop := ∃ D : DataW Unit, w.ownsMap Tryz.prog 3 (plainElem Tryz.prog 3) B t.length D ∧ Cnt D t
section
variable {t : List Int} {B : Nat} {w w' : World}
theorem Mc.lt (h : Mc t B w) : B < w.heap.size := by obtain ⟨D, hm, _⟩ := h; exact hm.lt
theorem Mc.keep (h : Mc t B w) (hb : w'.heap[B]? = w.heap[B]?) : Mc t B w' := by
  obtain ⟨D, ⟨es, clock, hm, r⟩, hd⟩ := h
  exact ⟨D, ⟨es, clock, hb.trans hm, r⟩, hd⟩
theorem Mc.low (h : Mc t B w) (hb : Below w.heap.size w w') : Mc t B w' := h.keep (hb.block B h.lt)
theorem Mc.store (h : Mc t B w) {a : Int} (ha : w64 a) (hl : t.length ≤ 1099511627776) (z : Int) (hz : z = (t.count a : Nat) + 1) :
    ∃ w', (Instr.mapUpdate 281 (.map (some B)) (.int .i64 a) (.int .i64 z)).run Tryz.prog w = .ok () w' ∧ Mc (t ++ [a]) B w' ∧ w.grownBy w' (some B) := by
  obtain ⟨D, hm, hd⟩ := h
  have hcl : t.count a ≤ t.length := List.count_le_length
  obtain ⟨w', hr, ho, ht⟩ := hm.store (val := .int .i64 z) hKeyed Tryz.underlying281 (by unfold maxLen; omega) (hKey ha) (plainElem_int Tryz.underlying3 (WalkArith.wf_i64 (by omega)))
  exact ⟨w', hr, ⟨_, by simpa using ho, by subst hz; exact hd.put a⟩, ht.grown⟩
end

end Go.Proofs.YtgiojkhmkeocfaaGreatDoor

/- Pieces of slices of numbers, as values and as what they hold. -/
set_option maxRecDepth 20000
namespace Go.Proofs.YtgiojkhmkeocfaaGreatDoor
open Go.RowKit

theorem Ls.lt {w u : World} {g n : Nat} {Z : List Int} (h : Ls w g n Z u) : w.heap.size ≤ g ∧ g < u.heap.size := by
  rcases h.own.2 with ⟨h1, _⟩ | ⟨g', cap, cur, h1, h2, h3, _⟩
  · cases h1
  · cases h1
    exact ⟨h2, (Array.getElem?_eq_some_iff.1 h3).1⟩
end Go.Proofs.YtgiojkhmkeocfaaGreatDoor

/- Where the rarest classes stand: places and partners, walked. -/
set_option maxRecDepth 20000
namespace Go.Proofs.YtgiojkhmkeocfaaGreatDoor
open Go.RowKit Go.Maps

/-- where a class stands in t, if it stands R times in x -/
def pl (x : List Int) (R : Nat) (t : List Int) (c : Int) : List Nat := if x.count c = R then (List.range t.length).filter (fun j => decide (t[j]? = some c)) else []
theorem pl_snoc (x : List Int) (R : Nat) (t : List Int) (a c : Int) : pl x R (t ++ [a]) c = if x.count a = R ∧ a = c then pl x R t c ++ [t.length] else pl x R t c := by
  unfold pl
  have hf : ((List.range t.length).filter fun j => decide ((t ++ [a])[j]? = some c)) = (List.range t.length).filter fun j => decide (t[j]? = some c) := by
    apply List.filter_congr
    intro j hj
    rw [List.mem_range] at hj
    rw [List.getElem?_append_left hj]
  by_cases h : x.count c = R
  · rw [if_pos h, if_pos h, List.length_append, List.length_singleton, List.range_succ, List.filter_append, hf]
    by_cases e : a = c
    · subst e
      rw [if_pos ⟨h, rfl⟩]
      congr 1
      simp
    · rw [if_neg (fun q => e q.2)]
      have : ([t.length].filter fun j => decide ((t ++ [a])[j]? = some c)) = [] := by simp [e]
      rw [this, List.append_nil]
  · rw [if_neg h, if_neg h]
    by_cases e : a = c
    · subst e
      rw [if_neg (fun q => h q.1)]
    · rw [if_neg (fun q => e q.2)]
theorem pl_nil (x : List Int) (R : Nat) (c : Int) : pl x R [] c = [] := by simp [pl]
/-- a list of places as numbers -/
def nI (l : List Nat) : List Int := l.map fun (n : Nat) => (n : Int)
theorem nI_append (a b : List Nat) : nI (a ++ b) = nI a ++ nI b := by simp [nI]
/-- a map that tells where the classes stand -/
structure Gd (D : DataW Unit) (f : Int → List Nat) : Prop where
  tidy : IsMap D
  at_ : ∀ c, D.atKey (.int .i64 c) .nil = if f c = [] then .nil else .slice (ChangeShapes.lits .i64 (nI (f c))) []
theorem lits_inj {a b : List Int} (h : ChangeShapes.lits (H := Unit) .i64 a = ChangeShapes.lits .i64 b) : a = b := by
  unfold ChangeShapes.lits at h
  exact (List.map_inj_right (fun u v huv => by cases huv; rfl)).1 h
theorem Gd.zs {D : DataW Unit} {f : Int → List Nat} (h : Gd D f) {w : World} {base : Nat} {e : TypeId} {v : Value} {zs : List Int} {c : Int} (ho : w.ownsInts base e .i64 v zs) (ha : D.atKey (.int .i64 c) .nil = rowDatum .i64 v zs) : zs = nI (f c) := by
  rw [h.at_] at ha
  rcases ho.datum (H := Unit) with ⟨h1, h2⟩ | h1
  · rw [h1] at ha
    by_cases e : f c = []
    · rw [h2, e]; rfl
    · rw [if_neg e] at ha; cases ha
  · rw [h1] at ha
    by_cases e : f c = []
    · rw [if_pos e] at ha; cases ha
    · rw [if_neg e] at ha
      injection ha with ha
      exact (lits_inj ha).symm
theorem Gd.nil (x : List Int) (R : Nat) : Gd (.map []) (pl x R []) := ⟨isMap_empty, fun c => by rw [atKey_of_not_has rfl, if_pos (pl_nil x R c)]⟩
theorem Gd.put {D : DataW Unit} {x : List Int} {R : Nat} {t : List Int} (h : Gd D (pl x R t)) {a : Int} (ha : x.count a = R) : Gd (D.put (.int .i64 a) (.slice (ChangeShapes.lits .i64 (nI (pl x R t a) ++ [(t.length : Int)])) [])) (pl x R (t ++ [a])) := by
  have hk : WideAt.IsKeyLit (.int .i64 a) := trivial
  have hne : ∀ {g : Int}, a ≠ g → (Lit.int .i64 g) ≠ .int .i64 a := fun hg e => hg (by cases e; rfl)
  refine ⟨h.tidy.put _ _, fun c => ?_⟩
  by_cases e : a = c
  · subst e
    have e2 : pl x R (t ++ [a]) a = pl x R t a ++ [t.length] := by rw [pl_snoc, if_pos ⟨ha, rfl⟩]
    rw [atKey_put_same h.tidy hk, e2, if_neg (by simp), nI_append]
    rfl
  · have e2 : pl x R (t ++ [a]) c = pl x R t c := by rw [pl_snoc, if_neg (fun q => e q.2)]
    rw [atKey_put_other (hne e), h.at_, e2]
theorem Gd.skip {D : DataW Unit} {x : List Int} {R : Nat} {t : List Int} (h : Gd D (pl x R t)) {a : Int} (ha : x.count a ≠ R) : Gd D (pl x R (t ++ [a])) := by
  refine ⟨h.tidy, fun c => ?_⟩
  have e2 : pl x R (t ++ [a]) c = pl x R t c := by rw [pl_snoc, if_neg (fun q => ha q.1)]
  rw [e2]
  exact h.at_ c
/-- such a map in memory, with rows of its own -/
def Gm (x : List Int) (R : Nat) (t : List Int) (b base : Nat) (w : World) : Prop := ∃ m D, m ≤ t.length ∧ w.ownsGroups Tryz.prog 3 base 3 .i64 b m D ∧ Gd D (pl x R t)
theorem Gm.low {x : List Int} {R : Nat} {t : List Int} {b base : Nat} {w w' : World} (h : Gm x R t b base w) (hb : Below w.heap.size w w') : Gm x R t b base w' := by
  obtain ⟨m, D, h1, h2, h3⟩ := h
  exact ⟨m, D, h1, h2.kept (low_grown hb none) (by simp) (fun _ _ _ e _ => by cases e.val.ownBlock <;> simp), h3⟩
/-- rows of places, one for each member of x -/
def Prt (x y : List Int) (R base k : Nat) (vs : List Value) (w : World) : Prop := vs.length = x.length ∧ ∀ i, i < k → ∃ v, vs[i]? = some v ∧ w.ownsInts base 3 .i64 v (nI (pj x y R i))
/-- a row of rows is written: rows of numbers stay -/
theorem ints_other {w : World} {base : Nat} {v : Value} {zs : List Int} (h : w.ownsInts base 3 .i64 v zs) {g : Nat} {cs : Array Value} {fz : Nat × Nat} (hg : w.heap[g]? = some (.cells cs 71 fz)) (j : Nat) (u : Value) : (w.setCell ⟨g, j, none⟩ u).ownsInts base 3 .i64 v zs := by
  refine h.kept (grown_set w g j u) ?_
  rcases h.1.2 with ⟨rfl, _⟩ | ⟨g', cap, cur, rfl, _, h2, _⟩
  · exact .inl rfl
  · right
    intro e
    simp [Value.ownBlock] at e
    subst e
    rw [h2] at hg
    cases hg
theorem Prt.set {x y : List Int} {R base k : Nat} {vs : List Value} {w : World} (h : Prt x y R base k vs w) (hk : k < x.length) {g : Nat} {cs : Array Value} {fz : Nat × Nat} (hg : w.heap[g]? = some (.cells cs 71 fz)) {v : Value} (hv : w.ownsInts base 3 .i64 v (nI (pj x y R k))) : Prt x y R base (k + 1) (vs.set k v) (w.setCell ⟨g, k, none⟩ v) := by
  refine ⟨by rw [List.length_set]; exact h.1, fun i hi => ?_⟩
  by_cases e : i = k
  · subst e
    exact ⟨v, List.getElem?_set_self (by rw [h.1]; exact hk), ints_other hv hg _ _⟩
  · obtain ⟨u, h1, h2⟩ := h.2 i (by omega)
    exact ⟨u, by rw [List.getElem?_set_ne (fun q => e q.symm)]; exact h1, ints_other h2 hg _ _⟩
theorem Prt.low {x y : List Int} {R base k : Nat} {vs : List Value} {w w' : World} (h : Prt x y R base k vs w) (hb : Below w.heap.size w w') : Prt x y R base k vs w' :=
  ⟨h.1, fun i hi => by obtain ⟨v, h1, h2⟩ := h.2 i hi; exact ⟨v, h1, h2.kept (low_grown hb none) (by cases v.ownBlock <;> simp)⟩⟩
end Go.Proofs.YtgiojkhmkeocfaaGreatDoor

/- Small functions of the layer histogram: same, cmp.Compare, cmp.Or, outdoes, walked. -/
set_option maxRecDepth 20000
namespace Go.Proofs.YtgiojkhmkeocfaaGreatDoor
open Go.RowKit

end Go.Proofs.YtgiojkhmkeocfaaGreatDoor

/- Whether a run is rather held on to: outdoes, walked. -/
set_option maxRecDepth 20000
namespace Go.Proofs.YtgiojkhmkeocfaaGreatDoor
open Go.RowKit

def Hbx (u : World) (B : Nat) (r : Hr) : Prop := u.heap[B]? = some (.cells #[.int .i64 (r.X : Int), .int .i64 (r.Y : Int), .int .i64 (r.N : Int), .int .i64 (r.R : Int)] 286 (0, 0))
section
variable {u u' : World} {B : Nat} {r : Hr}
theorem Hbx.cells (h : Hbx u B r) : u.cell? ⟨B, 0, none⟩ = some (.int .i64 (r.X : Int)) ∧ u.cell? ⟨B, 1, none⟩ = some (.int .i64 (r.Y : Int)) ∧ u.cell? ⟨B, 2, none⟩ = some (.int .i64 (r.N : Int)) ∧ u.cell? ⟨B, 3, none⟩ = some (.int .i64 (r.R : Int)) := by
  refine ⟨?_, ?_, ?_, ?_⟩ <;> rw [Lib.cell_of_heap h] <;> rfl
theorem Hbx.frozen (h : Hbx u B r) (j : Nat) : u.frozen? ⟨B, j, none⟩ = false := by
  unfold World.frozen?
  rw [h]
  rfl
theorem Hbx.lt (h : Hbx u B r) : B < u.heap.size := (Array.getElem?_eq_some_iff.1 h).1
theorem Hbx.keep (h : Hbx u B r) {g : Option Nat} (hg : u.grownBy u' g) (hr : some B ≠ g) : Hbx u' B r := (hg.block B h.lt hr).trans h
theorem Hbx.low (h : Hbx u B r) (hg : Below u.heap.size u u') : Hbx u' B r := (hg.block B h.lt).trans h
theorem Hbx.new (w : World) (r : Hr) : Hbx (w.alloc (.cells #[.int .i64 (r.X : Int), .int .i64 (r.Y : Int), .int .i64 (r.N : Int), .int .i64 (r.R : Int)] 286)) w.heap.size r := _root_.Go.heap_alloc_new w _
end
end Go.Proofs.YtgiojkhmkeocfaaGreatDoor

/- Going back along a run: plain. Steps of a region, by their equations. -/
set_option maxRecDepth 20000
namespace Go.Proofs.YtgiojkhmkeocfaaGreatDoor
open Go.RowKit

end Go.Proofs.YtgiojkhmkeocfaaGreatDoor
