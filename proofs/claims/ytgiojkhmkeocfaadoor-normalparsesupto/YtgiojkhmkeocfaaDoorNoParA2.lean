/-
  Texts that belong together, joined: HuC1, HuIv, HuCn, HuOne, HuCh, HuGr, HuC7, EdReg, EdApp, EdSameS, EdRApp, HuC8, HuC9, HuMk, HuCa, EdOpen.
-/
import Derived.Test.YtgiojkhmkeocfaaDoorNoParA1
import Derived.Deep.CutRange
import Derived.Test.YtgiojkhmkeocfaaDoorRows
import Derived.Test.YtgiojkhmkeocfaaDoorChecked
import Derived.ProofKit
import Derived.OpenShut
import Derived.ShutString
import Derived.ChangeOld
import Derived.Below
import Derived.SliceStrings
import Derived.ChangeSlices
import Derived.Deep.Slices
import Derived.Deep.SlicePairs
import Derived.JoinedCond

/- The code's small functions of layer 11, walked: the lines of a side, numbers, places, signs. -/
namespace Go.Proofs.YtgiojkhmkeocfaaDoor
open Go.RowKit

/-- which sign a side has, and which it has not -/
def Sd (sg no : Int) : Prop := sg = 45 ∧ no = 43 ∨ sg = 43 ∧ no = 45
theorem sd_iff {sg no : Int} (h : Sd sg no) (s : Int) : (s ≠ no ∧ okS s = true) ↔ (s = 32 ∨ s = sg) := by
  simp only [okS, Bool.or_eq_true, decide_eq_true_eq]
  rcases h with ⟨rfl, rfl⟩ | ⟨rfl, rfl⟩ <;> omega
theorem pk_take {sg no : Int} (h : Sd sg no) {s : Int} (hs : s = 32 ∨ s = sg) {out R : List (List UInt8)} {tx : List UInt8} {l : List Mk} (hI : out ++ (if s ≠ no ∧ okS s = true then tx :: pkL no l else pkL no l) = R) : out ++ [tx] ++ pkL no l = R := by
  rw [if_pos ((sd_iff h s).2 hs)] at hI
  rw [← hI]
  simp
theorem pk_pass {sg no : Int} (h : Sd sg no) {s : Int} (h1 : s ≠ 32) (h2 : s ≠ sg) {out R : List (List UInt8)} {tx : List UInt8} {l : List Mk} (hI : out ++ (if s ≠ no ∧ okS s = true then tx :: pkL no l else pkL no l) = R) : out ++ pkL no l = R := by
  rw [if_neg (fun q => by rcases (sd_iff h s).1 q with q | q <;> contradiction)] at hI
  exact hI

theorem owns_less {u : World} {base base' : Nat} {e : TypeId} {s : Nat} {v : Value} {n : Nat} {xs : List Value} (h : u.ownsRow base e s v n xs) (hb : base' ≤ base) : u.ownsRow base' e s v n xs := by
  refine ⟨h.1, ?_⟩
  rcases h.2 with q | ⟨b, cap, cur, rfl, q2, q3, q4⟩
  · exact .inl q
  · exact .inr ⟨b, cap, cur, rfl, Nat.le_trans hb q2, q3, q4⟩

set_option maxHeartbeats 2000000 in
theorem hside_o (h : Hk) (v : Value) (sd no : Int) (HSD : Hid (Sd sd no)) (w : World) (hv : HMk w v h.ls) (hl : h.ls.length ≤ 1099511627776) (R : List (List UInt8)) (HR : Hid (pkL no h.ls = R)) : Calls Tryd.prog 73 #[hkV h v, .int .u8 sd] w fun e w' => ∃ v', e = .returned v' ∧ w'.ownsRow w.heap.size 9 1 v' R.length (scells R) ∧ Below w.heap.size w w' := by
  obtain ⟨A, AN, B, BN, ls⟩ := h
  dsimp only at hv hl HR
  obtain ⟨lo, lc, rfl⟩ := HMk.form hv
  have hx := Hx.new w ⟨A, AN, B, BN, ls⟩ (.slice lo ls.length lc)
  have hBl : Below w.heap.size w (w.alloc (hkO ⟨A, AN, B, BN, ls⟩ (.slice lo ls.length lc))) := (Below.refl _ w).alloc (Nat.le_refl _) _
  have hv1 := HMk.keep hv hBl (Nat.le_refl _)
  obtain ⟨_, _, _, _, x4⟩ := hx.cells
  have hW : w.alloc (Obj.cells #[Value.int IntKind.i64 A, Value.int IntKind.i64 AN, Value.int IntKind.i64 B, Value.int IntKind.i64 BN, .slice lo ls.length lc] 43) = w.alloc (hkO ⟨A, AN, B, BN, ls⟩ (.slice lo ls.length lc)) := rfl
  have HSZ : Hid ((w.alloc (hkO ⟨A, AN, B, BN, ls⟩ (.slice lo ls.length lc))).heap.size = w.heap.size + 1) := (by show _ = _; simp)
  unfold hkV
  dsimp only
  clear hv hx
  generalize w.alloc (hkO ⟨A, AN, B, BN, ls⟩ (.slice lo ls.length lc)) = W at *
  go_enter Tryd.func73, Tryd.ntmps73
  go_wp2
  clear hW x4
  go_loopw [5, 11] (fun ov iv wr => ∃ (k : Nat) (out : List (List UInt8)), k ≤ ls.length ∧ out.length ≤ k ∧ iv = .int .i64 (k : Int) ∧ (∃ oo oc, ov = .slice oo out.length oc) ∧ St W 9 1 ov out.length (scells out) wr ∧ Hid (out ++ pkL no (ls.drop k) = R)) (fun _ iv _ => ls.length - (intOf iv).toNat)
  case atStart => exact ⟨0, [], Nat.zero_le _, Nat.le_refl _, by go_num, ⟨_, _, rfl⟩, ⟨hnil_row _ _ _ _, Below.refl _ _⟩, HR⟩
  case round =>
    obtain ⟨k, out, hk, hok, rfl, ⟨oo, oc, rfl⟩, hS, HI⟩ := hrel
    by_cases hlt : k < ls.length
    · obtain ⟨b, off, rfl, hb, _⟩ := HMk.at hv1 (by omega)
      obtain ⟨m, hm⟩ : ∃ m, ls[k] = m := ⟨_, rfl⟩
      obtain ⟨c0, c1⟩ := Low.mk hS.low hv1 k hlt hm
      have HI2 : Hid (out ++ (if m.sg ≠ no ∧ okS m.sg = true then m.tx :: pkL no (ls.drop (k + 1)) else pkL no (ls.drop (k + 1))) = R) := (by
        show _ = _
        rw [← HI.out, List.drop_eq_getElem_cons hlt, hm]
        rfl)
      have i1 : 0 ≤ (k : Int) := by omega
      have i2 : (k : Int) < (ls.length : Int) := by omega
      obtain ⟨m0, m1⟩ := (Mx.new wr m).cells
      have hS1 := st_alloc (mkO m) hS
      have hsS := hS.low.size
      have HSM : Hid ((wr.alloc (mkO m)).heap.size = wr.heap.size + 1) := (by show _ = _; simp)
      have hW2 : wr.alloc (Obj.cells #[Value.int IntKind.u8 m.sg, Value.string ⟨m.tx.toArray⟩] 91) = wr.alloc (mkO m) := rfl
      clear HI hm HR
      go_upto_region 5 with fail
      obtain ⟨sg, tx⟩ := m
      dsimp only at m0 m1 c0 c1 HI2 hW2
      generalize hwr1 : wr.alloc (mkO ⟨sg, tx⟩) = wr1 at *
      clear hW2
      have hs1 := hS1.low.size
      by_cases h1 : sg = 32
      · subst h1
        have HI3 : Hid (out ++ [tx] ++ pkL no (ls.drop (k + 1)) = R) := pk_take HSD.out (.inl rfl) HI2.out
        clear HI2
        go_wp2_with (at_builtin; refine wpList_append_h _ (by kernel_rfl) (.tmp 24) (.tmp 27) 23 9 (.string ⟨#[]⟩) 1 16 rfl Tryd.underlying23 infoStr rfl (by decide) (by decide) W.heap.size _ _ _ rfl (hS1.own.alloc _) _ 1 (scells [tx]) rfl (new_holds _ _ _ _ _ (by decide)) rfl (scells_one _) (by omega) (by simp; omega) ?_)
        intro v2 w2 hown2 hgrow2
        have hB2 : Below W.heap.size W w2 := (hS1.low.alloc hS1.low.size _).grown hgrow2 (by simp; omega) (fun _ hj => owns_ge hS1.own hj)
        rw [← scells_append] at hown2
        obtain ⟨oo2, oc2, rfl⟩ := (holds_of hown2).form
        clear hgrow2
        go_wp2
        exact ⟨⟨k + 1, out ++ [tx], by omega, by simp; omega, by go_num, ⟨_, _, by rw [List.length_append]; rfl⟩, ⟨by rw [List.length_append]; exact hown2, hB2⟩, HI3⟩, by simp [intOf]; omega⟩
      · have e1 : (sg == 32) = false := by simpa using h1
        by_cases h2 : sg = sd
        · subst h2
          have HI3 : Hid (out ++ [tx] ++ pkL no (ls.drop (k + 1)) = R) := pk_take HSD.out (.inr rfl) HI2.out
          clear HI2 h1
          go_wp2_with (at_builtin; refine wpList_append_h _ (by kernel_rfl) (.tmp 24) (.tmp 27) 23 9 (.string ⟨#[]⟩) 1 16 rfl Tryd.underlying23 infoStr rfl (by decide) (by decide) W.heap.size _ _ _ rfl (hS1.own.alloc _) _ 1 (scells [tx]) rfl (new_holds _ _ _ _ _ (by decide)) rfl (scells_one _) (by omega) (by simp; omega) ?_)
          intro v2 w2 hown2 hgrow2
          have hB2 : Below W.heap.size W w2 := (hS1.low.alloc hS1.low.size _).grown hgrow2 (by simp; omega) (fun _ hj => owns_ge hS1.own hj)
          rw [← scells_append] at hown2
          obtain ⟨oo2, oc2, rfl⟩ := (holds_of hown2).form
          clear hgrow2
          go_wp2
          exact ⟨⟨k + 1, out ++ [tx], by omega, by simp; omega, by go_num, ⟨_, _, by rw [List.length_append]; rfl⟩, ⟨by rw [List.length_append]; exact hown2, hB2⟩, HI3⟩, by simp [intOf]; omega⟩
        · have e2 : (sg == sd) = false := by simpa using h2
          have HI3 : Hid (out ++ pkL no (ls.drop (k + 1)) = R) := pk_pass HSD.out h1 h2 HI2.out
          clear HI2 h1 h2
          go_wp2
          exact ⟨⟨k + 1, out, by omega, by omega, by go_num, ⟨_, _, rfl⟩, hS1, HI3⟩, by simp [intOf]; omega⟩
    · have HI3 : Hid (out = R) := (by
        have h := HI.out
        rw [List.drop_of_length_le (by omega)] at h
        show out = R
        simpa [pkL] using h)
      clear HI
      have hend : decide ((k : Int) < (ls.length : Int)) = false := decide_eq_false (by omega)
      go_wp2
      go_ret
      refine ⟨_, rfl, ?_, hBl.trans (hS.low.mono (by have := HSZ.out; omega))⟩
      rw [← HI3.out]
      exact owns_less hS.own (by have := HSZ.out; omega)
theorem hOld_o (h : Hk) (v : Value) (w : World) (hv : HMk w v h.ls) (hl : h.ls.length ≤ 1099511627776) (R : List (List UInt8)) (HR : Hid (oldL h = R)) : Calls Tryd.prog 32 #[hkV h v] w fun e w' => ∃ v', e = .returned v' ∧ w'.ownsRow w.heap.size 9 1 v' R.length (scells R) ∧ Below w.heap.size w w' := by
  have hBl : Below w.heap.size w (w.alloc (hkO h v)) := (Below.refl _ w).alloc (Nat.le_refl _) _
  have hv1 := HMk.keep hv hBl (Nat.le_refl _)
  obtain ⟨c0, c1, c2, c3, c4⟩ := (Hx.new w h v).cells
  unfold hkO at c0 c1 c2 c3 c4 hBl hv1
  obtain ⟨lo, lc, rfl⟩ := HMk.form hv
  have e : hkV h (.slice lo h.ls.length lc) = .agg #[.int .i64 h.A, .int .i64 h.AN, .int .i64 h.B, .int .i64 h.BN, .slice lo h.ls.length lc] := rfl
  rw [e]
  go_enter Tryd.func32, Tryd.ntmps32
  go_wp2_with fail
  refine (hside_o h _ 45 43 (.inl ⟨rfl, rfl⟩) _ hv1 hl R HR).mono ?_
  rintro e w1 ⟨v1, rfl, hv1, hB1⟩
  obtain ⟨vo, vc, rfl⟩ := Holds.form (holds_of hv1)
  go_wp2
  go_ret
  exact ⟨_, rfl, owns_less hv1 hBl.size, hBl.trans (hB1.mono hBl.size)⟩
theorem hOld_f (h : Hk) (v : Value) (w : World) (hv : HMk w v h.ls) (hl : h.ls.length ≤ 1099511627776) (R : List (List UInt8)) (HR : Hid (oldL h = R)) : Calls Tryd.prog 32 #[hkV h v] w fun e w' => ∃ v', e = .returned v' ∧ HS w' v' R ∧ Below w.heap.size w w' := by
  refine (hOld_o h v w hv hl R HR).mono ?_
  rintro e w1 ⟨v1, rfl, h1, hB1⟩
  exact ⟨v1, rfl, holds_of h1, hB1⟩
theorem hNew_o (h : Hk) (v : Value) (w : World) (hv : HMk w v h.ls) (hl : h.ls.length ≤ 1099511627776) (R : List (List UInt8)) (HR : Hid (newL h = R)) : Calls Tryd.prog 34 #[hkV h v] w fun e w' => ∃ v', e = .returned v' ∧ w'.ownsRow w.heap.size 9 1 v' R.length (scells R) ∧ Below w.heap.size w w' := by
  have hBl : Below w.heap.size w (w.alloc (hkO h v)) := (Below.refl _ w).alloc (Nat.le_refl _) _
  have hv1 := HMk.keep hv hBl (Nat.le_refl _)
  obtain ⟨c0, c1, c2, c3, c4⟩ := (Hx.new w h v).cells
  unfold hkO at c0 c1 c2 c3 c4 hBl hv1
  obtain ⟨lo, lc, rfl⟩ := HMk.form hv
  have e : hkV h (.slice lo h.ls.length lc) = .agg #[.int .i64 h.A, .int .i64 h.AN, .int .i64 h.B, .int .i64 h.BN, .slice lo h.ls.length lc] := rfl
  rw [e]
  go_enter Tryd.func34, Tryd.ntmps34
  go_wp2_with fail
  refine (hside_o h _ 43 45 (.inr ⟨rfl, rfl⟩) _ hv1 hl R HR).mono ?_
  rintro e w1 ⟨v1, rfl, hv1, hB1⟩
  obtain ⟨vo, vc, rfl⟩ := Holds.form (holds_of hv1)
  go_wp2
  go_ret
  exact ⟨_, rfl, owns_less hv1 hBl.size, hBl.trans (hB1.mono hBl.size)⟩
theorem hNew_f (h : Hk) (v : Value) (w : World) (hv : HMk w v h.ls) (hl : h.ls.length ≤ 1099511627776) (R : List (List UInt8)) (HR : Hid (newL h = R)) : Calls Tryd.prog 34 #[hkV h v] w fun e w' => ∃ v', e = .returned v' ∧ HS w' v' R ∧ Below w.heap.size w w' := by
  refine (hNew_o h v w hv hl R HR).mono ?_
  rintro e w1 ⟨v1, rfl, h1, hB1⟩
  exact ⟨v1, rfl, holds_of h1, hB1⟩

/-- may a hunk say that number of its lines? -/
def nmB (a n : Int) : Bool := nat31 a && nat31 n && !(decide (a = 0) && decide (0 < n))
theorem hnumbered_f (a n : Int) (w : World) (r : Bool) (HR : Hid (nmB a n = r)) : Calls Tryd.prog 45 #[.int .i64 a, .int .i64 n] w fun e w' => e = .returned (.bool r) ∧ w' = w := by
  have hr : r = true ↔ (0 ≤ a ∧ a ≤ 2147483647 ∧ 0 ≤ n ∧ n ≤ 2147483647 ∧ (0 < a ∨ n = 0)) := by
    rw [← HR.out]
    unfold nmB nat31
    simp only [Bool.and_eq_true, decide_eq_true_eq, Bool.not_eq_true', Bool.and_eq_false_iff, decide_eq_false_iff_not]
    omega
  have HRR : Hid (r = true ↔ (0 ≤ a ∧ a ≤ 2147483647 ∧ 0 ≤ n ∧ n ≤ 2147483647 ∧ (0 < a ∨ n = 0))) := hr
  clear hr HR
  have no : ∀ {p : Prop}, p → (p → ¬ (0 ≤ a ∧ a ≤ 2147483647 ∧ 0 ≤ n ∧ n ≤ 2147483647 ∧ (0 < a ∨ n = 0))) → Ending.returned (.bool false) = .returned (.bool r) := fun hp h => by
    cases r with
    | false => rfl
    | true => exact absurd (HRR.out.1 rfl) (h hp)
  go_enter Tryd.func45, Tryd.ntmps45
  by_cases h1 : a < 0
  · go_wp2
    go_ret
    exact ⟨no h1 (fun _ => by omega), rfl⟩
  · have e1 : decide (a < 0) = false := decide_eq_false h1
    by_cases h2 : 2147483647 < a
    · go_wp2
      go_ret
      exact ⟨no h2 (fun _ => by omega), rfl⟩
    · have e2 : decide (2147483647 < a) = false := decide_eq_false h2
      by_cases h3 : n < 0
      · go_wp2
        go_ret
        exact ⟨no h3 (fun _ => by omega), rfl⟩
      · have e3 : decide (n < 0) = false := decide_eq_false h3
        by_cases h4 : 2147483647 < n
        · go_wp2
          go_ret
          exact ⟨no h4 (fun _ => by omega), rfl⟩
        · have e4 : decide (2147483647 < n) = false := decide_eq_false h4
          by_cases h5 : 0 < a
          · obtain rfl : r = true := HRR.out.2 (by omega)
            go_wp2
            go_ret
            exact ⟨rfl, rfl⟩
          · have e5 : decide (0 < a) = false := decide_eq_false h5
            by_cases h6 : n = 0
            · obtain rfl : r = true := HRR.out.2 (by omega)
              subst h6
              go_wp2
              go_ret
              exact ⟨rfl, rfl⟩
            · have e6 : (n == 0) = false := by simpa using h6
              go_wp2
              go_ret
              exact ⟨no h6 (fun _ => by omega), rfl⟩
/-- is a line changed? is its sign none? -/
def chgB (m : Mk) : Bool := decide (m.sg = 45) || decide (m.sg = 43)
theorem hchanged_f (m : Mk) (w : World) : Calls Tryd.prog 49 #[.agg #[.int .u8 m.sg, .string ⟨m.tx.toArray⟩]] w fun e w' => e = .returned (.bool (chgB m)) ∧ Below w.heap.size w w' := by
  obtain ⟨sg, tx⟩ := m
  obtain ⟨m0, m1⟩ := (Mx.new w ⟨sg, tx⟩).cells
  have hB : Below w.heap.size w (w.alloc (mkO ⟨sg, tx⟩)) := (Below.refl _ w).alloc (Nat.le_refl _) _
  unfold mkO at m0 m1 hB
  dsimp only at m0 m1 hB
  unfold chgB
  by_cases h1 : sg = 45
  · subst h1
    go_enter Tryd.func49, Tryd.ntmps49
    go_wp2
    go_ret
    exact ⟨rfl, hB⟩
  · have e1 : (sg == 45) = false := by simpa using h1
    by_cases h2 : sg = 43
    · subst h2
      go_enter Tryd.func49, Tryd.ntmps49
      go_wp2
      go_ret
      exact ⟨rfl, hB⟩
    · have e2 : (sg == 43) = false := by simpa using h2
      have HE : Hid ((decide (sg = 45) || decide (sg = 43)) = false) := (by show _ = _; simp [h1, h2])
      rw [HE.out]
      clear HE h1 h2
      go_enter Tryd.func49, Tryd.ntmps49
      go_wp2
      go_ret
      exact ⟨rfl, hB⟩
theorem hstrange_f (m : Mk) (w : World) : Calls Tryd.prog 47 #[.agg #[.int .u8 m.sg, .string ⟨m.tx.toArray⟩]] w fun e w' => e = .returned (.bool (!okS m.sg)) ∧ Below w.heap.size w w' := by
  obtain ⟨m0, m1⟩ := (Mx.new w m).cells
  have hB : Below w.heap.size w (w.alloc (mkO m)) := (Below.refl _ w).alloc (Nat.le_refl _) _
  have hW : w.alloc (.cells #[.int .u8 m.sg, .string ⟨m.tx.toArray⟩] 91) = w.alloc (mkO m) := rfl
  generalize w.alloc (mkO m) = W at *
  by_cases h1 : m.sg = 32
  · have HE : Hid (okS m.sg = true) := (by show _ = _; rw [h1]; rfl)
    rw [HE.out]
    have e1 : (m.sg != 32) = false := by simpa using h1
    clear HE h1
    go_enter Tryd.func47, Tryd.ntmps47
    go_wp2
    go_ret
    exact ⟨rfl, hB⟩
  · have e1 : (m.sg != 32) = true := by simpa using h1
    obtain ⟨r, hr⟩ : ∃ r, chgB m = r := ⟨_, rfl⟩
    have HE : Hid (okS m.sg = r) := (by
      show _ = _
      rw [← hr]
      unfold okS chgB
      simp [h1])
    have HC := hchanged_f m W
    rw [hr] at HC
    rw [HE.out]
    clear HE h1 hr
    go_enter Tryd.func47, Tryd.ntmps47
    go_wp2_with fail
    refine HC.mono ?_
    rintro e w1 ⟨rfl, hB1⟩
    go_wp2
    go_ret
    exact ⟨rfl, hB.trans (hB1.mono hB.size)⟩
end Go.Proofs.YtgiojkhmkeocfaaDoor

/- The reference's Invert of layer 11, walked. -/
namespace Go.Proofs.YtgiojkhmkeocfaaDoor
open Go.RowKit

/-- two operations that yield values, whichever comes first -/
theorem go_two {P : Program} {S : World → Prop} {md : Region.Mode} {ops : Array Oper} {Q : Exit → Act → World → Prop} {fuel : Nat} {listed : Array Bool} {A : Act} {w : World}
    (i d : Nat) (op : Oper) (j e : Nat) (oq : Oper) (hi : ops[i]? = some op) (hd : op.dst = some d) (hj : ops[j]? = some oq) (he : oq.dst = some e) (hr : Region.ready md ops listed = [i, j]) (hwt : Region.wanted op (yielded ops A.tmps) = true) (hwq : Region.wanted oq (yielded ops A.tmps) = true)
    (vp : Value) (wp : World) (hp : (execOp A.eval op).run P w = .ok (.value vp) wp) (hSp : S wp)
    (vq : Value) (wq : World) (hq : (execOp A.eval oq).run P w = .ok (.value vq) wq) (hSq : S wq)
    (h : wpAnyH P md ops Q S fuel (listed.setIfInBounds i true) (A.put (some d) vp) wp)
    (h2 : wpAnyH P md ops Q S fuel (listed.setIfInBounds j true) (A.put (some e) vq) wq) :
    wpAnyH P md ops Q S (fuel + 1) listed A w := by
  refine wpAnyH_ready hr (by simp) (AllReadyH.cons hi (fun K hK => ?_) (AllReadyH.cons hj (fun K hK => ?_) AllReadyH.nil))
  · refine step_want hwt ?_
    unfold Oper.wp
    rw [hp, Oper.upon_value]
    exact hK.out _ _ hSp (fun _ => by rw [hd]; exact h)
  · refine step_want hwq ?_
    unfold Oper.wp
    rw [hq, Oper.upon_value]
    exact hK.out _ _ hSq (fun _ => by rw [he]; exact h2)
/-- append, run by itself -/
theorem exec_app {w w' : World} {T : TypeId} {v vx v' : Value} {op : Oper} (x y : Operand) (ho : op.op = .call { callee := .builtin .append, args := #[x, y], argTypes := #[T, T] }) {ev : Operand → Value} (hx : ev x = v) (hy : ev y = vx) (hr : (Builtin.append_ #[T, T] op.type #[v, vx]).run Tryd.prog w = .ok v' w') :
    (execOp ev op).run Tryd.prog w = .ok (.value v') w' := by
  simp [execOp, ho, resolve, invoke, builtin, hx, hy, hr, Result.andThen]
theorem load_mks {u : World} {a : Addr} {o : Option Addr} {n c : Nat} (h : u.cell? a = some (.slice o n c)) {op : Oper} (x : Operand) (ho : op.op = .load 41 x) {ev : Operand → Value} (hx : ev x = .pointer (some a)) :
    (execOp ev op).run Tryd.prog u = .ok (.value (.slice o n c)) u := by
  simp only [execOp, ho, hx]
  go_simp

/-- lines that grow in a hunk's box, and lines that wait: all else as it was -/
structure Iv (w : World) (q : Hk) (ov : Value) (x : List Mk) (av : Value) (y : List Mk) (u : World) : Prop where
  low : Below w.heap.size w u
  box : Hx u w.heap.size q ov
  own : u.ownsRow (w.heap.size + 1) 91 2 ov x.length (mkcells x)
  add : u.ownsRow (w.heap.size + 1) 91 2 av y.length (mkcells y)
  ne : ∀ g, ov.ownBlock = some g → av.ownBlock ≠ some g
section
variable {w : World} {q : Hk} {ov ov' av av' : Value} {x x' y y' : List Mk} {u u' : World}
theorem Iv.alloc (h : Iv w q ov x av y u) (o : Obj) : Iv w q ov x av y (u.alloc o) :=
  ⟨h.low.alloc h.low.size o, h.box.low ((Below.refl _ u).alloc (Nat.le_refl _) o), h.own.alloc o, h.add.alloc o, h.ne⟩
theorem Iv.drewN (h : Iv w q ov x av y u) (n : Nat) : Iv w q ov x av y (u.drewN n) := ⟨Below.dN h.low n, h.box, h.own, h.add, h.ne⟩
theorem own_kept {e : TypeId} {s B : Nat} {v : Value} {n : Nat} {xs : List Value} (ho : u.ownsRow B e s v n xs) {g : Option Nat} (hg : u.grownBy u' g) (hne : ∀ k, g = some k → v.ownBlock ≠ some k) : u'.ownsRow B e s v n xs := by
  refine ⟨ho.1, ?_⟩
  rcases ho.2 with q | ⟨b, cap, cur, rfl, q2, q3, q4⟩
  · exact .inl q
  · refine .inr ⟨b, cap, cur, rfl, q2, ?_, q4⟩
    rw [hg.block b (Array.getElem?_eq_some_iff.1 q3).1 (fun e => hne b e.symm rfl)]
    exact q3
/-- lines more -/
theorem Iv.grow (h : Iv w q ov x av y u) (hg : u.grownBy u' ov.ownBlock) (ho : u'.ownsRow (w.heap.size + 1) 91 2 ov' x'.length (mkcells x')) (hb : ov'.ownBlock = ov.ownBlock ∨ ov'.ownBlock = some u.heap.size) : Hx u' w.heap.size q ov ∧ Iv w q ov' x' av y (u'.setCell ⟨w.heap.size, 4, none⟩ ov') := by
  have hbx : Hx u' w.heap.size q ov := h.box.keep hg (fun e => by have := owns_ge h.own e.symm; omega)
  have hadd := own_kept h.add hg (fun k hk => h.ne k hk)
  have hs := grown_set u' w.heap.size 4 ov'
  have hlow : Below w.heap.size w u' := h.low.grown hg h.low.size (fun j hj => by have := owns_ge h.own hj; omega)
  refine ⟨hbx, hlow.grown hs hlow.size (fun j hj => by cases hj; exact Nat.le_refl _), hbx.setl ov', own_kept ho hs ?_, own_kept hadd hs ?_, ?_⟩
  · intro k hk e
    cases hk
    have := owns_ge ho e
    omega
  · intro k hk e
    cases hk
    have := owns_ge h.add e
    omega
  · intro g hg' e
    rcases hb with hb | hb
    · rw [hb] at hg'
      exact h.ne g hg' e
    · rw [hb] at hg'
      cases hg'
      have := own_lt h.add e
      omega
/-- lines more that wait -/
theorem Iv.wait (h : Iv w q ov x av y u) (hg : u.grownBy u' av.ownBlock) (ho : u'.ownsRow (w.heap.size + 1) 91 2 av' y'.length (mkcells y')) (hb : av'.ownBlock = av.ownBlock ∨ av'.ownBlock = some u.heap.size) : Iv w q ov x av' y' u' := by
  refine ⟨h.low.grown hg h.low.size (fun j hj => by have := owns_ge h.add hj; omega), h.box.keep hg (fun e => by have := owns_ge h.add e.symm; omega), own_kept h.own hg (fun k hk e => h.ne k e hk), ho, ?_⟩
  intro g hg' e
  rcases hb with hb | hb
  · rw [hb] at e
    exact h.ne g hg' e
  · rw [hb] at e
    cases e
    have := own_lt h.own hg'
    omega
/-- lines more, and none that wait -/
theorem Iv.last (h : Iv w q ov x av y u) (hg : u.grownBy u' ov.ownBlock) (ho : u'.ownsRow (w.heap.size + 1) 91 2 ov' x'.length (mkcells x')) : Hx u' w.heap.size q ov ∧ Iv w q ov' x' (.slice none 0 0) [] (u'.setCell ⟨w.heap.size, 4, none⟩ ov') := by
  have hbx : Hx u' w.heap.size q ov := h.box.keep hg (fun e => by have := owns_ge h.own e.symm; omega)
  have hs := grown_set u' w.heap.size 4 ov'
  have hlow : Below w.heap.size w u' := h.low.grown hg h.low.size (fun j hj => by have := owns_ge h.own hj; omega)
  refine ⟨hbx, hlow.grown hs hlow.size (fun j hj => by cases hj; exact Nat.le_refl _), hbx.setl ov', own_kept ho hs ?_, hnil_row _ _ _ _, fun g _ e => by cases e⟩
  intro k hk e
  cases hk
  have := owns_ge ho e
  omega
theorem Hx.put5 {b : Nat} {h : Hk} {v : Value} (p : Hx u b h v) (z0 z1 z2 z3 z4 : Value) : (((((u.setCell ⟨b, 0, none⟩ z0).setCell ⟨b, 1, none⟩ z1).setCell ⟨b, 2, none⟩ z2).setCell ⟨b, 3, none⟩ z3).setCell ⟨b, 4, none⟩ z4).heap[b]? = some (.cells #[z0, z1, z2, z3, z4] 43 (0, 0)) := by
  have s1 := heap_setCell_same u b 0 _ _ z0 p
  have s2 := heap_setCell_same _ b 1 _ _ z1 s1
  have s3 := heap_setCell_same _ b 2 _ _ z2 s2
  have s4 := heap_setCell_same _ b 3 _ _ z3 s3
  exact heap_setCell_same _ b 4 _ _ z4 s4
theorem own_base {e : TypeId} {s B B' : Nat} {v : Value} {n : Nat} {xs : List Value} (ho : u.ownsRow B e s v n xs) (hB : B' ≤ B) : u.ownsRow B' e s v n xs := by
  refine ⟨ho.1, ?_⟩
  rcases ho.2 with q | ⟨b, cap, cur, rfl, q2, q3, q4⟩
  · exact .inl q
  · exact .inr ⟨b, cap, cur, rfl, by omega, q3, q4⟩
theorem Iv.none (h : Iv w q ov x av y u) : Iv w q ov x (.slice none 0 0) [] u := ⟨h.low, h.box, h.own, hnil_row _ _ _ _, fun g _ e => by cases e⟩
end
theorem mk_row (w : World) (m : Mk) : Holds (w.alloc (mkO m)) (.slice (some ⟨w.heap.size, 0, none⟩) 1 1) 1 (mkcells [m]) := new_holds w #[.int .u8 m.sg, .string ⟨m.tx.toArray⟩] 91 1 1 (by decide)

theorem exec_storeL {u : World} {b j : Nat} {v : Value} (hf : u.frozen? ⟨b, j, none⟩ = false) {o n c} (hc : u.cell? ⟨b, j, none⟩ = some (.slice o n c)) {o' n' c'} (hv : v = .slice o' n' c') {op : Oper} (x y : Operand) (ho : op.op = .store 41 x y) {ev : Operand → Value} (hx : ev x = .pointer (some ⟨b, j, none⟩)) (hy : ev y = v) :
    (execOp ev op).run Tryd.prog u = .ok .skip (u.setCell ⟨b, j, none⟩ v) := by
  subst hv
  simp only [execOp, ho, hx, hy]
  go_simp

end Go.Proofs.YtgiojkhmkeocfaaDoor

/- The reference's count of layer 11, walked. -/
namespace Go.Proofs.YtgiojkhmkeocfaaDoor
open Go.RowKit

section
variable {u : World} {b : Nat} {A AN B BN : Int} {ls : List Mk} {v : Value}
end

end Go.Proofs.YtgiojkhmkeocfaaDoor

/- The reference's one of layer 11, walked. -/
namespace Go.Proofs.YtgiojkhmkeocfaaDoor
open Go.RowKit

/-- a change in a box -/
def chO (c : Ch) : Obj := .cells #[.int .i64 c.A, .int .i64 c.AN, .int .i64 c.B, .int .i64 c.BN] 73
def Cx (u : World) (b : Nat) (c : Ch) : Prop := u.heap[b]? = some (chO c)
section
variable {u u' : World} {b : Nat} {c : Ch}
theorem Cx.cells (q : Cx u b c) : u.cell? ⟨b, 0, none⟩ = some (.int .i64 c.A) ∧ u.cell? ⟨b, 1, none⟩ = some (.int .i64 c.AN) ∧ u.cell? ⟨b, 2, none⟩ = some (.int .i64 c.B) ∧ u.cell? ⟨b, 3, none⟩ = some (.int .i64 c.BN) := by
  unfold Cx chO at q
  refine ⟨?_, ?_, ?_, ?_⟩ <;> rw [Lib.cell_of_heap q] <;> rfl
theorem Cx.lt (q : Cx u b c) : b < u.heap.size := (Array.getElem?_eq_some_iff.1 q).1
theorem Cx.low (q : Cx u b c) (hg : Below u.heap.size u u') : Cx u' b c := (hg.block b q.lt).trans q
theorem Cx.new (w : World) (c : Ch) : Cx (w.alloc (chO c)) w.heap.size c := _root_.Go.heap_alloc_new w _
end

/-- the cells of a change in a row -/
def ChAt (u : World) (b o : Nat) (x : Ch) : Prop := u.cell? ⟨b, o, none⟩ = some (.int .i64 x.A) ∧ u.cell? ⟨b, o + 1, none⟩ = some (.int .i64 x.AN) ∧ u.cell? ⟨b, o + 2, none⟩ = some (.int .i64 x.B) ∧ u.cell? ⟨b, o + 3, none⟩ = some (.int .i64 x.BN)
theorem hcell_keep {u u' : World} (hB : Low u u') {q : Addr} {z : Value} (hz : u.cell? q = some z) : u'.cell? q = some z := (World.cell?_of_block (w := u) (Below.block hB _ (World.block_lt_of_cell? _ _ hz))).trans hz
theorem ChAt.low {u u' : World} {b o : Nat} {x : Ch} (h : ChAt u b o x) (hB : Low u u') : ChAt u' b o x := ⟨hcell_keep hB h.1, hcell_keep hB h.2.1, hcell_keep hB h.2.2.1, hcell_keep hB h.2.2.2⟩
theorem Cx.keep {u u' : World} {b : Nat} {c : Ch} (q : Cx u b c) {g : Option Nat} (hg : u.grownBy u' g) (hr : some b ≠ g) : Cx u' b c := (hg.block b q.lt hr).trans q

end Go.Proofs.YtgiojkhmkeocfaaDoor

/- The reference's Changes of layer 11, walked. -/
namespace Go.Proofs.YtgiojkhmkeocfaaDoor
open Go.RowKit

end Go.Proofs.YtgiojkhmkeocfaaDoor

/- The reference's Group of layer 11, walked. -/
namespace Go.Proofs.YtgiojkhmkeocfaaDoor
open Go.RowKit

/-- groups of one's own: a row of rows of changes -/
structure Gr (w : World) (ov : Value) (G : List (List Ch × Value)) (u : World) : Prop where
  low : Below w.heap.size w u
  own : u.ownsRow w.heap.size 22 1 ov G.length (G.map (·.2))
  ins : ∀ x ∈ G, u.ownsRow w.heap.size 73 4 x.2 x.1.length (chcells x.1)
section
variable {w u u' : World} {ov ov' : Value} {G P : List (List Ch × Value)}
theorem Gr.nil (w : World) : Gr w (.slice none 0 0) [] w := ⟨Below.refl _ _, hnil_row _ _ _ _, fun _ h => by cases h⟩
theorem Gr.alloc (h : Gr w ov G u) (o : Obj) : Gr w ov G (u.alloc o) := ⟨h.low.alloc h.low.size o, h.own.alloc o, fun x hx => (h.ins x hx).alloc o⟩
theorem Gr.drewN (h : Gr w ov G u) (n : Nat) : Gr w ov G (u.drewN n) := ⟨Below.dN h.low n, h.own, h.ins⟩
theorem Gr.keep (h : Gr w ov G u) (hk : Below u.heap.size u u') : Gr w ov G u' := ⟨h.low.trans (hk.mono h.low.size), owns_keep h.own hk, fun x hx => owns_keep (h.ins x hx) hk⟩
/-- a group more -/
theorem Gr.more (h : Gr w ov G u) {g : List Ch} {gv : Value} (hgv : u.ownsRow w.heap.size 73 4 gv g.length (chcells g)) (hg : u.grownBy u' ov.ownBlock) (ho : u'.ownsRow w.heap.size 22 1 ov' (G.length + 1) (G.map (·.2) ++ [gv])) : Gr w ov' (G ++ [(g, gv)]) u' := by
  have key : ∀ {v : Value} {n : Nat} {xs : List Value}, u.ownsRow w.heap.size 73 4 v n xs → u'.ownsRow w.heap.size 73 4 v n xs := fun hv => own_kept hv hg (fun k hk => own_ne h.own hv (by decide) hk)
  refine ⟨h.low.grown hg h.low.size (fun j hj => owns_ge h.own hj), ?_, fun z hz => ?_⟩
  · rw [List.length_append, List.map_append]
    exact ho
  · rcases List.mem_append.1 hz with hz | hz
    · exact key (h.ins z hz)
    · rw [List.mem_singleton.1 hz]
      exact key hgv
end
end Go.Proofs.YtgiojkhmkeocfaaDoor

/- The code's Group of layer 11, walked. -/
namespace Go.Proofs.YtgiojkhmkeocfaaDoor
open Go.RowKit

end Go.Proofs.YtgiojkhmkeocfaaDoor

/- A region that draws its order, in a round: ten operations that read, in whatever order, then the rest as the text has it. -/
namespace Go.Proofs.YtgiojkhmkeocfaaDoor
open Go.RowKit Go.Shelf
namespace R10

def one (c : Bool) : Nat := if c then 1 else 0
end R10
end Go.Proofs.YtgiojkhmkeocfaaDoor

/- What a script makes of a text: the code's Apply, walked. -/
namespace Go.Proofs.YtgiojkhmkeocfaaDoor
open Go.RowKit Go.Shelf
open R10
attribute [local go_sem] Oper.semAt_some


end Go.Proofs.YtgiojkhmkeocfaaDoor

/- SameStrings of the reference, walked at two slices that hold the same. -/
namespace Go.Proofs.YtgiojkhmkeocfaaDoor
open Go.RowKit

end Go.Proofs.YtgiojkhmkeocfaaDoor

/- What a script makes of a text: the reference's Apply, walked. -/
namespace Go.Proofs.YtgiojkhmkeocfaaDoor
open Go.RowKit
attribute [local simp] st_drew low_drew

end Go.Proofs.YtgiojkhmkeocfaaDoor

/- The code's closure that lays the lines of a hunk, walked: the hunk in a box of one's own. -/
namespace Go.Proofs.YtgiojkhmkeocfaaDoor
open Go.RowKit

/-- a hunk that grows in a box: its lines in a row of one's own, all else as it was -/
structure La (w : World) (q : Hk) (ov : Value) (u : World) : Prop where
  low : Below w.heap.size w u
  box : Hx u w.heap.size q ov
  own : u.ownsRow (w.heap.size + 1) 91 2 ov q.ls.length (mkcells q.ls)
/-- boxed changes stay -/
def CK (u u' : World) : Prop := ∀ B c, Cx u B c → Cx u' B c
theorem cx_neM {u : World} {b : Nat} {d : Ch} (h : Cx u b d) {B s n : Nat} {v : Value} {xs : List Value} (ho : u.ownsRow B 91 s v n xs) : v.ownBlock ≠ some b := by
  intro e
  rcases ho.2 with ⟨rfl, _⟩ | ⟨g, cap, cur, rfl, _, hg, _⟩
  · cases e
  · simp only [Value.ownBlock, Option.some.injEq] at e
    subst e
    unfold Cx chO at h
    rw [h] at hg
    simp at hg
theorem cx_neH {u : World} {b b' : Nat} {d : Ch} (h : Cx u b d) {q : Hk} {v : Value} (hx : Hx u b' q v) : b ≠ b' := by
  rintro rfl
  unfold Cx chO at h
  unfold Hx hkO at hx
  rw [h] at hx
  simp at hx
section
variable {w u u' : World} {q : Hk} {ov ov' : Value} {x' : List Mk}
theorem La.alloc (h : La w q ov u) (o : Obj) : La w q ov (u.alloc o) := ⟨h.low.alloc h.low.size o, h.box.low ((Below.refl _ u).alloc (Nat.le_refl _) o), h.own.alloc o⟩
theorem La.drewN (h : La w q ov u) (n : Nat) : La w q ov (u.drewN n) := ⟨Below.dN h.low n, h.box, h.own⟩
theorem La.keep (h : La w q ov u) (hk : Below u.heap.size u u') : La w q ov u' := ⟨h.low.trans (hk.mono h.low.size), h.box.low hk, owns_keep h.own hk⟩
/-- lines more -/
theorem La.grow (h : La w q ov u) (hg : u.grownBy u' ov.ownBlock) (ho : u'.ownsRow (w.heap.size + 1) 91 2 ov' x'.length (mkcells x')) : Hx u' w.heap.size q ov ∧ La w ⟨q.A, q.AN, q.B, q.BN, x'⟩ ov' (u'.setCell ⟨w.heap.size, 4, none⟩ ov') ∧ CK u (u'.setCell ⟨w.heap.size, 4, none⟩ ov') := by
  have hbx : Hx u' w.heap.size q ov := h.box.keep hg (fun e => by have := owns_ge h.own e.symm; omega)
  have hs := grown_set u' w.heap.size 4 ov'
  have hlow : Below w.heap.size w u' := h.low.grown hg h.low.size (fun j hj => by have := owns_ge h.own hj; omega)
  refine ⟨hbx, ⟨hlow.grown hs hlow.size (fun j hj => by cases hj; exact Nat.le_refl _), hbx.setl ov', own_kept ho hs ?_⟩, ?_⟩
  · intro k hk e
    cases hk
    have := owns_ge ho e
    omega
  · intro B c p
    have p1 := p.keep hg (fun e => cx_neM p h.own e.symm)
    exact p1.keep hs (fun e => cx_neH p1 hbx (Option.some.inj e))
end
end Go.Proofs.YtgiojkhmkeocfaaDoor

/- The code's hunk of a group, layer 11, walked. -/
namespace Go.Proofs.YtgiojkhmkeocfaaDoor
open Go.RowKit

/-- a hunk that grows, counted -/
def Lb (w : World) (x : List Mk) (u : World) : Prop := ∃ (ov : Value) (an bn : Int), La w ⟨0, an, 0, bn, x⟩ ov u ∧ ((pkL 43 x).length : Int) = an ∧ ((pkL 45 x).length : Int) = bn
theorem Lb.alloc {w u : World} {x : List Mk} (h : Lb w x u) (o : Obj) : Lb w x (u.alloc o) := by
  obtain ⟨ov, an, bn, h1, h2⟩ := h
  exact ⟨ov, an, bn, h1.alloc o, h2⟩
theorem Lb.low {w u : World} {x : List Mk} (h : Lb w x u) : Below w.heap.size w u := by
  obtain ⟨ov, an, bn, h1, h2⟩ := h
  exact h1.low
end Go.Proofs.YtgiojkhmkeocfaaDoor

/- The reference's Make of layer 11, walked. -/
namespace Go.Proofs.YtgiojkhmkeocfaaDoor
open Go.RowKit

theorem Hs.base {w W u : World} {ov : Value} {P : List (Hk × Value)} (h : Hs W ov P u) (hB : Below w.heap.size w W) : Hs w ov P u :=
  ⟨hB.trans (h.low.mono hB.size), own_base h.own hB.size, fun x hx => own_base (h.ins x hx) hB.size⟩
/-- a group of the row, read -/
theorem Gr.at {w W u : World} {oo : Option Addr} {n oc : Nat} {G : List (List Ch × Value)} (h : Gr w (.slice oo n oc) G W) (hB : Below W.heap.size W u) {i : Nat} (hi : i < G.length) {g : List Ch} {gv : Value} (hg : G[i] = (g, gv)) : ∃ q, oo = some ⟨q, 0, none⟩ ∧ u.cell? ⟨q, i, none⟩ = some gv ∧ HCh u gv g := by
  have hh := holds_of h.own
  obtain ⟨b, off, c', hv, hb, hc⟩ := Holds.at hh (by simp; omega)
  rcases h.own.2 with ⟨_, h0⟩ | ⟨q, cap, cur, e, _⟩
  · omega
  · cases e
    cases hv
    refine ⟨_, rfl, ?_, ?_⟩
    · have h1 := hc i (by simpa using hi)
      rw [Nat.zero_add] at h1
      refine hcell_keep hB ?_
      rw [h1]
      simp [hg]
    · have hin := h.ins (g, gv) (by rw [← hg]; exact List.getElem_mem hi)
      exact HCh.keep (holds_of hin) hB (Nat.le_refl _)

end Go.Proofs.YtgiojkhmkeocfaaDoor

/- The code's Make of layer 11, walked. -/
namespace Go.Proofs.YtgiojkhmkeocfaaDoor
open Go.RowKit

end Go.Proofs.YtgiojkhmkeocfaaDoor

/- What an argument of type []int, []api.Change holds, and how much of it there is by the statement's own count. -/
namespace Go.Proofs.YtgiojkhmkeocfaaDoor
open Go.ChangeShapes Go.WideShapes Go.ChangeAt Go.RowKit

theorem own : ownKnob Tryd.prog.godebug = none := by kernel_rfl
theorem laidOut : laidOutB Tryd.prog = true := by kernel_rfl
theorem cellsInt : Tryd.prog.cellsOf 3 = 1 := by kernel_rfl
theorem cellsCh : Tryd.prog.cellsOf 73 = 4 := by kernel_rfl

/-- numbers that an int holds -/
def w64 (z : Int) : Prop := -9223372036854775808 ≤ z ∧ z ≤ 9223372036854775807
theorem w64_of {z : Int} (h : (Lit.int .i64 z).wf = true) : w64 z := bounds_i64 h
/-- a change of numbers that an int holds -/
def wCh (c : Ch) : Prop := w64 c.A ∧ w64 c.AN ∧ w64 c.B ∧ w64 c.BN

theorem lits_len {H : Type} (l : List Int) : l.length ≤ Rows.uptoBulkAll (lits (H := H) .i64 l) := by
  induction l with
  | nil => simp [lits, Rows.uptoBulkAll]
  | cons s t ih =>
    have e : lits (H := H) .i64 (s :: t) = .lit (.int .i64 s) :: lits .i64 t := rfl
    rw [e]
    simp only [Rows.uptoBulkAll, Rows.uptoBulk, List.length_cons]
    omega

theorem bulk_range {H : Type} (D : Nat → DataW H) (n : Nat) (h : ∀ i, i < n → 1 ≤ Rows.uptoBulk (D i)) : n ≤ Rows.uptoBulkAll ((List.range n).map D) := by
  have hall : ∀ l : List (DataW H), (∀ d ∈ l, 1 ≤ Rows.uptoBulk d) → l.length ≤ Rows.uptoBulkAll l := by
    intro l
    induction l with
    | nil => simp
    | cons d t ih =>
      intro hd
      have h1 := hd d (List.mem_cons_self ..)
      have h2 := ih fun x hx => hd x (List.mem_cons_of_mem _ hx)
      rw [Rows.uptoBulkAll]
      simp only [List.length_cons]
      omega
  have := hall ((List.range n).map D) (by
    intro d hd
    simp only [List.mem_map, List.mem_range] at hd
    obtain ⟨i, hi, rfl⟩ := hd
    exact h i hi)
  simpa using this

set_option maxRecDepth 10000 in
/-- the changes that an argument holds -/
theorem open_chs {H : Type} {enc : TypeId × Value → H} {W : World} {fuel : Nat} {ao : Option Addr} {len cap : Nat} {d : DataW H} {p : List MemPlace}
    (h : DataW.trod enc Tryd.prog W 0 (fun _ => true) true fuel 22 [.slice ao len cap] = some (d, p)) :
    ∃ l : List Ch, HCh W (.slice ao len cap) l ∧ l.length ≤ Rows.uptoBulk d ∧ ∀ c ∈ l, wCh c := by
  rcases Go.Deep.open_slice Tryd.underlying22 h with ⟨hcs, hx⟩ | ⟨a, l, c, m, n, D, Pl, hcs, _, hl, hm, hmm, hx, hel⟩
  · simp at hcs
    obtain ⟨rfl, rfl, rfl⟩ := hcs
    exact ⟨[], .inl ⟨rfl, rfl, rfl⟩, by simp, by simp⟩
  · simp at hcs
    obtain ⟨rfl, rfl, rfl⟩ := hcs
    simp only [Prod.mk.injEq] at hx
    obtain ⟨rfl, _⟩ := hx
    have hlm : len ≤ m := by rw [hmm]; split <;> omega
    have each : ∀ i, i < len → ∃ c : Ch, wCh c ∧ W.cell? (a.add (i * 4)) = some (.int .i64 c.A) ∧ W.cell? (a.add (i * 4 + 1)) = some (.int .i64 c.AN) ∧ W.cell? (a.add (i * 4 + 2)) = some (.int .i64 c.B) ∧ W.cell? (a.add (i * 4 + 3)) = some (.int .i64 c.BN) ∧ 1 ≤ Rows.uptoBulk (D i) := by
      intro i hi
      obtain ⟨cs', h1, h2⟩ := hel i (by omega)
      rw [cellsCh] at h1
      obtain ⟨_, hlen, hcell⟩ := World.cells?_some h1
      obtain ⟨xs, k, hk, hxy, _, hxl, hf⟩ := DataW.trod_struct Tryd.underlying73 h2
      match xs, hxl, cs', hlen with
      | [y0, y1, y2, y3], _, [v0, v1, v2, v3], _ =>
        have g0 := hf 0 _ rfl
        have g1 := hf 1 _ rfl
        have g2 := hf 2 _ rfl
        have g3 := hf 3 _ rfl
        simp [cellsInt] at g0 g1 g2 g3
        obtain ⟨z0, e0, _, w0⟩ := DataW.trod_int Tryd.underlying3 g0
        obtain ⟨z1, e1, _, w1⟩ := DataW.trod_int Tryd.underlying3 g1
        obtain ⟨z2, e2, _, w2⟩ := DataW.trod_int Tryd.underlying3 g2
        obtain ⟨z3, e3, _, w3⟩ := DataW.trod_int Tryd.underlying3 g3
        cases e0
        cases e1
        cases e2
        cases e3
        have c0 := hcell 0 (by omega)
        have c1 := hcell 1 (by omega)
        have c2 := hcell 2 (by omega)
        have c3 := hcell 3 (by omega)
        rw [Go.Deep.add_add] at c0 c1 c2 c3
        simp only [Prod.mk.injEq] at hxy
        refine ⟨⟨z0, z1, z2, z3⟩, ⟨w64_of w0, w64_of w1, w64_of w2, w64_of w3⟩, by simpa using c0, by simpa using c1, by simpa using c2, by simpa using c3, ?_⟩
        rw [hxy.1, Rows.uptoBulk]
        omega
    have : Inhabited Ch := ⟨⟨0, 0, 0, 0⟩⟩
    obtain ⟨f, hf⟩ := Go.Deep.choose_lt each
    have hlen : ((List.range len).map f).length = len := by simp
    refine ⟨(List.range len).map f, .inr ⟨a, cap, by rw [hlen], by rw [hlen]; exact hl, fun j u hj => ?_⟩, ?_, ?_⟩
    · have hj' : j < len * 4 := by
        have := (List.getElem?_eq_some_iff.1 hj).1
        rw [chcells_length, hlen] at this
        exact this
      obtain ⟨h0, h1, h2, h3⟩ := chcells_at ((List.range len).map f) (j / 4) (by rw [hlen]; omega)
      obtain ⟨_, g0, g1, g2, g3, _⟩ := hf (j / 4) (by omega)
      simp only [List.getElem_map, List.getElem_range] at h0 h1 h2 h3
      rcases (by omega : j = 4 * (j / 4) ∨ j = 4 * (j / 4) + 1 ∨ j = 4 * (j / 4) + 2 ∨ j = 4 * (j / 4) + 3) with e | e | e | e
      · rw [e, h0] at hj
        rw [e, Nat.mul_comm, g0, hj]
      · rw [e, h1] at hj
        rw [e, Nat.mul_comm, g1, hj]
      · rw [e, h2] at hj
        rw [e, Nat.mul_comm, g2, hj]
      · rw [e, h3] at hj
        rw [e, Nat.mul_comm, g3, hj]
    · rw [hlen, Rows.uptoBulk]
      have := bulk_range D len fun i hi => (hf i hi).2.2.2.2.2
      omega
    · intro c hc
      simp only [List.mem_map, List.mem_range] at hc
      obtain ⟨i, hi, rfl⟩ := hc
      exact (hf i hi).1
end Go.Proofs.YtgiojkhmkeocfaaDoor
