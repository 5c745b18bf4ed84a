/-
  Texts that belong together, joined: NpC, CxC, CxLen, CxR, CxP, CxC2, Copy, CqL, CqQ, HuLn, CwC, CwD.
-/
import Derived.Test.YtgiojkhmkeocfaaDoorPartA11
import Derived.Test.YtgiojkhmkeocfaaDoorPartA10
import Derived.Deep.CutBlock
import Derived.Shelf.Strings.Builder1
import Derived.Test.YtgiojkhmkeocfaaDoorProg
import Derived.Test.YtgiojkhmkeocfaaDoorPartA8
import Derived.Test.YtgiojkhmkeocfaaDoorPartA1
import Derived.WalkKit
import Derived.WalkSpells
import Derived.WalkLawsBesides
import Derived.BigQuiet
import Derived.Test.YtgiojkhmkeocfaaDoorPartA5
import Derived.Lib.IndexAny
import Derived.Laws.RangeAny

/- The code's numbers and change of layer 12, walked: a range of lines, a line that says a change. -/
namespace Go.Proofs.YtgiojkhmkeocfaaDoor
open Go.RowKit
attribute [local go_sem] ByteArray.extract_mk no_at

/-- what is ahead of the first comma, and behind it -/
def kA (l : List UInt8) : List UInt8 := match spB isK l with | none => l | some (x, _, _) => x
def kB (l : List UInt8) : List UInt8 := match spB isK l with | none => [] | some (_, _, y) => y
def kS (l : List UInt8) : Bool := match spB isK l with | none => false | some _ => true
set_option maxHeartbeats 2000000 in
theorem slCut_f (l : List UInt8) (w : World) (hl : l.length ≤ 1099511627776) :
    Calls Tryd.prog 186 #[.string ⟨l.toArray⟩, .string ⟨#[44]⟩] w fun e w' => e = .returned (.tuple #[.string ⟨(kA l).toArray⟩, .string ⟨(kB l).toArray⟩, .bool (kS l)]) ∧ ∃ n, w' = w.drewN n := by
  rcases comma_sp l with ⟨h1, h2⟩ | ⟨k, hk, h1, h2⟩
  · have HA : Hid (kA l = l ∧ kB l = [] ∧ kS l = false) := (by unfold kA kB kS; rw [h1]; exact ⟨rfl, rfl, rfl⟩)
    have HI : Hid (Lib.indexByte l 44 = -1) := h2
    clear h1 h2
    go_enter Tryd.func186, Tryd.ntmps186
    go_wp2_with fail
    refine (Tryd.stringslite_Index_one ⟨l.toArray⟩ 44 w).mono ?_
    rintro e w1 ⟨rfl, rfl⟩
    have e1 : Lib.indexByte (⟨l.toArray⟩ : ByteArray).data.toList 44 = -1 := HI.out
    rw [e1]
    clear e1
    go_wp2
    go_ret3
    obtain ⟨a1, a2, a3⟩ := HA.out
    rw [a1, a2, a3]
    exact ⟨rfl, 0, rfl⟩
  · have HA : Hid (kA l = l.take k ∧ kB l = l.drop (k + 1) ∧ kS l = true) := (by unfold kA kB kS; rw [h2]; exact ⟨rfl, rfl, rfl⟩)
    have HI : Hid (Lib.indexByte l 44 = (k : Int)) := h1
    clear h1 h2
    go_enter Tryd.func186, Tryd.ntmps186
    go_wp2_with fail
    refine (Tryd.stringslite_Index_one ⟨l.toArray⟩ 44 w).mono ?_
    rintro e w1 ⟨rfl, rfl⟩
    have e1 : Lib.indexByte (⟨l.toArray⟩ : ByteArray).data.toList 44 = (k : Int) := HI.out
    rw [e1]
    clear e1
    have i1 : (0 : Int) ≤ (k : Int) := by omega
    have i2 : (k : Int) ≤ (l.length : Int) := by omega
    have i3 : (k : Int) + 1 ≤ (l.length : Int) := by omega
    have i4 : (0 : Int) ≤ (k : Int) + 1 := by omega
    have i5 : IntKind.i64.wrap ((k : Int) + 1) = (k : Int) + 1 := wrap_s (by omega) (by omega)
    have i6 : ((k : Int) + 1).toNat = k + 1 := by omega
    go_wp2_with fail
    go_quiet (fail)
    go_wp2
    go_ret3
    obtain ⟨a1, a2, a3⟩ := HA.out
    rw [a1, a2, a3]
    have k5 : (l.drop (k + 1)).take (l.length - (k + 1)) = l.drop (k + 1) := List.take_of_length_le (by simp)
    exact ⟨by simp [k5], _, rfl⟩
set_option maxHeartbeats 1000000 in
theorem nCut_f (l : List UInt8) (w : World) (hl : l.length ≤ 1099511627776) :
    Calls Tryd.prog 174 #[.string ⟨l.toArray⟩, .string ⟨#[44]⟩] w fun e w' => e = .returned (.tuple #[.string ⟨(kA l).toArray⟩, .string ⟨(kB l).toArray⟩, .bool (kS l)]) ∧ ∃ n, w' = w.drewN n := by
  go_enter Tryd.func174, Tryd.ntmps174
  go_wp2_with fail
  refine (slCut_f l w hl).mono ?_
  rintro e w1 ⟨rfl, n, rfl⟩
  go_wp2
  go_ret3
  exact ⟨rfl, n, rfl⟩
/-- a text with a comma is no number -/
theorem comma_no {s : List UInt8} (h : kS s = true) : Pn.parseE s ≠ 0 := by
  unfold kS at h
  rcases comma_sp s with ⟨h1, _⟩ | ⟨k, hk, _, h2⟩
  · rw [h1] at h
    cases h
  · have hc : isK s[k] = true := (by
      have : ∀ (l : List UInt8) {a b : List UInt8} {c : UInt8}, spB isK l = some (a, c, b) → isK c = true := (by
        intro l
        induction l with
        | nil => intro a b c h; cases h
        | cons x l ih =>
          intro a b c h
          simp only [spB] at h
          split at h
          · rename_i hx
            cases h
            exact hx
          · split at h
            · cases h
            · rename_i hq
              cases h
              exact ih hq)
      exact this s h2)
    have hn : Pn.isNum s = false := Pn.isNum_bad k hk (by
      unfold isK at hc
      have : s[k] = 44 := by simpa using hc
      rw [this]
      decide)
    have := (Pn.parse_no hn).2
    omega
/-- a range, or the line ahead -/
def nmP (no : Bool) (s : List UInt8) : Option (Int × Int) := if no = true then oneP s else lnsP s
theorem kA_self {s : List UInt8} (h : kS s = false) : kA s = s ∧ spB isK s = none := by
  unfold kS at h
  unfold kA
  cases hq : spB isK s with
  | none => exact ⟨rfl, rfl⟩
  | some q => rw [hq] at h; cases h
theorem kS_some {s : List UInt8} (h : kS s = true) : ∃ c, spB isK s = some (kA s, c, kB s) := by
  unfold kS at h
  unfold kA kB
  cases hq : spB isK s with
  | none => rw [hq] at h; cases h
  | some q => exact ⟨q.2.1, rfl⟩
theorem nm_bad {no : Bool} {s : List UInt8} (h : Pn.parseE (kA s) ≠ 0) : nmP no s = none := by
  unfold nmP
  cases hk : kS s with
  | true =>
    obtain ⟨c, hc⟩ := kS_some hk
    have h2 := comma_no hk
    cases no with
    | true =>
      unfold oneP
      rw [if_pos rfl, if_neg h2]
    | false =>
      unfold lnsP
      rw [if_neg (by decide), hc]
      exact if_neg (fun q => h q.1)
  | false =>
    obtain ⟨h1, h2⟩ := kA_self hk
    rw [h1] at h
    cases no with
    | true =>
      unfold oneP
      rw [if_pos rfl, if_neg h]
    | false =>
      unfold lnsP
      rw [if_neg (by decide), h2]
      exact if_neg (fun q => h q.1)
theorem kA_le (s : List UInt8) : (kA s).length ≤ s.length ∧ (kB s).length ≤ s.length := by
  unfold kA kB
  rcases comma_sp s with ⟨h1, _⟩ | ⟨k, hk, _, h2⟩
  · rw [h1]; simp
  · rw [h2]; simp only [List.length_take, List.length_drop]; omega
/-- what numbers answers -/
def NmQ (w : World) (no : Bool) (s : List UInt8) (e : Ending) (w' : World) : Prop := ∃ x n r, e = .returned (.tuple #[.int .i64 x, .int .i64 n, .bool r]) ∧ nmP no s = (if r = true then some (x, n) else none) ∧ Below w.heap.size w w'
set_option maxHeartbeats 4000000 in
theorem nnumbers_f (s : List UInt8) (no : Bool) (w : World) (hl : s.length ≤ 1099511627776) :
    Calls Tryd.prog 149 #[.string ⟨s.toArray⟩, .bool no] w fun e w' => NmQ w no s e w' := by
  have hkl := kA_le s
  have b1 := @prs_num (kA s)
  have b2 := @prs_num (kB s)
  obtain ⟨V1, hV1⟩ : ∃ V, Pn.parseV (kA s) = V := ⟨_, rfl⟩
  obtain ⟨E1, hE1⟩ : ∃ V, Pn.parseE (kA s) = V := ⟨_, rfl⟩
  obtain ⟨V2, hV2⟩ : ∃ V, Pn.parseV (kB s) = V := ⟨_, rfl⟩
  obtain ⟨E2, hE2⟩ : ∃ V, Pn.parseE (kB s) = V := ⟨_, rfl⟩
  have P1 : ∀ u : World, Calls Tryd.prog 175 #[.string ⟨(kA s).toArray⟩] u fun e w' => e = .returned (.tuple #[.int .i64 V1, .int .i64 E1]) ∧ Below u.heap.size u w' := (by
    intro u
    have h := nParse_any (kA s) u (by unfold maxLen; omega)
    rw [hV1, hE1] at h
    exact h)
  have P2 : ∀ u : World, Calls Tryd.prog 175 #[.string ⟨(kB s).toArray⟩] u fun e w' => e = .returned (.tuple #[.int .i64 V2, .int .i64 E2]) ∧ Below u.heap.size u w' := (by
    intro u
    have h := nParse_any (kB s) u (by unfold maxLen; omega)
    rw [hV2, hE2] at h
    exact h)
  rw [hV1] at b1
  rw [hV2] at b2
  by_cases he1 : E1 = 0
  · have f1 : (E1 != 0) = false := by simp [he1]
    cases no with
    | true =>
      cases hk : kS s with
      | true =>
        have HN : Hid (nmP true s = none) := (by
          show _ = _
          unfold nmP oneP
          rw [if_pos rfl, if_neg (comma_no hk)])
        have C1 := nCut_f s w hl
        rw [hk] at C1
        clear hV1 hE1 hV2 hE2 hk he1 P2
        go_enter Tryd.func149, Tryd.ntmps149
        go_wp2_with fail
        refine C1.mono ?_
        rintro e w1 ⟨rfl, n, rfl⟩
        go_wp2_with fail
        refine (P1 _).mono ?_
        rintro e w2 ⟨rfl, hb2⟩
        go_wp2
        go_ret3
        exact ⟨_, _, _, rfl, HN.out, (Below.dN (Below.refl _ w) n).trans hb2⟩
      | false =>
        have HN : Hid (nmP true s = some (V1, 0)) := (by
          show _ = _
          obtain ⟨a1, _⟩ := kA_self hk
          rw [a1] at hV1 hE1
          unfold nmP oneP
          rw [if_pos rfl, if_pos (by rw [hE1]; exact he1), hV1])
        have C1 := nCut_f s w hl
        rw [hk] at C1
        clear hV1 hE1 hV2 hE2 hk he1 P2
        go_enter Tryd.func149, Tryd.ntmps149
        go_wp2_with fail
        refine C1.mono ?_
        rintro e w1 ⟨rfl, n, rfl⟩
        go_wp2_with fail
        refine (P1 _).mono ?_
        rintro e w2 ⟨rfl, hb2⟩
        go_wp2
        go_ret3
        exact ⟨_, _, _, rfl, HN.out, (Below.dN (Below.refl _ w) n).trans hb2⟩
    | false =>
      cases hk : kS s with
      | false =>
        have HN : Hid (nmP false s = if decide (0 < V1) = true then some (V1, 1) else none) := (by
          show _ = _
          obtain ⟨a1, a2⟩ := kA_self hk
          rw [a1] at hV1 hE1
          unfold nmP lnsP
          rw [if_neg (by decide), a2]
          dsimp only
          rw [hV1, hE1]
          by_cases h : 0 < V1
          · rw [if_pos ⟨he1, by omega⟩, if_pos (by simpa using h)]
          · rw [if_neg (by omega), if_neg (by simpa using h)])
        have C1 := nCut_f s w hl
        rw [hk] at C1
        clear hV1 hE1 hV2 hE2 hk he1 P2
        go_enter Tryd.func149, Tryd.ntmps149
        go_wp2_with fail
        refine C1.mono ?_
        rintro e w1 ⟨rfl, n, rfl⟩
        go_wp2_with fail
        refine (P1 _).mono ?_
        rintro e w2 ⟨rfl, hb2⟩
        go_wp2
        go_ret3
        exact ⟨_, _, _, rfl, HN.out, (Below.dN (Below.refl _ w) n).trans hb2⟩
      | true =>
        have HN : Hid (nmP false s = if (decide (E2 = 0) && decide (0 < V1) && decide (V1 < V2)) = true then some (V1, V2 - V1 + 1) else none) := (by
          show _ = _
          obtain ⟨c, a2⟩ := kS_some hk
          unfold nmP lnsP
          rw [if_neg (by decide), a2]
          dsimp only
          rw [hV1, hE1, hV2, hE2]
          by_cases h : E2 = 0 ∧ 0 < V1 ∧ V1 < V2
          · rw [if_pos ⟨he1, h.1, by omega, h.2.2⟩, if_pos (by simp [h.1, h.2.1, h.2.2])]
          · rw [if_neg (fun q => h ⟨q.2.1, by omega, q.2.2.2⟩), if_neg (fun q => h (by simp only [Bool.and_eq_true, decide_eq_true_eq] at q; exact ⟨q.1.1, q.1.2, q.2⟩))])
        have C1 := nCut_f s w hl
        rw [hk] at C1
        clear hV1 hE1 hV2 hE2 hk he1
        go_enter Tryd.func149, Tryd.ntmps149
        go_wp2_with fail
        refine C1.mono ?_
        rintro e w1 ⟨rfl, n, rfl⟩
        go_wp2_with fail
        refine (P1 _).mono ?_
        rintro e w2 ⟨rfl, hb2⟩
        go_wp2_with fail
        refine (P2 _).mono ?_
        rintro e w3 ⟨rfl, hb3⟩
        have hb23 := (Below.dN (Below.refl _ w) n).trans (hb2.trans (hb3.mono hb2.size))
        have i1 : IntKind.i64.wrap (V2 - V1) = V2 - V1 := wrap_s (by omega) (by omega)
        have i2 : IntKind.i64.wrap (V2 - V1 + 1) = V2 - V1 + 1 := wrap_s (by omega) (by omega)
        by_cases h1 : E2 = 0
        · have g1 : (E2 == 0) = true := by simp [h1]
          by_cases h2 : 0 < V1
          · have HN2 : Hid (nmP false s = if decide (V1 < V2) = true then some (V1, V2 - V1 + 1) else none) := (by
              show _ = _
              rw [HN.out]
              simp [h1, h2])
            clear HN h1
            go_wp2
            go_ret3
            exact ⟨_, _, _, rfl, HN2.out, hb23⟩
          · have HN2 : Hid (nmP false s = none) := (by have h := HN.out; rw [if_neg (by simp [h2])] at h; exact h)
            clear HN h1
            go_wp2
            go_ret3
            exact ⟨_, _, _, rfl, HN2.out, hb23⟩
        · have g1 : (E2 == 0) = false := by simp [h1]
          have HN2 : Hid (nmP false s = none) := (by have h := HN.out; rw [if_neg (by simp [h1])] at h; exact h)
          clear HN h1
          go_wp2
          go_ret3
          exact ⟨_, _, _, rfl, HN2.out, hb23⟩
  · have f1 : (E1 != 0) = true := by simp [he1]
    have HN : Hid (nmP no s = none) := nm_bad (by rw [hE1]; exact he1)
    have C1 := nCut_f s w hl
    clear hV1 hE1 hV2 hE2 he1 P2
    generalize kS s = ks at C1
    go_enter Tryd.func149, Tryd.ntmps149
    go_wp2_with fail
    refine C1.mono ?_
    rintro e w1 ⟨rfl, n, rfl⟩
    go_wp2_with fail
    refine (P1 _).mono ?_
    rintro e w2 ⟨rfl, hb2⟩
    go_wp2
    go_ret3
    exact ⟨_, _, _, rfl, HN.out, (Below.dN (Below.refl _ w) n).trans hb2⟩
end Go.Proofs.YtgiojkhmkeocfaaDoor

/- The context form: how the code reads a side, a range, a hunk; plain mathematics. -/
namespace Go.Proofs.YtgiojkhmkeocfaaDoor
open Ln

/-- a side as rows of lines with their kinds as signs -/
def kM (x : Sde) : List Mk := x.map fun y => ⟨(y.1.toNat : Int), y.2⟩
theorem kM_len (x : Sde) : (kM x).length = x.length := by simp [kM]
theorem kM_cons (y : UInt8 × List UInt8) (x : Sde) : kM (y :: x) = ⟨(y.1.toNat : Int), y.2⟩ :: kM x := rfl
theorem kM_app (x y : Sde) : kM (x ++ y) = kM x ++ kM y := by simp [kM]
theorem kM_nil {x : Sde} : kM x = [] ↔ x = [] := by simp [kM]
/-- the lines of a side with their line feeds -/
def rdC (sg : UInt8) : Nat → List (List UInt8) → Except (Nat × Int) (List Mk × Nat × List (List UInt8))
  | p, [] => .ok ([], p, [])
  | p, s :: r => if isSd sg s = true then if fdB s = true then match rdC sg (p + 1) r with
      | .error e => .error e
      | .ok (l, p2, r2) => .ok (⟨((s.headD 0).toNat : Int), s.drop 2⟩ :: l, p2, r2)
    else .error (p + 1, 3) else .ok ([], p, s :: r)
/-- a side as the code reads it -/
def sdE (sg : UInt8) (p : Nat) (ls : List (List UInt8)) : Except (Nat × Int) (List Mk × Nat × List (List UInt8)) :=
  match rdC sg p ls with
  | .error e => .error e
  | .ok (l, p1, r) => if (!l.isEmpty && endK l r) = true then .ok (cutL l, p1 + 1, r.tail) else .ok (l, p1, r)
def mapS (X : Except (Nat × Int) (Sde × Nat × List (List UInt8))) : Except (Nat × Int) (List Mk × Nat × List (List UInt8)) :=
  match X with
  | .error e => .error e
  | .ok (x, p, r) => .ok (kM x, p, r)
theorem mark_noSd {sg : UInt8} (h92 : sg ≠ 92) {t : List UInt8} (h : markT.isPrefixOf t = true) : isSd sg t = false := by
  obtain ⟨u, rfl⟩ := List.isPrefixOf_iff_prefix.1 h
  unfold markT
  simp only [List.cons_append, isSd]
  have h1 : ((92 : UInt8) == sg) = false := beq_eq_false_iff_ne.2 (fun e => h92 e.symm)
  rw [h1]
  decide
theorem rdC_mark {sg : UInt8} (h92 : sg ≠ 92) {r : List (List UInt8)} (h : pkM r = true) (p : Nat) : rdC sg p r = .ok ([], p, r) := by
  cases r with
  | nil => cases h
  | cons t r =>
    simp only [rdC]
    rw [if_neg (by rw [mark_noSd h92 h]; decide)]
theorem side_short {sg : UInt8} {s : List UInt8} (h : isSd sg s = true) (hf : fdB s = true) (hl : s.length ≤ 3) : s.drop 2 = [10] := by
  match s, h, hf, hl with
  | [a, b], h, hf, _ =>
    simp only [isSd, Bool.and_eq_true, beq_iff_eq] at h
    obtain ⟨_, rfl⟩ := h
    exact absurd hf (by simp [fdB])
  | [a, b, c], h, hf, _ =>
    have : c = 10 := by simpa [fdB] using hf
    rw [this]
    rfl
theorem side_code {sg : UInt8} (h92 : sg ≠ 92) (ls : List (List UInt8)) : ∀ p, sdE sg p ls = mapS (rdS sg p ls) := by
  induction ls with
  | nil => intro p; rfl
  | cons s r ih =>
    intro p
    by_cases hs : isSd sg s = true
    · by_cases hf : fdB s = true
      · by_cases hm : pkM r = true ∧ 3 < s.length
        · have h1 : rdC sg p (s :: r) = .ok ([⟨((s.headD 0).toNat : Int), s.drop 2⟩], p + 1, r) := by
            simp only [rdC]
            rw [if_pos hs, if_pos hf, rdC_mark h92 hm.1]
          have h2 : endK [⟨((s.headD 0).toNat : Int), s.drop 2⟩] r = true := by
            unfold endK
            rw [hm.1, Bool.and_true]
            have : lastT [(⟨((s.headD 0).toNat : Int), s.drop 2⟩ : Mk)] = s.drop 2 := rfl
            rw [this, bne_iff_ne]
            intro e
            have := congrArg List.length e
            rw [List.length_drop] at this
            simp at this
            omega
          unfold sdE
          rw [h1]
          dsimp only
          rw [if_pos (by rw [h2]; rfl)]
          simp only [rdS]
          rw [if_pos hs, if_pos hf, if_pos hm]
          rfl
        · have hi := ih (p + 1)
          simp only [rdS]
          rw [if_pos hs, if_pos hf, if_neg hm]
          unfold sdE at hi ⊢
          simp only [rdC]
          rw [if_pos hs, if_pos hf]
          cases hc : rdC sg (p + 1) r with
          | error e =>
            rw [hc] at hi
            cases hr : rdS sg (p + 1) r with
            | error e2 =>
              rw [hr] at hi
              simp only [mapS] at hi ⊢
              injection hi with hi
              rw [hi]
            | ok z =>
              obtain ⟨x, p2, r2⟩ := z
              rw [hr] at hi
              simp only [mapS] at hi
              cases hi
          | ok z =>
            obtain ⟨l, p2, r2⟩ := z
            rw [hc] at hi
            dsimp only at hi ⊢
            cases hr : rdS sg (p + 1) r with
            | error e2 =>
              rw [hr] at hi
              simp only [mapS] at hi
              split at hi <;> cases hi
            | ok z =>
              obtain ⟨x, p3, r3⟩ := z
              rw [hr] at hi
              simp only [mapS] at hi ⊢
              by_cases hl : l = []
              · subst hl
                rw [if_neg (by simp)] at hi
                have hi2 : ([] : List Mk) = kM x ∧ p2 = p3 ∧ r2 = r3 := by
                  injection hi with hi
                  injection hi with h1 h2
                  injection h2 with h2 h3
                  exact ⟨h1, h2, h3⟩
                obtain ⟨hx, rfl, rfl⟩ := hi2
                have hx0 : x = [] := kM_nil.1 hx.symm
                subst hx0
                have hr2 : r2 = r := by
                  cases r with
                  | nil => simp only [rdC] at hc; cases hc; rfl
                  | cons t r =>
                    simp only [rdC] at hc
                    split at hc
                    · split at hc
                      · split at hc
                        · cases hc
                        · cases hc
                      · cases hc
                    · cases hc; rfl
                subst hr2
                have he : endK [⟨((s.headD 0).toNat : Int), s.drop 2⟩] r2 = false := by
                  unfold endK
                  have : lastT [(⟨((s.headD 0).toNat : Int), s.drop 2⟩ : Mk)] = s.drop 2 := rfl
                  rw [this]
                  cases hp : pkM r2 with
                  | false => rw [Bool.and_false]
                  | true =>
                    rw [side_short hs hf (Nat.le_of_not_lt fun q => hm ⟨hp, q⟩)]
                    rfl
                rw [if_neg (by rw [he]; simp)]
                rfl
              · have hl1 : l.isEmpty = false := by cases l with | nil => exact absurd rfl hl | cons _ _ => rfl
                have he : endK (⟨((s.headD 0).toNat : Int), s.drop 2⟩ :: l) r2 = endK l r2 := by
                  unfold endK
                  rw [lastT_cons hl]
                rw [he]
                rw [hl1] at hi
                simp only [Bool.not_false, Bool.true_and, List.isEmpty_cons] at hi ⊢
                by_cases hk : endK l r2 = true
                · rw [if_pos hk] at hi ⊢
                  rw [cutL_cons hl]
                  injection hi with hi
                  injection hi with h1 h2
                  rw [h1, h2]
                  rfl
                · rw [if_neg hk] at hi ⊢
                  injection hi with hi
                  injection hi with h1 h2
                  rw [h1, h2]
                  rfl
      · unfold sdE
        simp only [rdC, rdS]
        rw [if_pos hs, if_neg hf, if_pos hs, if_neg hf]
        rfl
    · unfold sdE
      simp only [rdC, rdS]
      rw [if_neg hs, if_neg hs]
      rfl

/- ranges -/
/-- the numbers of a range, as the code tells them: the first one, the last one -/
def nmC (s : List UInt8) : Option (Int × Int) :=
  if Pn.parseE (kA s) = 0 then if kS s = true then if Pn.parseE (kB s) = 0 ∧ 0 < Pn.parseV (kA s) ∧ Pn.parseV (kA s) < Pn.parseV (kB s) then some (Pn.parseV (kA s), Pn.parseV (kB s)) else none else some (Pn.parseV (kA s), Pn.parseV (kA s)) else none
def sayC (x : Int × Int) : Int × Int := (x.1, if x.1 = x.2 then -1 else x.2 - x.1 + 1)
theorem rng_code (s : List UInt8) : rngI s = (nmC s).map sayC := by
  unfold rngI nmC
  cases hk : kS s with
  | false =>
    obtain ⟨h1, h2⟩ := kA_self hk
    rw [h1, if_neg (show ¬ (false = true) by decide)]
    by_cases he : Pn.parseE s = 0
    · rw [if_pos he, if_pos he]
      simp [sayC]
    · rw [if_neg he, if_neg he]
      unfold lnsP
      rw [h2]
      exact if_neg (fun q => he q.1)
  | true =>
    obtain ⟨c, hc⟩ := kS_some hk
    rw [if_neg (comma_no hk), if_pos rfl]
    unfold lnsP
    rw [hc]
    dsimp only
    by_cases h1 : Pn.parseE (kA s) = 0
    · rw [if_pos h1]
      by_cases h2 : Pn.parseE (kB s) = 0 ∧ 0 < Pn.parseV (kA s) ∧ Pn.parseV (kA s) < Pn.parseV (kB s)
      · rw [if_pos ⟨h1, h2.1, by omega, h2.2.2⟩, if_pos h2]
        simp only [Option.map_some, sayC]
        rw [if_neg (by omega)]
      · rw [if_neg (fun q => h2 ⟨q.2.1, by omega, q.2.2.2⟩), if_neg h2]
        rfl
    · rw [if_neg (fun q => h1 q.1), if_neg h1]
      rfl
theorem nmC_ok {s : List UInt8} {a b : Int} (h : nmC s = some (a, b)) : 0 ≤ a ∧ a ≤ b ∧ b ≤ 2147483647 := by
  unfold nmC at h
  have b1 := @prs_num (kA s)
  have b2 := @prs_num (kB s)
  split at h
  · split at h
    · split at h
      · rename_i h3
        cases h
        omega
      · cases h
    · cases h
      omega
  · cases h
/-- a range says as many lines as there are -/
theorem cnt_code {a b : Int} (h : a ≤ b) (x : Sde) : cntS (sayC (a, b)).2 x = !(decide ((x.length : Int) = b - a + 1) || (decide ((x.length : Int) = 0) && decide (b - a + 1 = 1))) := by
  unfold cntS sayC
  dsimp only
  rw [Bool.eq_iff_iff]
  simp only [decide_eq_true_eq, Bool.not_eq_true', Bool.or_eq_false_iff, Bool.and_eq_false_iff, decide_eq_false_iff_not]
  split <;> omega
end Go.Proofs.YtgiojkhmkeocfaaDoor

/- How long the context form of a patch is; plain mathematics. -/
namespace Go.Proofs.YtgiojkhmkeocfaaDoor
open Ln

/-- the bytes of lines -/
def txS : List Mk → Nat
  | [] => 0
  | m :: l => m.tx.length + txS l
theorem cln_len (ah s : List UInt8) : (lnL ah s).flatten.length ≤ ah.length + s.length + 29 := by
  unfold lnL
  split
  · simp only [List.flatten_cons, List.flatten_nil, List.length_append, List.length_nil]
    omega
  · simp only [List.flatten_cons, List.flatten_nil, List.length_append, List.length_nil, List.length_cons, markT]
    omega
theorem sid_len (sg : Int) (l : List Mk) : ∀ r a, (sidL sg r a l).flatten.length ≤ 31 * l.length + txS l := by
  induction l with
  | nil => intro r a; exact Nat.le_refl _
  | cons m l ih =>
    intro r a
    simp only [sidL, txS, List.length_cons]
    split
    · have h1 := cln_len [32, 32] m.tx
      have h2 := ih false false
      simp only [List.flatten_append, List.length_append, List.length_cons, List.length_nil] at h1 ⊢
      omega
    · split
      · have h2 := ih (r || decide (m.sg = 45)) (a || decide (m.sg = 43))
        have h1 := cln_len (if ((r || anyS 45 (m :: l)) && (a || anyS 43 (m :: l))) = true then [33, 32] else [UInt8.ofNat sg.toNat, 32]) m.tx
        have h3 : (if ((r || anyS 45 (m :: l)) && (a || anyS 43 (m :: l))) = true then [33, 32] else [UInt8.ofNat sg.toNat, 32]).length = 2 := by split <;> rfl
        rw [h3] at h1
        simp only [List.flatten_append, List.length_append]
        omega
      · have h2 := ih (r || decide (m.sg = 45)) (a || decide (m.sg = 43))
        omega
theorem side_len (sg : Int) (l : List Mk) : (sideL sg l).flatten.length ≤ 31 * l.length + txS l := by
  unfold sideL
  split
  · exact sid_len sg l _ _
  · exact Nat.zero_le _
theorem span_len {p n : Int} (hp : 0 ≤ p) (hb : p ≤ 2147483647) (hn : n ≤ 2147483647) : (spanT p n).length ≤ 61 := by
  have r1 := itoa_short p (by omega) (by omega)
  unfold spanT
  split
  · omega
  · have r2 := itoa_short (p + n - 1) (by omega) (by omega)
    simp only [List.length_append, List.length_cons]
    omega
theorem chk_hi {h : Hk} (hr : rngB h = true) : h.AN ≤ 2147483647 ∧ h.BN ≤ 2147483647 := by
  simp [rngB, nat31] at hr
  omega
theorem hkl_len {h : Hk} (hc : chkH h = 0) : (hkL h).flatten.length ≤ 200 + 62 * h.ls.length + 2 * txS h.ls := by
  obtain ⟨c1, _⟩ := chk_out hc
  obtain ⟨r1, r2, r3, r4, r5, r6, _⟩ := rng_out c1
  obtain ⟨r7, r8⟩ := chk_hi c1
  have s1 := side_len 45 h.ls
  have s2 := side_len 43 h.ls
  have s3 := span_len r1 r2 r7
  have s4 := span_len r4 r5 r8
  simp only [hkL, rlT, starsT, List.flatten_cons, List.flatten_append, List.length_append, List.length_cons, List.length_nil]
  omega
/-- the lines and bytes of hunks -/
def hsS : List Hk → Nat
  | [] => 0
  | h :: l => 200 + 62 * h.ls.length + 2 * txS h.ls + hsS l
theorem hks_len {l : List Hk} (h : ∀ x ∈ l, chkH x = 0) : (l.flatMap hkL).flatten.length ≤ hsS l := by
  induction l with
  | nil => exact Nat.le_refl _
  | cons x l ih =>
    have h1 := ih fun y hy => h y (by simp [hy])
    have h2 := hkl_len (h x (by simp))
    simp only [List.flatMap_cons, List.flatten_append, List.length_append, hsS]
    omega
theorem name_len (n : List UInt8) : (nameT n).length ≤ 3 * n.length + 11 := by
  unfold nameT
  split
  · simp only [devN, List.length_cons, List.length_nil]
    omega
  · split
    · omega
    · have := Q.quote_length n
      omega
theorem ptl_len {p : Pth} (h : ∀ x ∈ p.hs, chkH x = 0) : (ptL p).flatten.length ≤ 32 + 3 * p.old.length + 3 * p.new.length + hsS p.hs := by
  unfold ptL
  split
  · exact Nat.zero_le _
  · have h1 := hks_len h
    have h2 := name_len p.old
    have h3 := name_len p.new
    simp only [List.flatten_cons, List.length_append, List.length_cons, List.length_nil]
    omega
theorem cerrs_out {l : List Hk} (h : errs l = 0) : ∀ x ∈ l, chkH x = 0 := by
  induction l with
  | nil => intro x hx; cases hx
  | cons y l ih =>
    simp only [errs] at h
    split at h
    · rename_i hq
      exact absurd h hq
    · rename_i hq
      intro x hx
      rcases List.mem_cons.1 hx with rfl | hx
      · omega
      · exact ih h x hx
theorem wrg_out {p : Pth} (h : wrgP p = 0) : p.old.length ≤ 64 ∧ p.new.length ≤ 64 ∧ p.hs.length ≤ 4096 ∧ ∀ x ∈ p.hs, chkH x = 0 := by
  unfold wrgP at h
  split at h
  · cases h
  · split at h
    · cases h
    · exact ⟨by omega, by omega, by omega, cerrs_out h⟩
theorem pt_len (p : Pth) : (ptT p).length ≤ 416 + hsS p.hs := by
  unfold ptT
  split
  · rename_i h
    obtain ⟨h1, h2, _, h4⟩ := wrg_out h
    have := ptl_len h4
    omega
  · exact Nat.zero_le _
end Go.Proofs.YtgiojkhmkeocfaaDoor

/- The context form: a side's lines one by one, by what lies ahead of a place and behind it (the reference's way); plain mathematics. -/
namespace Go.Proofs.YtgiojkhmkeocfaaDoor

/-- does the piece that ends a list have a sign? -/
def endS (sg : Int) (P : List Mk) : Bool := anyS sg P.reverse
theorem ends_snoc (sg : Int) (P : List Mk) (m : Mk) : endS sg (P ++ [m]) = if m.sg = 32 then false else endS sg P || decide (m.sg = sg) := by
  unfold endS
  rw [List.reverse_append]
  simp only [List.reverse_cons, List.reverse_nil, List.nil_append, List.cons_append, anyS]
  split
  · rfl
  · exact Bool.or_comm _ _
/-- does the piece around a place have both signs? -/
def bothM (P S : List Mk) : Bool := (endS 45 P || anyS 45 S) && (endS 43 P || anyS 43 S)
/-- what a line makes of a side -/
def lineS (sg : Int) (P : List Mk) (m : Mk) (S : List Mk) : List (List UInt8) := if m.sg = 32 then lnL [32, 32] m.tx else if m.sg = sg then lnL (if bothM P (m :: S) = true then [33, 32] else [UInt8.ofNat sg.toNat, 32]) m.tx else []
/-- a side from a place on -/
def fromS (sg : Int) (P S : List Mk) : List (List UInt8) := sidL sg (endS 45 P) (endS 43 P) S
theorem from_cons (sg : Int) (P : List Mk) (m : Mk) (S : List Mk) : fromS sg P (m :: S) = lineS sg P m S ++ fromS sg (P ++ [m]) S := by
  unfold fromS lineS
  simp only [sidL, ends_snoc]
  by_cases h : m.sg = 32
  · rw [if_pos h, if_pos h, if_pos h, if_pos h]
  · rw [if_neg h, if_neg h, if_neg h, if_neg h]
    by_cases h2 : m.sg = sg
    · rw [if_pos h2, if_pos h2]
      rfl
    · rw [if_neg h2, if_neg h2]
      rfl
theorem from_all (sg : Int) (l : List Mk) : fromS sg [] l = sidL sg false false l := rfl
end Go.Proofs.YtgiojkhmkeocfaaDoor

/- The context form: the signs with which the code shows lines; plain mathematics. -/
namespace Go.Proofs.YtgiojkhmkeocfaaDoor
open Ln

def chgM (l : List Mk) : List Mk := l.takeWhile fun m => m.sg != 32
def rstM (l : List Mk) : List Mk := l.dropWhile fun m => m.sg != 32
/- signs that are shown -/
def shwL : Bool → Bool → List Mk → List Int
  | _, _, [] => []
  | r, a, m :: l => if m.sg = 32 then 32 :: shwL false false l else (if ((r || anyS 45 (m :: l)) && (a || anyS 43 (m :: l))) = true then 33 else m.sg) :: shwL (r || decide (m.sg = 45)) (a || decide (m.sg = 43)) l
theorem shw_len (l : List Mk) : ∀ r a, (shwL r a l).length = l.length := by
  induction l with
  | nil => intro r a; rfl
  | cons m l ih =>
    intro r a
    simp only [shwL]
    split <;> simp [ih]
/-- the lines of a side behind given signs -/
def sidZ (sg : Int) : List Mk → List Int → List (List UInt8)
  | m :: l, c :: sh => (if m.sg = 32 ∨ m.sg = sg then lnL [UInt8.ofNat c.toNat, 32] m.tx else []) ++ sidZ sg l sh
  | _, _ => []
theorem sid_shw (sg : Int) (l : List Mk) : ∀ r a, sidZ sg l (shwL r a l) = sidL sg r a l := by
  induction l with
  | nil => intro r a; rfl
  | cons m l ih =>
    intro r a
    simp only [shwL, sidL]
    by_cases h : m.sg = 32
    · rw [if_pos h, if_pos h]
      simp only [sidZ]
      rw [if_pos (.inl h), ih]
      rfl
    · rw [if_neg h, if_neg h]
      simp only [sidZ]
      rw [ih]
      by_cases h2 : m.sg = sg
      · rw [if_pos (.inr h2), if_pos h2, h2]
        split <;> rfl
      · rw [if_neg (fun q => q.elim h h2), if_neg h2]
        rfl
def hasM (k : Int) (l : List Mk) : Bool := l.any fun m => m.sg == k
/-- a piece is shown with one sign for all, or its own ones -/
def mixM (c : List Mk) : List Int := c.map fun m => if (hasM 45 c && hasM 43 c) = true then 33 else m.sg
theorem anyS_chg (sg : Int) (l : List Mk) : anyS sg l = hasM sg (chgM l) := by
  induction l with
  | nil => rfl
  | cons m l ih =>
    simp only [anyS, chgM, List.takeWhile_cons]
    by_cases h : m.sg = 32
    · rw [if_pos h]
      have : (m.sg != 32) = false := by simp [h]
      rw [this]
      rfl
    · rw [if_neg h, ih]
      have : (m.sg != 32) = true := by simp [h]
      rw [this]
      simp only [hasM, if_true, List.any_cons, chgM]
      rfl
/-- what is shown behind a piece -/
def tlM : List Mk → List Int
  | [] => []
  | _ :: t => 32 :: shwL false false t
theorem shw_piece (l : List Mk) : ∀ r a, shwL r a l = (chgM l).map (fun m => if ((r || hasM 45 (chgM l)) && (a || hasM 43 (chgM l))) = true then 33 else m.sg) ++ tlM (rstM l) := by
  induction l with
  | nil => intro r a; rfl
  | cons m l ih =>
    intro r a
    by_cases h : m.sg = 32
    · have h1 : (m.sg != 32) = false := by simp [h]
      have e1 : chgM (m :: l) = [] := by simp only [chgM, List.takeWhile_cons, h1]; rfl
      have e2 : rstM (m :: l) = m :: l := by simp only [rstM, List.dropWhile_cons, h1]; rfl
      rw [e1, e2]
      simp only [shwL]
      rw [if_pos h]
      rfl
    · have h1 : (m.sg != 32) = true := by simp [h]
      have e1 : chgM (m :: l) = m :: chgM l := by simp only [chgM, List.takeWhile_cons, h1]; rfl
      have e2 : rstM (m :: l) = rstM l := by simp only [rstM, List.dropWhile_cons, h1]; rfl
      simp only [shwL]
      rw [if_neg h, anyS_chg 45, anyS_chg 43, ih, e1, e2]
      have q : ∀ k : Int, hasM k (m :: chgM l) = (decide (m.sg = k) || hasM k (chgM l)) := fun k => by
        simp only [hasM, List.any_cons]
        rfl
      rw [q, q]
      simp only [List.map_cons, List.cons_append, Bool.or_assoc]
theorem shw_step (l : List Mk) : shwL false false l = mixM (chgM l) ++ tlM (rstM l) := by
  rw [shw_piece]
  simp only [Bool.false_or]
  rfl
theorem chg_rstM (l : List Mk) : chgM l ++ rstM l = l := List.takeWhile_append_dropWhile
end Go.Proofs.YtgiojkhmkeocfaaDoor

/- The context form: how the code lays sides together, shows signs, reads names; plain mathematics. -/
namespace Go.Proofs.YtgiojkhmkeocfaaDoor
open Ln

/- pieces -/
def allM (k : Int) (l : List Mk) : Bool := l.all fun m => m.sg == k
def keptM (l : List Mk) : List Mk := l.filter fun m => m.sg == 32
theorem kd_ne (a : UInt8) (k : UInt8) : (((a.toNat : Int)) != (k.toNat : Int)) = (a != k) := by
  rw [Bool.eq_iff_iff, bne_iff_ne, bne_iff_ne, ne_eq, ne_eq, Int.natCast_inj, UInt8.toNat_inj]
theorem kd_eq (a : UInt8) (k : UInt8) : (((a.toNat : Int)) == (k.toNat : Int)) = (a == k) := by
  rw [Bool.eq_iff_iff, beq_iff_eq, beq_iff_eq, Int.natCast_inj, UInt8.toNat_inj]
theorem chg_kM (x : Sde) : chgM (kM x) = kM (chgS x) := by
  induction x with
  | nil => rfl
  | cons y x ih =>
    have h := kd_ne y.1 32
    simp only [chgM, kM_cons, chgS, List.takeWhile_cons] at ih ⊢
    have h2 : (((y.1.toNat : Int)) != 32) = (y.1 != 32) := h
    rw [h2]
    split
    · rw [ih]; rfl
    · rfl
theorem rst_kM (x : Sde) : rstM (kM x) = kM (rstS x) := by
  induction x with
  | nil => rfl
  | cons y x ih =>
    have h := kd_ne y.1 32
    simp only [rstM, kM_cons, rstS, List.dropWhile_cons] at ih ⊢
    have h2 : (((y.1.toNat : Int)) != 32) = (y.1 != 32) := h
    rw [h2]
    split
    · rw [ih]
    · rfl
theorem all_kM (k : UInt8) (x : Sde) : allM (k.toNat : Int) (kM x) = allS k x := by
  unfold allM allS kM
  rw [List.all_map]
  refine congrArg (fun f => x.all f) ?_
  funext y
  exact kd_eq y.1 k
theorem kept_kM (x : Sde) : keptM (kM x) = kM (keptS x) := by
  unfold keptM keptS kM
  rw [List.filter_map]
  refine congrArg (List.map _) (congrArg (fun f => x.filter f) ?_)
  funext y
  exact kd_eq y.1 32
/-- a piece as the code looks at it -/
def mtM (g c : List Mk) : Bool := if c = [] then allM 45 g else if g = [] then allM 43 c else allM 33 g && allM 33 c
theorem mt_kM (x y : Sde) : mtM (kM x) (kM y) = okJ x y := by
  unfold mtM okJ
  have a1 : allM 45 (kM x) = allS 45 x := all_kM 45 x
  have a2 : allM 43 (kM y) = allS 43 y := all_kM 43 y
  have a3 : allM 33 (kM x) = allS 33 x := all_kM 33 x
  have a4 : allM 33 (kM y) = allS 33 y := all_kM 33 y
  rw [a1, a2, a3, a4]
  by_cases hy : y = []
  · subst hy
    rw [if_pos (show kM [] = [] from rfl), if_neg (fun q => q.2 rfl)]
    have : allS 43 [] = true := rfl
    rw [this, Bool.and_true]
  · rw [if_neg (fun q => hy (kM_nil.1 q))]
    by_cases hx : x = []
    · subst hx
      rw [if_pos (show kM [] = [] from rfl), if_neg (fun q => q.1 rfl)]
      have : allS 45 [] = true := rfl
      rw [this, Bool.true_and]
    · rw [if_neg (fun q => hx (kM_nil.1 q)), if_pos ⟨hx, hy⟩]
/-- texts with one sign -/
theorem mkS_kM (s : Int) (x : Sde) : mkS s x = (kM x).map fun m => ⟨s, m.tx⟩ := by
  simp [mkS, kM]
theorem same_kM (x : Sde) : allM 32 (kM x) = sameS x := all_kM 32 x
theorem jn_fuel (n : Nat) : ∀ (o w : Sde) (f g : Nat), o.length ≤ n → o.length < f → o.length < g → jnS f o w = jnS g o w := by
  induction n with
  | zero =>
    intro o w f g h hf hg
    obtain ⟨f, rfl⟩ : ∃ f', f = f' + 1 := ⟨f - 1, by omega⟩
    obtain ⟨g, rfl⟩ : ∃ g', g = g' + 1 := ⟨g - 1, by omega⟩
    have ho : o = [] := List.eq_nil_of_length_eq_zero (by omega)
    subst ho
    simp only [jnS]
    have : rstS [] = [] := rfl
    rw [this]
    cases rstS w <;> rfl
  | succ n ih =>
    intro o w f g h hf hg
    obtain ⟨f, rfl⟩ : ∃ f', f = f' + 1 := ⟨f - 1, by omega⟩
    obtain ⟨g, rfl⟩ : ∃ g', g = g' + 1 := ⟨g - 1, by omega⟩
    simp only [jnS]
    split
    · have hl : (rstS o).length ≤ o.length := by
        have := congrArg List.length (chg_rst o)
        rw [List.length_append] at this
        omega
      cases hro : rstS o with
      | nil => cases rstS w <;> rfl
      | cons y o2 =>
        rw [hro] at hl
        cases hrw : rstS w with
        | nil => rfl
        | cons z w2 =>
          dsimp only
          rw [ih o2 w2 f g (by simp at hl; omega) (by simp at hl; omega) (by simp at hl; omega)]
    · rfl
def jnX (o w : Sde) : Option (List Mk) := jnS (o.length + 1) o w
theorem jnX_eq (o w : Sde) : jnX o w = if okJ (chgS o) (chgS w) = true then match rstS o, rstS w with
      | [], [] => some (mkS 45 (chgS o) ++ mkS 43 (chgS w))
      | (_, s) :: o2, (_, t) :: w2 => if s = t then match jnX o2 w2 with
        | none => none
        | some l => some (mkS 45 (chgS o) ++ (mkS 43 (chgS w) ++ ⟨32, s⟩ :: l)) else none
      | _, _ => none
    else none := by
  have hl : (rstS o).length ≤ o.length := by
    have := congrArg List.length (chg_rst o)
    rw [List.length_append] at this
    omega
  have hX : jnX o w = jnS (o.length + 1) o w := rfl
  rw [hX]
  simp only [jnS]
  split
  · cases hro : rstS o with
    | nil => cases rstS w <;> rfl
    | cons y o2 =>
      rw [hro] at hl
      simp only [List.length_cons] at hl
      cases hrw : rstS w with
      | nil => rfl
      | cons z w2 =>
        dsimp only
        rw [jn_fuel o.length o2 w2 o.length (o2.length + 1) (by omega) (by omega) (by omega)]
        rfl
  · rfl

/- names -/
def unC (s : List UInt8) : List UInt8 := if s = devN then [] else if s.head? = some 34 then Q.uqa s else s
theorem un_code {s n : List UInt8} (h : unN s = some n) : unC s = n := by
  unfold unN at h
  unfold unC
  split at h
  · rename_i h1
    rw [if_pos h1]
    cases h
    rfl
  · rename_i h1
    rw [if_neg h1]
    split at h
    · rename_i h2
      rw [if_pos h2]
      unfold Q.uqa
      split at h
      · rename_i h3
        rw [h3]
        cases h
        rfl
      · cases h
    · rename_i h2
      rw [if_neg h2]
      cases h
      rfl
def nokC (s : List UInt8) : Bool := decide ((unC s).length ≤ 64) && (nameT (unC s) == s)
theorem named_code (s : List UInt8) : namedP s = if nokC s = true then some (unC s) else none := by
  by_cases h : nokC s = true
  · rw [if_pos h]
    unfold nokC at h
    rw [Bool.and_eq_true, decide_eq_true_eq, beq_iff_eq] at h
    exact (named_iff s (unC s)).2 ⟨h.2.symm, h.1⟩
  · rw [if_neg h]
    cases hn : namedP s with
    | none => rfl
    | some n =>
      exfalso
      obtain ⟨h1, h2⟩ := (named_iff s n).1 hn
      have h3 : unC s = n := by rw [h1]; exact un_code (name_un n)
      apply h
      unfold nokC
      rw [h3, Bool.and_eq_true, decide_eq_true_eq, beq_iff_eq]
      exact ⟨h2, h1.symm⟩
/-- a line between two heads -/
theorem inn_code (e : UInt8) (s : List UInt8) : innR e s = if [e, e, e, 32].isPrefixOf s = true then if Lib.hasSuffix (s.drop 4) [32, e, e, e, e] = true then some ((s.drop 4).take ((s.drop 4).length - 5)) else none else none := by
  unfold innR
  by_cases h1 : [e, e, e, 32].isPrefixOf s = true
  · rw [if_pos h1]
    obtain ⟨t, rfl⟩ := List.isPrefixOf_iff_prefix.1 h1
    have e1 : ([e, e, e, 32] ++ t).drop 4 = t := rfl
    have e2 : ([e, e, e, 32] ++ t).length = t.length + 4 := by simp
    rw [e1, e2]
    by_cases h2 : Lib.hasSuffix t [32, e, e, e, e] = true
    · rw [if_pos h2]
      unfold Lib.hasSuffix at h2
      obtain ⟨u, rfl⟩ := List.isSuffixOf_iff_suffix.1 h2
      have e3 : (u ++ [32, e, e, e, e]).length = u.length + 5 := by simp
      rw [e3, if_pos]
      · have e4 : u.length + 5 + 4 - 9 = u.length + 5 - 5 := by omega
        rw [e4]
      · refine ⟨by omega, rfl, ?_⟩
        have e5 : u.length + 5 + 4 - 5 = ([e, e, e, 32] ++ u).length := by simp
        rw [e5, ← List.append_assoc, List.drop_left]
    · rw [if_neg h2, if_neg]
      rintro ⟨h3, _, h4⟩
      apply h2
      unfold Lib.hasSuffix
      rw [List.isSuffixOf_iff_suffix]
      have e6 : ([e, e, e, 32] ++ t).drop (t.length + 4 - 5) = t.drop (t.length - 5) := by
        have : t.length + 4 - 5 = 4 + (t.length - 5) := by omega
        rw [this, ← List.drop_drop]
        rfl
      rw [e6] at h4
      exact ⟨t.take (t.length - 5), by rw [← h4, List.take_append_drop]⟩
  · rw [if_neg h1, if_neg]
    rintro ⟨_, h2, _⟩
    apply h1
    rw [List.isPrefixOf_iff_prefix]
    exact ⟨s.drop 4, by rw [← h2, List.take_append_drop]⟩
end Go.Proofs.YtgiojkhmkeocfaaDoor

/- The library's contract on a fresh strings.Builder's copy check at this program: the program bears the bodies that it speaks of. -/
namespace Go.Proofs
open Go.Shelf
def Tryd.lays240_ren : Go.Shelf.Ren := ⟨fun | 240 => 70 | 276 => 110 | n => n, fun | 0 => 0 | 4 => 4 | 9 => 9 | 20 => 20 | 70 => 58 | 72 => 61 | 37 => 59 | 164 => 122 | n => n, fun | n => n⟩
theorem Tryd.lays240 : Go.Proofs.Lays.n240 Tryd.prog Tryd.lays240_ren := {
  mixed := by kernel_rfl
  f240 := Tryd.func70.trans (congrArg some (by kernel_rfl))
  f276 := Tryd.func110.trans (congrArg some (by kernel_rfl))
  t0 := Tryd.underlying0
  a0 := Tryd.isAgg0
  z0 := Tryd.sizeOf0
  v0 := Tryd.zeroValue0
  t4 := Tryd.underlying4
  a4 := Tryd.isAgg4
  z4 := Tryd.sizeOf4
  v4 := Tryd.zeroValue4
  t9 := Tryd.underlying9
  a9 := Tryd.isAgg9
  z9 := Tryd.sizeOf9
  v9 := Tryd.zeroValue9
  t20 := Tryd.underlying20
  a20 := Tryd.isAgg20
  z20 := Tryd.sizeOf20
  v20 := Tryd.zeroValue20
  t70 := Tryd.underlying58
  a70 := Tryd.isAgg58
  z70 := Tryd.sizeOf58
  v70 := Tryd.zeroValue58
  t72 := Tryd.underlying61
  a72 := Tryd.isAgg61
  z72 := Tryd.sizeOf61
  v72 := Tryd.zeroValue61
  t164 := Tryd.underlying122
  a164 := Tryd.isAgg122
  z164 := Tryd.sizeOf122
  v164 := Tryd.zeroValue122 }
theorem Tryd.Builder_X72_240 : Builder.X72 Tryd.prog Tryd.lays240_ren := {
  sizeBuilder := by kernel_rfl
  liesBuilder := by kernel_rfl }
theorem Tryd.copyCheck_fresh (b : Nat) (w : World) (h0 : w.cell? ⟨b, 0, none⟩ = some (.pointer none)) (hsh : w.shape? b = some (61, 2)) (hfz : w.frozen? ⟨b, 0, none⟩ = false) :
    Calls Tryd.prog 70 #[.pointer (some ⟨b, 0, none⟩)] w fun e w' => e = .returned (.tuple #[]) ∧ w' = w.setCell ⟨b, 0, none⟩ (.pointer (some ⟨b, 0, none⟩)) := Any.Builder_copyCheck_fresh Tryd.lays240 Tryd.Builder_X72_240 b w h0 hsh hfz
theorem Tryd.copyCheck_used (b : Nat) (w : World) (h0 : w.cell? ⟨b, 0, none⟩ = some (.pointer (some ⟨b, 0, none⟩))) :
    Calls Tryd.prog 70 #[.pointer (some ⟨b, 0, none⟩)] w fun e w' => e = .returned (.tuple #[]) ∧ w' = w := Any.Builder_copyCheck_used Tryd.lays240 Tryd.Builder_X72_240 b w h0
end Go.Proofs

/- Small functions of layer num and of the reference, and the writing of a byte into a builder, walked. -/
namespace Go.Proofs.YtgiojkhmkeocfaaDoor
open Q Go.RowKit Go.Proofs.YtgiojkhmkeocfaaDoor
attribute [local go_sem] ba_at hexl_at

set_option maxHeartbeats 400000 in
theorem isPlain_any (n : Int) (w : World) :
    Calls Tryd.prog 128 #[.int .u8 n] w fun e w' => e = .returned (.bool (plainI n)) ∧ w = w' := by
  go_enter Tryd.func128, Tryd.ntmps128
  go_wp2
  all_goals go_ret
  all_goals exact ⟨ret_bool (by rw [Bool.eq_iff_iff]; simp [plainI]; omega), rfl⟩

set_option maxHeartbeats 400000 in
theorem plain_any (n : Int) (w : World) :
    Calls Tryd.prog 136 #[.int .u8 n] w fun e w' => e = .returned (.bool (plainI n)) ∧ w = w' := by
  go_enter Tryd.func136, Tryd.ntmps136
  go_wp2
  all_goals go_ret
  all_goals exact ⟨ret_bool (by rw [Bool.eq_iff_iff]; simp [plainI]; omega), rfl⟩

theorem infoU8 : (Tryd.prog.info? 5).map (fun i => (i.zero, i.size, i.bytes)) = some (some (.int .u8 0), 1, 1) := by kernel_rfl
theorem copyCheck_any (B b : Nat) (v : Value) (bs : List Value) (w : World) (h : Bld 61 5 B b v bs w) :
    Calls Tryd.prog 70 #[.pointer (some ⟨b, 0, none⟩)] w fun e w' => e = .returned (.tuple #[]) ∧ w'.heap[b]? = some (.cells #[.pointer (some ⟨b, 0, none⟩), v] 61 (0, 0)) ∧ Bld 61 5 B b v bs w' ∧ Hid (∀ k, k ≠ b → w'.heap[k]? = w.heap[k]?) ∧ Below B w w' := by
  have h' := h
  obtain ⟨hB, ⟨p, hp, hbk⟩, hown, hne⟩ := h
  have hlt : b < w.heap.size := (Array.getElem?_eq_some_iff.1 hbk).1
  have c0 : w.cell? ⟨b, 0, none⟩ = some p := by rw [Lib.cell_of_heap hbk]; rfl
  have f0 : w.frozen? ⟨b, 0, none⟩ = false := Lib.frozen_of_heap hbk 0
  rcases hp with rfl | rfl
  · refine (Tryd.copyCheck_fresh b w c0 (by simp [World.shape?, hbk]) f0).mono ?_
    rintro e w' ⟨rfl, rfl⟩
    have hb' : (w.setCell ⟨b, 0, none⟩ (.pointer (some ⟨b, 0, none⟩))).heap[b]? = some (.cells #[.pointer (some ⟨b, 0, none⟩), v] 61 (0, 0)) := by
      simp only [World.setCell, Array.getElem?_modify, hbk]
      simp
    have ho : ∀ k, k ≠ b → (w.setCell ⟨b, 0, none⟩ (.pointer (some ⟨b, 0, none⟩))).heap[k]? = w.heap[k]? := fun k hk => Below.heap_setCell w _ _ k hk
    refine ⟨rfl, hb', ⟨hB, ⟨_, .inr rfl, hb'⟩, ?_, hne⟩, ho, (Below.refl B w).setCell (p := ⟨b, 0, none⟩) hB _⟩
    refine ⟨hown.1, ?_⟩
    rcases hown.2 with h | ⟨g, cap, cur, fz, q1, q2, q3, q4⟩
    · exact .inl h
    · exact .inr ⟨g, cap, cur, fz, q1, q2, (ho g (fun e => hne (by rw [q1, e]; rfl))).trans q3, q4⟩
  · refine (Tryd.copyCheck_used b w c0).mono ?_
    rintro e w' ⟨rfl, rfl⟩
    exact ⟨rfl, hbk, h', fun _ _ => rfl, Below.refl B _⟩

set_option maxHeartbeats 2000000 in
set_option maxRecDepth 100000 in
theorem WriteByte_any (B b : Nat) (v : Value) (bs : List Value) (c : Int) (w : World) (h : Bld 61 5 B b v bs w) (hlen : bs.length + 1 ≤ 140737488355328) (hBw : B ≤ w.heap.size) :
    Calls Tryd.prog 101 #[.pointer (some ⟨b, 0, none⟩), .int .u8 c] w fun e w' => e = .returned .nilIface ∧ ∃ v', Bld 61 5 B b v' (bs ++ [.int .u8 c]) w' ∧ Go.Proofs.YtgiojkhmkeocfaaDoor.Aside b v w w' ∧ Fresh v v' w ∧ Below B w w' := by
  obtain ⟨i0, hi, hz0, hz1, hz2⟩ := info_parts infoU8
  go_enter Tryd.func101, Tryd.ntmps101
  go_wp2_with (go_at_call 70; refine (copyCheck_any B b v bs _ h).mono ?_)
  rintro e w1 ⟨rfl, hbk, ⟨hB, _, hown, hne⟩, ho1, hb1⟩
  have c0 : w1.cell? ⟨b, 0, none⟩ = some (.pointer (some ⟨b, 0, none⟩)) := by rw [Lib.cell_of_heap hbk]; rfl
  have c1 : w1.cell? ⟨b, 1, none⟩ = some v := by rw [Lib.cell_of_heap hbk]; rfl
  have hlt : b < w1.heap.size := (Array.getElem?_eq_some_iff.1 hbk).1
  go_wp2_with (at_builtin; refine wpList_append_ownX _ rfl _ _ 59 rfl B 5 i0 (.int .u8 0) 1 1 Tryd.underlying59 hi hz0 hz1 hz2 rfl (by decide) _ _ _ rfl (hown.alloc _) ⟨w1.heap.size, 0, none⟩ 1 1 [.int .u8 c] rfl rfl ?c1 ?c2 ?c3 ?c4 ?c5 ?_)
  case c1 =>
    intro j u hj
    match j, hj with
    | 0, hj => simp at hj; subst hj; simp [Addr.add]
  case c2 => intro u hu; simp at hu; subst hu; rfl
  case c3 => unfold maxLen; omega
  case c4 => omega
  case c5 => have := hb1.size; simp; omega
  intro v' w2 hown' hgrow hfr
  have hb2 : w2.heap[b]? = some (.cells #[.pointer (some ⟨b, 0, none⟩), v] 61 (0, 0)) := by
    rw [hgrow.block b (by simp; omega) (fun e => hne e.symm), Lib.alloc_old w1 _ b hlt]
    exact hbk
  have d0 : w2.cell? ⟨b, 0, none⟩ = some (.pointer (some ⟨b, 0, none⟩)) := by rw [Lib.cell_of_heap hb2]; rfl
  have d1 : w2.cell? ⟨b, 1, none⟩ = some v := by rw [Lib.cell_of_heap hb2]; rfl
  have f1 : w2.frozen? ⟨b, 1, none⟩ = false := Lib.frozen_of_heap hb2 1
  obtain ⟨g, cap, rfl⟩ : ∃ g cap, v' = .slice (some ⟨g, 0, none⟩) (bs.length + 1) cap := by
    rcases hown'.2 with ⟨_, h0⟩ | ⟨g, cap, cur, fz, hv, _⟩
    · omega
    · exact ⟨g, cap, hv⟩
  go_wp2
  go_ret
  refine ⟨rfl, _, Bld.put hB (.inr rfl) hb2 (by simpa using hown') (by decide), ?_, ?_, ?_⟩
  · intro k hk hkb hkv
    rw [Below.heap_setCell w2 _ _ k hkb, hgrow.block k (by have := hb1.size; simp; omega) (fun e => hkv e.symm), Lib.alloc_old w1 _ k (by have := hb1.size; omega)]
    exact ho1.out k hkb
  · rcases hfr with h | ⟨g', h, h2⟩
    · exact .inl h
    · exact .inr ⟨g', h, by have := hb1.size; omega⟩
  · exact ((hb1.alloc (by have := hb1.size; omega) _).grown hgrow (by have := hb1.size; simp; omega) (fun k hk => (hown.lt k hk).1)).setCell (p := ⟨b, 1, none⟩) hB _


end Go.Proofs.YtgiojkhmkeocfaaDoor

/- num.Quote, walked: what it returns is the plain function 'quote' of the text. -/
namespace Go.Proofs.YtgiojkhmkeocfaaDoor
open Q Go.RowKit Go.Proofs.YtgiojkhmkeocfaaDoor

set_option maxHeartbeats 2000000 in
set_option maxRecDepth 100000 in
theorem Quote_any (l : List UInt8) (w : World) (hl : l.length ≤ 1099511627776) :
    Calls Tryd.prog 93 #[.string ⟨l.toArray⟩] w fun e w' => e = .returned (.string ⟨(quote l).toArray⟩) ∧ Below w.heap.size w w' := by
  go_enter Tryd.func93, Tryd.ntmps93
  go_wp2_with fail
  refine (WriteByte_any w.heap.size w.heap.size (.slice none 0 0) [] 34 _ (Bld.fresh 61 5 w) (by simp) (by simp)).mono ?_
  rintro e w1 ⟨rfl, v1, hB1, ha1, hf1, hb1⟩
  obtain ⟨cap, C, fz, w2, hcv, hR, hC, hb2, hlt2⟩ := conv_bytes (P := Tryd.prog) w1 9 59 5 l Tryd.underlying9 Tryd.underlying59 Tryd.underlying5
  have hB2 := hB1.kept (below_all hb2)
  have hRb : Beside w1.heap.size (.cells C 5 fz) w.heap.size v1 w2 := ⟨hR, by have := hB1.lt; omega, by
    intro e
    have := (hB1.2.2.1.lt _ e).2
    omega⟩
  have hbw : Below w.heap.size w w2 := (((Below.refl _ w).alloc (Nat.le_refl _) _).trans hb1).trans (hb2.mono (by have := hb1.size; simp at this; omega))
  generalize hRR : w1.heap.size = R at *
  have HR : Hid (w1.heap.size = R) := hRR
  clear hRR
  go_wp2
  go_loopw [10] (fun i wr => ∃ (k : Nat) (acc : List UInt8) (v : Value), k ≤ l.length ∧ i = .int .i64 k ∧ Bld 61 5 w.heap.size w.heap.size v (Lib.byteCells acc) wr ∧ Beside R (.cells C 5 fz) w.heap.size v wr ∧ Below w.heap.size w wr ∧ acc ++ qbody (l.drop k) = [34] ++ qbody l ∧ acc.length ≤ 3 * k + 1) (fun i _ => l.length - (intOf i).toNat)
  case atStart => exact ⟨0, [34], v1, Nat.zero_le _, rfl, hB2, hRb, hbw, rfl, by simp⟩
  case round =>
    obtain ⟨k, acc, v, hk, rfl, hB, hR', hbr, hacc, hal⟩ := hrel
    by_cases hlt : k < l.length
    · have hc := (hR'.cell k).trans (hC k hlt)
      have hdk : l.drop k = l[k] :: l.drop (k + 1) := List.drop_eq_getElem_cons hlt
      have HD : Hid (acc ++ (q1 l[k] ++ qbody (l.drop (k + 1))) = [34] ++ qbody l) := by
        rw [hdk] at hacc
        exact hacc
      clear hacc hdk
      generalize l[k] = x at *
      have hx : x.toNat < 256 := x.toNat_lt
      go_wp2_with fail
      refine (isPlain_any _ _).mono ?_
      rintro e w' ⟨rfl, rfl⟩
      cases hpl : plainI x.toNat
      · have HP : Hid (q1 x = [92, hexc (x.toNat / 16), hexc (x.toNat % 16)]) := by
          show q1 x = _
          simp [q1, hpl]
        go_wp2_with fail
        refine (WriteByte_any w.heap.size w.heap.size v _ 92 _ hB (by rw [Lib.byteCells_length]; omega) (by have := hbr.size; omega)).mono ?_
        rintro e w3 ⟨rfl, v3, hB3, ha3, hf3, hb3⟩
        go_wp2_with fail
        rw [hex_at]
        refine (WriteByte_any w.heap.size w.heap.size v3 _ _ _ hB3 (by simp [Lib.byteCells_length]; omega) (by have := hbr.size; have := hb3.size; omega)).mono ?_
        rintro e w4 ⟨rfl, v4, hB4, ha4, hf4, hb4⟩
        go_wp2_with fail
        rw [hex_at]
        refine (WriteByte_any w.heap.size w.heap.size v4 _ _ _ hB4 (by simp [Lib.byteCells_length]; omega) (by have := hbr.size; have := hb3.size; have := hb4.size; omega)).mono ?_
        rintro e w5 ⟨rfl, v5, hB5, ha5, hf5, hb5⟩
        go_wp2
        go_roundw
        case rel =>
          refine ⟨k + 1, acc ++ [92, hexc (x.toNat / 16), hexc (x.toNat % 16)], v5, by omega, by go_num, ?_, ((hR'.step ha3 hf3).step ha4 hf4).step ha5 hf5, ((hbr.trans hb3).trans hb4).trans hb5, by rw [← HD.out, HP.out]; simp, by simp; omega⟩
          have e : Lib.byteCells (acc ++ [92, hexc (x.toNat / 16), hexc (x.toNat % 16)]) = Lib.byteCells acc ++ [.int .u8 92] ++ [.int .u8 (hexc (x.toNat / 16)).toNat] ++ [.int .u8 (hexc (x.toNat % 16)).toNat] := by
            rw [Lib.byteCells_append]; simp [Lib.byteCells]
          rw [e]
          exact hB5
        case measure => simp [intOf]; omega
      · have HP : Hid (q1 x = [x]) := by
          show q1 x = _
          simp [q1, hpl]
        go_wp2_with fail
        refine (WriteByte_any w.heap.size w.heap.size v _ _ _ hB (by rw [Lib.byteCells_length]; omega) (by have := hbr.size; omega)).mono ?_
        rintro e w3 ⟨rfl, v3, hB3, ha3, hf3, hb3⟩
        go_wp2
        go_roundw
        case rel => exact ⟨k + 1, acc ++ [x], v3, by omega, by go_num, by rw [Lib.byteCells_append]; exact hB3, hR'.step ha3 hf3, hbr.trans hb3, by rw [← HD.out, HP.out]; simp, by simp; omega⟩
        case measure => simp [intOf]; omega
    · have HD : Hid (acc = [34] ++ qbody l) := by
        have e : l.drop k = [] := List.drop_eq_nil_of_le (by omega)
        rw [e] at hacc
        show acc = _
        simpa [qbody] using hacc
      clear hacc
      go_wp2_with fail
      refine (WriteByte_any w.heap.size w.heap.size v _ 34 _ hB (by rw [Lib.byteCells_length]; omega) (by have := hbr.size; omega)).mono ?_
      rintro e w3 ⟨rfl, v3, hB3, ha3, hf3, hb3⟩
      go_wp2_with fail
      have hB4 : Bld 61 5 w.heap.size w.heap.size v3 (Lib.byteCells (acc ++ [34])) w3 := by rw [Lib.byteCells_append]; exact hB3
      refine (Tryd.Builder_String_any_k w.heap.size w.heap.size _ _ hB4.isF (by have := hbr.size; have := hb3.size; omega)).mono ?_
      rintro e w4 ⟨rfl, _, hb4, _⟩
      go_wp2
      go_ret
      rw [HD.out]
      exact ⟨rfl, (hbr.trans hb3).trans hb4⟩
end Go.Proofs.YtgiojkhmkeocfaaDoor

/- Check of layer lines, walked at rows of texts; slices.ContainsFunc, walked at lines with signs. -/
namespace Go.Proofs.YtgiojkhmkeocfaaDoor
open Ln Go.RowKit

set_option maxHeartbeats 1000000 in
theorem isLine_any (l : List UInt8) (last : Bool) (w : World) (hl : l.length ≤ 1099511627776) (r : Bool) (HR : Hid (lineB l last = r)) :
    Calls Tryd.prog 90 #[.string ⟨l.toArray⟩, .bool last] w fun e w' => e = .returned (.bool r) ∧ w = w' := by
  rcases Int.lt_or_le (Lib.indexByte l 10) 0 with hq | hq
  · obtain ⟨q1, q2⟩ := index_none hq
    have HE : Hid ((last && !l.isEmpty) = r) := (by show _ = _; rw [← HR.out]; exact (lineB_all q2 last).symm)
    clear hq q2 HR
    go_enter Tryd.func90, Tryd.ntmps90
    go_wp2_with fail
    refine (Tryd.strings_Index_one ⟨l.toArray⟩ 10 _).mono ?_
    rintro e w1 ⟨rfl, rfl⟩
    have hi2 : Lib.indexByte (⟨l.toArray⟩ : ByteArray).data.toList 10 = -1 := q1
    rw [hi2]
    cases last with
    | false =>
      go_wp2
      go_ret
      rw [← HE.out]
      exact ⟨rfl, rfl⟩
    | true =>
      cases l with
      | nil =>
        go_wp2
        go_ret
        rw [← HE.out]
        exact ⟨rfl, rfl⟩
      | cons c t =>
        go_wp2
        go_ret
        rw [← HE.out]
        exact ⟨rfl, rfl⟩
  · obtain ⟨a, b, he, hn, hi⟩ := index_some hq
    have HE : Hid (b.isEmpty = r) := (by
      show _ = _
      rw [← HR.out, he]
      exact (lineB_cut hn last).symm)
    have hlen : l.length = a.length + 1 + b.length := by rw [he]; simp; omega
    clear hn hq he HR
    go_enter Tryd.func90, Tryd.ntmps90
    go_wp2_with fail
    refine (Tryd.strings_Index_one ⟨l.toArray⟩ 10 _).mono ?_
    rintro e w1 ⟨rfl, rfl⟩
    have hi2 : Lib.indexByte (⟨l.toArray⟩ : ByteArray).data.toList 10 = a.length := hi
    rw [hi2]
    cases b with
    | nil =>
      have hb : ((a.length : Int) == (l.length : Int) - 1) = true := by simp at hlen; simp; omega
      clear hlen
      go_wp2
      go_ret
      rw [← HE.out]
      exact ⟨rfl, rfl⟩
    | cons c t =>
      have hb : ((a.length : Int) == (l.length : Int) - 1) = false := by simp at hlen; rw [beq_eq_false_iff_ne]; omega
      clear hlen
      go_wp2
      go_ret
      rw [← HE.out]
      exact ⟨rfl, rfl⟩

set_option maxHeartbeats 1000000 in
theorem hlCheck_f (v : Value) (ws : List (List UInt8)) (w : World) (hl : ws.length ≤ 1099511627776) (he : ∀ a ∈ ws, a.length ≤ 1099511627776) (hv : HS w v ws) (r : Bool) (HR : Hid (checkB ws = r)) (z : Int) (HZ : Hid (z = if r = true then 0 else 6)) :
    Calls Tryd.prog 48 #[v] w fun e w' => e = .returned (.int .i64 z) ∧ w = w' := by
  obtain ⟨ao, c, rfl⟩ := Holds.form hv
  have HL : Hid (∀ a ∈ ws, a.length ≤ 1099511627776) := he
  clear he
  go_enter Tryd.func48, Tryd.ntmps48
  go_wp2
  go_loopw [3, 4, 7] (fun _ _ i wr => ∃ k : Nat, k ≤ ws.length ∧ i = .int .i64 k ∧ wr = w ∧ Hid (checkB (ws.drop k) = r)) (fun _ _ i _ => ws.length - (intOf i).toNat)
  case atStart => exact ⟨0, Nat.zero_le _, rfl, rfl, HR⟩
  case round =>
    obtain ⟨k, hk, rfl, rfl, HI⟩ := hrel
    clear HR
    by_cases hlt : k < ws.length
    · obtain ⟨b, off, rfl, _, hc⟩ := HS.at hv (by omega)
      have d1 := hc k hlt
      have hxl := HL.out ws[k] (List.getElem_mem hlt)
      have i1 : 0 ≤ (k : Int) := by omega
      have i2 : (k : Int) < (ws.length : Int) := by omega
      have HM : (ws.drop (k + 1)).isEmpty = ((k : Int) == (ws.length : Int) - 1) := by
        rw [Bool.eq_iff_iff, List.isEmpty_iff, List.drop_eq_nil_iff, beq_iff_eq]; omega
      have HD : Hid ((lineB ws[k] (ws.drop (k + 1)).isEmpty && checkB (ws.drop (k + 1))) = r) := (by
        have h := HI.out
        rw [List.drop_eq_getElem_cons hlt] at h
        exact h)
      rw [HM] at HD
      generalize hq : ((k : Int) == (ws.length : Int) - 1) = q at *
      generalize ws[k] = x at *
      obtain ⟨r1, hr1⟩ : ∃ r1, lineB x q = r1 := ⟨_, rfl⟩
      have HR1 : Hid (lineB x q = r1) := hr1
      rw [hr1] at HD
      clear hr1 HI HM hc
      go_wp2_with fail
      refine (isLine_any x q _ hxl r1 HR1).mono ?_
      rintro e w1 ⟨rfl, rfl⟩
      cases r1 with
      | false =>
        have HZ2 : Hid (z = 6) := (by
          have h := HD.out
          rw [Bool.false_and] at h
          show _ = _
          rw [HZ.out, ← h]
          rfl)
        clear HZ
        go_wp2
        go_ret
        rw [HZ2.out]
        exact ⟨rfl, rfl⟩
      | true =>
        have HE : Hid (checkB (ws.drop (k + 1)) = r) := (by have h := HD.out; rw [Bool.true_and] at h; exact h)
        go_wp2
        go_roundw
        case rel => exact ⟨k + 1, by omega, by go_num, by trivial, HE⟩
        case measure => simp [intOf]; omega
    · have HZ2 : Hid (z = 0) := (by
        have h := HI.out
        rw [List.drop_of_length_le (by omega)] at h
        show _ = _
        rw [HZ.out, ← h]
        rfl)
      clear HZ HI
      have hend : decide ((k : Int) < (ws.length : Int)) = false := decide_eq_false (by omega)
      go_wp2
      go_ret
      rw [HZ2.out]
      exact ⟨rfl, rfl⟩

/-- slices.IndexFunc, slices.ContainsFunc: the function may lay blocks -/
theorem idx_any {l : List Mk} {p : Mk → Bool} {k : Nat} (hk : k < l.length) : (l.drop k).any p = (p l[k] || (l.drop (k + 1)).any p) := by
  rw [List.drop_eq_getElem_cons hk, List.any_cons]
set_option maxRecDepth 10000 in
set_option maxHeartbeats 2000000 in
theorem hIndexFunc_f (g : Nat) (l : List Mk) (p : Mk → Bool) (v : Value) (w : World) (hv : HMk w v l) (hl : l.length ≤ 1099511627776) (eg : ∀ args w, (callFunc g args).run Tryd.prog w = .ok (.enter g args) w)
    (hf : Hid (∀ m ∈ l, ∀ u : World, Calls Tryd.prog g (#[.agg #[.int .u8 m.sg, .string ⟨m.tx.toArray⟩]] ++ #[]) u fun e u' => e = .returned (.bool (p m)) ∧ Below u.heap.size u u')) (r : Bool) (HR : Hid (l.any p = r)) :
    Calls Tryd.prog 89 #[v, .func (.func g) #[] #[]] w fun e w' => ∃ z : Int, e = .returned (.int .i64 z) ∧ decide (0 ≤ z) = r ∧ Below w.heap.size w w' := by
  obtain ⟨lo, lc, rfl⟩ := HMk.form hv
  go_enter Tryd.func89, Tryd.ntmps89
  go_wp2
  go_loopw [5, 8] (fun _ i wr => ∃ k : Nat, k ≤ l.length ∧ i = .int .i64 k ∧ Below w.heap.size w wr ∧ Hid ((l.drop k).any p = r)) (fun _ i _ => l.length - (intOf i).toNat)
  case atStart => exact ⟨0, Nat.zero_le _, rfl, Below.refl _ _, HR⟩
  case round =>
    obtain ⟨k, hk, rfl, hB, HI⟩ := hrel
    clear HR
    by_cases hlt : k < l.length
    · obtain ⟨b, off, rfl, hb, _⟩ := HMk.at hv (by omega)
      obtain ⟨m, hm⟩ : ∃ m, l[k] = m := ⟨_, rfl⟩
      obtain ⟨c0, c1⟩ := Low.mk hB hv k hlt hm
      have hc := hf.out m (by rw [← hm]; exact List.getElem_mem hlt) wr
      have i1 : 0 ≤ (k : Int) := by omega
      have i2 : (k : Int) < (l.length : Int) := by omega
      have HI2 : Hid ((p m || (l.drop (k + 1)).any p) = r) := (by
        have h := HI.out
        rw [idx_any hlt, hm] at h
        exact h)
      obtain ⟨q, hq⟩ : ∃ q, p m = q := ⟨_, rfl⟩
      rw [hq] at hc HI2
      clear HI hm hq
      cases q with
      | true =>
        have HE : Hid (true = r) := (by have h := HI2.out; rw [Bool.true_or] at h; exact h)
        clear HI2
        go_wp2_with (go_at_fn g; refine hc.mono ?_; rintro e w' ⟨rfl, hB1⟩)
        go_ret
        exact ⟨_, rfl, by rw [← HE.out]; exact decide_eq_true (by omega), hB.trans (hB1.mono hB.size)⟩
      | false =>
        have HE : Hid ((l.drop (k + 1)).any p = r) := (by have h := HI2.out; rw [Bool.false_or] at h; exact h)
        clear HI2
        go_wp2_with (go_at_fn g; refine hc.mono ?_; rintro e w' ⟨rfl, hB1⟩)
        exact ⟨⟨k + 1, by omega, by go_num, hB.trans (hB1.mono hB.size), HE⟩, by simp [intOf]; omega⟩
    · have HE : Hid (false = r) := (by
        have h := HI.out
        rw [List.drop_of_length_le (by omega)] at h
        exact h)
      clear HI
      have hend : decide ((k : Int) < (l.length : Int)) = false := decide_eq_false (by omega)
      go_wp2
      go_ret
      exact ⟨_, rfl, HE.out, hB⟩
theorem hContains_f (g : Nat) (l : List Mk) (p : Mk → Bool) (v : Value) (w : World) (hv : HMk w v l) (hl : l.length ≤ 1099511627776) (eg : ∀ args w, (callFunc g args).run Tryd.prog w = .ok (.enter g args) w)
    (hf : Hid (∀ m ∈ l, ∀ u : World, Calls Tryd.prog g (#[.agg #[.int .u8 m.sg, .string ⟨m.tx.toArray⟩]] ++ #[]) u fun e u' => e = .returned (.bool (p m)) ∧ Below u.heap.size u u')) (r : Bool) (HR : Hid (l.any p = r)) :
    Calls Tryd.prog 46 #[v, .func (.func g) #[] #[]] w fun e w' => e = .returned (.bool r) ∧ Below w.heap.size w w' := by
  have HC := hIndexFunc_f g l p v w hv hl eg hf r HR
  obtain ⟨lo, lc, rfl⟩ := HMk.form hv
  go_enter Tryd.func46, Tryd.ntmps46
  go_wp2_with fail
  refine HC.mono ?_
  rintro e w1 ⟨z, rfl, hz, hB⟩
  go_wp2
  go_ret
  exact ⟨rfl, hB⟩
end Go.Proofs.YtgiojkhmkeocfaaDoor

/- slices.IndexFunc, slices.ContainsFunc for a function value that may hold a variable; the code's isKept, has, piece of layer 15, walked. -/
namespace Go.Proofs.YtgiojkhmkeocfaaDoor
open Ln Go.RowKit

/-- where the first one is, or -1 -/
def idxI (p : Mk → Bool) : Nat → List Mk → Int
  | _, [] => -1
  | k, m :: l => if p m = true then (k : Int) else idxI p (k + 1) l
theorem idxI_any (p : Mk → Bool) (l : List Mk) : ∀ k, decide (0 ≤ idxI p k l) = l.any p := by
  induction l with
  | nil => intro k; rfl
  | cons m l ih =>
    intro k
    rw [List.any_cons]
    by_cases h : p m = true
    · have e : idxI p k (m :: l) = (k : Int) := if_pos h
      rw [e, h]
      simp
    · have e : idxI p k (m :: l) = idxI p (k + 1) l := if_neg h
      rw [e, ih, Bool.eq_false_iff.2 h]
      rfl
theorem chgM_ne {m : Mk} {l : List Mk} (h : m.sg ≠ 32) : chgM (m :: l) = m :: chgM l ∧ rstM (m :: l) = rstM l := by
  have h1 : (m.sg != 32) = true := by simp [h]
  constructor
  · simp only [chgM, List.takeWhile_cons, h1]; rfl
  · simp only [rstM, List.dropWhile_cons, h1]; rfl
theorem chgM_eq {m : Mk} {l : List Mk} (h : m.sg = 32) : chgM (m :: l) = [] ∧ rstM (m :: l) = m :: l := by
  have h1 : (m.sg != 32) = false := by simp [h]
  constructor
  · simp only [chgM, List.takeWhile_cons, h1]; rfl
  · simp only [rstM, List.dropWhile_cons, h1]; rfl
theorem idxI_chg (l : List Mk) : ∀ k, idxI (fun m => m.sg == 32) k l = if rstM l = [] then -1 else (k : Int) + (chgM l).length := by
  induction l with
  | nil => intro k; rfl
  | cons m l ih =>
    intro k
    by_cases h : m.sg = 32
    · have e : idxI (fun m => m.sg == 32) k (m :: l) = (k : Int) := if_pos (by simp [h])
      rw [e, (chgM_eq h).1, (chgM_eq h).2, if_neg (by simp)]
      simp
    · have e : idxI (fun m => m.sg == 32) k (m :: l) = idxI (fun m => m.sg == 32) (k + 1) l := if_neg (by simp [h])
      rw [e, ih, (chgM_ne h).1, (chgM_ne h).2]
      by_cases hq : rstM l = []
      · rw [if_pos hq, if_pos hq]
      · rw [if_neg hq, if_neg hq]
        simp only [List.length_cons]; omega
theorem idxI_drop {p : Mk → Bool} {l : List Mk} {k : Nat} (hk : k < l.length) : idxI p k (l.drop k) = if p l[k] = true then (k : Int) else idxI p (k + 1) (l.drop (k + 1)) := by
  rw [List.drop_eq_getElem_cons hk]
  rfl
set_option maxRecDepth 10000 in
set_option maxHeartbeats 2000000 in
theorem cIdx_f (g : Nat) (cap : Array Value) (l : List Mk) (p : Mk → Bool) (v : Value) (w : World) (hv : HMk w v l) (hl : l.length ≤ 1099511627776) (eg : ∀ args w, (callFunc g args).run Tryd.prog w = .ok (.enter g args) w)
    (hf : Hid (∀ m ∈ l, ∀ u : World, Below w.heap.size w u → Calls Tryd.prog g (#[.agg #[.int .u8 m.sg, .string ⟨m.tx.toArray⟩]] ++ cap) u fun e u' => e = .returned (.bool (p m)) ∧ Below u.heap.size u u')) (z : Int) (HR : Hid (idxI p 0 l = z)) :
    Calls Tryd.prog 89 #[v, .func (.func g) #[] cap] w fun e w' => e = .returned (.int .i64 z) ∧ Below w.heap.size w w' := by
  obtain ⟨lo, lc, rfl⟩ := HMk.form hv
  go_enter Tryd.func89, Tryd.ntmps89
  go_wp2
  go_loopw [5, 8] (fun _ i wr => ∃ k : Nat, k ≤ l.length ∧ i = .int .i64 k ∧ Below w.heap.size w wr ∧ Hid (idxI p k (l.drop k) = z)) (fun _ i _ => l.length - (intOf i).toNat)
  case atStart => exact ⟨0, Nat.zero_le _, rfl, Below.refl _ _, HR⟩
  case round =>
    obtain ⟨k, hk, rfl, hB, HI⟩ := hrel
    clear HR
    by_cases hlt : k < l.length
    · obtain ⟨b, off, rfl, hb, _⟩ := HMk.at hv (by omega)
      obtain ⟨m, hm⟩ : ∃ m, l[k] = m := ⟨_, rfl⟩
      obtain ⟨c0, c1⟩ := Low.mk hB hv k hlt hm
      have hc := hf.out m (by rw [← hm]; exact List.getElem_mem hlt) wr hB
      have i1 : 0 ≤ (k : Int) := by omega
      have i2 : (k : Int) < (l.length : Int) := by omega
      have HI2 : Hid ((if p m = true then (k : Int) else idxI p (k + 1) (l.drop (k + 1))) = z) := (by
        have h := HI.out
        rw [idxI_drop hlt, hm] at h
        exact h)
      obtain ⟨q, hq⟩ : ∃ q, p m = q := ⟨_, rfl⟩
      rw [hq] at hc HI2
      clear HI hm hq
      cases q with
      | true =>
        have HE : Hid ((k : Int) = z) := (by have h := HI2.out; rw [if_pos rfl] at h; exact h)
        clear HI2
        go_wp2_with (go_at_fn g; refine hc.mono ?_; rintro e w' ⟨rfl, hB1⟩)
        go_ret
        exact ⟨by rw [HE.out]; rfl, hB.trans (hB1.mono hB.size)⟩
      | false =>
        have HE : Hid (idxI p (k + 1) (l.drop (k + 1)) = z) := (by have h := HI2.out; rw [if_neg (by decide)] at h; exact h)
        clear HI2
        go_wp2_with (go_at_fn g; refine hc.mono ?_; rintro e w' ⟨rfl, hB1⟩)
        exact ⟨⟨k + 1, by omega, by go_num, hB.trans (hB1.mono hB.size), HE⟩, by simp [intOf]; omega⟩
    · have HE : Hid (-1 = z) := (by
        have h := HI.out
        rw [List.drop_of_length_le (by omega)] at h
        exact h)
      clear HI
      have hend : decide ((k : Int) < (l.length : Int)) = false := decide_eq_false (by omega)
      go_wp2
      go_ret
      exact ⟨by rw [HE.out]; rfl, hB⟩
set_option maxHeartbeats 1000000 in
theorem cContains_f (g : Nat) (cap : Array Value) (l : List Mk) (p : Mk → Bool) (v : Value) (w : World) (hv : HMk w v l) (hl : l.length ≤ 1099511627776) (eg : ∀ args w, (callFunc g args).run Tryd.prog w = .ok (.enter g args) w)
    (hf : Hid (∀ m ∈ l, ∀ u : World, Below w.heap.size w u → Calls Tryd.prog g (#[.agg #[.int .u8 m.sg, .string ⟨m.tx.toArray⟩]] ++ cap) u fun e u' => e = .returned (.bool (p m)) ∧ Below u.heap.size u u')) (r : Bool) (HR : Hid (l.any p = r)) :
    Calls Tryd.prog 46 #[v, .func (.func g) #[] cap] w fun e w' => e = .returned (.bool r) ∧ Below w.heap.size w w' := by
  obtain ⟨z, hz⟩ : ∃ z, idxI p 0 l = z := ⟨_, rfl⟩
  have HC := cIdx_f g cap l p v w hv hl eg hf z hz
  have HZ : Hid (decide (0 ≤ z) = r) := (by show _ = _; rw [← hz, idxI_any]; exact HR.out)
  clear hz HR
  obtain ⟨lo, lc, rfl⟩ := HMk.form hv
  go_enter Tryd.func46, Tryd.ntmps46
  go_wp2_with fail
  refine HC.mono ?_
  rintro e w1 ⟨rfl, hB⟩
  go_wp2
  go_ret
  exact ⟨by rw [HZ.out]; rfl, hB⟩
set_option maxHeartbeats 1000000 in
theorem cisKept_f (m : Mk) (w : World) : Calls Tryd.prog 157 #[.agg #[.int .u8 m.sg, .string ⟨m.tx.toArray⟩]] w fun e w' => e = .returned (.bool (m.sg == 32)) ∧ Below w.heap.size w w' := by
  have hBl : Below w.heap.size w (w.alloc (.cells #[.int .u8 m.sg, .string ⟨m.tx.toArray⟩] 91)) := (Below.refl _ w).alloc (Nat.le_refl _) _
  go_enter Tryd.func157, Tryd.ntmps157
  go_wp2
  go_ret
  exact ⟨rfl, hBl⟩
set_option maxHeartbeats 1000000 in
theorem chas1_f (k : Int) (X : Nat) (m : Mk) (w : World) (cX : w.cell? ⟨X, 0, none⟩ = some (.int .u8 k)) (hX : X < w.heap.size) : Calls Tryd.prog 158 #[.agg #[.int .u8 m.sg, .string ⟨m.tx.toArray⟩], .pointer (some ⟨X, 0, none⟩)] w fun e w' => e = .returned (.bool (m.sg == k)) ∧ Below w.heap.size w w' := by
  have hBl : Below w.heap.size w (w.alloc (.cells #[.int .u8 m.sg, .string ⟨m.tx.toArray⟩] 91)) := (Below.refl _ w).alloc (Nat.le_refl _) _
  have cX2 : (w.alloc (.cells #[.int .u8 m.sg, .string ⟨m.tx.toArray⟩] 91)).cell? ⟨X, 0, none⟩ = some (.int .u8 k) := (World.cell?_of_block (w := w) (hBl.block X hX)).trans cX
  go_enter Tryd.func158, Tryd.ntmps158
  go_wp2
  go_ret
  exact ⟨rfl, hBl⟩
set_option maxHeartbeats 1000000 in
theorem chas_f (k : Int) (l : List Mk) (v : Value) (w : World) (hv : HMk w v l) (hl : l.length ≤ 1099511627776) (r : Bool) (HR : Hid (hasM k l = r)) :
    Calls Tryd.prog 130 #[v, .int .u8 k] w fun e w' => e = .returned (.bool r) ∧ Below w.heap.size w w' := by
  have hBl : Below w.heap.size w (w.alloc (.cells #[.int .u8 k] 5)) := (Below.refl _ w).alloc (Nat.le_refl _) _
  have cX : (w.alloc (.cells #[.int .u8 k] 5)).cell? ⟨w.heap.size, 0, none⟩ = some (.int .u8 k) := (by rw [Lib.cell_of_heap (heap_alloc_new w _)]; rfl)
  have hsz : (w.alloc (.cells #[.int .u8 k] 5)).heap.size = w.heap.size + 1 := by simp
  have hv1 : HMk (w.alloc (.cells #[.int .u8 k] 5)) v l := hv.keep hBl (Nat.le_refl _)
  have HC : Hid (Calls Tryd.prog 46 #[v, .func (.func 158) #[] #[.pointer (some ⟨w.heap.size, 0, none⟩)]] (w.alloc (.cells #[.int .u8 k] 5)) fun e w' => e = .returned (.bool r) ∧ Below w.heap.size w w') := (by
    refine (cContains_f 158 #[.pointer (some ⟨w.heap.size, 0, none⟩)] l (fun m => m.sg == k) v _ hv1 hl (enters_of Tryd.func158 (by kernel_rfl) rfl) ?_ r HR).mono ?_
    · intro m _ u hu
      refine chas1_f k w.heap.size m u ((World.cell?_of_block (hu.block w.heap.size (by rw [hsz]; omega))).trans cX) (Nat.lt_of_lt_of_le (by rw [hsz]; omega) hu.size)
    · rintro e w' ⟨h1, h2⟩
      exact ⟨h1, hBl.trans (h2.mono (by rw [hsz]; omega))⟩)
  obtain ⟨lo, lc, rfl⟩ := HMk.form hv
  clear cX hsz hv1 HR hBl
  have hmf : ∀ (fn : Fn) (first cap : Array Value) (w : World), (Instr.makeFunc fn first cap).run Tryd.prog w = .ok (.func fn first cap) w := fun _ _ _ _ => rfl
  go_enter Tryd.func130, Tryd.ntmps130
  go_wp2_with fail
  refine HC.out.mono ?_
  rintro e w1 ⟨rfl, hB⟩
  go_wp2
  go_ret
  exact ⟨rfl, hB⟩
/-- the lines at the front that are not kept, as a slice of the same row -/
theorem chg_take (l : List Mk) : l.take (chgM l).length = chgM l := by
  have h := chg_rstM l
  have h2 : (chgM l ++ rstM l).take (chgM l).length = chgM l := List.take_left
  rw [h] at h2
  exact h2
theorem chg_le (l : List Mk) : (chgM l).length ≤ l.length := by
  have h := congrArg List.length (chg_rstM l)
  rw [List.length_append] at h
  omega
theorem rst_nil {l : List Mk} (h : rstM l = []) : chgM l = l := by
  have h1 := chg_rstM l
  rw [h, List.append_nil] at h1
  exact h1
/-- l[:k], l[k:] of a slice of lines with signs -/
def mslF (ao : Option Addr) (cap k : Nat) : Option Addr := if cap = k then ao else ao.map (·.add (k * 2))
theorem run_mF (ao : Option Addr) (n cap k : Nat) (hk : k ≤ n) (_ : n ≤ cap) (u : World) : (Instr.slice 41 (.slice ao n cap) (some (.int .i64 (k : Int))) none none).run Tryd.prog u = .ok (.slice (mslF ao cap k) (n - k) (cap - k)) u := by
  rw [run_slice_l (P := Tryd.prog) u 41 ao n cap (by kernel_rfl) .i64 k (by omega) (by omega)]
  have : (sizeOf (Tryd.prog.elem 41)).run Tryd.prog u = .ok 2 u := by kernel_rfl
  rw [this]
  simp [Result.andThen, sliced, mslF]
theorem maddr_zero (ad : Addr) : ad.add 0 = ad := by unfold Addr.add; split <;> simp_all
theorem run_mT (ao : Option Addr) (n cap k : Nat) (hk : k ≤ n) (hn : n ≤ cap) (u : World) : (Instr.slice 41 (.slice ao n cap) none (some (.int .i64 (k : Int))) none).run Tryd.prog u = .ok (.slice ao k cap) u := by
  rw [run_slice_h (P := Tryd.prog) u 41 ao n cap (by kernel_rfl) .i64 k (by omega) (by omega)]
  have : (sizeOf (Tryd.prog.elem 41)).run Tryd.prog u = .ok 2 u := by kernel_rfl
  rw [this]
  cases ao with
  | none => simp [Result.andThen, sliced]
  | some ad => simp [Result.andThen, sliced, maddr_zero]
theorem mhold_cap {w : World} {ao : Option Addr} {n c : Nat} {xs : List Value} (h : Holds w (.slice ao n c) n xs) : n ≤ c := by
  rcases h with ⟨h, h0, _⟩ | ⟨ad, c', h, h3, _⟩
  · omega
  · cases h; exact h3
theorem mkcells_take (l : List Mk) (k : Nat) : (mkcells l).take (k * 2) = mkcells (l.take k) := by
  induction k generalizing l with
  | zero => simp [mkcells]
  | succ k ih =>
    cases l with
    | nil => simp [mkcells]
    | cons m l =>
      have e : (k + 1) * 2 = k * 2 + 1 + 1 := by omega
      have h1 : mkcells (m :: l) = .int .u8 m.sg :: .string ⟨m.tx.toArray⟩ :: mkcells l := rfl
      have h2 : mkcells ((m :: l).take (k + 1)) = .int .u8 m.sg :: .string ⟨m.tx.toArray⟩ :: mkcells (l.take k) := rfl
      rw [e, h1, h2, List.take_succ_cons, List.take_succ_cons, ih]
theorem mkcells_drop (l : List Mk) (k : Nat) : (mkcells l).drop (k * 2) = mkcells (l.drop k) := by
  induction k generalizing l with
  | zero => simp
  | succ k ih =>
    cases l with
    | nil => simp [mkcells]
    | cons m l =>
      have e : (k + 1) * 2 = k * 2 + 1 + 1 := by omega
      have h1 : mkcells (m :: l) = .int .u8 m.sg :: .string ⟨m.tx.toArray⟩ :: mkcells l := rfl
      rw [e, h1, List.drop_succ_cons, List.drop_succ_cons, ih]
      rfl
theorem mk_to {w : World} {ao : Option Addr} {c : Nat} {l : List Mk} (h : HMk w (.slice ao l.length c) l) (k : Nat) (hk : k ≤ l.length) : HMk w (.slice ao k c) (l.take k) := by
  have hlt : (l.take k).length = k := by rw [List.length_take]; omega
  unfold HMk at h ⊢
  rw [hlt]
  rcases h with ⟨h, h0, h4⟩ | ⟨ad, c', h, h3, hc⟩
  · have hl0 : l = [] := List.eq_nil_of_length_eq_zero h0
    subst hl0
    cases h
    have hk0 : k = 0 := by simpa using hk
    subst hk0
    exact .inl ⟨by simp, rfl, by simp [mkcells]⟩
  · cases h
    refine .inr ⟨ad, c, rfl, by omega, fun j v hj => hc j v ?_⟩
    rw [← mkcells_take] at hj
    by_cases hjk : j < k * 2
    · rw [List.getElem?_take_of_lt hjk] at hj
      exact hj
    · rw [List.getElem?_eq_none (by simp; omega)] at hj
      cases hj
theorem mk_from {w : World} {ao : Option Addr} {c : Nat} {l : List Mk} (h : HMk w (.slice ao l.length c) l) (k : Nat) (hk : k ≤ l.length) : HMk w (.slice (mslF ao c k) (l.length - k) (c - k)) (l.drop k) := by
  have hlt : (l.drop k).length = l.length - k := by rw [List.length_drop]
  have hnc := mhold_cap h
  unfold HMk at h ⊢
  rw [hlt]
  rcases h with ⟨h, h0, h4⟩ | ⟨ad, c', h, h3, hc⟩
  · have hl0 : l = [] := List.eq_nil_of_length_eq_zero h0
    subst hl0
    cases h
    have hk0 : k = 0 := by simpa using hk
    subst hk0
    exact .inl ⟨by simp [mslF], rfl, by simp [mkcells]⟩
  · cases h
    refine .inr ⟨if c = k then ad else ad.add (k * 2), c - k, by unfold mslF; split <;> simp, by omega, fun j v hj => ?_⟩
    rw [← mkcells_drop, List.getElem?_drop] at hj
    have hlt2 := (List.getElem?_eq_some_iff.1 hj).1
    rw [mkcells_length] at hlt2
    rw [if_neg (by omega)]
    have h0 := hc 0 _ (List.getElem?_eq_getElem (by rw [mkcells_length]; omega))
    obtain ⟨b, off, rfl⟩ := addr_of h0
    have := hc _ _ hj
    rw [add_none] at this
    rw [add_none, add_none, Nat.add_assoc]
    exact this
set_option maxHeartbeats 1000000 in
theorem cpiece_f (l : List Mk) (ao : Option Addr) (c : Nat) (w : World) (hv : HMk w (.slice ao l.length c) l) (hl : l.length ≤ 1099511627776) (n : Nat) (HN : Hid ((chgM l).length = n)) :
    Calls Tryd.prog 129 #[.slice ao l.length c] w fun e w' => e = .returned (.slice ao n c) ∧ Below w.heap.size w w' := by
  have hnc := mhold_cap hv
  have hle := chg_le l
  rw [HN.out] at hle
  have hc := fun z HZ => cIdx_f 157 #[] l (fun m => m.sg == 32) (.slice ao l.length c) w hv hl (enters_of Tryd.func157 (by kernel_rfl) rfl) (fun m _ u _ => cisKept_f m u) z HZ
  by_cases hr : rstM l = []
  · have HE : Hid (l.length = n) := (by show _ = _; rw [← HN.out, rst_nil hr])
    have hc1 := hc (-1) (by show _ = _; rw [idxI_chg, if_pos hr])
    clear HN hr hc hv
    go_enter Tryd.func129, Tryd.ntmps129
    go_wp2_with fail
    refine hc1.mono ?_
    rintro e w1 ⟨rfl, hB⟩
    go_wp2
    go_ret
    exact ⟨by rw [HE.out]; rfl, hB⟩
  · have hc1 := hc (n : Int) (by show _ = _; rw [idxI_chg, if_neg hr, HN.out]; simp)
    have hs := run_mT ao l.length c n hle hnc
    have i1 : (0 : Int) ≤ (n : Int) := by omega
    have i2 : (n : Int) ≤ (l.length : Int) := by omega
    have i3 : (n : Int) ≤ (c : Int) := by omega
    clear HN hr hc hv
    go_enter Tryd.func129, Tryd.ntmps129
    go_wp2_with fail
    refine hc1.mono ?_
    rintro e w1 ⟨rfl, hB⟩
    go_wp2
    go_ret
    exact ⟨rfl, hB⟩
end Go.Proofs.YtgiojkhmkeocfaaDoor

/- Names as the code writes them in a patch (layer 15), walked. -/
namespace Go.Proofs.YtgiojkhmkeocfaaDoor
open Go.RowKit
attribute [local go_sem] ByteArray.extract_mk

def oddI (r : Int) : Bool := decide (r < 33) || decide (126 < r) || decide (r = 34)
set_option maxHeartbeats 1000000 in
theorem cisOdd_f (r : Int) (w : World) (q : Bool) (HQ : Hid (oddI r = q)) : Calls Tryd.prog 92 #[.int .i32 r] w fun e w' => e = .returned (.bool q) ∧ w = w' := by
  by_cases h1 : r < 33
  · have HE : Hid (true = q) := (by show _ = _; rw [← HQ.out]; simp [oddI, h1])
    go_enter Tryd.func92, Tryd.ntmps92
    go_wp2
    go_ret
    exact ⟨by rw [← HE.out]; rfl, rfl⟩
  · by_cases h2 : 126 < r
    · have HE : Hid (true = q) := (by show _ = _; rw [← HQ.out]; simp [oddI, h2])
      go_enter Tryd.func92, Tryd.ntmps92
      go_wp2
      go_ret
      exact ⟨by rw [← HE.out]; rfl, rfl⟩
    · have HE : Hid ((r == 34) = q) := (by show _ = _; rw [← HQ.out]; simp only [oddI, h1, h2, decide_false, Bool.false_or]; rfl)
      go_enter Tryd.func92, Tryd.ntmps92
      go_wp2
      go_ret
      exact ⟨by rw [← HE.out]; rfl, rfl⟩
theorem odd_name (c : UInt8) : oddI (c.toNat : Int) = !nameC c := by
  unfold oddI nameC
  rw [Bool.eq_iff_iff]
  simp only [Bool.or_eq_true, decide_eq_true_eq, Bool.not_eq_true', decide_eq_false_iff_not]
  omega
/-- where the first odd byte is, or -1 -/
def oddW : Nat → List UInt8 → Int
  | _, [] => -1
  | k, c :: l => if nameC c = true then oddW (k + 1) l else (k : Int)
theorem oddW_all (l : List UInt8) : ∀ k, decide (0 ≤ oddW k l) = !l.all nameC := by
  induction l with
  | nil => intro k; rfl
  | cons c l ih =>
    intro k
    rw [List.all_cons]
    by_cases h : nameC c = true
    · have e : oddW k (c :: l) = oddW (k + 1) l := if_pos h
      rw [e, ih, h]
      rfl
    · have e : oddW k (c :: l) = (k : Int) := if_neg h
      rw [e, Bool.eq_false_iff.2 h]
      simp
theorem oddW_step {l : List UInt8} {k : Nat} (hk : k < l.length) : oddW k (l.drop k) = if nameC l[k] = true then oddW (k + 1) (l.drop (k + 1)) else (k : Int) := by
  rw [List.drop_eq_getElem_cons hk]
  rfl
set_option maxHeartbeats 4000000 in
set_option maxRecDepth 100000 in
theorem cindexFunc_f (l : List UInt8) (w : World) (_hl : l.length ≤ 1099511627776) (z : Int) (HZ : Hid (oddW 0 l = z)) :
    Calls Tryd.prog 156 #[.string ⟨l.toArray⟩, .func (.func 92) #[] #[], .bool true] w fun e w' => e = .returned (.int .i64 z) ∧ Below w.heap.size w w' := by
  go_enter Tryd.func156, Tryd.ntmps156
  go_wp2
  go_loopw [] (fun wr => ∃ pos : Nat, pos ≤ l.length ∧ wr.heap[w.heap.size]? = some (.stringIter ⟨l.toArray⟩ pos) ∧ Below w.heap.size w wr ∧ Hid (oddW pos (l.drop pos) = z)) (fun wr => l.length - wr.iterPos w.heap.size)
  case atStart => exact ⟨0, Nat.zero_le _, World.iter_heap w _ 0, (Below.refl _ w).alloc (Nat.le_refl _) _, HZ⟩
  case round =>
    obtain ⟨pos, hp, hit, hbr, HA⟩ := hrel
    have hwl : w.heap.size < wr.heap.size := (Array.getElem?_eq_some_iff.1 hit).1
    by_cases hlt : pos < l.length
    · have HS := HA.out
      rw [oddW_step hlt] at HS
      by_cases ha : l[pos].toNat < 128
      · have hnx : ∀ ty, (Instr.next (.pointer (some ⟨w.heap.size, 0, none⟩)) true ty).run Tryd.prog wr = _ := fun ty => Lib.run_next_ascii_at wr w.heap.size ⟨l.toArray⟩ pos ty hit hlt ha
        have hit2 := Lib.iterAt_heap wr w.heap.size ⟨l.toArray⟩ pos (pos + 1) hit
        have hbr2 := Lib.below_iterAt hbr (k := w.heap.size) (Nat.le_refl _) ⟨l.toArray⟩ (pos + 1)
        cases hn : nameC l[pos] with
        | true =>
          have HI : Hid (oddW (pos + 1) (l.drop (pos + 1)) = z) := (by rw [hn, if_pos rfl] at HS; exact HS)
          have hc := fun u => cisOdd_f (l[pos].toNat : Int) u false (by show _ = _; rw [odd_name, hn]; rfl)
          clear HS hn HA
          go_wp2_with fail
          refine (hc _).mono ?_
          rintro e w4 ⟨rfl, rfl⟩
          go_wp2
          go_roundw
          case rel => exact ⟨pos + 1, by omega, hit2, hbr2, HI⟩
          case measure => simp only [World.iterPos, hit, hit2]; omega
        | false =>
          have HE : Hid ((pos : Int) = z) := (by rw [hn, if_neg (by decide)] at HS; exact HS)
          have hc := fun u => cisOdd_f (l[pos].toNat : Int) u true (by show _ = _; rw [odd_name, hn]; rfl)
          clear HS hn HA
          go_wp2_with fail
          refine (hc _).mono ?_
          rintro e w4 ⟨rfl, rfl⟩
          go_wp2
          go_ret
          exact ⟨by rw [HE.out]; rfl, hbr2⟩
      · have hdh := (decode_high ⟨l.toArray⟩ pos hlt (by show 128 ≤ l[pos].toNat; omega))
        have hnx : ∀ ty, (Instr.next (.pointer (some ⟨w.heap.size, 0, none⟩)) true ty).run Tryd.prog wr = _ := fun ty => Lib.run_next_any_at wr w.heap.size ⟨l.toArray⟩ pos ty hit hlt
        have hbr2 := Lib.below_iterAt hbr (k := w.heap.size) (Nat.le_refl _) ⟨l.toArray⟩ (pos + (Utf8.decode ⟨l.toArray⟩ pos).2)
        have hdl := decode_le ⟨l.toArray⟩ pos
        have HE : Hid ((pos : Int) = z) := (by
          have hn : nameC l[pos] = false := (by unfold nameC; exact decide_eq_false (by omega))
          rw [hn, if_neg (by decide)] at HS
          exact HS)
        obtain ⟨hd1, hd2⟩ := hdh
        generalize Utf8.decode ⟨l.toArray⟩ pos = dd at *
        have hc := fun u => cisOdd_f (dd.1 : Int) u true (by
          show _ = _
          unfold oddI
          have : decide (126 < (dd.1 : Int)) = true := decide_eq_true (by omega)
          rw [this]
          simp)
        clear HS HA
        go_wp2_with fail
        refine (hc _).mono ?_
        rintro e w4 ⟨rfl, rfl⟩
        go_wp2
        go_ret
        exact ⟨by rw [HE.out]; rfl, hbr2⟩
    · have hnx : ∀ ty, (Instr.next (.pointer (some ⟨w.heap.size, 0, none⟩)) true ty).run Tryd.prog wr = _ := fun ty => Lib.run_next_end_at wr w.heap.size ⟨l.toArray⟩ pos ty hit hlt
      have HE : Hid (-1 = z) := (by
        have h := HA.out
        rw [List.drop_of_length_le (by omega)] at h
        exact h)
      clear HA
      go_wp2
      go_ret
      exact ⟨by rw [HE.out]; rfl, hbr⟩
set_option maxHeartbeats 1000000 in
theorem cIndexFunc_f (l : List UInt8) (w : World) (hl : l.length ≤ 1099511627776) (z : Int) (HZ : Hid (oddW 0 l = z)) :
    Calls Tryd.prog 127 #[.string ⟨l.toArray⟩, .func (.func 92) #[] #[]] w fun e w' => e = .returned (.int .i64 z) ∧ Below w.heap.size w w' := by
  go_enter Tryd.func127, Tryd.ntmps127
  go_wp2_with fail
  refine (cindexFunc_f l w hl z HZ).mono ?_
  rintro e w1 ⟨rfl, hB⟩
  go_wp2
  go_ret
  exact ⟨rfl, hB⟩
set_option maxHeartbeats 1000000 in
theorem cContainsFunc_f (l : List UInt8) (w : World) (hl : l.length ≤ 1099511627776) (q : Bool) (HQ : Hid ((!l.all nameC) = q)) :
    Calls Tryd.prog 91 #[.string ⟨l.toArray⟩, .func (.func 92) #[] #[]] w fun e w' => e = .returned (.bool q) ∧ Below w.heap.size w w' := by
  obtain ⟨z, hz⟩ : ∃ z, oddW 0 l = z := ⟨_, rfl⟩
  have HC := cIndexFunc_f l w hl z hz
  have HZ : Hid (decide (0 ≤ z) = q) := (by show _ = _; rw [← hz, oddW_all]; exact HQ.out)
  clear hz HQ
  go_enter Tryd.func91, Tryd.ntmps91
  go_wp2_with fail
  refine HC.mono ?_
  rintro e w1 ⟨rfl, hB⟩
  go_wp2
  go_ret
  exact ⟨by rw [HZ.out]; rfl, hB⟩
set_option maxHeartbeats 2000000 in
theorem cname_f (l : List UInt8) (w : World) (hl : l.length ≤ 1099511627776) (t : List UInt8) (HT : Hid (nameT l = t)) :
    Calls Tryd.prog 53 #[.string ⟨l.toArray⟩] w fun e w' => e = .returned (.string ⟨t.toArray⟩) ∧ Below w.heap.size w w' := by
  by_cases h0 : l = []
  · have HE : Hid (devN = t) := (by have h := HT.out; unfold nameT at h; rw [if_pos h0] at h; exact h)
    subst h0
    go_enter Tryd.func53, Tryd.ntmps53
    go_wp2
    go_ret
    exact ⟨by rw [← HE.out]; rfl, Below.refl _ _⟩
  · have e0 : l.isEmpty = false := (by cases l with | nil => exact absurd rfl h0 | cons _ _ => rfl)
    have hq := Quote_any l
    by_cases h1 : l = devN
    · have HE : Hid (Q.quote l = t) := (by have h := HT.out; unfold nameT at h; rw [if_neg h0, if_neg (fun q => q.2 h1)] at h; exact h)
      have e1 : (l == [47, 100, 101, 118, 47, 110, 117, 108, 108]) = true := (by rw [beq_iff_eq]; exact h1)
      clear HT h1
      go_enter Tryd.func53, Tryd.ntmps53
      go_wp2_with fail
      refine (hq _ hl).mono ?_
      rintro e w1 ⟨rfl, hB⟩
      go_wp2
      go_ret
      exact ⟨by rw [← HE.out]; rfl, hB⟩
    · have e1 : (l == [47, 100, 101, 118, 47, 110, 117, 108, 108]) = false := beq_eq_false_iff_ne.2 h1
      cases hn : l.all nameC with
      | true =>
        have HE : Hid (l = t) := (by have h := HT.out; unfold nameT at h; rw [if_neg h0, if_pos ⟨hn, h1⟩] at h; exact h)
        have hc := fun u => cContainsFunc_f l u hl false (by show _ = _; rw [hn]; rfl)
        clear HT h1 hn
        go_enter Tryd.func53, Tryd.ntmps53
        go_wp2_with fail
        refine (hc _).mono ?_
        rintro e w1 ⟨rfl, hB⟩
        go_wp2
        go_ret
        exact ⟨by rw [← HE.out]; rfl, hB⟩
      | false =>
        have HE : Hid (Q.quote l = t) := (by have h := HT.out; unfold nameT at h; rw [if_neg h0, if_neg (fun q => by rw [hn] at q; cases q.1)] at h; exact h)
        have hc := fun u => cContainsFunc_f l u hl true (by show _ = _; rw [hn]; rfl)
        clear HT h1 hn
        go_enter Tryd.func53, Tryd.ntmps53
        go_wp2_with fail
        refine (hc _).mono ?_
        rintro e w1 ⟨rfl, hB⟩
        go_wp2_with fail
        refine (hq _ hl).mono ?_
        rintro e w2 ⟨rfl, hB2⟩
        go_wp2
        go_ret
        exact ⟨by rw [← HE.out]; rfl, hB.trans (hB2.mono hB.size)⟩
end Go.Proofs.YtgiojkhmkeocfaaDoor
