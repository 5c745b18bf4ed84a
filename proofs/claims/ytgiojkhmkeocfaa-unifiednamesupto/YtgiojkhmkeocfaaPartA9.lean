/-
  Texts that belong together, joined: CxC, CxC2, CqB, CqU, CpA, CpB, UkA, CrJ, CrF, CqR, CrA, CqS, CrG, CrH, UrA.
-/
import Derived.Test.YtgiojkhmkeocfaaPartA6
import Derived.Test.YtgiojkhmkeocfaaPartA8
import Derived.Test.YtgiojkhmkeocfaaPartA7
import Derived.Test.YtgiojkhmkeocfaaPartA5
import Derived.Deep.QuietTactic
import Derived.WalkLawsBesides
import Derived.Deep.DeepCutAuto
import Derived.Deep.CutBlock
import Derived.Test.YtgiojkhmkeocfaaPartA4
import Derived.BigQuiet

/- The context form: how the code reads a side, a range, a hunk; plain mathematics. -/
namespace Go.Proofs.Ytgiojkhmkeocfaa
open Ln

/-- a side as rows of lines with their kinds as signs -/
def kM (x : Sde) : List Mk := x.map fun y => ⟨(y.1.toNat : Int), y.2⟩
theorem kM_len (x : Sde) : (kM x).length = x.length := by simp [kM]
theorem kM_cons (y : UInt8 × List UInt8) (x : Sde) : kM (y :: x) = ⟨(y.1.toNat : Int), y.2⟩ :: kM x := rfl
theorem kM_app (x y : Sde) : kM (x ++ y) = kM x ++ kM y := by simp [kM]
theorem kM_nil {x : Sde} : kM x = [] ↔ x = [] := by simp [kM]
/-- the lines of a side with their line feeds -/
def rdC (sg : UInt8) : Nat → List (List UInt8) → Except (Nat × Int) (List Mk × Nat × List (List UInt8))
  | p, [] => .ok ([], p, [])
  | p, s :: r => if isSd sg s = true then if fdB s = true then match rdC sg (p + 1) r with
      | .error e => .error e
      | .ok (l, p2, r2) => .ok (⟨((s.headD 0).toNat : Int), s.drop 2⟩ :: l, p2, r2)
    else .error (p + 1, 3) else .ok ([], p, s :: r)
/-- a side as the code reads it -/
def sdE (sg : UInt8) (p : Nat) (ls : List (List UInt8)) : Except (Nat × Int) (List Mk × Nat × List (List UInt8)) :=
  match rdC sg p ls with
  | .error e => .error e
  | .ok (l, p1, r) => if (!l.isEmpty && endK l r) = true then .ok (cutL l, p1 + 1, r.tail) else .ok (l, p1, r)
def mapS (X : Except (Nat × Int) (Sde × Nat × List (List UInt8))) : Except (Nat × Int) (List Mk × Nat × List (List UInt8)) :=
  match X with
  | .error e => .error e
  | .ok (x, p, r) => .ok (kM x, p, r)
theorem mark_noSd {sg : UInt8} (h92 : sg ≠ 92) {t : List UInt8} (h : markT.isPrefixOf t = true) : isSd sg t = false := by
  obtain ⟨u, rfl⟩ := List.isPrefixOf_iff_prefix.1 h
  unfold markT
  simp only [List.cons_append, isSd]
  have h1 : ((92 : UInt8) == sg) = false := beq_eq_false_iff_ne.2 (fun e => h92 e.symm)
  rw [h1]
  decide
theorem rdC_mark {sg : UInt8} (h92 : sg ≠ 92) {r : List (List UInt8)} (h : pkM r = true) (p : Nat) : rdC sg p r = .ok ([], p, r) := by
  cases r with
  | nil => cases h
  | cons t r =>
    simp only [rdC]
    rw [if_neg (by rw [mark_noSd h92 h]; decide)]
theorem side_short {sg : UInt8} {s : List UInt8} (h : isSd sg s = true) (hf : fdB s = true) (hl : s.length ≤ 3) : s.drop 2 = [10] := by
  match s, h, hf, hl with
  | [a, b], h, hf, _ =>
    simp only [isSd, Bool.and_eq_true, beq_iff_eq] at h
    obtain ⟨_, rfl⟩ := h
    exact absurd hf (by simp [fdB])
  | [a, b, c], h, hf, _ =>
    have : c = 10 := by simpa [fdB] using hf
    rw [this]
    rfl
theorem side_code {sg : UInt8} (h92 : sg ≠ 92) (ls : List (List UInt8)) : ∀ p, sdE sg p ls = mapS (rdS sg p ls) := by
  induction ls with
  | nil => intro p; rfl
  | cons s r ih =>
    intro p
    by_cases hs : isSd sg s = true
    · by_cases hf : fdB s = true
      · by_cases hm : pkM r = true ∧ 3 < s.length
        · have h1 : rdC sg p (s :: r) = .ok ([⟨((s.headD 0).toNat : Int), s.drop 2⟩], p + 1, r) := by
            simp only [rdC]
            rw [if_pos hs, if_pos hf, rdC_mark h92 hm.1]
          have h2 : endK [⟨((s.headD 0).toNat : Int), s.drop 2⟩] r = true := by
            unfold endK
            rw [hm.1, Bool.and_true]
            have : lastT [(⟨((s.headD 0).toNat : Int), s.drop 2⟩ : Mk)] = s.drop 2 := rfl
            rw [this, bne_iff_ne]
            intro e
            have := congrArg List.length e
            rw [List.length_drop] at this
            simp at this
            omega
          unfold sdE
          rw [h1]
          dsimp only
          rw [if_pos (by rw [h2]; rfl)]
          simp only [rdS]
          rw [if_pos hs, if_pos hf, if_pos hm]
          rfl
        · have hi := ih (p + 1)
          simp only [rdS]
          rw [if_pos hs, if_pos hf, if_neg hm]
          unfold sdE at hi ⊢
          simp only [rdC]
          rw [if_pos hs, if_pos hf]
          cases hc : rdC sg (p + 1) r with
          | error e =>
            rw [hc] at hi
            cases hr : rdS sg (p + 1) r with
            | error e2 =>
              rw [hr] at hi
              simp only [mapS] at hi ⊢
              injection hi with hi
              rw [hi]
            | ok z =>
              obtain ⟨x, p2, r2⟩ := z
              rw [hr] at hi
              simp only [mapS] at hi
              cases hi
          | ok z =>
            obtain ⟨l, p2, r2⟩ := z
            rw [hc] at hi
            dsimp only at hi ⊢
            cases hr : rdS sg (p + 1) r with
            | error e2 =>
              rw [hr] at hi
              simp only [mapS] at hi
              split at hi <;> cases hi
            | ok z =>
              obtain ⟨x, p3, r3⟩ := z
              rw [hr] at hi
              simp only [mapS] at hi ⊢
              by_cases hl : l = []
              · subst hl
                rw [if_neg (by simp)] at hi
                have hi2 : ([] : List Mk) = kM x ∧ p2 = p3 ∧ r2 = r3 := by
                  injection hi with hi
                  injection hi with h1 h2
                  injection h2 with h2 h3
                  exact ⟨h1, h2, h3⟩
                obtain ⟨hx, rfl, rfl⟩ := hi2
                have hx0 : x = [] := kM_nil.1 hx.symm
                subst hx0
                have hr2 : r2 = r := by
                  cases r with
                  | nil => simp only [rdC] at hc; cases hc; rfl
                  | cons t r =>
                    simp only [rdC] at hc
                    split at hc
                    · split at hc
                      · split at hc
                        · cases hc
                        · cases hc
                      · cases hc
                    · cases hc; rfl
                subst hr2
                have he : endK [⟨((s.headD 0).toNat : Int), s.drop 2⟩] r2 = false := by
                  unfold endK
                  have : lastT [(⟨((s.headD 0).toNat : Int), s.drop 2⟩ : Mk)] = s.drop 2 := rfl
                  rw [this]
                  cases hp : pkM r2 with
                  | false => rw [Bool.and_false]
                  | true =>
                    rw [side_short hs hf (Nat.le_of_not_lt fun q => hm ⟨hp, q⟩)]
                    rfl
                rw [if_neg (by rw [he]; simp)]
                rfl
              · have hl1 : l.isEmpty = false := by cases l with | nil => exact absurd rfl hl | cons _ _ => rfl
                have he : endK (⟨((s.headD 0).toNat : Int), s.drop 2⟩ :: l) r2 = endK l r2 := by
                  unfold endK
                  rw [lastT_cons hl]
                rw [he]
                rw [hl1] at hi
                simp only [Bool.not_false, Bool.true_and, List.isEmpty_cons] at hi ⊢
                by_cases hk : endK l r2 = true
                · rw [if_pos hk] at hi ⊢
                  rw [cutL_cons hl]
                  injection hi with hi
                  injection hi with h1 h2
                  rw [h1, h2]
                  rfl
                · rw [if_neg hk] at hi ⊢
                  injection hi with hi
                  injection hi with h1 h2
                  rw [h1, h2]
                  rfl
      · unfold sdE
        simp only [rdC, rdS]
        rw [if_pos hs, if_neg hf, if_pos hs, if_neg hf]
        rfl
    · unfold sdE
      simp only [rdC, rdS]
      rw [if_neg hs, if_neg hs]
      rfl

/- ranges -/
/-- the numbers of a range, as the code tells them: the first one, the last one -/
def nmC (s : List UInt8) : Option (Int × Int) :=
  if Pn.parseE (kA s) = 0 then if kS s = true then if Pn.parseE (kB s) = 0 ∧ 0 < Pn.parseV (kA s) ∧ Pn.parseV (kA s) < Pn.parseV (kB s) then some (Pn.parseV (kA s), Pn.parseV (kB s)) else none else some (Pn.parseV (kA s), Pn.parseV (kA s)) else none
def sayC (x : Int × Int) : Int × Int := (x.1, if x.1 = x.2 then -1 else x.2 - x.1 + 1)
theorem rng_code (s : List UInt8) : rngI s = (nmC s).map sayC := by
  unfold rngI nmC
  cases hk : kS s with
  | false =>
    obtain ⟨h1, h2⟩ := kA_self hk
    rw [h1, if_neg (show ¬ (false = true) by decide)]
    by_cases he : Pn.parseE s = 0
    · rw [if_pos he, if_pos he]
      simp [sayC]
    · rw [if_neg he, if_neg he]
      unfold lnsP
      rw [h2]
      exact if_neg (fun q => he q.1)
  | true =>
    obtain ⟨c, hc⟩ := kS_some hk
    rw [if_neg (comma_no hk), if_pos rfl]
    unfold lnsP
    rw [hc]
    dsimp only
    by_cases h1 : Pn.parseE (kA s) = 0
    · rw [if_pos h1]
      by_cases h2 : Pn.parseE (kB s) = 0 ∧ 0 < Pn.parseV (kA s) ∧ Pn.parseV (kA s) < Pn.parseV (kB s)
      · rw [if_pos ⟨h1, h2.1, by omega, h2.2.2⟩, if_pos h2]
        simp only [Option.map_some, sayC]
        rw [if_neg (by omega)]
      · rw [if_neg (fun q => h2 ⟨q.2.1, by omega, q.2.2.2⟩), if_neg h2]
        rfl
    · rw [if_neg (fun q => h1 q.1), if_neg h1]
      rfl
theorem nmC_ok {s : List UInt8} {a b : Int} (h : nmC s = some (a, b)) : 0 ≤ a ∧ a ≤ b ∧ b ≤ 2147483647 := by
  unfold nmC at h
  have b1 := @prs_num (kA s)
  have b2 := @prs_num (kB s)
  split at h
  · split at h
    · split at h
      · rename_i h3
        cases h
        omega
      · cases h
    · cases h
      omega
  · cases h
/-- a range says as many lines as there are -/
theorem cnt_code {a b : Int} (h : a ≤ b) (x : Sde) : cntS (sayC (a, b)).2 x = !(decide ((x.length : Int) = b - a + 1) || (decide ((x.length : Int) = 0) && decide (b - a + 1 = 1))) := by
  unfold cntS sayC
  dsimp only
  rw [Bool.eq_iff_iff]
  simp only [decide_eq_true_eq, Bool.not_eq_true', Bool.or_eq_false_iff, Bool.and_eq_false_iff, decide_eq_false_iff_not]
  split <;> omega
end Go.Proofs.Ytgiojkhmkeocfaa

/- The context form: how the code lays sides together, shows signs, reads names; plain mathematics. -/
namespace Go.Proofs.Ytgiojkhmkeocfaa
open Ln

/- pieces -/
def allM (k : Int) (l : List Mk) : Bool := l.all fun m => m.sg == k
def keptM (l : List Mk) : List Mk := l.filter fun m => m.sg == 32
theorem kd_ne (a : UInt8) (k : UInt8) : (((a.toNat : Int)) != (k.toNat : Int)) = (a != k) := by
  rw [Bool.eq_iff_iff, bne_iff_ne, bne_iff_ne, ne_eq, ne_eq, Int.natCast_inj, UInt8.toNat_inj]
theorem kd_eq (a : UInt8) (k : UInt8) : (((a.toNat : Int)) == (k.toNat : Int)) = (a == k) := by
  rw [Bool.eq_iff_iff, beq_iff_eq, beq_iff_eq, Int.natCast_inj, UInt8.toNat_inj]
theorem chg_kM (x : Sde) : chgM (kM x) = kM (chgS x) := by
  induction x with
  | nil => rfl
  | cons y x ih =>
    have h := kd_ne y.1 32
    simp only [chgM, kM_cons, chgS, List.takeWhile_cons] at ih ⊢
    have h2 : (((y.1.toNat : Int)) != 32) = (y.1 != 32) := h
    rw [h2]
    split
    · rw [ih]; rfl
    · rfl
theorem rst_kM (x : Sde) : rstM (kM x) = kM (rstS x) := by
  induction x with
  | nil => rfl
  | cons y x ih =>
    have h := kd_ne y.1 32
    simp only [rstM, kM_cons, rstS, List.dropWhile_cons] at ih ⊢
    have h2 : (((y.1.toNat : Int)) != 32) = (y.1 != 32) := h
    rw [h2]
    split
    · rw [ih]
    · rfl
theorem all_kM (k : UInt8) (x : Sde) : allM (k.toNat : Int) (kM x) = allS k x := by
  unfold allM allS kM
  rw [List.all_map]
  refine congrArg (fun f => x.all f) ?_
  funext y
  exact kd_eq y.1 k
theorem kept_kM (x : Sde) : keptM (kM x) = kM (keptS x) := by
  unfold keptM keptS kM
  rw [List.filter_map]
  refine congrArg (List.map _) (congrArg (fun f => x.filter f) ?_)
  funext y
  exact kd_eq y.1 32
/-- a piece as the code looks at it -/
def mtM (g c : List Mk) : Bool := if c = [] then allM 45 g else if g = [] then allM 43 c else allM 33 g && allM 33 c
theorem mt_kM (x y : Sde) : mtM (kM x) (kM y) = okJ x y := by
  unfold mtM okJ
  have a1 : allM 45 (kM x) = allS 45 x := all_kM 45 x
  have a2 : allM 43 (kM y) = allS 43 y := all_kM 43 y
  have a3 : allM 33 (kM x) = allS 33 x := all_kM 33 x
  have a4 : allM 33 (kM y) = allS 33 y := all_kM 33 y
  rw [a1, a2, a3, a4]
  by_cases hy : y = []
  · subst hy
    rw [if_pos (show kM [] = [] from rfl), if_neg (fun q => q.2 rfl)]
    have : allS 43 [] = true := rfl
    rw [this, Bool.and_true]
  · rw [if_neg (fun q => hy (kM_nil.1 q))]
    by_cases hx : x = []
    · subst hx
      rw [if_pos (show kM [] = [] from rfl), if_neg (fun q => q.1 rfl)]
      have : allS 45 [] = true := rfl
      rw [this, Bool.true_and]
    · rw [if_neg (fun q => hx (kM_nil.1 q)), if_pos ⟨hx, hy⟩]
/-- texts with one sign -/
theorem mkS_kM (s : Int) (x : Sde) : mkS s x = (kM x).map fun m => ⟨s, m.tx⟩ := by
  simp [mkS, kM]
theorem same_kM (x : Sde) : allM 32 (kM x) = sameS x := all_kM 32 x
theorem jn_fuel (n : Nat) : ∀ (o w : Sde) (f g : Nat), o.length ≤ n → o.length < f → o.length < g → jnS f o w = jnS g o w := by
  induction n with
  | zero =>
    intro o w f g h hf hg
    obtain ⟨f, rfl⟩ : ∃ f', f = f' + 1 := ⟨f - 1, by omega⟩
    obtain ⟨g, rfl⟩ : ∃ g', g = g' + 1 := ⟨g - 1, by omega⟩
    have ho : o = [] := List.eq_nil_of_length_eq_zero (by omega)
    subst ho
    simp only [jnS]
    have : rstS [] = [] := rfl
    rw [this]
    cases rstS w <;> rfl
  | succ n ih =>
    intro o w f g h hf hg
    obtain ⟨f, rfl⟩ : ∃ f', f = f' + 1 := ⟨f - 1, by omega⟩
    obtain ⟨g, rfl⟩ : ∃ g', g = g' + 1 := ⟨g - 1, by omega⟩
    simp only [jnS]
    split
    · have hl : (rstS o).length ≤ o.length := by
        have := congrArg List.length (chg_rst o)
        rw [List.length_append] at this
        omega
      cases hro : rstS o with
      | nil => cases rstS w <;> rfl
      | cons y o2 =>
        rw [hro] at hl
        cases hrw : rstS w with
        | nil => rfl
        | cons z w2 =>
          dsimp only
          rw [ih o2 w2 f g (by simp at hl; omega) (by simp at hl; omega) (by simp at hl; omega)]
    · rfl
def jnX (o w : Sde) : Option (List Mk) := jnS (o.length + 1) o w
theorem jnX_eq (o w : Sde) : jnX o w = if okJ (chgS o) (chgS w) = true then match rstS o, rstS w with
      | [], [] => some (mkS 45 (chgS o) ++ mkS 43 (chgS w))
      | (_, s) :: o2, (_, t) :: w2 => if s = t then match jnX o2 w2 with
        | none => none
        | some l => some (mkS 45 (chgS o) ++ (mkS 43 (chgS w) ++ ⟨32, s⟩ :: l)) else none
      | _, _ => none
    else none := by
  have hl : (rstS o).length ≤ o.length := by
    have := congrArg List.length (chg_rst o)
    rw [List.length_append] at this
    omega
  have hX : jnX o w = jnS (o.length + 1) o w := rfl
  rw [hX]
  simp only [jnS]
  split
  · cases hro : rstS o with
    | nil => cases rstS w <;> rfl
    | cons y o2 =>
      rw [hro] at hl
      simp only [List.length_cons] at hl
      cases hrw : rstS w with
      | nil => rfl
      | cons z w2 =>
        dsimp only
        rw [jn_fuel o.length o2 w2 o.length (o2.length + 1) (by omega) (by omega) (by omega)]
        rfl
  · rfl

/- names -/
def unC (s : List UInt8) : List UInt8 := if s = devN then [] else if s.head? = some 34 then Q.uqa s else s
theorem un_code {s n : List UInt8} (h : unN s = some n) : unC s = n := by
  unfold unN at h
  unfold unC
  split at h
  · rename_i h1
    rw [if_pos h1]
    cases h
    rfl
  · rename_i h1
    rw [if_neg h1]
    split at h
    · rename_i h2
      rw [if_pos h2]
      unfold Q.uqa
      split at h
      · rename_i h3
        rw [h3]
        cases h
        rfl
      · cases h
    · rename_i h2
      rw [if_neg h2]
      cases h
      rfl
def nokC (s : List UInt8) : Bool := decide ((unC s).length ≤ 64) && (nameT (unC s) == s)
theorem named_code (s : List UInt8) : namedP s = if nokC s = true then some (unC s) else none := by
  by_cases h : nokC s = true
  · rw [if_pos h]
    unfold nokC at h
    rw [Bool.and_eq_true, decide_eq_true_eq, beq_iff_eq] at h
    exact (named_iff s (unC s)).2 ⟨h.2.symm, h.1⟩
  · rw [if_neg h]
    cases hn : namedP s with
    | none => rfl
    | some n =>
      exfalso
      obtain ⟨h1, h2⟩ := (named_iff s n).1 hn
      have h3 : unC s = n := by rw [h1]; exact un_code (name_un n)
      apply h
      unfold nokC
      rw [h3, Bool.and_eq_true, decide_eq_true_eq, beq_iff_eq]
      exact ⟨h2, h1.symm⟩
/-- a line between two heads -/
theorem inn_code (e : UInt8) (s : List UInt8) : innR e s = if [e, e, e, 32].isPrefixOf s = true then if Lib.hasSuffix (s.drop 4) [32, e, e, e, e] = true then some ((s.drop 4).take ((s.drop 4).length - 5)) else none else none := by
  unfold innR
  by_cases h1 : [e, e, e, 32].isPrefixOf s = true
  · rw [if_pos h1]
    obtain ⟨t, rfl⟩ := List.isPrefixOf_iff_prefix.1 h1
    have e1 : ([e, e, e, 32] ++ t).drop 4 = t := rfl
    have e2 : ([e, e, e, 32] ++ t).length = t.length + 4 := by simp
    rw [e1, e2]
    by_cases h2 : Lib.hasSuffix t [32, e, e, e, e] = true
    · rw [if_pos h2]
      unfold Lib.hasSuffix at h2
      obtain ⟨u, rfl⟩ := List.isSuffixOf_iff_suffix.1 h2
      have e3 : (u ++ [32, e, e, e, e]).length = u.length + 5 := by simp
      rw [e3, if_pos]
      · have e4 : u.length + 5 + 4 - 9 = u.length + 5 - 5 := by omega
        rw [e4]
      · refine ⟨by omega, rfl, ?_⟩
        have e5 : u.length + 5 + 4 - 5 = ([e, e, e, 32] ++ u).length := by simp
        rw [e5, ← List.append_assoc, List.drop_left]
    · rw [if_neg h2, if_neg]
      rintro ⟨h3, _, h4⟩
      apply h2
      unfold Lib.hasSuffix
      rw [List.isSuffixOf_iff_suffix]
      have e6 : ([e, e, e, 32] ++ t).drop (t.length + 4 - 5) = t.drop (t.length - 5) := by
        have : t.length + 4 - 5 = 4 + (t.length - 5) := by omega
        rw [this, ← List.drop_drop]
        rfl
      rw [e6] at h4
      exact ⟨t.take (t.length - 5), by rw [← h4, List.take_append_drop]⟩
  · rw [if_neg h1, if_neg]
    rintro ⟨_, h2, _⟩
    apply h1
    rw [List.isPrefixOf_iff_prefix]
    exact ⟨s.drop 4, by rw [← h2, List.take_append_drop]⟩
end Go.Proofs.Ytgiojkhmkeocfaa

/- num.quotedByte, walked. -/
namespace Go.Proofs.Ytgiojkhmkeocfaa
open Q Go.RowKit Go.Proofs.Ytgiojkhmkeocfaa
attribute [local go_sem] ba_at hexl_at


theorem idx_hex (x : UInt8) : Lib.indexByte [48, 49, 50, 51, 52, 53, 54, 55, 56, 57, 97, 98, 99, 100, 101, 102] x = digitI x.toNat := by
  have key : ∀ i : Fin 256, Lib.indexByte [48, 49, 50, 51, 52, 53, 54, 55, 56, 57, 97, 98, 99, 100, 101, 102] (UInt8.ofNat i.val) = digitI (i.val : Int) := by decide +kernel
  have := key ⟨x.toNat, x.toNat_lt⟩
  simpa using this

theorem IndexByte_hex (x : UInt8) (w : World) :
    Calls Try.prog 27 #[.string ⟨#[48, 49, 50, 51, 52, 53, 54, 55, 56, 57, 97, 98, 99, 100, 101, 102]⟩, .int .u8 (x.toNat : Int)] w fun e w' => e = .returned (.int .i64 (digitI x.toNat)) ∧ w' = w := by
  have h := Try.strings_IndexByte ⟨#[48, 49, 50, 51, 52, 53, 54, 55, 56, 57, 97, 98, 99, 100, 101, 102]⟩ (x.toNat : Int) w
  refine h.mono ?_
  rintro e w' ⟨rfl, rfl⟩
  have e : ((x.toNat : Int).toNat).toUInt8 = x := by simp
  rw [e, ← idx_hex]
  exact ⟨rfl, rfl⟩

theorem or_nib (x y : Int) (h0 : 0 ≤ x) (h1 : x ≤ 15) (h2 : 0 ≤ y) (h3 : y ≤ 15) : bits BinOp.or IntKind.i64 (x * 16) y % 256 = 16 * x + y := by
  have key : ∀ i j : Fin 16, bits BinOp.or IntKind.i64 ((i.val : Int) * 16) (j.val : Int) % 256 = 16 * (i.val : Int) + (j.val : Int) := by decide +kernel
  have := key ⟨x.toNat, by omega⟩ ⟨y.toNat, by omega⟩
  simp only [Int.toNat_of_nonneg h0, Int.toNat_of_nonneg h2] at this
  exact this

set_option maxHeartbeats 1000000 in
theorem quotedByte_two (a b : UInt8) (t : List UInt8) (w : World) :
    Calls Try.prog 20 #[.string ⟨((92 : UInt8) :: a :: b :: t).toArray⟩] w fun e w' => e = .returned (.tuple #[.int .u8 (pv a b), .int .i64 (pn a b)]) ∧ ∃ n, w' = w.drewN n := by
  have hp : plainI 92 = false := by decide
  obtain ⟨ha, ha'⟩ := digitI_ge a.toNat
  obtain ⟨hb, hb'⟩ := digitI_ge b.toNat
  go_enter Try.func20, Try.ntmps20
  go_wp2_with fail
  refine (isPlain_any _ _).mono ?_
  rintro e w' ⟨rfl, rfl⟩
  go_wp2_with fail
  go_quiet ((go_at_call 27; exact Calls.quiet_of_same (IndexByte_hex _ _)))
  by_cases h1 : digitI a.toNat < 0
  · go_wp2
    go_ret2
    exact ⟨ret_two (pv_no (pairOk_lo h1)) (pn_no (pairOk_lo h1)), _, rfl⟩
  · by_cases h2 : digitI b.toNat < 0
    · go_wp2
      go_ret2
      exact ⟨ret_two (pv_no (pairOk_hi h2)) (pn_no (pairOk_hi h2)), _, rfl⟩
    · go_wp2_with fail
      rw [or_nib _ _ (by omega) ha' (by omega) hb']
      refine (isPlain_any _ _).mono ?_
      rintro e w' ⟨rfl, rfl⟩
      have hm := pairOk_mid (a := a) (b := b) (by omega) (by omega)
      have HM : Hid (pairOk a b = !plainI (16 * digitI a.toNat + digitI b.toNat)) := hm
      clear hm
      cases hpl : plainI (16 * digitI a.toNat + digitI b.toNat)
      · go_wp2
        go_ret2
        have hk : pairOk a b = true := by rw [HM.out, hpl]; rfl
        exact ⟨ret_two (pv_yes hk) (pn_yes hk), _, rfl⟩
      · go_wp2
        go_ret2
        have hk : pairOk a b = false := by rw [HM.out, hpl]; rfl
        exact ⟨ret_two (pv_no hk) (pn_no hk), _, rfl⟩

set_option maxHeartbeats 1000000 in
theorem quotedByte_plain (c : UInt8) (t : List UInt8) (w : World) (h : plainI c.toNat = true) :
    Calls Try.prog 20 #[.string ⟨(c :: t).toArray⟩] w fun e w' => e = .returned (.tuple #[.int .u8 (c.toNat : Int), .int .i64 1]) ∧ ∃ n, w' = w.drewN n := by
  go_enter Try.func20, Try.ntmps20
  go_wp2_with fail
  refine (isPlain_any _ _).mono ?_
  rintro e w' ⟨rfl, rfl⟩
  go_wp2
  go_ret2
  exact ⟨rfl, 0, rfl⟩

set_option maxHeartbeats 1000000 in
theorem quotedByte_none (c : UInt8) (t : List UInt8) (w : World) (h : plainI c.toNat = false) (h2 : ¬ (c.toNat = 92 ∧ 2 ≤ t.length)) :
    Calls Try.prog 20 #[.string ⟨(c :: t).toArray⟩] w fun e w' => e = .returned (.tuple #[.int .u8 0, .int .i64 0]) ∧ ∃ n, w' = w.drewN n := by
  by_cases h3 : c.toNat = 92
  · have hb : ((c.toNat : Int) != 92) = false := by simp; omega
    have hl : ((t.length : Int) + 1 < 3) := by omega
    clear h2
    go_enter Try.func20, Try.ntmps20
    go_wp2_with fail
    refine (isPlain_any _ _).mono ?_
    rintro e w' ⟨rfl, rfl⟩
    go_wp2
    go_ret2
    exact ⟨rfl, 0, rfl⟩
  · have hb : ((c.toNat : Int) != 92) = true := by simp; omega
    clear h2
    go_enter Try.func20, Try.ntmps20
    go_wp2_with fail
    refine (isPlain_any _ _).mono ?_
    rintro e w' ⟨rfl, rfl⟩
    go_wp2
    go_ret2
    exact ⟨rfl, 0, rfl⟩
end Go.Proofs.Ytgiojkhmkeocfaa

/- num.Unquote, walked: what it returns is what the plain function unquote says. -/
namespace Go.Proofs.Ytgiojkhmkeocfaa
open Q Go.RowKit Go.Proofs.Ytgiojkhmkeocfaa
attribute [local go_sem] ba_at ByteArray.extract_mk

def sizeS : Value → Nat
  | .string s => s.data.size
  | _ => 0

theorem ret_uq {l a b : List UInt8} {n : Int} (h : uqa l = a ∧ uqb l = b ∧ uqe l = n) : Ending.returned (.tuple #[.string ⟨a.toArray⟩, .string ⟨b.toArray⟩, .int .i64 n]) = .returned (.tuple #[.string ⟨(uqa l).toArray⟩, .string ⟨(uqb l).toArray⟩, .int .i64 (uqe l)]) := by
  rw [h.1, h.2.1, h.2.2]

set_option maxHeartbeats 2000000 in
set_option maxRecDepth 100000 in
theorem Unquote_body (l : List UInt8) (w : World) (hl : l.length ≤ 1099511627776) :
    Calls Try.prog 13 #[.string ⟨((34 : UInt8) :: l).toArray⟩] w fun e w' => e = .returned (.tuple #[.string ⟨(uqa (34 :: l)).toArray⟩, .string ⟨(uqb (34 :: l)).toArray⟩, .int .i64 (uqe (34 :: l))]) ∧ Below w.heap.size w w' := by
  have HU : Hid (unquote (34 :: l) = body l) := by show unquote (34 :: l) = body l; simp [unquote]
  go_enter Try.func13, Try.ntmps13
  go_wp2
  go_loopw [6] (fun rest wr => ∃ (r acc : List UInt8) (v : Value), rest = .string ⟨r.toArray⟩ ∧ Bld 34 5 w.heap.size w.heap.size v (Lib.byteCells acc) wr ∧ Below w.heap.size w wr ∧ body l = (body r).map (fun p => (acc ++ p.1, p.2)) ∧ acc.length + r.length ≤ l.length) (fun rest _ => sizeS rest)
  case atStart => exact ⟨l, [], _, rfl, Bld.fresh 34 5 w, (Below.refl _ w).alloc (Nat.le_refl _) _, by simp, by simp⟩
  case round =>
    obtain ⟨r, acc, v, rfl, hB, hbr, hbody, hal⟩ := hrel
    have HB : Hid (body l = (body r).map (fun p => (acc ++ p.1, p.2))) := hbody
    clear hbody
    match r, hal, HB with
    | [], hal, HB =>
      go_wp2
      go_ret3
      exact ⟨ret_uq (uq_none (by rw [HU.out, HB.out]; rfl)), hbr⟩
    | c :: t, hal, HB =>
      have hc := c.toNat_lt
      by_cases h34 : c.toNat = 34
      · have hb : ((c.toNat : Int) != 34) = false := by simp; omega
        have HE : Hid (unquote (34 :: l) = some (acc, t)) := by
          show unquote (34 :: l) = some (acc, t)
          rw [HU.out, HB.out, body_end t h34]; simp
        clear h34
        have hI : Lib.IsBuilderF 34 5 w.heap.size w.heap.size (Lib.byteCells acc) wr.drew := hB.isF
        have hsz : w.heap.size ≤ wr.drew.heap.size := hbr.size
        go_wp2_with fail
        go_region_with (go_at_call 22; refine (Try.Builder_String_any_k w.heap.size w.heap.size acc _ hI hsz).mono ?_; rintro e w4 ⟨rfl, _, hb4, _⟩)
        all_goals
          go_wp2
          go_ret3
          exact ⟨ret_uq (uq_some HE.out), hbr.drew.trans hb4⟩
      · have hb : ((c.toNat : Int) != 34) = true := by simp; omega
        cases hpl : plainI c.toNat
        · by_cases h92 : c.toNat = 92 ∧ 2 ≤ t.length
          · match t, hal, HB, h92 with
            | a :: b :: t, hal, HB, ⟨h92, _⟩ =>
              obtain rfl : c = 92 := UInt8.toNat_inj.1 h92
              cases hk : pairOk a b
              · have HE : Hid (unquote (34 :: l) = none) := by
                  show unquote (34 :: l) = none
                  rw [HU.out, HB.out, body_pair_no t h92 hk]; rfl
                have h1 : pv a b = 0 := (pv_no hk).symm
                have h2 : pn a b = 0 := (pn_no hk).symm
                go_wp2_with fail
                refine (quotedByte_two a b t _).mono ?_
                rintro e w4 ⟨rfl, nq, rfl⟩
                go_wp2
                go_ret3
                exact ⟨ret_uq (uq_none HE.out), below_drewN hbr nq⟩
              · have HE : Hid (body l = (body t).map (fun p => (acc ++ [UInt8.ofNat (pairI a b).toNat] ++ p.1, p.2))) := by
                  show body l = _
                  rw [HB.out, body_pair t h92 hk]; simp [Function.comp_def]
                have h2 : pn a b = 3 := (pn_yes hk).symm
                have hpb := pairI_byte hk
                have HV : Hid (pv a b = ((UInt8.ofNat (pairI a b).toNat).toNat : Int)) := by
                  show pv a b = _
                  rw [← pv_yes hk]
                  simp only [UInt8.toNat_ofNat']
                  omega
                clear hpb
                go_wp2_with fail
                refine (quotedByte_two a b t _).mono ?_
                rintro e w4 ⟨rfl, nq, rfl⟩
                go_wp2_with fail
                rw [HV.out]
                refine (WriteByte_any w.heap.size w.heap.size v _ _ _ (Bld.drewN hB nq) (by rw [Lib.byteCells_length]; omega) hbr.size).mono ?_
                rintro e w5 ⟨rfl, v5, hB5, _, _, hb5⟩
                go_wp2
                go_roundw
                case rel => exact ⟨t, acc ++ [UInt8.ofNat (pairI a b).toNat], v5, rfl, by rw [byteCells_snoc]; exact hB5, (below_drewN hbr nq).trans hb5, HE.out, by simp at hal ⊢; omega⟩
                case measure => first | (simp [sizeS]; done) | (simp [sizeS]; omega)
          · have HE : Hid (unquote (34 :: l) = none) := by
              show unquote (34 :: l) = none
              rw [HU.out, HB.out, body_none t h34 hpl h92]; rfl
            go_wp2_with fail
            refine (quotedByte_none c t _ hpl h92).mono ?_
            rintro e w4 ⟨rfl, nq, rfl⟩
            go_wp2
            go_ret3
            exact ⟨ret_uq (uq_none HE.out), below_drewN hbr nq⟩
        · have HE : Hid (body l = (body t).map (fun p => (acc ++ [c] ++ p.1, p.2))) := by
            show body l = _
            rw [HB.out, body_plain t hpl]; simp [Function.comp_def]
          go_wp2_with fail
          refine (quotedByte_plain c t _ hpl).mono ?_
          rintro e w4 ⟨rfl, nq, rfl⟩
          go_wp2_with fail
          refine (WriteByte_any w.heap.size w.heap.size v _ _ _ (Bld.drewN hB nq) (by rw [Lib.byteCells_length]; simp at hal; omega) hbr.size).mono ?_
          rintro e w5 ⟨rfl, v5, hB5, _, _, hb5⟩
          go_wp2
          go_roundw
          case rel => exact ⟨t, acc ++ [c], v5, rfl, by rw [byteCells_snoc]; exact hB5, (below_drewN hbr nq).trans hb5, HE.out, by simp at hal ⊢; omega⟩
          case measure => first | (simp [sizeS]; done) | (simp [sizeS]; omega)

set_option maxHeartbeats 1000000 in
theorem Unquote_any (l : List UInt8) (w : World) (hl : l.length ≤ 1099511627776) :
    Calls Try.prog 13 #[.string ⟨l.toArray⟩] w fun e w' => e = .returned (.tuple #[.string ⟨(uqa l).toArray⟩, .string ⟨(uqb l).toArray⟩, .int .i64 (uqe l)]) ∧ Below w.heap.size w w' := by
  match l, hl with
  | [], _ =>
    go_enter Try.func13, Try.ntmps13
    go_wp2
    go_ret3
    exact ⟨ret_uq (uq_none rfl), Below.refl _ _⟩
  | c :: t, hl =>
    by_cases h : c.toNat = 34
    · obtain rfl : c = 34 := UInt8.toNat_inj.1 h
      exact Unquote_body t w (by simp at hl; omega)
    · have hb : ((c.toNat : Int) != 34) = true := by simp; omega
      have HU : Hid (unquote (c :: t) = none) := by show unquote (c :: t) = none; simp [unquote, h]
      clear h
      go_enter Try.func13, Try.ntmps13
      go_wp2
      go_ret3
      exact ⟨ret_uq (uq_none HU.out), Below.refl _ _⟩
end Go.Proofs.Ytgiojkhmkeocfaa

/- The code's reader of layer 15, walked: what is wrong is thrown; the next line, bare; the end of a side; stars. -/
namespace Go.Proofs.Ytgiojkhmkeocfaa
open Go.RowKit
attribute [local go_sem] ByteArray.extract_mk no_at

section
variable {u u' : World} {R : Nat} {vL : Value} {p : Int}
end
/-- the next line behind what must stand ahead -/
def barP (hd : List UInt8) (p : Nat) (ls : List (List UInt8)) : Except (Nat × Int) (List UInt8 × List (List UInt8)) :=
  match nxt p ls with
  | .error e => .error e
  | .ok (s, r) => if hd.isPrefixOf s = true then .ok (s.drop hd.length, r) else .error (p + 1, 3)
theorem trim_snoc (s : List UInt8) : Lib.trimSuffix (s ++ [10]) [10] = s := by
  unfold Lib.trimSuffix
  rw [suf_feed, if_pos (fd_snoc s)]
  simp
end Go.Proofs.Ytgiojkhmkeocfaa

/- The code's names, numbers, stars and signs of a side (layer 15), walked. -/
namespace Go.Proofs.Ytgiojkhmkeocfaa
open Go.RowKit Go.Proofs.Ytgiojkhmkeocfaa
attribute [local go_sem] ByteArray.extract_mk no_at

theorem body_len (n : Nat) : ∀ (t a b : List UInt8), t.length ≤ n → Q.body t = some (a, b) → a.length ≤ t.length := by
  induction n with
  | zero =>
    intro t a b h hb
    have : t = [] := List.eq_nil_of_length_eq_zero (by omega)
    subst this
    cases hb
  | succ n ih =>
    intro t a b h hb
    cases t with
    | nil => cases hb
    | cons c t =>
      simp only [List.length_cons] at h ⊢
      rw [Q.body.eq_def] at hb
      simp only at hb
      split at hb
      · cases hb; simp
      · split at hb
        · obtain ⟨p, hp, he⟩ := Option.map_eq_some_iff.1 hb
          cases he
          have := ih t p.1 p.2 (by omega) hp
          simp only [List.length_cons]
          omega
        · split at hb
          · split at hb
            · rename_i x y t'
              simp only [List.length_cons] at h ⊢
              split at hb
              · obtain ⟨p, hp, he⟩ := Option.map_eq_some_iff.1 hb
                cases he
                have := ih t' p.1 p.2 (by omega) hp
                simp only [List.length_cons]
                omega
              · cases hb
            · cases hb
          · cases hb
theorem uqa_len (s : List UInt8) : (Q.uqa s).length ≤ s.length := by
  cases hu : Q.unquote s with
  | none => rw [(Q.uq_none hu).1]; simp
  | some p =>
    obtain ⟨a, b⟩ := p
    rw [(Q.uq_some hu).1]
    cases s with
    | nil => cases hu
    | cons c t =>
      simp only [Q.unquote] at hu
      split at hu
      · have := body_len t.length t a b (Nat.le_refl _) hu
        simp only [List.length_cons]
        omega
      · cases hu
theorem head_pre (s : List UInt8) : Lib.hasPrefix s [34] = (s.head? == some 34) := by
  cases s with
  | nil => rfl
  | cons c t =>
    show ((34 == c) && true) = (some c == some 34)
    rw [Bool.and_true, Bool.eq_iff_iff, beq_iff_eq, beq_iff_eq, Option.some.injEq]
    exact ⟨fun h => h.symm, fun h => h.symm⟩
/-- the name that a text stands for, or why it stands for none -/
def pnV (r : Bool) (n : List UInt8) : Value := if r = true then .tuple #[.string ⟨n.toArray⟩, .int .i64 0] else .tuple #[.string ⟨#[]⟩, .int .i64 253]
set_option maxHeartbeats 4000000 in
set_option maxRecDepth 40000 in
theorem cnamed_f (s : List UInt8) (w : World) (hl : s.length ≤ 1099511627776) (n : List UInt8) (r : Bool) (HN : Hid (unC s = n)) (HR : Hid (nokC s = r)) :
    Calls Try.prog 8 #[.string ⟨s.toArray⟩] w fun e w' => e = .returned (pnV r n) ∧ Below w.heap.size w w' := by
  have hnl : n.length ≤ 1099511627776 := (by
    rw [← HN.out]
    unfold unC
    split
    · simp
    · split
      · have := uqa_len s
        omega
      · exact hl)
  obtain ⟨T, hT⟩ : ∃ T, nameT n = T := ⟨_, rfl⟩
  have hnm := fun u => cname_f n u hnl T hT
  have HF : Hid ((decide (n.length ≤ 64) && (T == s)) = r) := (by
    have h := HR.out
    unfold nokC at h
    rw [HN.out, hT] at h
    exact h)
  have hhp : ∀ (b : Bool), (s.head? == some 34) = b → ∀ u, Calls Try.prog 12 #[.string ⟨s.toArray⟩, .string ⟨#[34]⟩] u fun e w' => e = .returned (.bool b) ∧ w' = u := (by
    intro b hb u
    refine (Try.strings_HasPrefix ⟨s.toArray⟩ ⟨#[34]⟩ u).mono ?_
    rintro e w' ⟨rfl, rfl⟩
    have e1 : Lib.hasPrefix (⟨s.toArray⟩ : ByteArray).data.toList (⟨#[34]⟩ : ByteArray).data.toList = b := (head_pre s).trans hb
    rw [e1]
    exact ⟨rfl, rfl⟩)
  have huq := fun u => Unquote_any s u hl
  clear hT HR
  go_enter Try.func8, Try.ntmps8
  go_upto_block 0 with fail
  go_cut [4] (fun nv wz => nv = .string ⟨n.toArray⟩ ∧ Below w.heap.size w wz)
  case first =>
    by_cases h1 : s = devN
    · have e1 : (s == [47, 100, 101, 118, 47, 110, 117, 108, 108]) = true := (by rw [beq_iff_eq]; exact h1)
      have HE : Hid ([] = n) := (by have h := HN.out; unfold unC at h; rw [if_pos h1] at h; exact h)
      clear h1
      go_wp2
      go_meet
      case rel => exact ⟨by rw [← HE.out], Below.refl _ _⟩
    · have e1 : (s == [47, 100, 101, 118, 47, 110, 117, 108, 108]) = false := beq_eq_false_iff_ne.2 h1
      by_cases h2 : s.head? = some 34
      · have HE : Hid (Q.uqa s = n) := (by have h := HN.out; unfold unC at h; rw [if_neg h1, if_pos h2] at h; exact h)
        have hc := hhp true (beq_iff_eq.2 h2)
        clear h1 h2
        go_wp2_with fail
        refine (hc _).mono ?_
        rintro e w1 ⟨rfl, rfl⟩
        go_wp2_with fail
        refine (huq _).mono ?_
        rintro e w2 ⟨rfl, hB2⟩
        go_wp2
        go_meet
        case rel => exact ⟨by rw [← HE.out], hB2⟩
      · have HE : Hid (s = n) := (by have h := HN.out; unfold unC at h; rw [if_neg h1, if_neg h2] at h; exact h)
        have hc := hhp false (beq_eq_false_iff_ne.2 h2)
        clear h1 h2
        go_wp2_with fail
        refine (hc _).mono ?_
        rintro e w1 ⟨rfl, rfl⟩
        go_wp2
        go_meet
        case rel => exact ⟨by rw [← HE.out], Below.refl _ _⟩
  case rest =>
  obtain ⟨rfl, hBc⟩ := hcut
  by_cases h3 : n.length ≤ 64
  · have i1 : ¬ (64 : Int) < (n.length : Int) := by omega
    cases h4 : T == s with
    | true =>
      have HE : Hid (true = r) := (by have h := HF.out; rw [decide_eq_true h3, Bool.true_and, h4] at h; exact h)
      have h5 : (T != s) = false := (by unfold bne; rw [h4]; rfl)
      clear HF
      go_wp2_with fail
      refine (hnm _).mono ?_
      rintro e w2 ⟨rfl, hB2⟩
      go_wp2
      go_ret2
      exact ⟨by rw [← HE.out]; rfl, hBc.trans (hB2.mono hBc.size)⟩
    | false =>
      have HE : Hid (false = r) := (by have h := HF.out; rw [decide_eq_true h3, Bool.true_and, h4] at h; exact h)
      have h5 : (T != s) = true := (by unfold bne; rw [h4]; rfl)
      clear HF
      go_wp2_with fail
      refine (hnm _).mono ?_
      rintro e w2 ⟨rfl, hB2⟩
      go_wp2
      go_ret2
      exact ⟨by rw [← HE.out]; rfl, hBc.trans (hB2.mono hBc.size)⟩
  · have HE : Hid (false = r) := (by have h := HF.out; rw [decide_eq_false h3, Bool.false_and] at h; exact h)
    have i1 : (64 : Int) < (n.length : Int) := by omega
    clear HF
    go_wp2
    go_ret2
    exact ⟨by rw [← HE.out]; rfl, hBc⟩
theorem nam_bar {hd : List UInt8} (h4 : hd.length = 4) (p : Nat) (ls : List (List UInt8)) : namP hd p ls = match barP hd p ls with
    | .error e => .error e
    | .ok (s, r) => if nokC s = true then .ok (unC s, r) else .error (p + 1, 253) := by
  unfold namP barP
  cases nxt p ls with
  | error e => rfl
  | ok z =>
    obtain ⟨s, r⟩ := z
    dsimp only
    split
    · rw [h4, named_code]
      split
      · rename_i hq
        dsimp only
        split at hq
        · cases hq
        · rename_i h2
          rw [if_neg h2]
      · rename_i nn hq
        dsimp only
        split at hq
        · rename_i h2
          cases hq
          rw [if_pos h2]
        · cases hq
    · rfl
end Go.Proofs.Ytgiojkhmkeocfaa

/- The code's reader of layer 16, walked: what is wrong is thrown; the next line; does a hunk stand next? -/
namespace Go.Proofs.Ytgiojkhmkeocfaa
open Go.RowKit Go.Proofs.Ytgiojkhmkeocfaa
attribute [local go_sem] ByteArray.extract_mk no_at

section
variable {u u' : World} {R : Nat} {vL : Value} {p : Int}
end
theorem pkU_at {L : List (List UInt8)} {p : Nat} (h : p < L.length) : pkU atC (L.drop p) = atC.isPrefixOf L[p] := by
  rw [List.drop_eq_getElem_cons h]
  rfl
set_option maxHeartbeats 1000000 in
theorem uNamed_f (s : List UInt8) (w : World) (hl : s.length ≤ 1099511627776) (n : List UInt8) (r : Bool) (HN : Hid (unC s = n)) (HR : Hid (nokC s = r)) :
    Calls Try.prog 4 #[.string ⟨s.toArray⟩] w fun e w' => e = .returned (pnV r n) ∧ Below w.heap.size w w' := by
  have hf := cnamed_f s w hl n r HN HR
  cases r with
  | true =>
    have hf2 : Calls Try.prog 8 #[.string ⟨s.toArray⟩] w fun e w' => e = .returned (.tuple #[.string ⟨n.toArray⟩, .int .i64 0]) ∧ Below w.heap.size w w' := hf
    clear hf
    go_enter Try.func4, Try.ntmps4
    go_wp2_with fail
    refine hf2.mono ?_
    rintro e w1 ⟨rfl, hB⟩
    go_wp2
    go_ret2
    exact ⟨rfl, hB⟩
  | false =>
    have hf2 : Calls Try.prog 8 #[.string ⟨s.toArray⟩] w fun e w' => e = .returned (.tuple #[.string ⟨#[]⟩, .int .i64 253]) ∧ Below w.heap.size w w' := hf
    clear hf
    go_enter Try.func4, Try.ntmps4
    go_wp2_with fail
    refine hf2.mono ?_
    rintro e w1 ⟨rfl, hB⟩
    go_wp2
    go_ret2
    exact ⟨rfl, hB⟩
end Go.Proofs.Ytgiojkhmkeocfaa

/- The context form: how the reference lays both sides together; plain mathematics. -/
namespace Go.Proofs.Ytgiojkhmkeocfaa
open Ln

theorem jrst_dropR (x : Sde) : rstS x = x.drop (chgS x).length := by
  induction x with
  | nil => rfl
  | cons y x ih =>
    unfold rstS chgS at ih ⊢
    rw [List.dropWhile_cons, List.takeWhile_cons]
    split
    · rw [List.length_cons, List.drop_succ_cons]
      exact ih
    · rfl
theorem jchg_le (x : Sde) : (chgS x).length ≤ x.length := (List.takeWhile_prefix _).length_le
/-- lines ahead of what both sides are as one -/
def thenR (a : List Mk) : Option (List Mk) → Option (List Mk)
  | none => none
  | some l => some (a ++ l)
theorem thenR_nil (X : Option (List Mk)) : thenR [] X = X := by cases X <;> rfl
section
variable {o w : Sde} {i j f : Nat}
theorem jrst_at (x : Sde) (i : Nat) : rstS (x.drop i) = x.drop (i + (chgS (x.drop i)).length) := by rw [jrst_dropR, List.drop_drop]
theorem jn_bad (h : okJ (chgS (o.drop i)) (chgS (w.drop j)) = false) : jnS (f + 1) (o.drop i) (w.drop j) = none := by
  simp only [jnS]
  rw [if_neg (by rw [h]; decide)]
theorem jn_end (h : okJ (chgS (o.drop i)) (chgS (w.drop j)) = true) (hi : o.length ≤ i + (chgS (o.drop i)).length) (hj : w.length ≤ j + (chgS (w.drop j)).length) (a : List Mk) : thenR a (jnS (f + 1) (o.drop i) (w.drop j)) = some (a ++ mkS 45 (chgS (o.drop i)) ++ mkS 43 (chgS (w.drop j))) := by
  simp only [jnS]
  rw [if_pos h, jrst_at, jrst_at, List.drop_eq_nil_of_le hi, List.drop_eq_nil_of_le hj]
  simp [thenR]
theorem jn_odd (h : okJ (chgS (o.drop i)) (chgS (w.drop j)) = true) (hx : o.length ≤ i + (chgS (o.drop i)).length ∧ j + (chgS (w.drop j)).length < w.length ∨ i + (chgS (o.drop i)).length < o.length ∧ w.length ≤ j + (chgS (w.drop j)).length) : jnS (f + 1) (o.drop i) (w.drop j) = none := by
  simp only [jnS]
  rw [if_pos h, jrst_at, jrst_at]
  rcases hx with ⟨h1, h2⟩ | ⟨h1, h2⟩
  · rw [List.drop_eq_nil_of_le h1, List.drop_eq_getElem_cons h2]
  · rw [List.drop_eq_nil_of_le h2, List.drop_eq_getElem_cons h1]
theorem jn_diff (h : okJ (chgS (o.drop i)) (chgS (w.drop j)) = true) (hi : i + (chgS (o.drop i)).length < o.length) (hj : j + (chgS (w.drop j)).length < w.length) (hn : o[i + (chgS (o.drop i)).length].2 ≠ w[j + (chgS (w.drop j)).length].2) : jnS (f + 1) (o.drop i) (w.drop j) = none := by
  simp only [jnS]
  rw [if_pos h, jrst_at, jrst_at, List.drop_eq_getElem_cons hi, List.drop_eq_getElem_cons hj]
  dsimp only
  rw [if_neg hn]
theorem jn_go (h : okJ (chgS (o.drop i)) (chgS (w.drop j)) = true) (hi : i + (chgS (o.drop i)).length < o.length) (hj : j + (chgS (w.drop j)).length < w.length) (hn : o[i + (chgS (o.drop i)).length].2 = w[j + (chgS (w.drop j)).length].2) (a : List Mk) : thenR a (jnS (f + 1) (o.drop i) (w.drop j)) = thenR (a ++ mkS 45 (chgS (o.drop i)) ++ mkS 43 (chgS (w.drop j)) ++ [⟨32, o[i + (chgS (o.drop i)).length].2⟩]) (jnS f (o.drop (i + (chgS (o.drop i)).length + 1)) (w.drop (j + (chgS (w.drop j)).length + 1))) := by
  simp only [jnS]
  rw [if_pos h, jrst_at, jrst_at, List.drop_eq_getElem_cons hi, List.drop_eq_getElem_cons hj]
  dsimp only
  rw [if_pos hn]
  cases jnS f (o.drop (i + (chgS (o.drop i)).length + 1)) (w.drop (j + (chgS (w.drop j)).length + 1)) with
  | none => rfl
  | some l => simp [thenR]
end
/-- the changed lines of a side from a place on, by their number -/
theorem jchg_take (x : Sde) : chgS x = x.take (chgS x).length := by
  have h := List.takeWhile_prefix (fun y : UInt8 × List UInt8 => y.1 != 32) (l := x)
  exact (List.prefix_iff_eq_take.1 h)
theorem jchg_get (x : Sde) (i k : Nat) (hk : k < (chgS (x.drop i)).length) : ∃ h : i + k < x.length, (chgS (x.drop i))[k] = x[i + k] := by
  have h1 := jchg_le (x.drop i)
  rw [List.length_drop] at h1
  have h2 : i + k < x.length := by omega
  refine ⟨h2, ?_⟩
  have h3 : (chgS (x.drop i))[k]? = ((x.drop i).take (chgS (x.drop i)).length)[k]? := congrArg (·[k]?) (jchg_take (x.drop i))
  rw [List.getElem?_take, if_pos hk, List.getElem?_drop, List.getElem?_eq_getElem hk, List.getElem?_eq_getElem h2] at h3
  exact Option.some.inj h3
theorem mkS_snoc (s : Int) (x : Sde) (k : Nat) (hk : k < x.length) : mkS s (x.take (k + 1)) = mkS s (x.take k) ++ [⟨s, x[k].2⟩] := by
  rw [List.take_succ_eq_append_getElem hk]
  unfold mkS
  rw [List.map_append]
  rfl
theorem jchg_ne (x : Sde) : ∀ y ∈ chgS x, y.1 ≠ 32 := by
  induction x with
  | nil => intro y hy; cases hy
  | cons z x ih =>
    unfold chgS at ih ⊢
    intro y hy
    rw [List.takeWhile_cons] at hy
    split at hy
    · rename_i hz
      rcases List.mem_cons.1 hy with rfl | hy
      · simpa using hz
      · exact ih y hy
    · cases hy
/-- the run of changed lines, line by line: another one, or the end -/
theorem jchg_more (x : Sde) (i n : Nat) (h : n ≤ (chgS (x.drop i)).length) (_hi : i ≤ x.length) : (n < (chgS (x.drop i)).length ↔ ∃ h : i + n < x.length, x[i + n].1 ≠ 32) := by
  constructor
  · intro hn
    obtain ⟨h2, h3⟩ := jchg_get x i n hn
    refine ⟨h2, ?_⟩
    rw [← h3]
    exact jchg_ne _ _ (List.getElem_mem hn)
  · rintro ⟨h2, h3⟩
    refine Nat.lt_of_le_of_ne h fun e => ?_
    have h4 := jrst_at x i
    rw [← e, List.drop_eq_getElem_cons h2] at h4
    exact h3 (rst_head h4)
end Go.Proofs.Ytgiojkhmkeocfaa

/- The reference's reader of layer 15: walked whether or not a fault stands. -/
namespace Go.Proofs.Ytgiojkhmkeocfaa
open Go.RowKit
attribute [local go_sem] ByteArray.extract_mk no_at

/-- the fault's reason -/
def feS : Except (Nat × Int) Nat → Int
  | .ok _ => 0
  | .error (_, z) => z
/-- the next line -/
def nxZ (L : List (List UInt8)) : Except (Nat × Int) Nat → Except (Nat × Int) (List UInt8 × Nat)
  | .error e => .error e
  | .ok p => match nxt p (L.drop p) with
    | .error e => .error e
    | .ok (s, _) => .ok (s, p + 1)
/-- does the next line begin so? -/
def pkG (sg : List UInt8) : List (List UInt8) → Bool
  | [] => false
  | s :: _ => sg.isPrefixOf s
def pkZ (sg : List UInt8) (L : List (List UInt8)) : Except (Nat × Int) Nat → Bool
  | .error _ => false
  | .ok p => pkG sg (L.drop p)
end Go.Proofs.Ytgiojkhmkeocfaa

/- The plain Quote of the reference, walked: what it returns is the plain function quote of the text. -/
namespace Go.Proofs.Ytgiojkhmkeocfaa
open Q Go.RowKit Go.Proofs.Ytgiojkhmkeocfaa
attribute [local go_sem] ba_at hexl_at

set_option maxHeartbeats 2000000 in
set_option maxRecDepth 100000 in
theorem refQuote_any (l : List UInt8) (w : World) (hl : l.length ≤ 1099511627776) :
    Calls Try.prog 18 #[.string ⟨l.toArray⟩] w fun e w' => e = .returned (.string ⟨(quote l).toArray⟩) ∧ Below w.heap.size w w' := by
  obtain ⟨i0, hi, hz0, hz1, hz2⟩ := info_parts infoU8
  go_enter Try.func18, Try.ntmps18
  go_wp2
  go_loopw [3, 4] (fun out i wr => ∃ (k : Nat) (acc : List UInt8), k ≤ l.length ∧ i = .int .i64 k ∧ wr.ownsRowF w.heap.size 5 1 out acc.length (Lib.byteCells acc) ∧ Below w.heap.size w wr ∧ acc ++ qbody (l.drop k) = [34] ++ qbody l ∧ acc.length ≤ 3 * k + 1) (fun _ i _ => l.length - (intOf i).toNat)
  case atStart =>
    refine ⟨0, [34], Nat.zero_le _, rfl, ?_, (Below.refl _ w).alloc (Nat.le_refl _) _, rfl, by simp⟩
    exact ⟨rfl, .inr ⟨w.heap.size, 1, _, (0, 0), rfl, Nat.le_refl _, _root_.Go.heap_alloc_new w _, by simp, by simp, by simp [maxLen], rfl, rfl⟩⟩
  case round =>
    obtain ⟨k, acc, hk, rfl, hown, hbr, hacc, hal⟩ := hrel
    by_cases hlt : k < l.length
    · have hdk : l.drop k = l[k] :: l.drop (k + 1) := List.drop_eq_getElem_cons hlt
      have HD : Hid (acc ++ (q1 l[k] ++ qbody (l.drop (k + 1))) = [34] ++ qbody l) := by
        rw [hdk] at hacc
        exact hacc
      clear hacc hdk
      have hx : l[k].toNat < 256 := (l[k]).toNat_lt
      go_wp2_with fail
      refine (plain_any _ _).mono ?_
      rintro e w' ⟨rfl, rfl⟩
      cases hpl : plainI l[k].toNat
      · have HP : Hid (q1 l[k] = [92, hexc (l[k].toNat / 16), hexc (l[k].toNat % 16)]) := by
          show q1 l[k] = _
          simp [q1, hpl]
        have hw1 : IntKind.u8.wrap ((l[k].toNat : Int) / 16) = (l[k].toNat : Int) / 16 := wrap_u8 (by omega) (by omega)
        have hw2 : ((l[k].toNat : Int)).tmod 16 = (l[k].toNat : Int) % 16 := Int.tmod_eq_emod_of_nonneg (by omega)
        have hd1 : ((l[k].toNat : Int) / 16) < 16 := by omega
        have hd2 : ((l[k].toNat : Int) % 16) < 16 := by omega
        have hd3 : 0 ≤ ((l[k].toNat : Int) / 16) := by omega
        have hd4 : 0 ≤ ((l[k].toNat : Int) % 16) := by omega
        have e1 : ((l[k].toNat : Int) / 16).toNat = l[k].toNat / 16 := by omega
        have e2 : ((l[k].toNat : Int) % 16).toNat = l[k].toNat % 16 := by omega
        go_wp2_with fail
        go_region_law (refine step_append_ownX rfl (.tmp 22) (.tmp 33) 32 rfl w.heap.size 5 i0 (.int .u8 0) 1 1 Try.underlying32 hi hz0 hz1 hz2 rfl (by decide) u3 acc.length (Lib.byteCells acc) (by simp [Act.eval]) (hown.alloc _) ⟨wr.heap.size, 0, none⟩ 3 3 [.int .u8 92, .int .u8 (hexc (l[k].toNat / 16)).toNat, .int .u8 (hexc (l[k].toNat % 16)).toNat] (by simp [Act.eval]) rfl (new_cells _ _ _) (by simp [Value.oneCell']) (by unfold maxLen; omega) (by omega) (by have := hbr.size; simp; omega) ?_; intro v' w2 hown' hgrow hfr)
        all_goals
          go_wp2
          go_roundw
          case rel =>
            refine ⟨k + 1, acc ++ [92, hexc (l[k].toNat / 16), hexc (l[k].toNat % 16)], by omega, by go_num, ?_, (hbr.drew.alloc hbr.size _).grown hgrow (by have := hbr.size; simp; omega) (fun j hj => (hown.lt j hj).1), by rw [← HD.out, HP.out]; simp, by simp; omega⟩
            rw [Lib.byteCells_append]
            simpa [Lib.byteCells] using hown'
          case measure => simp [intOf]; omega
      · have HP : Hid (q1 l[k] = [l[k]]) := by
          show q1 l[k] = _
          simp [q1, hpl]
        go_wp2_with (at_builtin; refine wpList_append_ownX _ rfl _ _ 32 rfl w.heap.size 5 i0 (.int .u8 0) 1 1 Try.underlying32 hi hz0 hz1 hz2 rfl (by decide) _ _ _ rfl (hown.alloc _) ⟨wr.heap.size, 0, none⟩ 1 1 [.int .u8 (l[k].toNat : Int)] rfl rfl (new_cells _ _ _) (one_cell _ _) ?c3 ?c4 ?c5 ?_)
        case c3 => unfold maxLen; omega
        case c4 => omega
        case c5 => have := hbr.size; simp; omega
        intro v' w2 hown' hgrow hfr
        go_wp2
        go_roundw
        case rel => exact ⟨k + 1, acc ++ [l[k]], by omega, by go_num, by rw [byteCells_snoc]; simpa using hown', (hbr.alloc hbr.size _).grown hgrow (by have := hbr.size; simp; omega) (fun j hj => (hown.lt j hj).1), by rw [← HD.out, HP.out]; simp, by simp; omega⟩
        case measure => simp [intOf]; omega
    · have HD : Hid (acc = [34] ++ qbody l) := by
        have e : l.drop k = [] := List.drop_eq_nil_of_le (by omega)
        rw [e] at hacc
        show acc = _
        simpa [qbody] using hacc
      clear hacc
      go_wp2_with (at_builtin; refine wpList_append_ownX _ rfl _ _ 32 rfl w.heap.size 5 i0 (.int .u8 0) 1 1 Try.underlying32 hi hz0 hz1 hz2 rfl (by decide) _ _ _ rfl (hown.alloc _) ⟨wr.heap.size, 0, none⟩ 1 1 [.int .u8 34] rfl rfl (new_cells _ _ _) (one_cell _ _) ?c3 ?c4 ?c5 ?_)
      case c3 => unfold maxLen; omega
      case c4 => omega
      case c5 => have := hbr.size; simp; omega
      intro v' w2 hown' hgrow hfr
      have hcs := conv_string (P := Try.prog) w2 32 9 5 w.heap.size v' (acc ++ [34]) Try.underlying32 Try.underlying5 Try.underlying9 (by rw [byteCells_snoc]; simpa using hown')
      go_wp2
      go_ret
      rw [HD.out]
      exact ⟨rfl, (hbr.alloc hbr.size _).grown hgrow (by have := hbr.size; simp; omega) (fun j hj => (hown.lt j hj).1)⟩
end Go.Proofs.Ytgiojkhmkeocfaa

/- The reference's Name, Wrong and span of layer 15, walked. -/
namespace Go.Proofs.Ytgiojkhmkeocfaa
open Go.RowKit Go.Proofs.Ytgiojkhmkeocfaa
attribute [local go_sem] no_at

theorem all_drop1 {l : List UInt8} {k : Nat} (hk : k < l.length) : (l.drop k).all nameC = (nameC l[k] && (l.drop (k + 1)).all nameC) := by
  rw [List.drop_eq_getElem_cons hk, List.all_cons]
set_option maxHeartbeats 4000000 in
set_option maxRecDepth 10000 in
theorem rName_f (l : List UInt8) (w : World) (hl : l.length ≤ 1099511627776) (t : List UInt8) (HT : Hid (nameT l = t)) :
    Calls Try.prog 11 #[.string ⟨l.toArray⟩] w fun e w' => e = .returned (.string ⟨t.toArray⟩) ∧ Below w.heap.size w w' := by
  by_cases h0 : l = []
  · have HE : Hid (devN = t) := (by have h := HT.out; unfold nameT at h; rw [if_pos h0] at h; exact h)
    subst h0
    go_enter Try.func11, Try.ntmps11
    go_wp2
    go_ret
    exact ⟨by rw [← HE.out]; rfl, Below.refl _ _⟩
  · have e0 : l.isEmpty = false := (by cases l with | nil => exact absurd rfl h0 | cons _ _ => rfl)
    have hq := refQuote_any l
    obtain ⟨q, hq2⟩ : ∃ q, l.all nameC = q := ⟨_, rfl⟩
    have HA0 : Hid ((l.drop 0).all nameC = q) := hq2
    have HQ : Hid (l.all nameC = q) := hq2
    clear hq2
    go_enter Try.func11, Try.ntmps11
    go_wp2
    go_loopw [3] (fun i wr => ∃ k : Nat, k ≤ l.length ∧ i = .int .i64 k ∧ wr = w ∧ Hid ((l.drop k).all nameC = q)) (fun i _ => l.length - (intOf i).toNat)
    case atStart => exact ⟨0, Nat.zero_le _, by go_num, rfl, HA0⟩
    case round =>
    obtain ⟨k, hk, rfl, rfl, HI⟩ := hrel
    clear HA0
    by_cases hlt : k < l.length
    · have HI2 := HI.out
      rw [all_drop1 hlt] at HI2
      have i1 : (0 : Int) ≤ (k : Int) := by omega
      have i2 : (k : Int) < (l.length : Int) := by omega
      obtain ⟨c, hc⟩ : ∃ c, l[k] = c := ⟨_, rfl⟩
      rw [hc] at HI2
      have hcn := c.toNat_lt
      clear HI
      cases hn : nameC c with
      | true =>
        rw [hn, Bool.true_and] at HI2
        have HI3 : Hid ((l.drop (k + 1)).all nameC = q) := HI2
        have hx := of_decide_eq_true hn
        have j1 : ¬ (c.toNat : Int) < 33 := by omega
        have j2 : ¬ (126 : Int) < (c.toNat : Int) := by omega
        have j3 : ((c.toNat : Int) == 34) = false := beq_eq_false_iff_ne.2 (by omega)
        clear HI2 hn hx
        go_wp2
        exact ⟨⟨k + 1, by omega, by go_num, by first | rfl | trivial, HI3⟩, by simp [intOf]; omega⟩
      | false =>
        rw [hn, Bool.false_and] at HI2
        have HE : Hid (Q.quote l = t) := (by have h := HT.out; unfold nameT at h; rw [if_neg h0, if_neg (fun z => by rw [HQ.out, ← HI2] at z; cases z.1)] at h; exact h)
        have hx := of_decide_eq_false hn
        clear HI2 hn
        by_cases j1 : (c.toNat : Int) < 33
        · clear hx
          go_wp2_with fail
          refine (hq _ hl).mono ?_
          rintro e w1 ⟨rfl, hB⟩
          go_wp2
          go_ret
          exact ⟨by rw [← HE.out]; rfl, hB⟩
        · by_cases j2 : (126 : Int) < (c.toNat : Int)
          · clear hx
            go_wp2_with fail
            refine (hq _ hl).mono ?_
            rintro e w1 ⟨rfl, hB⟩
            go_wp2
            go_ret
            exact ⟨by rw [← HE.out]; rfl, hB⟩
          · have j3 : ((c.toNat : Int) == 34) = true := beq_iff_eq.2 (by omega)
            clear hx
            go_wp2_with fail
            refine (hq _ hl).mono ?_
            rintro e w1 ⟨rfl, hB⟩
            go_wp2
            go_ret
            exact ⟨by rw [← HE.out]; rfl, hB⟩
    · have hqt : q = true := (by
        have h := HI.out
        rw [List.drop_of_length_le (by omega)] at h
        exact h.symm)
      have hend : ¬ (k : Int) < (l.length : Int) := by omega
      clear HI
      by_cases h1 : l = devN
      · have HE : Hid (Q.quote l = t) := (by have h := HT.out; unfold nameT at h; rw [if_neg h0, if_neg (fun z => z.2 h1)] at h; exact h)
        have e1 : (l == [47, 100, 101, 118, 47, 110, 117, 108, 108]) = true := (by rw [beq_iff_eq]; exact h1)
        clear h1
        go_wp2_with fail
        refine (hq _ hl).mono ?_
        rintro e w1 ⟨rfl, hB⟩
        go_wp2
        go_ret
        exact ⟨by rw [← HE.out]; rfl, hB⟩
      · have HE : Hid (l = t) := (by have h := HT.out; unfold nameT at h; rw [if_neg h0, if_pos ⟨by rw [HQ.out, hqt], h1⟩] at h; exact h)
        have e1 : (l == [47, 100, 101, 118, 47, 110, 117, 108, 108]) = false := beq_eq_false_iff_ne.2 h1
        clear h1
        go_wp2
        go_ret
        exact ⟨by rw [← HE.out]; rfl, Below.refl _ _⟩
end Go.Proofs.Ytgiojkhmkeocfaa

/- The plain Unquote of the reference, walked: what it returns is what the plain function unquote says. -/
namespace Go.Proofs.Ytgiojkhmkeocfaa
open Q Go.RowKit Go.Proofs.Ytgiojkhmkeocfaa Go.Shelf
attribute [local go_sem] ba_at ByteArray.extract_mk

theorem digit_same (n : Int) (w : World) : Calls Try.prog 24 #[.int .u8 n] w fun e w' => e = .returned (.int .i64 (digitI n)) ∧ w' = w := (digit_any n w).mono fun _ _ h => ⟨h.1, h.2.symm⟩
theorem plain_same (n : Int) (w : World) : Calls Try.prog 23 #[.int .u8 n] w fun e w' => e = .returned (.bool (plainI n)) ∧ w' = w := (plain_any n w).mono fun _ _ h => ⟨h.1, h.2.symm⟩

set_option maxHeartbeats 4000000 in
set_option maxRecDepth 100000 in
theorem refUnquote_body (L : List UInt8) (w : World) (hl : L.length ≤ 1099511627777) (h0 : 0 < L.length) (h34 : ((L[0].toNat : Int) != 34) = false) (HU : Hid (unquote L = body (L.drop 1))) :
    Calls Try.prog 14 #[.string ⟨L.toArray⟩] w fun e w' => e = .returned (.tuple #[.string ⟨(uqa L).toArray⟩, .string ⟨(uqb L).toArray⟩, .int .i64 (uqe L)]) ∧ Below w.heap.size w w' := by
  obtain ⟨i0, hi, hz0, hz1, hz2⟩ := info_parts infoU8
  have hnb : ((L.length : Int) == 0) = false := beq_eq_false_iff_ne.2 (by omega)
  go_enter Try.func14, Try.ntmps14
  go_wp2
  go_loopw [5, 6] (fun out i wr => ∃ (k : Nat) (acc : List UInt8), 1 ≤ k ∧ k ≤ L.length ∧ i = .int .i64 k ∧ wr.ownsRowF w.heap.size 5 1 out acc.length (Lib.byteCells acc) ∧ Below w.heap.size w wr ∧ body (L.drop 1) = (body (L.drop k)).map (fun p => (acc ++ p.1, p.2)) ∧ acc.length ≤ k) (fun _ i _ => L.length - (intOf i).toNat)
  case atStart => exact ⟨1, [], by omega, by omega, rfl, World.ownsRowF_nil _ _ _ _, Below.refl _ _, by simp, by simp⟩
  case round =>
    obtain ⟨k, acc, hk1, hk, rfl, hown, hbr, hbody, hal⟩ := hrel
    have HB : Hid (body (L.drop 1) = (body (L.drop k)).map (fun p => (acc ++ p.1, p.2))) := hbody
    clear hbody
    by_cases hlt : k < L.length
    · have hdk : L.drop k = L[k] :: L.drop (k + 1) := List.drop_eq_getElem_cons hlt
      have hc := L[k].toNat_lt
      by_cases h34' : L[k].toNat = 34
      · have hb : ((L[k].toNat : Int) == 34) = true := by simp; omega
        have HE : Hid (unquote L = some (acc, L.drop (k + 1))) := by
          show unquote L = _
          rw [HU.out, HB.out, hdk, body_end _ h34']; simp
        clear hdk h34'
        have hcs := fun nq => conv_string (P := Try.prog) (wr.drewN nq) 32 9 5 w.heap.size u5 acc Try.underlying32 Try.underlying5 Try.underlying9 hown
        have hcs2 := conv_string (P := Try.prog) wr.drew 32 9 5 w.heap.size u5 acc Try.underlying32 Try.underlying5 Try.underlying9 hown
        go_wp2_with fail
        go_region
        go_wp2
        go_ret3
        rw [List.take_of_length_le (by simp)]
        exact ⟨ret_uq (uq_some HE.out), hbr.drew⟩
      · have hb : ((L[k].toNat : Int) == 34) = false := by simp; omega
        cases hpl : plainI L[k].toNat
        · by_cases h92 : L[k].toNat = 92
          · have hb2 : ((L[k].toNat : Int) == 92) = true := by simp; omega
            by_cases hk2 : k + 2 < L.length
            · have hdk' : L.drop (k + 1) = L[k + 1] :: L[k + 2] :: L.drop (k + 3) := by
                rw [List.drop_eq_getElem_cons (by omega), List.drop_eq_getElem_cons (by omega)]
              rw [hdk'] at hdk
              have H1 : Hid (pairOk L[k + 1] L[k + 2] = false → unquote L = none) := by
                intro hno
                rw [HU.out, HB.out, hdk, body_pair_no _ h92 hno]; rfl
              have H2 : Hid (pairOk L[k + 1] L[k + 2] = true → body (L.drop 1) = (body (L.drop (k + 3))).map (fun p => (acc ++ [UInt8.ofNat (pairI L[k + 1] L[k + 2]).toNat] ++ p.1, p.2))) := by
                intro hyes
                rw [HB.out, hdk, body_pair _ h92 hyes]; simp [Function.comp_def]
              clear hdk hdk' h92 h34'
              obtain ⟨ha, ha'⟩ := digitI_ge L[k + 1].toNat
              obtain ⟨hb', hb''⟩ := digitI_ge L[k + 2].toNat
              have g1 : (k : Int) + 2 < (L.length : Int) := by omega
              have g2 : (k : Int) + 1 < (L.length : Int) := by omega
              have x1 := fun u : World => idx_str (P := Try.prog) 9 Try.underlying9 L ((k : Int) + 1) (k + 1) (by omega) (by omega) u
              have x2 := fun u : World => idx_str (P := Try.prog) 9 Try.underlying9 L ((k : Int) + 2) (k + 2) (by omega) (by omega) u
              have w1 : IntKind.i64.wrap ((k : Int) + 1) = (k : Int) + 1 := wrap_i64 (by omega) (by omega)
              have w2 : IntKind.i64.wrap ((k : Int) + 2) = (k : Int) + 2 := wrap_i64 (by omega) (by omega)
              by_cases h1 : digitI L[k + 1].toNat < 0
              · have d1 : decide (0 ≤ digitI L[k + 1].toNat) = false := by simp; omega
                go_wp2_with fail
                refine (plain_any _ _).mono ?_
                rintro e w' ⟨rfl, rfl⟩
                go_wp2_with fail
                go_quiet ((first | (go_at_call 24; exact Calls.quiet_of_same (digit_same _ _)) | (go_at_call 23; exact Calls.quiet_of_same (plain_same _ _))))
                go_wp2
                go_ret3
                exact ⟨ret_uq (uq_none (H1.out (pairOk_lo h1))), below_drewN hbr _⟩
              · have d1 : decide (0 ≤ digitI L[k + 1].toNat) = true := by simp; omega
                by_cases h2 : digitI L[k + 2].toNat < 0
                · have d2 : decide (0 ≤ digitI L[k + 2].toNat) = false := by simp; omega
                  go_wp2_with fail
                  refine (plain_any _ _).mono ?_
                  rintro e w' ⟨rfl, rfl⟩
                  go_wp2_with fail
                  go_quiet ((first | (go_at_call 24; exact Calls.quiet_of_same (digit_same _ _)) | (go_at_call 23; exact Calls.quiet_of_same (plain_same _ _))))
                  go_wp2
                  go_ret3
                  exact ⟨ret_uq (uq_none (H1.out (pairOk_hi h2))), below_drewN hbr _⟩
                · have d2 : decide (0 ≤ digitI L[k + 2].toNat) = true := by simp; omega
                  have HM : Hid (pairOk L[k + 1] L[k + 2] = !plainI (16 * digitI L[k + 1].toNat + digitI L[k + 2].toNat)) := pairOk_mid h1 h2
                  have m1 : IntKind.i64.wrap (16 * digitI L[k + 1].toNat) = 16 * digitI L[k + 1].toNat := wrap_i64 (by omega) (by omega)
                  have m2 : IntKind.i64.wrap (16 * digitI L[k + 1].toNat + digitI L[k + 2].toNat) = 16 * digitI L[k + 1].toNat + digitI L[k + 2].toNat := wrap_i64 (by omega) (by omega)
                  have m3 : IntKind.u8.wrap (16 * digitI L[k + 1].toNat + digitI L[k + 2].toNat) = 16 * digitI L[k + 1].toNat + digitI L[k + 2].toNat := wrap_u8 (by omega) (by omega)
                  have m4 : (16 * digitI L[k + 1].toNat + digitI L[k + 2].toNat) % 256 = 16 * digitI L[k + 1].toNat + digitI L[k + 2].toNat := by omega
                  cases hpp : plainI (16 * digitI L[k + 1].toNat + digitI L[k + 2].toNat)
                  · have hyes : pairOk L[k + 1] L[k + 2] = true := by rw [HM.out, hpp]; rfl
                    have H3 := H2.out hyes
                    have HE : Hid (body (L.drop 1) = (body (L.drop (k + 3))).map (fun p => (acc ++ [UInt8.ofNat (pairI L[k + 1] L[k + 2]).toNat] ++ p.1, p.2))) := H3
                    have HV : Hid (((UInt8.ofNat (pairI L[k + 1] L[k + 2]).toNat).toNat : Int) = 16 * digitI L[k + 1].toNat + digitI L[k + 2].toNat) := by
                      have hpb := pairI_byte hyes
                      show ((UInt8.ofNat (pairI L[k + 1] L[k + 2]).toNat).toNat : Int) = pairI L[k + 1] L[k + 2]
                      simp only [UInt8.toNat_ofNat']
                      omega
                    clear H1 H2 H3 HM hyes
                    go_wp2_with fail
                    refine (plain_any _ _).mono ?_
                    rintro e w' ⟨rfl, rfl⟩
                    go_wp2_with fail
                    go_quiet ((first | (go_at_call 24; exact Calls.quiet_of_same (digit_same _ _)) | (go_at_call 23; exact Calls.quiet_of_same (plain_same _ _))))
                    go_wp2_with fail
                    have hown2 : (wr.drewN nq).drew.ownsRowF w.heap.size 5 1 u5 acc.length (Lib.byteCells acc) := hown
                    have hbr2 : Below w.heap.size w (wr.drewN nq).drew := (below_drewN hbr nq).drew
                    generalize wr.drewN nq = wq at hown2 hbr2 ⊢
                    have hbz := hbr2.size
                    go_region_law (first | (refine step_append_ownX rfl (.tmp 88) (.tmp 102) 32 rfl w.heap.size 5 i0 (.int .u8 0) 1 1 Try.underlying32 hi hz0 hz1 hz2 rfl (by decide) u5 acc.length (Lib.byteCells acc) rfl (hown2.alloc _) ⟨wq.heap.size, 0, none⟩ 1 1 [.int .u8 (16 * digitI L[k + 1].toNat + digitI L[k + 2].toNat)] rfl rfl (new_cells _ _ _) (one_cell _ _) (by unfold maxLen; omega) (by omega) (by simp at hbz ⊢; omega) ?_; intro v' w2 hown' hgrow hfr) | (refine step_call1 rfl 24 (.tmp 92) #[5] rfl (enters_of Try.func24 (by kernel_rfl) rfl) (.int .u8 (L[k + 1].toNat : Int)) _ rfl (digit_same _ _) ?_) | (refine step_call1 rfl 24 (.tmp 98) #[5] rfl (enters_of Try.func24 (by kernel_rfl) rfl) (.int .u8 (L[k + 2].toNat : Int)) _ rfl (digit_same _ _) ?_))
                    all_goals
                      go_wp2
                      refine ⟨⟨k + 3, acc ++ [UInt8.ofNat (pairI L[k + 1] L[k + 2]).toNat], by omega, by omega, by go_num, ?_, (hbr2.alloc hbr2.size _).grown hgrow (by simp at hbz ⊢; omega) (fun j hj => (hown2.lt j hj).1), HE.out, by simp; omega⟩, by simp [intOf]; omega⟩
                      rw [byteCells_snoc, HV.out]
                      simpa using hown'
                  · have hno : pairOk L[k + 1] L[k + 2] = false := by rw [HM.out, hpp]; rfl
                    have H3 : Hid (unquote L = none) := H1.out hno
                    clear H1 H2 HM hno
                    go_wp2_with fail
                    refine (plain_any _ _).mono ?_
                    rintro e w' ⟨rfl, rfl⟩
                    go_wp2_with fail
                    go_quiet ((first | (go_at_call 24; exact Calls.quiet_of_same (digit_same _ _)) | (go_at_call 23; exact Calls.quiet_of_same (plain_same _ _))))
                    go_wp2
                    go_ret3
                    exact ⟨ret_uq (uq_none H3.out), below_drewN hbr _⟩
            · have g1 : ¬ (k : Int) + 2 < (L.length : Int) := by omega
              have gd : decide ((k : Int) + 2 < (L.length : Int)) = false := by simp; omega
              have w2 : IntKind.i64.wrap ((k : Int) + 2) = (k : Int) + 2 := wrap_i64 (by omega) (by omega)
              have HE : Hid (unquote L = none) := by
                show unquote L = _
                rw [HU.out, HB.out, hdk, body_none _ h34' hpl (by simp; omega)]; rfl
              clear hdk h92 h34'
              go_wp2_with fail
              refine (plain_any _ _).mono ?_
              rintro e w' ⟨rfl, rfl⟩
              go_wp2_with fail
              go_quiet ((first | (go_at_call 24; exact Calls.quiet_of_same (digit_same _ _)) | (go_at_call 23; exact Calls.quiet_of_same (plain_same _ _))))
              go_wp2
              go_ret3
              exact ⟨ret_uq (uq_none HE.out), below_drewN hbr _⟩
          · have hb2 : ((L[k].toNat : Int) == 92) = false := by simp; omega
            have HE : Hid (unquote L = none) := by
              show unquote L = _
              rw [HU.out, HB.out, hdk, body_none _ h34' hpl (by omega)]; rfl
            clear hdk h92 h34'
            go_wp2_with fail
            refine (plain_any _ _).mono ?_
            rintro e w' ⟨rfl, rfl⟩
            go_wp2_with fail
            go_quiet ((first | (go_at_call 24; exact Calls.quiet_of_same (digit_same _ _)) | (go_at_call 23; exact Calls.quiet_of_same (plain_same _ _))))
            go_wp2
            go_ret3
            exact ⟨ret_uq (uq_none HE.out), below_drewN hbr _⟩
        · have HE : Hid (body (L.drop 1) = (body (L.drop (k + 1))).map (fun p => (acc ++ [L[k]] ++ p.1, p.2))) := by
            show body (L.drop 1) = _
            rw [HB.out, hdk, body_plain _ hpl]; simp [Function.comp_def]
          clear hdk h34'
          go_wp2_with fail
          refine (plain_any _ _).mono ?_
          rintro e w' ⟨rfl, rfl⟩
          go_wp2_with (at_builtin; refine wpList_append_ownX _ rfl _ _ 32 rfl w.heap.size 5 i0 (.int .u8 0) 1 1 Try.underlying32 hi hz0 hz1 hz2 rfl (by decide) _ _ _ rfl (hown.alloc _) ⟨wr.heap.size, 0, none⟩ 1 1 [.int .u8 (L[k].toNat : Int)] rfl rfl (new_cells _ _ _) (one_cell _ _) ?c3 ?c4 ?c5 ?_)
          case c3 => unfold maxLen; omega
          case c4 => omega
          case c5 => have := hbr.size; simp; omega
          intro v' w2 hown' hgrow hfr
          go_wp2
          go_roundw
          case rel => exact ⟨k + 1, acc ++ [L[k]], by omega, by omega, by go_num, by rw [byteCells_snoc]; simpa using hown', (hbr.alloc hbr.size _).grown hgrow (by have := hbr.size; simp; omega) (fun j hj => (hown.lt j hj).1), HE.out, by simp; omega⟩
          case measure => simp [intOf]; omega
    · have HE : Hid (unquote L = none) := by
        show unquote L = _
        rw [HU.out, HB.out, List.drop_eq_nil_of_le (by omega)]; rfl
      go_wp2
      go_ret3
      exact ⟨ret_uq (uq_none HE.out), hbr⟩

set_option maxHeartbeats 1000000 in
theorem refUnquote_any (l : List UInt8) (w : World) (hl : l.length ≤ 1099511627776) :
    Calls Try.prog 14 #[.string ⟨l.toArray⟩] w fun e w' => e = .returned (.tuple #[.string ⟨(uqa l).toArray⟩, .string ⟨(uqb l).toArray⟩, .int .i64 (uqe l)]) ∧ Below w.heap.size w w' := by
  match l, hl with
  | [], _ =>
    go_enter Try.func14, Try.ntmps14
    go_wp2
    go_ret3
    exact ⟨ret_uq (uq_none rfl), Below.refl _ _⟩
  | c :: t, hl =>
    by_cases h : c.toNat = 34
    · have hb : ((c.toNat : Int) != 34) = false := by simp; omega
      have HU : Hid (unquote (c :: t) = body ((c :: t).drop 1)) := by show unquote (c :: t) = body t; simp [unquote, h]
      exact refUnquote_body (c :: t) w (by omega) (by simp) hb HU
    · have hb : ((c.toNat : Int) != 34) = true := by simp; omega
      have hb0 : (((t.length : Int) + 1) == 0) = false := beq_eq_false_iff_ne.2 (by omega)
      have HU : Hid (unquote (c :: t) = none) := by show unquote (c :: t) = none; simp [unquote, h]
      clear h
      go_enter Try.func14, Try.ntmps14
      go_wp2
      go_ret3
      exact ⟨ret_uq (uq_none HU.out), Below.refl _ _⟩
end Go.Proofs.Ytgiojkhmkeocfaa

/- The reference's names of layer 15, read: walked. -/
namespace Go.Proofs.Ytgiojkhmkeocfaa
open Go.RowKit Go.Proofs.Ytgiojkhmkeocfaa
attribute [local go_sem] ByteArray.extract_mk no_at

/-- a fault, unless one stands -/
def flS (e : Int) : Except (Nat × Int) Nat → Except (Nat × Int) Nat
  | .error x => .error x
  | .ok p => .error (p, e)
/-- what a name is read as -/
def nmV (N : Option (List UInt8)) : List UInt8 := N.getD []
def nmE (N : Option (List UInt8)) : Int := if N.isSome = true then 0 else 253
theorem nm_none : nmV none = [] ∧ nmE none = 253 := ⟨rfl, rfl⟩
theorem nm_some (n : List UInt8) : nmV (some n) = n ∧ nmE (some n) = 0 := ⟨rfl, rfl⟩
theorem ret_nm {N : Option (List UInt8)} {v : List UInt8} {e : Int} (h : nmV N = v ∧ nmE N = e) : Ending.returned (.tuple #[.string ⟨v.toArray⟩, .int .i64 e]) = .returned (.tuple #[.string ⟨(nmV N).toArray⟩, .int .i64 (nmE N)]) := by rw [h.1, h.2]
set_option maxHeartbeats 4000000 in
set_option maxRecDepth 10000 in
theorem rNamed_f (s : List UInt8) (hs : s.length ≤ 1099511627776) (w : World) (N : Option (List UInt8)) (HN : Hid (namedP s = N)) :
    Calls Try.prog 9 #[.string ⟨s.toArray⟩] w fun e w' => e = .returned (.tuple #[.string ⟨(nmV N).toArray⟩, .int .i64 (nmE N)]) ∧ Below w.heap.size w w' := by
  by_cases h1 : s = devN
  · subst h1
    have hN : N = some [] := (by rw [← HN.out]; rfl)
    subst hN
    have HT : Hid (nameT [] = devN) := rfl
    clear HN
    go_enter Try.func9, Try.ntmps9
    unfold devN
    go_wp2_with fail
    refine (rName_f [] w (by decide) devN HT).mono ?_
    rintro e w1 ⟨rfl, hB1⟩
    unfold devN
    go_wp2
    go_ret2
    exact ⟨rfl, hB1⟩
  · have e1 : (s == [47, 100, 101, 118, 47, 110, 117, 108, 108]) = false := beq_eq_false_iff_ne.2 h1
    by_cases h0 : s = []
    · subst h0
      have hN : N = none := (by rw [← HN.out]; rfl)
      subst hN
      have HT : Hid (nameT [] = devN) := rfl
      clear HN e1
      go_enter Try.func9, Try.ntmps9
      go_wp2_with fail
      refine (rName_f [] w (by decide) devN HT).mono ?_
      rintro e w1 ⟨rfl, hB1⟩
      unfold devN
      go_wp2
      go_ret2
      exact ⟨ret_nm nm_none, hB1⟩
    · have hps : 0 < s.length := List.length_pos_iff.2 h0
      have hpos : (0 : Int) < (s.length : Int) := by omega
      have hN := HN.out
      unfold namedP unN at hN
      rw [if_neg h1] at hN
      obtain ⟨c, hc⟩ : ∃ c, s[0] = c := ⟨_, rfl⟩
      have hhd : s.head? = some c := (by rw [← hc, List.head?_eq_getElem?, List.getElem?_eq_getElem hps])
      rw [hhd] at hN
      have e0 : s.isEmpty = false := (by cases s with | nil => exact absurd rfl h0 | cons _ _ => rfl)
      clear HN h1 h0 hhd
      by_cases h2 : c = 34
      · have h5 : ((c.toNat : Int) == 34) = true := (by rw [h2]; rfl)
        rw [if_pos (by rw [h2])] at hN
        clear h2
        have hq := refUnquote_any s w hs
        cases hu : Q.unquote s with
        | none =>
          rw [hu] at hN
          subst hN
          have hu2 := Q.uq_none hu
          rw [hu2.1, hu2.2.1, hu2.2.2] at hq
          clear hu hu2
          go_enter Try.func9, Try.ntmps9
          go_wp2_with fail
          refine hq.mono ?_
          rintro e w1 ⟨rfl, hB1⟩
          go_wp2
          go_ret2
          exact ⟨ret_nm nm_none, hB1⟩
        | some z =>
          obtain ⟨n, r⟩ := z
          have hu2 := Q.uq_some hu
          rw [hu2.1, hu2.2.1, hu2.2.2] at hq
          rw [hu] at hN
          clear hu hu2
          cases r with
          | cons d r =>
            subst hN
            go_enter Try.func9, Try.ntmps9
            go_wp2_with fail
            refine hq.mono ?_
            rintro e w1 ⟨rfl, hB1⟩
            go_wp2
            go_ret2
            exact ⟨ret_nm nm_none, hB1⟩
          | nil =>
            dsimp only at hN
            by_cases h3 : n.length ≤ 64
            · obtain ⟨T, hT⟩ : ∃ T, nameT n = T := ⟨_, rfl⟩
              have HT : Hid (nameT n = T) := hT
              rw [hT] at hN
              have j1 : ¬ (64 : Int) < (n.length : Int) := by omega
              clear hT
              by_cases h4 : T = s
              · rw [if_pos ⟨h3, h4⟩] at hN
                subst hN
                have HT2 : Hid (nameT n = s) := (by show _ = _; rw [← h4]; exact HT.out)
                clear h4 HT
                go_enter Try.func9, Try.ntmps9
                go_wp2_with fail
                refine hq.mono ?_
                rintro e w1 ⟨rfl, hB1⟩
                go_wp2_with fail
                refine (rName_f n w1 (by omega) s HT2).mono ?_
                rintro e w2 ⟨rfl, hB2⟩
                go_wp2
                go_ret2
                exact ⟨ret_nm (nm_some n), hB1.trans (hB2.mono hB1.size)⟩
              · rw [if_neg (fun q => h4 q.2)] at hN
                subst hN
                have j2 : (T == s) = false := beq_eq_false_iff_ne.2 h4
                clear h4
                go_enter Try.func9, Try.ntmps9
                go_wp2_with fail
                refine hq.mono ?_
                rintro e w1 ⟨rfl, hB1⟩
                go_wp2_with fail
                refine (rName_f n w1 (by omega) T HT).mono ?_
                rintro e w2 ⟨rfl, hB2⟩
                go_wp2
                go_ret2
                exact ⟨ret_nm nm_none, hB1.trans (hB2.mono hB1.size)⟩
            · rw [if_neg (fun q => h3 q.1)] at hN
              subst hN
              have j1 : (64 : Int) < (n.length : Int) := by omega
              go_enter Try.func9, Try.ntmps9
              go_wp2_with fail
              refine hq.mono ?_
              rintro e w1 ⟨rfl, hB1⟩
              go_wp2
              go_ret2
              exact ⟨ret_nm nm_none, hB1⟩
      · rw [if_neg (fun q => h2 (Option.some.inj q))] at hN
        have h5 : ((c.toNat : Int) == 34) = false := (by
          refine beq_eq_false_iff_ne.2 fun q => h2 ?_
          exact UInt8.toNat_inj.1 (by rw [show (34 : UInt8).toNat = 34 from rfl]; omega))
        clear h2
        dsimp only at hN
        by_cases h3 : s.length ≤ 64
        · obtain ⟨T, hT⟩ : ∃ T, nameT s = T := ⟨_, rfl⟩
          have HT : Hid (nameT s = T) := hT
          rw [hT] at hN
          have j1 : ¬ (64 : Int) < (s.length : Int) := by omega
          clear hT
          by_cases h4 : T = s
          · rw [if_pos ⟨h3, h4⟩] at hN
            subst hN
            have HT2 : Hid (nameT s = s) := (by show _ = _; exact HT.out.trans h4)
            clear h4 HT
            go_enter Try.func9, Try.ntmps9
            go_wp2_with fail
            refine (rName_f s w hs s HT2).mono ?_
            rintro e w2 ⟨rfl, hB2⟩
            go_wp2
            go_ret2
            exact ⟨ret_nm (nm_some _), hB2⟩
          · rw [if_neg (fun q => h4 q.2)] at hN
            subst hN
            have j2 : (T == s) = false := beq_eq_false_iff_ne.2 h4
            clear h4
            go_enter Try.func9, Try.ntmps9
            go_wp2_with fail
            refine (rName_f s w hs T HT).mono ?_
            rintro e w2 ⟨rfl, hB2⟩
            go_wp2
            go_ret2
            exact ⟨ret_nm nm_none, hB2⟩
        · rw [if_neg (fun q => h3 q.1)] at hN
          subst hN
          have j1 : (64 : Int) < (s.length : Int) := by omega
          go_enter Try.func9, Try.ntmps9
          go_wp2
          go_ret2
          exact ⟨ret_nm nm_none, Below.refl _ _⟩
end Go.Proofs.Ytgiojkhmkeocfaa

/- The reference's lines with names of layer 15, read: walked. -/
namespace Go.Proofs.Ytgiojkhmkeocfaa
open Go.RowKit Go.Proofs.Ytgiojkhmkeocfaa
attribute [local go_sem] ByteArray.extract_mk no_at

/-- a line with a name -/
def nmZ (ah : List UInt8) (L : List (List UInt8)) : Except (Nat × Int) Nat → Except (Nat × Int) (List UInt8 × Nat)
  | .error e => .error e
  | .ok p => match namP ah p (L.drop p) with
    | .error e => .error e
    | .ok (n, _) => .ok (n, p + 1)
theorem nmZ_nx {ah : List UInt8} {L : List (List UInt8)} {st : Except (Nat × Int) Nat} : nmZ ah L st = match nxZ L st with
    | .error e => .error e
    | .ok (s, p1) => if ah.isPrefixOf s = true then (match namedP (s.drop 4) with
      | none => .error (p1, 253)
      | some n => .ok (n, p1)) else .error (p1, 3) := by
  cases st with
  | error e => rfl
  | ok p =>
    unfold nmZ nxZ namP
    dsimp only
    cases nxt p (L.drop p) with
    | error e => rfl
    | ok z =>
      obtain ⟨s, r⟩ := z
      dsimp only
      by_cases h : ah.isPrefixOf s = true
      · rw [if_pos h, if_pos h]
        cases namedP (s.drop 4) <;> rfl
      · rw [if_neg h, if_neg h]
end Go.Proofs.Ytgiojkhmkeocfaa

/- The reference's lines with names of layer 16, read: walked. -/
namespace Go.Proofs.Ytgiojkhmkeocfaa
open Go.RowKit Go.Proofs.Ytgiojkhmkeocfaa
attribute [local go_sem] ByteArray.extract_mk no_at

set_option maxHeartbeats 1000000 in
theorem rNamed6_f (s : List UInt8) (hs : s.length ≤ 1099511627776) (w : World) (N : Option (List UInt8)) (HN : Hid (namedP s = N)) :
    Calls Try.prog 5 #[.string ⟨s.toArray⟩] w fun e w' => e = .returned (.tuple #[.string ⟨(nmV N).toArray⟩, .int .i64 (nmE N)]) ∧ Below w.heap.size w w' := by
  have hc := rNamed_f s hs w N HN
  go_enter Try.func5, Try.ntmps5
  go_wp2_with fail
  refine hc.mono ?_
  rintro e w1 ⟨rfl, hB⟩
  go_wp2
  go_ret2
  exact ⟨rfl, hB⟩
end Go.Proofs.Ytgiojkhmkeocfaa
