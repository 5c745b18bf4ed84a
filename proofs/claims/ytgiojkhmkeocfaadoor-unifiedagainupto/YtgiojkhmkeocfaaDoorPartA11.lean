/-
  Texts that belong together, joined: CxM2, CxM3, CxM4, CxM5, CxM6, CxM7, NoPs, NpN, NpX.
-/
import Derived.Test.YtgiojkhmkeocfaaDoorPartA10
import Derived.Test.YtgiojkhmkeocfaaDoorPartA8
import Derived.Lib.OthersKept
import Derived.Laws.RangeAny
import Derived.Lib.IndexAny
import Derived.Deep.QuietTactic
import Derived.BigQuiet

/- The context form: a hunk's sides are read as they were written; plain mathematics. -/
namespace Go.Proofs.YtgiojkhmkeocfaaDoor
open Ln

/-- the kind that a changed line has -/
def kdS (sg : Int) (b : Bool) : UInt8 := if b = true then 33 else UInt8.ofNat sg.toNat
/-- the lines of a side, with their kinds -/
def sdK (sg : Int) : Bool → Bool → List Mk → Sde
  | _, _, [] => []
  | r, a, m :: l => if m.sg = 32 then (32, m.tx) :: sdK sg false false l
    else if m.sg = sg then (kdS sg ((r || anyS 45 (m :: l)) && (a || anyS 43 (m :: l))), m.tx) :: sdK sg (r || decide (m.sg = 45)) (a || decide (m.sg = 43)) l
    else sdK sg (r || decide (m.sg = 45)) (a || decide (m.sg = 43)) l
/-- a side, as lines -/
def sdL (x : Sde) : List (List UInt8) := x.flatMap fun y => lnL [y.1, 32] y.2
theorem sid_sd (sg : Int) (l : List Mk) : ∀ r a, sidL sg r a l = sdL (sdK sg r a l) := by
  induction l with
  | nil => intro r a; rfl
  | cons m l ih =>
    intro r a
    simp only [sidL, sdK]
    split
    · rw [ih]; rfl
    · split
      · rw [ih]
        simp only [sdL, List.flatMap_cons, kdS]
        split <;> rfl
      · exact ih _ _
theorem sd_texts {sg no : Int} (hs : sg = 45 ∧ no = 43 ∨ sg = 43 ∧ no = 45) (l : List Mk) (hl : ∀ m ∈ l, okS m.sg = true) : ∀ r a, (sdK sg r a l).map (·.2) = pkL no l := by
  induction l with
  | nil => intro r a; rfl
  | cons m l ih =>
    intro r a
    have hi := ih fun x hx => hl x (by simp [hx])
    have hm := hl m (by simp)
    have hc : m.sg = 32 ∨ m.sg = 45 ∨ m.sg = 43 := by simp [okS] at hm; omega
    simp only [sdK, pkL]
    by_cases h1 : m.sg = 32
    · rw [if_pos h1, if_pos ⟨by omega, hm⟩, List.map_cons, hi]
    · rw [if_neg h1]
      by_cases h2 : m.sg = sg
      · rw [if_pos h2, if_pos ⟨by omega, hm⟩, List.map_cons, hi]
      · rw [if_neg h2, if_neg (fun q => q.1 (by omega)), hi]
theorem sd_kinds {sg : Int} (l : List Mk) : ∀ r a, ∀ y ∈ sdK sg r a l, y.1 = 32 ∨ y.1 = UInt8.ofNat sg.toNat ∨ y.1 = 33 := by
  induction l with
  | nil => intro r a y hy; cases hy
  | cons m l ih =>
    intro r a y hy
    simp only [sdK] at hy
    split at hy
    · rcases List.mem_cons.1 hy with rfl | hy
      · exact .inl rfl
      · exact ih _ _ y hy
    · split at hy
      · rcases List.mem_cons.1 hy with rfl | hy
        · simp only [kdS]
          split
          · exact .inr (.inr rfl)
          · exact .inr (.inl rfl)
        · exact ih _ _ y hy
      · exact ih _ _ y hy
/-- what may stand behind a side -/
def Beh (sg : UInt8) (rest : List (List UInt8)) : Prop := pkM rest = false ∧ ∀ s r, rest = s :: r → isSd sg s = false
theorem pkM_first {s : List UInt8} {r : List (List UInt8)} {c : UInt8} {t : List UInt8} (h : s = c :: t) (hc : c ≠ 92) : pkM (s :: r) = false := by
  subst h
  simp only [pkM, markT, List.isPrefixOf, Bool.and_eq_false_iff]
  exact .inl (by simpa using fun q => hc q.symm)
theorem sdL_first {x : Sde} {rest : List (List UInt8)} (hx : ∀ y ∈ x, y.1 ≠ 92) (hr : pkM rest = false) : pkM (sdL x ++ rest) = false := by
  cases x with
  | nil => exact hr
  | cons y x =>
    have h := hx y (by simp)
    simp only [sdL, List.flatMap_cons, lnL]
    split
    · exact pkM_first rfl h
    · exact pkM_first rfl h
theorem rd_side {sg : UInt8} (hsg : sg ≠ 92) (x : Sde) : ∀ (p : Nat) (rest : List (List UInt8)), (∀ y ∈ x, (y.1 = 32 ∨ y.1 = sg ∨ y.1 = 33) ∧ linB y.2 = true) → abl (x.map (·.2)) = true → Beh sg rest → rdS sg p (sdL x ++ rest) = .ok (x, p + (sdL x).length, rest) := by
  induction x with
  | nil =>
    intro p rest _ _ hb
    cases rest with
    | nil => rfl
    | cons s r =>
      simp only [sdL, List.flatMap_nil, List.nil_append, rdS]
      rw [if_neg (by rw [hb.2 s r rfl]; decide)]
      rfl
  | cons y x ih =>
    intro p rest hx ha hb
    obtain ⟨hy, hlin⟩ := hx y (by simp)
    have hk92 : ∀ z ∈ x, z.1 ≠ 92 := by
      intro z hz e
      rcases (hx z (by simp [hz])).1 with h | h | h
      · rw [h] at e; exact absurd e (by decide)
      · rw [h] at e; exact hsg e
      · rw [h] at e; exact absurd e (by decide)
    have hne : y.2 ≠ [] := by
      intro e
      rw [e] at hlin
      exact absurd hlin (by decide)
    have hsd : ∀ t : List UInt8, isSd sg (y.1 :: 32 :: t) = true := by
      intro t
      simp only [isSd, Bool.and_eq_true, Bool.or_eq_true, beq_iff_eq]
      exact ⟨by rcases hy with h | h | h <;> simp [h], trivial⟩
    simp only [List.map_cons, abl, Bool.and_eq_true, Bool.or_eq_true] at ha
    by_cases hf : fdB y.2 = true
    · have e1 : sdL (y :: x) ++ rest = (y.1 :: 32 :: y.2) :: (sdL x ++ rest) := by
        simp [sdL, lnL, hf]
      have e2 : (sdL (y :: x)).length = 1 + (sdL x).length := by
        simp only [sdL, List.flatMap_cons, List.length_append]
        rw [lnL, if_pos hf]
        rfl
      have hfs : fdB (y.1 :: 32 :: y.2) = true := by
        unfold fdB at hf ⊢
        have : (y.1 :: 32 :: y.2).getLast? = y.2.getLast? := by
          cases hq : y.2 with
          | nil => exact absurd hq hne
          | cons c t => simp [List.getLast?_cons_cons]
        rw [this]
        exact hf
      rw [e1, e2]
      simp only [rdS]
      rw [if_pos (hsd _), if_pos hfs, if_neg (fun q => by rw [sdL_first hk92 hb.1] at q; exact absurd q.1 (by decide)), ih (p + 1) rest (fun z hz => hx z (by simp [hz])) ha.2 hb]
      simp only [List.headD_cons, List.drop_succ_cons, List.drop_zero]
      congr 3
      omega
    · have hx0 : x = [] := by
        rcases ha.1 with h | h
        · simpa using h
        · exact absurd h hf
      subst hx0
      have e1 : sdL [y] ++ rest = (y.1 :: 32 :: (y.2 ++ [10])) :: markT :: rest := by
        simp [sdL, lnL, hf]
      have e2 : (sdL [y]).length = 2 := by
        simp [sdL, lnL, hf]
      have hfs : fdB (y.1 :: 32 :: (y.2 ++ [10])) = true := fd_snoc (y.1 :: 32 :: y.2)
      have hl : 0 < y.2.length := List.length_pos_iff.2 hne
      rw [e1, e2]
      simp only [rdS]
      rw [if_pos (hsd _), if_pos hfs, if_pos ⟨by simp [pkM], by simp only [List.length_cons, List.length_append]; omega⟩]
      simp
theorem any_app {sg : Int} {R : List Mk} {s : Int} (hs : s ≠ 32) (hR : AllS s R) (t : List Mk) : anyS sg (R ++ t) = (decide (R ≠ [] ∧ s = sg) || anyS sg t) := by
  induction R with
  | nil => simp
  | cons m R ih =>
    have hm := hR m (by simp)
    have hi := ih fun x hx => hR x (by simp [hx])
    simp only [List.cons_append, anyS]
    rw [if_neg (by omega), hi, hm]
    by_cases h : s = sg <;> simp [h]
end Go.Proofs.YtgiojkhmkeocfaaDoor

/- The context form: both sides of a hunk are laid into one list again; a hunk is read as it was written; plain mathematics. -/
namespace Go.Proofs.YtgiojkhmkeocfaaDoor
open Ln

/-- a piece's end: nothing, or a line that is kept -/
def Pe (t : List Mk) : Prop := t = [] ∨ ∃ m r, t = m :: r ∧ m.sg = 32
theorem any_pe {sg : Int} {t : List Mk} (h : Pe t) : anyS sg t = false := by
  rcases h with rfl | ⟨m, r, rfl, hm⟩
  · rfl
  · simp [anyS, hm]
theorem sdK_in {sg no : Int} (hs : sg = 45 ∧ no = 43 ∨ sg = 43 ∧ no = 45) {R : List Mk} (hR : AllS sg R) (t : List Mk) : ∀ r a, sdK sg r a (R ++ t) = R.map (fun m => (kdS sg (if sg = 45 then a || anyS 43 t else r || anyS 45 t), m.tx)) ++ sdK sg (r || decide (R ≠ [] ∧ sg = 45)) (a || decide (R ≠ [] ∧ sg = 43)) t := by
  induction R with
  | nil => intro r a; simp
  | cons m R ih =>
    intro r a
    have hm := hR m (by simp)
    have hR2 : AllS sg R := fun x hx => hR x (by simp [hx])
    have hi := ih hR2
    simp only [List.cons_append, sdK, List.map_cons]
    rw [if_neg (by omega), if_pos hm, hi]
    have h1 : anyS sg (m :: (R ++ t)) = true := by
      simp only [anyS]
      rw [if_neg (by omega)]
      simp [hm]
    have h2 : anyS no (m :: (R ++ t)) = anyS no t := by
      simp only [anyS]
      rw [if_neg (by omega), any_app (by omega) hR2]
      have e1 : decide (m.sg = no) = false := decide_eq_false (by omega)
      have e2 : decide (R ≠ [] ∧ sg = no) = false := decide_eq_false (by omega)
      rw [e1, e2]
      simp
    rcases hs with ⟨rfl, rfl⟩ | ⟨rfl, rfl⟩
    · rw [h1, h2, hm]
      cases r <;> cases a <;> simp
    · rw [h1, h2, hm]
      cases r <;> cases a <;> simp
theorem sdK_out {sg no : Int} (hs : sg = 45 ∧ no = 43 ∨ sg = 43 ∧ no = 45) {R : List Mk} (hR : AllS no R) (t : List Mk) : ∀ r a, sdK sg r a (R ++ t) = sdK sg (r || decide (R ≠ [] ∧ no = 45)) (a || decide (R ≠ [] ∧ no = 43)) t := by
  induction R with
  | nil => intro r a; simp
  | cons m R ih =>
    intro r a
    have hm := hR m (by simp)
    have hi := ih fun x hx => hR x (by simp [hx])
    simp only [List.cons_append, sdK]
    rw [if_neg (by omega), if_neg (by omega), hi, hm]
    rcases hs with ⟨rfl, rfl⟩ | ⟨rfl, rfl⟩
    · cases r <;> cases a <;> simp
    · cases r <;> cases a <;> simp
theorem sdK_pe {sg : Int} {t : List Mk} (h : Pe t) (r a : Bool) : sdK sg r a t = sdK sg false false t := by
  rcases h with rfl | ⟨m, u, rfl, hm⟩
  · rfl
  · simp [sdK, hm]
theorem chg_app {X Y : Sde} (hX : ∀ y ∈ X, y.1 ≠ 32) (hY : Y = [] ∨ ∃ s Z, Y = (32, s) :: Z) : chgS (X ++ Y) = X ∧ rstS (X ++ Y) = Y := by
  induction X with
  | nil =>
    rcases hY with rfl | ⟨s, Z, rfl⟩
    · exact ⟨rfl, rfl⟩
    · exact ⟨by simp [chgS], by simp [rstS]⟩
  | cons y X ih =>
    have h := hX y (by simp)
    obtain ⟨i1, i2⟩ := ih fun z hz => hX z (by simp [hz])
    have hb : (y.1 != 32) = true := by simpa using h
    constructor
    · simp only [chgS, List.cons_append, List.takeWhile_cons, hb, if_true]
      exact congrArg _ i1
    · simp only [rstS, List.cons_append, List.dropWhile_cons, hb, if_true]
      exact i2
theorem mkS_map {s : Int} {R : List Mk} (h : AllS s R) (k : UInt8) : mkS s (R.map fun m => (k, m.tx)) = R := by
  induction R with
  | nil => rfl
  | cons m R ih =>
    have hm := h m (by simp)
    have hi := ih fun x hx => h x (by simp [hx])
    simp only [mkS, List.map_cons, List.map_map] at hi ⊢
    rw [hi]
    cases m
    simp only at hm
    rw [hm]
theorem kds_ne {sg : Int} (hs : sg = 45 ∨ sg = 43) (b : Bool) : kdS sg b ≠ 32 := by
  rcases hs with rfl | rfl <;> cases b <;> decide
theorem okJ_map (R A : List Mk) : okJ (R.map fun m => (kdS 45 (decide (A ≠ [])), m.tx)) (A.map fun m => (kdS 43 (decide (R ≠ [])), m.tx)) = true := by
  unfold okJ
  cases R with
  | nil =>
    cases A with
    | nil => rfl
    | cons b A =>
      rw [if_neg (by simp)]
      simp [allS, kdS]
  | cons m R =>
    cases A with
    | nil =>
      rw [if_neg (by simp)]
      simp [allS, kdS]
    | cons b A =>
      rw [if_pos (by simp)]
      simp [allS, kdS]
/-- both sides of lines in order are these lines again -/
theorem jn_back (n : Nat) : ∀ (l : List Mk) (f : Nat), l.length ≤ n → Nf false l → (∀ m ∈ l, okS m.sg = true) → (sdK 45 false false l).length < f → jnS f (sdK 45 false false l) (sdK 43 false false l) = some l := by
  induction n with
  | zero =>
    intro l f hn _ _ hf
    have : l = [] := List.length_eq_zero_iff.1 (by omega)
    subst this
    cases f with
    | zero => exact absurd hf (by omega)
    | succ f => rfl
  | succ n ih =>
    intro l f hn hN ho hf
    obtain ⟨R, A, t, rfl, hR, hA, ht⟩ := nf_false hN
    have hP : Pe t := by
      rcases ht with h | ⟨m, r, h, h1, h2, _⟩
      · exact .inl h
      · refine .inr ⟨m, r, h, ?_⟩
        have := ho m (by simp [h])
        simp [okS] at this
        omega
    have e1 : sdK 45 false false (R ++ (A ++ t)) = R.map (fun m => (kdS 45 (decide (A ≠ [])), m.tx)) ++ sdK 45 false false t := by
      rw [sdK_in (.inl ⟨rfl, rfl⟩) hR, sdK_out (.inl ⟨rfl, rfl⟩) hA, sdK_pe hP, any_app (by omega) hA, any_pe hP]
      simp
    have e2 : sdK 43 false false (R ++ (A ++ t)) = A.map (fun m => (kdS 43 (decide (R ≠ [])), m.tx)) ++ sdK 43 false false t := by
      rw [sdK_out (.inr ⟨rfl, rfl⟩) hR, sdK_in (.inr ⟨rfl, rfl⟩) hA, sdK_pe hP]
      simp [any_pe hP]
    have hX : ∀ y ∈ R.map (fun m => (kdS 45 (decide (A ≠ [])), m.tx)), y.1 ≠ 32 := by
      intro y hy
      obtain ⟨m, _, rfl⟩ := List.mem_map.1 hy
      exact kds_ne (.inl rfl) _
    have hY : ∀ y ∈ A.map (fun m => (kdS 43 (decide (R ≠ [])), m.tx)), y.1 ≠ 32 := by
      intro y hy
      obtain ⟨m, _, rfl⟩ := List.mem_map.1 hy
      exact kds_ne (.inr rfl) _
    cases f with
    | zero => exact absurd hf (by omega)
    | succ f =>
      rw [e1, e2]
      rw [e1] at hf
      rcases ht with rfl | ⟨m, r, rfl, h1, h2, hNr⟩
      · obtain ⟨c1, c2⟩ := chg_app hX (.inl rfl : ([] : Sde) = [] ∨ _)
        obtain ⟨c3, c4⟩ := chg_app hY (.inl rfl : ([] : Sde) = [] ∨ _)
        simp only [sdK]
        rw [jnS, c1, c3, okJ_map, if_pos rfl, c2, c4]
        simp only
        rw [mkS_map hR, mkS_map hA]
        simp
      · have hm : m.sg = 32 := by
          have := ho m (by simp)
          simp [okS] at this
          omega
        have s1 : ∀ sg, sdK sg false false (m :: r) = (32, m.tx) :: sdK sg false false r := by
          intro sg
          simp [sdK, hm]
        rw [s1, s1]
        rw [s1] at hf
        obtain ⟨c1, c2⟩ := chg_app hX (.inr ⟨m.tx, sdK 45 false false r, rfl⟩)
        obtain ⟨c3, c4⟩ := chg_app hY (.inr ⟨m.tx, sdK 43 false false r, rfl⟩)
        rw [jnS, c1, c3, okJ_map, if_pos rfl, c2, c4]
        simp only [if_true]
        simp only [List.length_append, List.length_cons] at hn hf
        rw [ih r f (by omega) hNr (fun x hx => ho x (by simp [hx])) (by omega)]
        simp only
        rw [mkS_map hR, mkS_map hA]
        cases m
        simp only at hm
        rw [hm]
/-- the lines that are kept, where a side is not changed -/
theorem kept_sd {sg no : Int} (hs : sg = 45 ∧ no = 43 ∨ sg = 43 ∧ no = 45) (l : List Mk) (ho : ∀ m ∈ l, okS m.sg = true) (hn : (l.any fun m => decide (m.sg = sg)) = false) : ∀ r a r2 a2, keptS (sdK no r a l) = sdK sg r2 a2 l := by
  induction l with
  | nil => intro r a r2 a2; rfl
  | cons m l ih =>
    intro r a r2 a2
    simp only [List.any_cons, Bool.or_eq_false_iff, decide_eq_false_iff_not] at hn
    have hi := ih (fun x hx => ho x (by simp [hx])) hn.2
    have hm := ho m (by simp)
    have hc : m.sg = 32 ∨ m.sg = 45 ∨ m.sg = 43 := by simp [okS] at hm; omega
    simp only [sdK]
    by_cases h1 : m.sg = 32
    · rw [if_pos h1, if_pos h1]
      have := hi false false false false
      simp only [keptS] at this ⊢
      rw [List.filter_cons_of_pos (by rfl), this]
    · rw [if_neg h1, if_neg h1, if_pos (by omega : m.sg = no), if_neg hn.1]
      have hk := kds_ne (sg := no) (by omega) ((r || anyS 45 (m :: l)) && (a || anyS 43 (m :: l)))
      have := hi (r || decide (m.sg = 45)) (a || decide (m.sg = 43)) (r2 || decide (m.sg = 45)) (a2 || decide (m.sg = 43))
      simp only [keptS] at this ⊢
      rw [List.filter_cons_of_neg (by simpa using hk), this]
theorem sd_any {sg : Int} (l : List Mk) (hs : sg = 45 ∨ sg = 43) : ∀ r a, sameS (sdK sg r a l) = !(l.any fun m => decide (m.sg = sg)) := by
  induction l with
  | nil => intro r a; rfl
  | cons m l ih =>
    intro r a
    simp only [sdK, List.any_cons]
    by_cases h1 : m.sg = 32
    · have : decide (m.sg = sg) = false := decide_eq_false (by omega)
      rw [if_pos h1, this]
      have := ih false false
      simp only [sameS] at this ⊢
      simp [this]
    · rw [if_neg h1]
      by_cases h2 : m.sg = sg
      · have hk := kds_ne hs ((r || anyS 45 (m :: l)) && (a || anyS 43 (m :: l)))
        rw [if_pos h2, decide_eq_true h2]
        simp only [sameS, List.all_cons]
        have : (kdS sg ((r || anyS 45 (m :: l)) && (a || anyS 43 (m :: l))) == 32) = false := by simpa using hk
        rw [this]
        rfl
      · rw [if_neg h2, decide_eq_false h2]
        have := ih (r || decide (m.sg = 45)) (a || decide (m.sg = 43))
        rw [this]
        simp
end Go.Proofs.YtgiojkhmkeocfaaDoor

/- The context form: hunks and patches are read as they were written; plain mathematics. -/
namespace Go.Proofs.YtgiojkhmkeocfaaDoor
open Ln

/-- a hunk that is read as it was -/
structure Gh (h : Hk) : Prop where
  chk : chkH h = 0
  nf : Nf false h.ls
  ea : 2 ≤ h.AN → h.A + h.AN - 1 ≤ 2147483647
  eb : 2 ≤ h.BN → h.B + h.BN - 1 ≤ 2147483647
theorem chk_out {h : Hk} (hc : chkH h = 0) : rngB h = true ∧ fldB h.ls = true ∧ h.AN = (oldL h).length ∧ h.BN = (newL h).length ∧ (h.ls.all fun m => decide (m.sg = 32)) = false := by
  unfold chkH at hc
  split at hc
  · cases hc
  · rename_i h1
    split at hc
    · cases hc
    · rename_i h2
      split at hc
      · cases hc
      · rename_i h3
        split at hc
        · cases hc
        · rename_i h4
          refine ⟨by simpa using h1, by simpa using h2, ?_, ?_, by simpa using h4⟩ <;> omega
theorem rng_out {h : Hk} (hr : rngB h = true) : 0 ≤ h.A ∧ h.A ≤ 2147483647 ∧ 0 ≤ h.AN ∧ 0 ≤ h.B ∧ h.B ≤ 2147483647 ∧ 0 ≤ h.BN ∧ (h.A = 0 → h.AN ≤ 0) ∧ (h.B = 0 → h.BN ≤ 0) := by
  simp [rngB, nat31] at hr
  omega
/-- a side as it is written -/
def sdF (sg : Int) (l : List Mk) : Sde := if (l.any fun m => decide (m.sg = sg)) = true then sdK sg false false l else []
theorem side_sd (sg : Int) (l : List Mk) : sideL sg l = sdL (sdF sg l) := by
  unfold sideL sdF
  split
  · exact sid_sd sg l false false
  · rfl
theorem same_ne {x : Sde} (h : sameS x = false) : x ≠ [] := by
  intro e
  subst e
  cases h
theorem cx_pk {no : Int} {l : List Mk} {t : List UInt8} (h : t ∈ pkL no l) : ∃ m ∈ l, m.tx = t := by
  induction l with
  | nil => cases h
  | cons m l ih =>
    simp only [pkL] at h
    split at h
    · rcases List.mem_cons.1 h with h | h
      · exact ⟨m, by simp, h.symm⟩
      · obtain ⟨x, hx, e⟩ := ih h
        exact ⟨x, by simp [hx], e⟩
    · obtain ⟨x, hx, e⟩ := ih h
      exact ⟨x, by simp [hx], e⟩
theorem rd_sdF {sg no : Int} {c : UInt8} (hc : UInt8.ofNat sg.toNat = c) (h92 : c ≠ 92) (hs : sg = 45 ∧ no = 43 ∨ sg = 43 ∧ no = 45) {l : List Mk} (hl : ∀ m ∈ l, linB m.tx = true ∧ okS m.sg = true) (ha : abl (pkL no l) = true) (p : Nat) {rest : List (List UInt8)} (hb : Beh c rest) : rdS c p (sideL sg l ++ rest) = .ok (sdF sg l, p + (sideL sg l).length, rest) := by
  rw [side_sd]
  refine rd_side h92 (sdF sg l) p rest ?_ ?_ hb
  · intro y hy
    unfold sdF at hy
    split at hy
    · refine ⟨?_, ?_⟩
      · have := sd_kinds l false false y hy
        rw [hc] at this
        exact this
      · have h1 : y.2 ∈ (sdK sg false false l).map (·.2) := List.mem_map.2 ⟨y, hy, rfl⟩
        rw [sd_texts hs l (fun m hm => (hl m hm).2)] at h1
        obtain ⟨m, hm, e⟩ := cx_pk h1
        rw [← e]
        exact (hl m hm).1
    · cases hy
  · unfold sdF
    split
    · rw [sd_texts hs l (fun m hm => (hl m hm).2)]
      exact ha
    · rfl
theorem cx_fill {l : List Mk} (ho : ∀ m ∈ l, okS m.sg = true) (hn : (l.all fun m => decide (m.sg = 32)) = false) : oldF (sdF 45 l) (sdF 43 l) = sdK 45 false false l ∧ newF (sdF 45 l) (sdF 43 l) = sdK 43 false false l ∧ ¬ (sameS (sdF 45 l) = true ∧ sameS (sdF 43 l) = true) := by
  have k45 := sd_any (sg := 45) l (.inl rfl) false false
  have k43 := sd_any (sg := 43) l (.inr rfl) false false
  cases h45 : l.any fun m => decide (m.sg = 45) with
  | true =>
    rw [h45] at k45
    have hne := same_ne (x := sdK 45 false false l) (by rw [k45]; rfl)
    have e : sdF 45 l = sdK 45 false false l := by unfold sdF; rw [if_pos h45]
    rw [e]
    refine ⟨by unfold oldF; rw [if_neg hne], ?_, fun q => by rw [k45] at q; exact absurd q.1 (by decide)⟩
    cases h43 : l.any fun m => decide (m.sg = 43) with
    | true =>
      rw [h43] at k43
      have hne2 := same_ne (x := sdK 43 false false l) (by rw [k43]; rfl)
      have e2 : sdF 43 l = sdK 43 false false l := by unfold sdF; rw [if_pos h43]
      rw [e2]
      unfold newF
      rw [if_neg (fun q => hne2 q.2)]
    | false =>
      have e2 : sdF 43 l = [] := by unfold sdF; rw [if_neg (by rw [h43]; decide)]
      rw [e2]
      unfold newF
      rw [if_pos ⟨hne, rfl⟩]
      exact kept_sd (.inr ⟨rfl, rfl⟩) l ho h43 _ _ _ _
  | false =>
    have h43 : (l.any fun m => decide (m.sg = 43)) = true := by
      cases h43 : l.any fun m => decide (m.sg = 43) with
      | true => rfl
      | false =>
        exfalso
        have : (l.all fun m => decide (m.sg = 32)) = true := by
          rw [List.all_eq_true]
          intro m hm
          have h1 := ho m hm
          have h2 := List.any_eq_false.1 h45 m hm
          have h3 := List.any_eq_false.1 h43 m hm
          simp [okS] at h1 h2 h3 ⊢
          omega
        rw [this] at hn
        cases hn
    rw [h43] at k43
    have e : sdF 45 l = [] := by unfold sdF; rw [if_neg (by rw [h45]; decide)]
    have e2 : sdF 43 l = sdK 43 false false l := by unfold sdF; rw [if_pos h43]
    rw [e, e2]
    refine ⟨?_, by unfold newF; rw [if_neg (fun q => q.1 rfl)], fun q => by rw [k43] at q; exact absurd q.2 (by decide)⟩
    unfold oldF
    rw [if_pos rfl]
    exact kept_sd (.inl ⟨rfl, rfl⟩) l ho h45 _ _ _ _
theorem cnt_say {n : Int} {x : Sde} (h : n = x.length) : cntS (sayN n) x = false := by
  unfold cntS sayN
  refine decide_eq_false ?_
  split <;> omega
theorem rl_beh {sg e : UInt8} {p n : Int} (he : e ≠ 92) (h32 : e ≠ 32) (r : List (List UInt8)) : Beh sg (rlT e p n :: r) := by
  refine ⟨pkM_first (t := e :: e :: 32 :: (spanT p n ++ [32, e, e, e, e, 10])) (by simp [rlT]) he, ?_⟩
  intro s q hq
  cases hq
  have : rlT e p n = e :: e :: (e :: 32 :: (spanT p n ++ [32, e, e, e, e, 10])) := by simp [rlT]
  rw [this]
  simp [isSd, h32]
theorem nxt_feed {s : List UInt8} (p : Nat) (r : List (List UInt8)) : nxt p ((s ++ [10]) :: r) = .ok (s, r) := by
  simp only [nxt, fd_snoc, if_true, List.dropLast_concat]
/-- a hunk is read as it was written -/
theorem cxh_back {h : Hk} (g : Gh h) {k : Nat} (hk : k < 4096) (p : Nat) {rest : List (List UInt8)} (hb : Beh 43 rest) : cxH k p (hkL h ++ rest) = .ok (h, p + (hkL h).length, rest) := by
  obtain ⟨c1, c2, c3, c4, c5⟩ := chk_out g.chk
  obtain ⟨r1, r2, r3, r4, r5, r6, r7, r8⟩ := rng_out c1
  obtain ⟨f1, f2, f3⟩ := (fld_iff h.ls).1 c2
  obtain ⟨q1, q2, q3⟩ := cx_fill (fun m hm => (f1 m hm).2) c5
  have l1 : (sdK 45 false false h.ls).length = (oldL h).length := by
    have := congrArg List.length (sd_texts (.inl ⟨rfl, rfl⟩) h.ls (fun m hm => (f1 m hm).2) false false)
    rw [List.length_map] at this
    exact this
  have l2 : (sdK 43 false false h.ls).length = (newL h).length := by
    have := congrArg List.length (sd_texts (.inr ⟨rfl, rfl⟩) h.ls (fun m hm => (f1 m hm).2) false false)
    rw [List.length_map] at this
    exact this
  have e0 : hkL h ++ rest = (starsT ++ [10]) :: rlT 42 h.A h.AN :: (sideL 45 h.ls ++ (rlT 45 h.B h.BN :: (sideL 43 h.ls ++ rest))) := by
    simp [hkL]
  have e1 : (hkL h).length = 3 + (sideL 45 h.ls).length + (sideL 43 h.ls).length := by
    simp only [hkL, List.length_cons, List.length_append]
    omega
  have hfin : finH (p + 1) (p + 2) (p + 2 + (sideL 45 h.ls).length + 1) h.A (sayN h.AN) h.B (sayN h.BN) (sdF 45 h.ls) (sdF 43 h.ls) = .ok h := by
    unfold finH
    rw [if_neg q3, q1, q2]
    rw [if_neg (by rw [cnt_say (by omega)]; decide), if_neg (by rw [cnt_say (by omega)]; decide)]
    rw [if_neg, if_neg]
    · rw [jn_back h.ls.length h.ls _ (Nat.le_refl _) g.nf (fun m hm => (f1 m hm).2) (by omega)]
      simp only
      have a1 : ((sdK 45 false false h.ls).length : Int) = h.AN := by omega
      have a2 : ((sdK 43 false false h.ls).length : Int) = h.BN := by omega
      rw [a1, a2]
    · rintro ⟨x, y⟩
      have := List.length_pos_iff.2 y
      have := r8 x
      omega
    · rintro ⟨x, y⟩
      have := List.length_pos_iff.2 y
      have := r7 x
      omega
  unfold cxH
  rw [e0, nxt_feed]
  simp only
  rw [if_pos (by decide), if_neg (by omega)]
  rw [rl_back (p + 1) r1 (fun x => by omega) r2 g.ea]
  simp only
  rw [rd_sdF (c := 45) rfl (by decide) (.inl ⟨rfl, rfl⟩) f1 f2 (p + 2) (rl_beh (by decide) (by decide) _)]
  simp only
  rw [rl_back _ r4 (fun x => by omega) r5 g.eb]
  simp only
  rw [rd_sdF (c := 43) rfl (by decide) (.inr ⟨rfl, rfl⟩) f1 f3 _ hb]
  simp only
  rw [hfin]
  simp only
  rw [e1]
  congr 3
  omega
end Go.Proofs.YtgiojkhmkeocfaaDoor

/- The context form: patches are read as they were written; plain mathematics. -/
namespace Go.Proofs.YtgiojkhmkeocfaaDoor
open Ln

/-- a patch that is read as it was -/
structure Gp (p : Pth) : Prop where
  ne : p.hs ≠ []
  old : p.old.length ≤ 64
  new : p.new.length ≤ 64
  few : p.hs.length ≤ 4096
  gd : ∀ h ∈ p.hs, Gh h
theorem stars_beh {sg : UInt8} (h : Hk) (r : List (List UInt8)) : Beh sg (hkL h ++ r) := by
  refine ⟨rfl, ?_⟩
  intro s q hq
  simp only [hkL, List.cons_append, List.cons.injEq] at hq
  rw [← hq.1]
  simp [starsT, isSd]
theorem cxhs_back (hs : List Hk) : ∀ (f k p : Nat) (rest : List (List UInt8)), hs ≠ [] → (∀ h ∈ hs, Gh h) → k + hs.length ≤ 4096 → hs.length ≤ f → Beh 43 rest → pkS rest = false → cxHs f k p (hs.flatMap hkL ++ rest) = .ok (hs, p + (hs.flatMap hkL).length, rest) := by
  induction hs with
  | nil => intro f k p rest h; exact absurd rfl h
  | cons h hs ih =>
    intro f k p rest _ hg hk hf hb hr
    cases f with
    | zero => exact absurd hf (by simp)
    | succ f =>
      simp only [List.length_cons] at hk hf
      have hgh := hg h (by simp)
      simp only [List.flatMap_cons, List.append_assoc, cxHs]
      cases hs with
      | nil =>
        simp only [List.flatMap_nil, List.nil_append, List.append_nil]
        rw [cxh_back hgh (by omega) p hb]
        simp only
        rw [if_neg (by rw [hr]; decide)]
      | cons h2 hs =>
        have hi := ih f (k + 1) (p + (hkL h).length) rest (by simp) (fun x hx => hg x (by simp [hx])) (by omega) (by omega) hb hr
        have hb2 : Beh 43 ((h2 :: hs).flatMap hkL ++ rest) := by
          rw [List.flatMap_cons, List.append_assoc]
          exact stars_beh h2 _
        rw [cxh_back hgh (by omega) p hb2]
        simp only
        have hp : pkS ((h2 :: hs).flatMap hkL ++ rest) = true := rfl
        rw [if_pos hp, hi]
        simp only [List.length_append]
        congr 3
        omega
theorem name_back {ah n : List UInt8} (hn : n.length ≤ 64) (h4 : ah.length = 4) (p : Nat) (r : List (List UInt8)) : namP ah p ((ah ++ nameT n ++ [10]) :: r) = .ok (n, r) := by
  unfold namP
  rw [nxt_feed]
  simp only
  rw [if_pos (by rw [List.isPrefixOf_iff_prefix]; exact List.prefix_append _ _)]
  have : (ah ++ nameT n).drop 4 = nameT n := by rw [← h4, List.drop_left]
  rw [this, (named_iff (nameT n) n).2 ⟨rfl, hn⟩]
theorem pt_lines {p : Pth} (h : p.hs ≠ []) : ptL p = ([42, 42, 42, 32] ++ nameT p.old ++ [10]) :: ([45, 45, 45, 32] ++ nameT p.new ++ [10]) :: p.hs.flatMap hkL := by
  unfold ptL
  rw [if_neg h]
theorem pts_beh {L : List Pth} (h : ∀ p ∈ L, Gp p) : Beh 43 (L.flatMap ptL) ∧ pkS (L.flatMap ptL) = false := by
  cases L with
  | nil => exact ⟨⟨rfl, fun s r q => by cases q⟩, rfl⟩
  | cons p L =>
    rw [List.flatMap_cons, pt_lines (h p (by simp)).ne]
    refine ⟨⟨rfl, ?_⟩, rfl⟩
    intro s r q
    simp only [List.cons_append, List.cons.injEq] at q
    rw [← q.1]
    simp [isSd]
theorem hk_few (hs : List Hk) : hs.length ≤ (hs.flatMap hkL).length := by
  induction hs with
  | nil => exact Nat.le_refl _
  | cons h hs ih =>
    simp only [List.flatMap_cons, List.length_append, List.length_cons]
    have : 1 ≤ (hkL h).length := by simp [hkL]
    omega
theorem cxps_back (L : List Pth) : ∀ (f k p : Nat), (∀ q ∈ L, Gp q) → k + L.length ≤ 64 → L.length ≤ f → cxPs f k p (L.flatMap ptL) = .ok L := by
  induction L with
  | nil =>
    intro f k p _ _ _
    cases f with
    | zero => rfl
    | succ f => rfl
  | cons q L ih =>
    intro f k p hg hk hf
    cases f with
    | zero => exact absurd hf (by simp)
    | succ f =>
      have g := hg q (by simp)
      have hg2 : ∀ x ∈ L, Gp x := fun x hx => hg x (by simp [hx])
      simp only [List.length_cons] at hk hf
      simp only [List.flatMap_cons, cxPs]
      rw [pt_lines g.ne]
      rw [if_neg (by simp)]
      simp only [List.cons_append]
      have n1 := name_back (ah := [42, 42, 42, 32]) g.old rfl p (([45, 45, 45, 32] ++ nameT q.new ++ [10]) :: (q.hs.flatMap hkL ++ L.flatMap ptL))
      have n2 := name_back (ah := [45, 45, 45, 32]) g.new rfl (p + 1) (q.hs.flatMap hkL ++ L.flatMap ptL)
      simp only [List.cons_append, List.nil_append] at n1 n2 ⊢
      rw [n1]
      simp only
      rw [if_neg (by omega), n2]
      simp only
      obtain ⟨b1, b2⟩ := pts_beh hg2
      rw [cxhs_back q.hs _ 0 (p + 2) _ g.ne g.gd (by have := g.few; omega) (by have := hk_few q.hs; simp only [List.length_append]; omega) b1 b2]
      simp only
      rw [ih f (k + 1) _ hg2 (by omega) (by omega)]
theorem fed_app {x y : List (List UInt8)} (hx : Fed x) (hy : Fed y) : Fed (x ++ y) := fun s hs => (List.mem_append.1 hs).elim (hx s) (hy s)
theorem fed_cons {t : List UInt8} {y : List (List UInt8)} (ht : ∀ c ∈ t, c ≠ 10) (hy : Fed y) : Fed ((t ++ [10]) :: y) := by
  intro s hs
  rcases List.mem_cons.1 hs with rfl | hs
  · exact ⟨t, rfl, ht⟩
  · exact hy s hs
theorem fed_nil : Fed [] := fun s hs => by cases hs
theorem fed_side {sg : Int} (h10 : UInt8.ofNat sg.toNat ≠ 10) {l : List Mk} (hl : ∀ m ∈ l, linB m.tx = true) : Fed (sideL sg l) := by
  have h : ∀ r a, Fed (sidL sg r a l) := by
    induction l with
    | nil => intro r a; exact fed_nil
    | cons m l ih =>
      intro r a
      have hi := ih fun x hx => hl x (by simp [hx])
      have hm := hl m (by simp)
      simp only [sidL]
      split
      · exact fed_app (fed_line (by decide) hm) (hi _ _)
      · split
        · refine fed_app (fed_line ?_ hm) (hi _ _)
          split
          · decide
          · intro c hc
            rcases List.mem_cons.1 hc with rfl | hc
            · exact h10
            · rw [List.mem_singleton.1 hc]
              decide
        · exact hi _ _
  unfold sideL
  split
  · exact h _ _
  · exact fed_nil
theorem fed_rl {e : UInt8} (he : e ≠ 10) {p n : Int} (hp : 0 ≤ p) {y : List (List UInt8)} (hy : Fed y) : Fed (rlT e p n :: y) := by
  have e1 : rlT e p n = ([e, e, e, 32] ++ spanT p n ++ [32, e, e, e, e]) ++ [10] := by simp [rlT]
  rw [e1]
  refine fed_cons ?_ hy
  intro c hc
  rcases List.mem_append.1 hc with hc | hc
  · rcases List.mem_append.1 hc with hc | hc
    · simp only [List.mem_cons, List.not_mem_nil, or_false] at hc
      rcases hc with rfl | rfl | rfl | rfl
      · exact he
      · exact he
      · exact he
      · decide
    · exact (num_facts (span_plain hp c hc)).2.1
  · simp only [List.mem_cons, List.not_mem_nil, or_false] at hc
    rcases hc with rfl | rfl | rfl | rfl | rfl
    · decide
    · exact he
    · exact he
    · exact he
    · exact he
theorem fed_hk {h : Hk} (g : Gh h) : Fed (hkL h) := by
  obtain ⟨c1, c2, c3, c4, c5⟩ := chk_out g.chk
  obtain ⟨r1, r2, r3, r4, r5, r6, r7, r8⟩ := rng_out c1
  have f1 := ((fld_iff h.ls).1 c2).1
  unfold hkL
  refine fed_cons (by decide) (fed_rl (by decide) r1 (fed_app (fed_side (by decide) fun m hm => (f1 m hm).1) (fed_rl (by decide) r4 (fed_side (by decide) fun m hm => (f1 m hm).1))))
theorem fed_pts {L : List Pth} (h : ∀ p ∈ L, Gp p) : Fed (L.flatMap ptL) := by
  intro s hs
  obtain ⟨p, hp, hs⟩ := List.mem_flatMap.1 hs
  have g := h p hp
  rw [pt_lines g.ne] at hs
  refine fed_cons ?_ (fed_cons ?_ ?_) s hs
  · intro c hc
    rcases List.mem_append.1 hc with hc | hc
    · exact (by decide : ∀ c ∈ ([42, 42, 42, 32] : List UInt8), c ≠ 10) c hc
    · exact name_plain _ c hc
  · intro c hc
    rcases List.mem_append.1 hc with hc | hc
    · exact (by decide : ∀ c ∈ ([45, 45, 45, 32] : List UInt8), c ≠ 10) c hc
    · exact name_plain _ c hc
  · intro x hx
    obtain ⟨k, hk, hx⟩ := List.mem_flatMap.1 hx
    exact fed_hk (g.gd k hk) x hx
/-- patches are read as they were written -/
theorem cx_back {L : List Pth} (h : ∀ p ∈ L, Gp p) (hn : L.length ≤ 64) (hl : ((L.flatMap ptL).flatten).length ≤ 1048576) : cxT (L.flatMap ptL).flatten = .ok L := by
  unfold cxT
  rw [if_neg (by omega), right_split _ (fed_check (fed_pts h))]
  refine cxps_back L _ 0 0 h (by omega) ?_
  clear hn hl
  induction L with
  | nil => exact Nat.le_refl _
  | cons p L ih =>
    have := ih fun x hx => h x (by simp [hx])
    simp only [List.flatMap_cons, List.length_append, List.length_cons]
    rw [pt_lines (h p (by simp)).ne]
    simp only [List.length_cons]
    omega
end Go.Proofs.YtgiojkhmkeocfaaDoor

/- The context form: what is read are right patches, and they are read again from their texts; plain mathematics. -/
namespace Go.Proofs.YtgiojkhmkeocfaaDoor
open Ln

/-- the lines that were taken -/
theorem lns_far {s : List UInt8} {q n : Int} (h : lnsP s = some (q, n)) : q + n - 1 ≤ 2147483647 := by
  unfold lnsP at h
  split at h
  · rename_i x c y _
    split at h
    · cases h
      have := (prs_num (s := y)).2
      omega
    · cases h
  · split at h
    · cases h
      have := (prs_num (s := s)).2
      omega
    · cases h
theorem rng_ok {e : UInt8} {p : Nat} {ls r : List (List UInt8)} {q n : Int} (hP : Plain ls) (h : rngP e p ls = .ok ((q, n), r)) : ls.length = r.length + 1 ∧ Plain r ∧ 0 ≤ q ∧ q ≤ 2147483647 ∧ (n = -1 ∨ 1 ≤ n ∧ n ≤ 2147483647 ∧ q + n - 1 ≤ 2147483647) := by
  unfold rngP at h
  split at h
  · cases h
  · rename_i s r0 hn
    obtain ⟨a1, a2⟩ := nxt_len hP hn
    split at h
    · cases h
    · rename_i t _
      split at h
      · cases h
      · rename_i v hv
        cases h
        unfold rngI at hv
        split at hv
        · cases hv
          have := prs_num (s := t)
          exact ⟨a1, a2, this.1, this.2, .inl rfl⟩
        · have b1 := lns_right hv
          have b2 := lns_far hv
          exact ⟨a1, a2, by omega, by omega, .inr ⟨by omega, by omega, b2⟩⟩
theorem isSd_form {sg : UInt8} {s : List UInt8} (h : isSd sg s = true) (hf : fdB s = true) (hp : ∀ c ∈ s.dropLast, c ≠ 10) : ∃ a v, s = a :: 32 :: (v ++ [10]) ∧ (∀ c ∈ v, c ≠ 10) ∧ (a = 32 ∨ a = sg ∨ a = 33) := by
  cases s with
  | nil => cases h
  | cons a s =>
    cases s with
    | nil => cases h
    | cons b u =>
      simp only [isSd, Bool.and_eq_true, Bool.or_eq_true, beq_iff_eq] at h
      obtain ⟨ha, rfl⟩ := h
      rcases List.eq_nil_or_concat u with rfl | ⟨v, d, rfl⟩
      · exact absurd hf (by simp [fdB])
      · rw [List.concat_eq_append] at hf hp ⊢
        have e : a :: 32 :: (v ++ [d]) = (a :: 32 :: v) ++ [d] := by simp
        rw [e] at hf hp
        have hd : d = 10 := by
          unfold fdB at hf
          rw [List.getLast?_concat] at hf
          simpa using hf
        subst hd
        rw [List.dropLast_concat] at hp
        exact ⟨a, v, rfl, fun c hc => hp c (by simp [hc]), by rcases ha with (h | h) | h <;> simp [h]⟩
theorem lin_feed {v : List UInt8} (h : ∀ c ∈ v, c ≠ 10) : linB (v ++ [10]) = true := by
  unfold linB
  rw [List.dropLast_concat]
  have e1 : (v ++ [10]).isEmpty = false := by cases v <;> rfl
  rw [e1]
  simp only [Bool.not_false, Bool.true_and, List.all_eq_true]
  intro c hc
  simpa using h c hc
theorem lin_bare {v : List UInt8} (h : ∀ c ∈ v, c ≠ 10) (hn : v ≠ []) : linB v = true := by
  unfold linB
  have e1 : v.isEmpty = false := by
    cases v with
    | nil => exact absurd rfl hn
    | cons => rfl
  rw [e1]
  simp only [Bool.not_false, Bool.true_and, List.all_eq_true]
  intro c hc
  simpa using h c ((List.dropLast_sublist _).subset hc)
theorem rd_ok {sg : UInt8} (ls : List (List UInt8)) : ∀ {p p1 : Nat} {r : List (List UInt8)} {x : Sde}, Plain ls → rdS sg p ls = .ok (x, p1, r) → Plain r ∧ (∀ y ∈ x, linB y.2 = true ∧ (y.1 = 32 ∨ y.1 = sg ∨ y.1 = 33)) ∧ abl (x.map (·.2)) = true ∧ ls.length + p = r.length + p1 ∧ x.length ≤ ls.length := by
  induction ls with
  | nil =>
    intro p p1 r x hP h
    simp only [rdS] at h
    cases h
    exact ⟨hP, fun y hy => (by cases hy), rfl, rfl, Nat.le_refl _⟩
  | cons s ls ih =>
    intro p p1 r x hP h
    have hPr : Plain ls := fun y hy => hP y (by simp [hy])
    simp only [rdS] at h
    split at h
    · rename_i hsd
      split at h
      · rename_i hf
        obtain ⟨a, v, rfl, hv, ha⟩ := isSd_form hsd hf (hP s (by simp))
        have e1 : (a :: 32 :: (v ++ [10])).headD 0 = a := rfl
        have e2 : (a :: 32 :: (v ++ [10])).drop 2 = v ++ [10] := rfl
        rw [e1, e2] at h
        split at h
        · rename_i hm
          rw [List.dropLast_concat] at h
          cases h
          have hvn : v ≠ [] := by
            intro e
            subst e
            exact absurd hm.2 (by simp)
          have hlen : ls.tail.length + 1 = ls.length := by
            cases ls with
            | nil => exact absurd hm.1 (by decide)
            | cons => simp
          refine ⟨fun y hy => hPr y (List.mem_of_mem_tail hy), ?_, rfl, by simp only [List.length_cons]; omega, by simp⟩
          intro y hy
          rw [List.mem_singleton.1 hy]
          exact ⟨lin_bare hv hvn, ha⟩
        · split at h
          · cases h
          · rename_i l p2 r2 hr
            obtain ⟨b1, b2, b3, b4, b5⟩ := ih hPr hr
            cases h
            refine ⟨b1, ?_, ?_, by simp only [List.length_cons]; omega, by simp only [List.length_cons]; omega⟩
            · intro y hy
              rcases List.mem_cons.1 hy with rfl | hy
              · exact ⟨lin_feed hv, ha⟩
              · exact b2 y hy
            · simp only [List.map_cons, abl, fd_snoc, Bool.or_true, Bool.true_and]
              exact b3
      · cases h
    · cases h
      exact ⟨hP, fun y hy => (by cases hy), rfl, rfl, by simp⟩
theorem mkS_mks (s : Int) (x : Sde) : mkS s x = mks s (x.map (·.2)) := by simp [mkS, mks]
theorem mkS_all (s : Int) (x : Sde) : AllS s (mkS s x) := by
  intro m hm
  obtain ⟨y, _, rfl⟩ := List.mem_map.1 hm
  rfl
theorem nf_rem {R : List Mk} (hR : AllS 45 R) {t : List Mk} (ht : Nf false t) : Nf false (R ++ t) := by
  induction R with
  | nil => exact ht
  | cons m R ih =>
    have hm := hR m (by simp)
    simp only [List.cons_append, Nf]
    rw [if_pos hm]
    exact ⟨trivial, ih fun x hx => hR x (by simp [hx])⟩
theorem rst_head {x z : Sde} {y : UInt8 × List UInt8} (h : rstS x = y :: z) : y.1 = 32 := by
  induction x with
  | nil => cases h
  | cons a x ih =>
    simp only [rstS, List.dropWhile_cons] at h
    split at h
    · exact ih h
    · rename_i hq
      cases h
      simpa using hq
theorem chg_rst (x : Sde) : chgS x ++ rstS x = x := List.takeWhile_append_dropWhile
/-- what both sides make -/
theorem jn_ok (f : Nat) : ∀ {o w : Sde} {l : List Mk}, jnS f o w = some l → Nf false l ∧ (∀ m ∈ l, okS m.sg = true) ∧ pkL 43 l = o.map (·.2) ∧ pkL 45 l = w.map (·.2) ∧ ((l.all fun m => decide (m.sg = 32)) = true → sameS o = true ∧ sameS w = true) := by
  induction f with
  | zero => intro o w l h; cases h
  | succ f ih =>
    intro o w l h
    have eo := chg_rst o
    have ew := chg_rst w
    have ok45 : ∀ m ∈ mkS 45 (chgS o), okS m.sg = true := fun m hm => by rw [mkS_all 45 _ m hm]; rfl
    have ok43 : ∀ m ∈ mkS 43 (chgS w), okS m.sg = true := fun m hm => by rw [mkS_all 43 _ m hm]; rfl
    have p1 : pkL 43 (mkS 45 (chgS o)) = (chgS o).map (·.2) := by rw [mkS_mks]; exact pick_mks_in 43 45 (by decide) rfl _
    have p2 : pkL 45 (mkS 45 (chgS o)) = [] := by rw [mkS_mks]; exact pick_mks_out 45 _
    have p3 : pkL 43 (mkS 43 (chgS w)) = [] := by rw [mkS_mks]; exact pick_mks_out 43 _
    have p4 : pkL 45 (mkS 43 (chgS w)) = (chgS w).map (·.2) := by rw [mkS_mks]; exact pick_mks_in 45 43 (by decide) rfl _
    have hall : ∀ (s : Int) (x : Sde), s ≠ 32 → ((mkS s x).all fun m => decide (m.sg = 32)) = true → x = [] := by
      intro s x hs hx
      cases x with
      | nil => rfl
      | cons y x =>
        simp [mkS, hs] at hx
    rw [jnS] at h
    split at h
    · split at h
      · rename_i h1 h2
        cases h
        rw [h1, List.append_nil] at eo
        rw [h2, List.append_nil] at ew
        refine ⟨nf_rem (mkS_all _ _) ?_, ?_, ?_, ?_, ?_⟩
        · have := nf_added (mkS_all 43 (chgS w)) [] (fun s => by simp [Nf]) false
          rw [List.append_nil] at this
          exact this
        · intro m hm
          rcases List.mem_append.1 hm with hm | hm
          · exact ok45 m hm
          · exact ok43 m hm
        · rw [pkL_append, p1, p3, List.append_nil, eo]
        · rw [pkL_append, p2, p4, List.nil_append, ew]
        · intro ha
          rw [List.all_append, Bool.and_eq_true] at ha
          have z1 := hall 45 _ (by decide) ha.1
          have z2 := hall 43 _ (by decide) ha.2
          rw [z1] at eo
          rw [z2] at ew
          rw [← eo, ← ew]
          exact ⟨rfl, rfl⟩
      · rename_i k1 s o2 k2 t w2 h1 h2
        have hk1 := rst_head h1
        have hk2 := rst_head h2
        rw [h1] at eo
        rw [h2] at ew
        split at h
        · rename_i hst
          split at h
          · cases h
          · rename_i l2 hj
            obtain ⟨i1, i2, i3, i4, i5⟩ := ih hj
            cases h
            refine ⟨nf_rem (mkS_all _ _) (nf_added (mkS_all _ _) _ (fun b => by simp only [Nf]; exact i1) false), ?_, ?_, ?_, ?_⟩
            · intro m hm
              rcases List.mem_append.1 hm with hm | hm
              · exact ok45 m hm
              · rcases List.mem_append.1 hm with hm | hm
                · exact ok43 m hm
                · rcases List.mem_cons.1 hm with rfl | hm
                  · rfl
                  · exact i2 m hm
            · have e3 := congrArg (List.map (·.2)) eo
              rw [List.map_append] at e3
              rw [pkL_append, pkL_append, p1, p3, List.nil_append, ← e3]
              congr 1
              simp only [pkL, List.map_cons]
              rw [if_pos (by decide), i3]
            · have e3 := congrArg (List.map (·.2)) ew
              rw [List.map_append] at e3
              rw [pkL_append, pkL_append, p2, p4, List.nil_append, ← e3]
              congr 1
              simp only [pkL, List.map_cons]
              rw [if_pos (by decide), i4, hst]
            · intro ha
              rw [List.all_append, List.all_append, List.all_cons, Bool.and_eq_true, Bool.and_eq_true, Bool.and_eq_true] at ha
              have z1 := hall 45 _ (by decide) ha.1
              have z2 := hall 43 _ (by decide) ha.2.1
              obtain ⟨j1, j2⟩ := i5 ha.2.2.2
              rw [z1] at eo
              rw [z2] at ew
              rw [← eo, ← ew]
              simp only at hk1 hk2
              simp only [sameS, List.nil_append, List.all_cons, Bool.and_eq_true] at j1 j2 ⊢
              exact ⟨⟨by rw [hk1]; rfl, j1⟩, ⟨by rw [hk2]; rfl, j2⟩⟩
        · cases h
      · cases h
    · cases h
theorem abl_kept {x : Sde} (h : abl (x.map (·.2)) = true) : abl ((keptS x).map (·.2)) = true := by
  induction x with
  | nil => rfl
  | cons y x ih =>
    simp only [List.map_cons, abl, Bool.and_eq_true, Bool.or_eq_true] at h
    have hi := ih h.2
    simp only [keptS, List.filter_cons] at hi ⊢
    split
    · simp only [List.map_cons, abl, Bool.and_eq_true, Bool.or_eq_true]
      refine ⟨?_, hi⟩
      rcases h.1 with h1 | h1
      · have : x = [] := by simpa using h1
        subst this
        exact .inl rfl
      · exact .inr h1
    · exact hi
theorem pk_has {no : Int} {l : List Mk} {m : Mk} (hn : m.sg ≠ no) (ho : okS m.sg = true) (h : m ∈ l) : m.tx ∈ pkL no l := by
  induction l with
  | nil => cases h
  | cons x l ih =>
    simp only [pkL]
    rcases List.mem_cons.1 h with rfl | h
    · rw [if_pos ⟨hn, ho⟩]
      simp
    · split
      · exact List.mem_cons_of_mem _ (ih h)
      · exact ih h
theorem fin_ok {a0 a1 a2 : Nat} {po no pw nw : Int} {o w : Sde} {h : Hk} (ho : (∀ y ∈ o, linB y.2 = true) ∧ abl (o.map (·.2)) = true) (hw : (∀ y ∈ w, linB y.2 = true) ∧ abl (w.map (·.2)) = true) (ro : 0 ≤ po ∧ po ≤ 2147483647 ∧ (no = -1 ∨ 1 ≤ no ∧ no ≤ 2147483647 ∧ po + no - 1 ≤ 2147483647)) (rw' : 0 ≤ pw ∧ pw ≤ 2147483647 ∧ (nw = -1 ∨ 1 ≤ nw ∧ nw ≤ 2147483647 ∧ pw + nw - 1 ≤ 2147483647)) (hf : finH a0 a1 a2 po no pw nw o w = .ok h) : Gh h := by
  unfold finH at hf
  split at hf
  · cases hf
  · rename_i c0
    split at hf
    · cases hf
    · rename_i c1
      split at hf
      · cases hf
      · rename_i c2
        split at hf
        · cases hf
        · rename_i c3
          split at hf
          · cases hf
          · rename_i c4
            split at hf
            · cases hf
            · rename_i l hj
              cases hf
              obtain ⟨i1, i2, i3, i4, i5⟩ := jn_ok _ hj
              have lo : (∀ y ∈ oldF o w, linB y.2 = true) ∧ abl ((oldF o w).map (·.2)) = true := by
                unfold oldF
                split
                · exact ⟨fun y hy => hw.1 y (List.mem_filter.1 hy).1, abl_kept hw.2⟩
                · exact ho
              have lw : (∀ y ∈ newF o w, linB y.2 = true) ∧ abl ((newF o w).map (·.2)) = true := by
                unfold newF
                split
                · exact ⟨fun y hy => ho.1 y (List.mem_filter.1 hy).1, abl_kept ho.2⟩
                · exact hw
              have n1 : ¬ (no < 0 ∧ 1 < (oldF o w).length ∨ 0 ≤ no ∧ no ≠ (oldF o w).length) := by
                intro q
                exact c1 (decide_eq_true q)
              have n2 : ¬ (nw < 0 ∧ 1 < (newF o w).length ∨ 0 ≤ nw ∧ nw ≠ (newF o w).length) := by
                intro q
                exact c2 (decide_eq_true q)
              have z1 : po = 0 → (oldF o w).length = 0 := by
                intro q
                cases hq : oldF o w with
                | nil => rfl
                | cons y x => exact absurd ⟨q, by rw [hq]; simp⟩ c3
              have z2 : pw = 0 → (newF o w).length = 0 := by
                intro q
                cases hq : newF o w with
                | nil => rfl
                | cons y x => exact absurd ⟨q, by rw [hq]; simp⟩ c4
              have hlin : ∀ m ∈ l, linB m.tx = true := by
                intro m hm
                have hok := i2 m hm
                have hc : m.sg = 32 ∨ m.sg = 45 ∨ m.sg = 43 := by simp [okS] at hok; omega
                by_cases h43 : m.sg = 43
                · have : m.tx ∈ pkL 45 l := pk_has (by omega) hok hm
                  rw [i4] at this
                  obtain ⟨y, hy, e⟩ := List.mem_map.1 this
                  rw [← e]
                  exact lw.1 y hy
                · have : m.tx ∈ pkL 43 l := pk_has h43 hok hm
                  rw [i3] at this
                  obtain ⟨y, hy, e⟩ := List.mem_map.1 this
                  rw [← e]
                  exact lo.1 y hy
              have hfld : fldB l = true := (fld_iff l).2 ⟨fun m hm => ⟨hlin m hm, i2 m hm⟩, by rw [i3]; exact lo.2, by rw [i4]; exact lw.2⟩
              have hrng : rngB ⟨po, (oldF o w).length, pw, (newF o w).length, l⟩ = true := by
                simp only [rngB, nat31, Bool.and_eq_true, Bool.not_eq_true', Bool.and_eq_false_iff, decide_eq_true_eq, decide_eq_false_iff_not]
                omega
              have hall : (l.all fun m => decide (m.sg = 32)) = false := by
                cases hq : l.all fun m => decide (m.sg = 32) with
                | false => rfl
                | true =>
                  exfalso
                  obtain ⟨j1, j2⟩ := i5 hq
                  unfold oldF at j1
                  unfold newF at j2
                  by_cases e1 : o = []
                  · rw [if_neg (fun q => q.1 e1)] at j2
                    exact c0 ⟨by rw [e1]; rfl, j2⟩
                  · rw [if_neg e1] at j1
                    by_cases e2 : w = []
                    · exact c0 ⟨j1, by rw [e2]; rfl⟩
                    · rw [if_neg (fun q => e2 q.2)] at j2
                      exact c0 ⟨j1, j2⟩
              refine ⟨?_, i1, fun q => ?_, fun q => ?_⟩
              · unfold chkH
                rw [if_neg (by rw [hrng]; decide), if_neg (by rw [hfld]; decide), if_neg, if_neg (by rw [hall]; decide)]
                have a1 : ((oldL ⟨po, (oldF o w).length, pw, (newF o w).length, l⟩).length : Int) = (oldF o w).length := by
                  unfold oldL
                  rw [i3, List.length_map]
                have a2 : ((newL ⟨po, (oldF o w).length, pw, (newF o w).length, l⟩).length : Int) = (newF o w).length := by
                  unfold newL
                  rw [i4, List.length_map]
                rw [a1, a2]
                simp
              · simp only at q ⊢
                omega
              · simp only at q ⊢
                omega
end Go.Proofs.YtgiojkhmkeocfaaDoor

/- The context form: what is read of a text are right patches, and their texts are read again as the same; plain mathematics. -/
namespace Go.Proofs.YtgiojkhmkeocfaaDoor
open Ln

theorem rd_fewer {sg : UInt8} (ls : List (List UInt8)) : ∀ {p p1 : Nat} {r : List (List UInt8)} {x : Sde}, rdS sg p ls = .ok (x, p1, r) → r.length ≤ ls.length := by
  induction ls with
  | nil =>
    intro p p1 r x h
    simp only [rdS] at h
    cases h
    exact Nat.le_refl _
  | cons s ls ih =>
    intro p p1 r x h
    simp only [rdS] at h
    split at h
    · split at h
      · split at h
        · cases h
          simp only [List.length_tail, List.length_cons]
          omega
        · split at h
          · cases h
          · rename_i hr
            have := ih hr
            cases h
            simp only [List.length_cons]
            omega
      · cases h
    · cases h
      exact Nat.le_refl _
theorem cxh_ok {k p p1 : Nat} {ls r : List (List UInt8)} {h : Hk} (hP : Plain ls) (hh : cxH k p ls = .ok (h, p1, r)) : Gh h ∧ Plain r ∧ ls.length + p = r.length + p1 ∧ r.length < ls.length ∧ k < 4096 := by
  unfold cxH at hh
  split at hh
  · cases hh
  · rename_i s r0 hn
    obtain ⟨a1, a2⟩ := nxt_len hP hn
    split at hh
    · split at hh
      · cases hh
      · rename_i hk
        split at hh
        · cases hh
        · rename_i po no r1 h1
          obtain ⟨b1, b2, b3, b4, b5⟩ := rng_ok a2 h1
          split at hh
          · cases hh
          · rename_i o p2 r2 h2
            obtain ⟨c1, c2, c3, c4, _⟩ := rd_ok _ b2 h2
            split at hh
            · cases hh
            · rename_i pw nw r3 h3
              obtain ⟨d1, d2, d3, d4, d5⟩ := rng_ok c1 h3
              split at hh
              · cases hh
              · rename_i w p4 r4 h4
                obtain ⟨e1, e2, e3, e4, _⟩ := rd_ok _ d2 h4
                split at hh
                · cases hh
                · rename_i h5 hf
                  cases hh
                  have hle : r.length + p1 = r3.length + (p2 + 1) := by omega
                  refine ⟨fin_ok ⟨fun y hy => (c2 y hy).1, c3⟩ ⟨fun y hy => (e2 y hy).1, e3⟩ ⟨b3, b4, b5⟩ ⟨d3, d4, d5⟩ hf, e1, by omega, ?_, by omega⟩
                  have g1 := rd_fewer _ h2
                  have g2 := rd_fewer _ h4
                  omega
    · cases hh
theorem cxhs_ok (f : Nat) : ∀ {k p p1 : Nat} {ls r : List (List UInt8)} {hs : List Hk}, Plain ls → cxHs f k p ls = .ok (hs, p1, r) → hs ≠ [] ∧ (∀ h ∈ hs, Gh h) ∧ k + hs.length ≤ 4096 ∧ Plain r ∧ ls.length + p = r.length + p1 ∧ r.length < ls.length := by
  induction f with
  | zero => intro k p p1 ls r hs _ h; cases h
  | succ f ih =>
    intro k p p1 ls r hs hP h
    simp only [cxHs] at h
    split at h
    · cases h
    · rename_i h0 q1 r1 h1
      obtain ⟨a1, a2, a3, a4, a5⟩ := cxh_ok hP h1
      split at h
      · split at h
        · cases h
        · rename_i l q2 r2 h2
          obtain ⟨b1, b2, b3, b4, b5, b6⟩ := ih a2 h2
          cases h
          refine ⟨by simp, ?_, by simp only [List.length_cons]; omega, b4, by omega, by omega⟩
          intro x hx
          rcases List.mem_cons.1 hx with rfl | hx
          · exact a1
          · exact b2 x hx
      · cases h
        refine ⟨by simp, ?_, by simp only [List.length_cons, List.length_nil]; omega, a2, a3, a4⟩
        intro x hx
        rw [List.mem_singleton.1 hx]
        exact a1
theorem nam_ok {ah n : List UInt8} {p : Nat} {ls r : List (List UInt8)} (hP : Plain ls) (h : namP ah p ls = .ok (n, r)) : n.length ≤ 64 ∧ ls.length = r.length + 1 ∧ Plain r := by
  unfold namP at h
  split at h
  · cases h
  · rename_i s r0 hn
    obtain ⟨a1, a2⟩ := nxt_len hP hn
    split at h
    · split at h
      · cases h
      · rename_i m hm
        cases h
        exact ⟨((named_iff _ _).1 hm).2, a1, a2⟩
    · cases h
theorem cxps_ok (f : Nat) : ∀ {k p : Nat} {ls : List (List UInt8)} {L : List Pth}, Plain ls → cxPs f k p ls = .ok L → (∀ q ∈ L, Gp q) ∧ (k + L.length ≤ 64 ∨ L = []) := by
  induction f with
  | zero =>
    intro k p ls L _ h
    simp only [cxPs] at h
    cases h
    exact ⟨fun q hq => (by cases hq), .inr rfl⟩
  | succ f ih =>
    intro k p ls L hP h
    simp only [cxPs] at h
    split at h
    · cases h
      exact ⟨fun q hq => (by cases hq), .inr rfl⟩
    · split at h
      · cases h
      · rename_i n1 r1 h1
        obtain ⟨a1, a2, a3⟩ := nam_ok hP h1
        split at h
        · cases h
        · rename_i hk
          split at h
          · cases h
          · rename_i n2 r2 h2
            obtain ⟨b1, b2, b3⟩ := nam_ok a3 h2
            split at h
            · cases h
            · rename_i hs p3 r3 h3
              obtain ⟨c1, c2, c3, c4, c5, c6⟩ := cxhs_ok _ b3 h3
              split at h
              · cases h
              · rename_i l h4
                obtain ⟨d1, d2⟩ := ih c4 h4
                cases h
                refine ⟨?_, .inl ?_⟩
                · intro q hq
                  rcases List.mem_cons.1 hq with rfl | hq
                  · exact ⟨c1, a1, b1, by show hs.length ≤ 4096; omega, c2⟩
                  · exact d1 q hq
                · rcases d2 with d2 | rfl
                  · simp only [List.length_cons]
                    omega
                  · simp only [List.length_cons, List.length_nil]
                    omega
/-- what is read are right patches -/
theorem cx_right {t : List UInt8} {L : List Pth} (h : cxT t = .ok L) : (∀ q ∈ L, Gp q) ∧ L.length ≤ 64 := by
  unfold cxT at h
  split at h
  · cases h
  · obtain ⟨a1, a2⟩ := cxps_ok _ (split_plain t) h
    refine ⟨a1, ?_⟩
    rcases a2 with a2 | rfl
    · omega
    · exact Nat.zero_le _
theorem cx_errs {hs : List Hk} (h : ∀ x ∈ hs, chkH x = 0) : errs hs = 0 := by
  induction hs with
  | nil => rfl
  | cons x hs ih =>
    simp only [errs]
    rw [h x (by simp)]
    simpa using ih fun y hy => h y (by simp [hy])
theorem wrg_ok {p : Pth} (g : Gp p) : wrgP p = 0 := by
  unfold wrgP
  have := g.old
  have := g.new
  have := g.few
  rw [if_neg (by omega), if_neg (by omega)]
  exact cx_errs fun x hx => (g.gd x hx).chk
theorem pts_text {L : List Pth} (h : ∀ q ∈ L, Gp q) : L.flatMap ptT = (L.flatMap ptL).flatten := by
  induction L with
  | nil => rfl
  | cons p L ih =>
    rw [List.flatMap_cons, List.flatMap_cons, List.flatten_append, ih fun x hx => h x (by simp [hx])]
    unfold ptT
    rw [if_pos (wrg_ok (h p (by simp)))]
/-- what is read is written, and read again, as the same -/
theorem cx_again {t : List UInt8} {L : List Pth} (h : cxT t = .ok L) (hl : (L.flatMap ptT).length ≤ 1048576) : cxT (L.flatMap ptT) = .ok L := by
  obtain ⟨a1, a2⟩ := cx_right h
  rw [pts_text a1] at hl ⊢
  exact cx_back a1 a2 hl
end Go.Proofs.YtgiojkhmkeocfaaDoor

/- The plain Parse of the reference, walked anew over the normal form's texts. -/
namespace Go.Proofs.YtgiojkhmkeocfaaDoor
open Pn Go.RowKit
attribute [local go_sem] no_at

theorem ret_pair {k k' : IntKind} {a b a' b' : Int} (h : a = a') (h' : b = b') : Ending.returned (.tuple #[.int k a, .int k' b]) = .returned (.tuple #[.int k a', .int k' b']) := by rw [h, h']
set_option maxHeartbeats 2000000 in
theorem rParse_loop (L : List UInt8) (w : World) (hl : L.length ≤ maxLen) (h0 : 0 < L.length) (hz : ((L.length : Int) ≤ 1) ∨ ((1 < (L.length : Int)) ∧ (((L[0].toNat : Int) == 48) = false)))
    (HY : Hid ((∀ k (hk : k < L.length), 48 ≤ L[k].toNat ∧ L[k].toNat ≤ 57) → isNum L = true)) :
    Calls Tryd.prog 121 #[.string ⟨L.toArray⟩] w fun e w' => e = .returned (.tuple #[.int .i64 (parseV L), .int .i64 (parseE L)]) ∧ Below w.heap.size w w' := by
  unfold maxLen at hl
  have hne : ((L.length : Int) == 0) = false := beq_eq_false_iff_ne.2 (by omega)
  rcases hz with hz | ⟨hz, hz1⟩
  all_goals
    go_enter Tryd.func121, Tryd.ntmps121
    go_wp2
    go_loop [4, 5] (fun n i => ∃ (pos : Nat) (v : Int), pos ≤ L.length ∧ i = .int .i64 pos ∧ n = .int .i64 v ∧ 0 ≤ v ∧ v ≤ 2147483648 ∧ sat v (L.drop pos) = sat 0 L ∧ (∀ k (hk : k < L.length), k < pos → 48 ≤ L[k].toNat ∧ L[k].toNat ≤ 57)) (fun _ i => L.length - (intOf i).toNat)
    case atStart => exact ⟨0, 0, Nat.zero_le _, rfl, rfl, by omega, by omega, rfl, fun k _ h => by omega⟩
    case round =>
      obtain ⟨pos, v, hp, rfl, rfl, hv0, hv1, hsat, hall⟩ := hrel
      have HA : Hid (∀ k (hk : k < L.length), k < pos → 48 ≤ L[k].toNat ∧ L[k].toNat ≤ 57) := hall
      have HS : Hid (sat v (L.drop pos) = sat 0 L) := hsat
      clear hall hsat
      by_cases hlt : pos < L.length
      · have hc := L[pos].toNat_lt
        by_cases hd : 48 ≤ L[pos].toNat ∧ L[pos].toNat ≤ 57
        · obtain ⟨hd1, hd2⟩ := hd
          have HS2 : Hid (sat (min (v * 10 + ((L[pos].toNat : Int) - 48)) 2147483648) (L.drop (pos + 1)) = sat 0 L) := by
            show sat _ _ = _
            rw [← sat_step hlt]; exact HS.out
          have HA2 : Hid (∀ k (hk : k < L.length), k < pos + 1 → 48 ≤ L[k].toNat ∧ L[k].toNat ≤ 57) := by
            intro k hk h
            by_cases e : k = pos
            · subst e; exact ⟨hd1, hd2⟩
            · exact HA.out k hk (by omega)
          go_wp2
          have e : (if 2147483648 < v * 10 + ((L[pos].toNat : Int) - 48) then 2147483648 else v * 10 + ((L[pos].toNat : Int) - 48)) = min (v * 10 + ((L[pos].toNat : Int) - 48)) 2147483648 := by split <;> omega
          try rw [e]
          exact ⟨⟨pos + 1, _, by omega, by go_num, rfl, by omega, by omega, HS2.out, HA2.out⟩, by simp [intOf]; omega⟩
        · have HN : Hid (isNum L = false) := isNum_bad pos hlt hd
          by_cases hd1 : L[pos].toNat < 48
          · clear hd
            go_wp2
            go_ret2
            have h := parse_no HN.out
            exact ⟨ret_pair h.1 h.2, Below.refl _ _⟩
          · have hd2 : 57 < L[pos].toNat := by omega
            clear hd
            go_wp2
            go_ret2
            have h := parse_no HN.out
            exact ⟨ret_pair h.1 h.2, Below.refl _ _⟩
      · have HN : Hid (isNum L = true) := HY.out fun k hk => HA.out k hk (by omega)
        have HF : Hid (sat 0 L = v) := by
          have h := HS.out
          rw [List.drop_eq_nil_of_le (by omega)] at h
          exact h.symm
        by_cases hfar : 2147483647 < v
        · go_wp2
          go_ret2
          have h := parse_far HN.out (by rw [HF.out]; omega)
          exact ⟨ret_pair h.1 h.2, Below.refl _ _⟩
        · go_wp2
          go_ret2
          have h := parse_ok HN.out HF.out (by omega)
          exact ⟨ret_pair h.1 h.2, Below.refl _ _⟩

set_option maxHeartbeats 1000000 in
theorem rParse_f (l : List UInt8) (w : World) (hl : l.length ≤ maxLen) :
    Calls Tryd.prog 121 #[.string ⟨l.toArray⟩] w fun e w' => e = .returned (.tuple #[.int .i64 (parseV l), .int .i64 (parseE l)]) ∧ Below w.heap.size w w' := by
  match l, hl with
  | [], _ =>
    go_enter Tryd.func121, Tryd.ntmps121
    go_wp2
    go_ret2
    exact ⟨rfl, Below.refl _ _⟩
  | [c], hl => exact rParse_loop [c] w hl (by simp) (.inl (by simp)) (isNum_yes (by simp))
  | c :: d :: t, hl =>
    by_cases h : c.toNat = 48
    · have hb : ((c.toNat : Int) == 48) = true := by simp; omega
      have HN : Hid (isNum (c :: d :: t) = false) := isNum_zero h
      have hl2 : (1 : Int) < (t.length : Int) + 1 + 1 := by omega
      have hl3 : (((t.length : Int) + 1 + 1) == 0) = false := beq_eq_false_iff_ne.2 (by omega)
      clear h
      go_enter Tryd.func121, Tryd.ntmps121
      go_wp2
      go_ret2
      have h := parse_no HN.out
      exact ⟨ret_pair h.1 h.2, Below.refl _ _⟩
    · refine rParse_loop (c :: d :: t) w hl (by simp) (.inr ⟨by simp; omega, ?_⟩) (isNum_yes (by simp [h]))
      simp; omega
end Go.Proofs.YtgiojkhmkeocfaaDoor

/- The code's isNumber and Parse of layer 1, walked anew over the normal form's texts: what they return is what the plain functions isNum, parseV and parseE say. -/
namespace Go.Proofs.YtgiojkhmkeocfaaDoor
open Pn Go.RowKit
attribute [local go_sem] no_at

set_option maxHeartbeats 2000000 in
theorem nisNumber_loop (L : List UInt8) (w : World) (hl : L.length ≤ maxLen) (h0 : 0 < L.length) (hz : (((L[0].toNat : Int) == 48) = false) ∨ ((((L[0].toNat : Int) == 48) = true) ∧ (L.length : Int) ≤ 1))
    (HY : Hid ((∀ k (hk : k < L.length), 48 ≤ L[k].toNat ∧ L[k].toNat ≤ 57) → isNum L = true)) :
    Calls Tryd.prog 187 #[.string ⟨L.toArray⟩] w fun e w' => e = .returned (.bool (isNum L)) ∧ Below w.heap.size w w' := by
  unfold maxLen at hl
  have hne : L.isEmpty = false := by cases L; simp at h0; rfl
  have hnil : ¬ L = [] := by intro h; rw [h] at h0; simp at h0
  rcases hz with hz | ⟨hz, hz1⟩
  all_goals
    go_enter Tryd.func187, Tryd.ntmps187
    go_wp2
    go_loopw [] (fun wr => ∃ pos : Nat, pos ≤ L.length ∧ wr.heap[w.heap.size]? = some (.stringIter ⟨L.toArray⟩ pos) ∧ Below w.heap.size w wr ∧ (∀ k (hk : k < L.length), k < pos → 48 ≤ L[k].toNat ∧ L[k].toNat ≤ 57)) (fun wr => L.length - wr.iterPos w.heap.size)
    case atStart =>
      refine ⟨0, Nat.zero_le _, World.iter_heap w _ 0, (Below.refl _ w).alloc (Nat.le_refl _) _, fun k _ h => by omega⟩
    case round =>
      obtain ⟨pos, hp, hit, hbr, hall⟩ := hrel
      have HA : Hid (∀ k (hk : k < L.length), k < pos → 48 ≤ L[k].toNat ∧ L[k].toNat ≤ 57) := hall
      clear hall
      have hss : (⟨L.toArray⟩ : ByteArray).size = L.length := rfl
      by_cases hlt : pos < L.length
      · by_cases ha : L[pos].toNat < 128
        · have hnx : ∀ ty, (Instr.next (.pointer (some ⟨w.heap.size, 0, none⟩)) true ty).run Tryd.prog wr = _ := fun ty => Lib.run_next_ascii_at wr w.heap.size ⟨L.toArray⟩ pos ty hit hlt ha
          have hit2 := Lib.iterAt_heap wr w.heap.size ⟨L.toArray⟩ pos (pos + 1) hit
          have hbr2 := Lib.below_iterAt hbr (k := w.heap.size) (Nat.le_refl _) ⟨L.toArray⟩ (pos + 1)
          by_cases hd : 48 ≤ L[pos].toNat ∧ L[pos].toNat ≤ 57
          · obtain ⟨hd1, hd2⟩ := hd
            go_wp2
            go_roundw
            case rel =>
              refine ⟨pos + 1, by omega, hit2, hbr2, fun k hk h => ?_⟩
              by_cases e : k = pos
              · subst e; exact ⟨hd1, hd2⟩
              · exact HA.out k hk (by omega)
            case measure => simp only [World.iterPos, hit, hit2]; omega
          · have HN : Hid (isNum L = false) := isNum_bad pos hlt hd
            by_cases hd1 : L[pos].toNat < 48
            · clear hd
              go_wp2
              go_ret
              exact ⟨ret_bool HN.out.symm, hbr2⟩
            · have hd2 : 57 < L[pos].toNat := by omega
              clear hd
              go_wp2
              go_ret
              exact ⟨ret_bool HN.out.symm, hbr2⟩
        · have HN : Hid (isNum L = false) := isNum_bad pos hlt (by omega)
          have hdh := (decode_high ⟨L.toArray⟩ pos hlt (by show 128 ≤ L[pos].toNat; omega)).1
          have hnx : ∀ ty, (Instr.next (.pointer (some ⟨w.heap.size, 0, none⟩)) true ty).run Tryd.prog wr = _ := fun ty => Lib.run_next_any_at wr w.heap.size ⟨L.toArray⟩ pos ty hit hlt
          have hbr2 := Lib.below_iterAt hbr (k := w.heap.size) (Nat.le_refl _) ⟨L.toArray⟩ (pos + (Utf8.decode ⟨L.toArray⟩ pos).2)
          have hdl := decode_le ⟨L.toArray⟩ pos
          generalize Utf8.decode ⟨L.toArray⟩ pos = dd at *
          have q1 : ¬ ((dd.1 : Int) < 48) := by omega
          have q2 : 57 < (dd.1 : Int) := by omega
          go_wp2
          go_ret
          exact ⟨ret_bool HN.out.symm, hbr2⟩
      · have hnx : ∀ ty, (Instr.next (.pointer (some ⟨w.heap.size, 0, none⟩)) true ty).run Tryd.prog wr = _ := fun ty => Lib.run_next_end_at wr w.heap.size ⟨L.toArray⟩ pos ty hit hlt
        have HN : Hid (isNum L = true) := HY.out fun k hk => HA.out k hk (by omega)
        go_wp2
        go_ret
        exact ⟨ret_bool HN.out.symm, hbr⟩

set_option maxHeartbeats 1000000 in
theorem nisNumber_any (l : List UInt8) (w : World) (hl : l.length ≤ maxLen) :
    Calls Tryd.prog 187 #[.string ⟨l.toArray⟩] w fun e w' => e = .returned (.bool (isNum l)) ∧ Below w.heap.size w w' := by
  match l, hl with
  | [], _ =>
    go_enter Tryd.func187, Tryd.ntmps187
    go_wp2
    go_ret
    exact ⟨rfl, Below.refl _ _⟩
  | [c], hl =>
    refine nisNumber_loop [c] w hl (by simp) ?_ (isNum_yes (by simp))
    cases h : ((([c] : List UInt8)[0].toNat : Int) == 48)
    · exact .inl rfl
    · exact .inr ⟨rfl, by simp⟩
  | c :: d :: t, hl =>
    by_cases h : c.toNat = 48
    · have hb : ((c.toNat : Int) == 48) = true := by simp; omega
      have HN : Hid (isNum (c :: d :: t) = false) := isNum_zero h
      have hl2 : (1 : Int) < (t.length : Int) + 1 + 1 := by omega
      clear h
      go_enter Tryd.func187, Tryd.ntmps187
      go_wp2
      go_ret
      exact ⟨ret_bool HN.out.symm, Below.refl _ _⟩
    · refine nisNumber_loop (c :: d :: t) w hl (by simp) (.inl ?_) (isNum_yes (by simp [h]))
      simp; omega

set_option maxHeartbeats 2000000 in
theorem nParse_any (l : List UInt8) (w : World) (hl : l.length ≤ maxLen) :
    Calls Tryd.prog 175 #[.string ⟨l.toArray⟩] w fun e w' => e = .returned (.tuple #[.int .i64 (parseV l), .int .i64 (parseE l)]) ∧ Below w.heap.size w w' := by
  go_enter Tryd.func175, Tryd.ntmps175
  go_wp2_with fail
  refine (nisNumber_any l _ hl).mono ?_
  rintro e w1 ⟨rfl, hb1⟩
  unfold maxLen at hl
  cases hn : isNum l
  · have HN : Hid (isNum l = false) := hn
    go_wp2
    go_ret2
    have h := parse_no HN.out
    exact ⟨ret_pair h.1 h.2, hb1⟩
  · have HN : Hid (isNum l = true) := hn
    have hal := isNum_all hn
    have HAL : Hid (l.all digB = true) := hal
    clear hal
    go_wp2
    go_loopw [4] (fun n wr => ∃ (pos : Nat) (v : Int), pos ≤ l.length ∧ n = .int .i64 v ∧ 0 ≤ v ∧ v ≤ 2147483647 ∧ wr.heap[w1.heap.size]? = some (.stringIter ⟨l.toArray⟩ pos) ∧ Below w.heap.size w wr ∧ sat v (l.drop pos) = sat 0 l) (fun _ wr => l.length - wr.iterPos w1.heap.size)
    case atStart =>
      refine ⟨0, 0, Nat.zero_le _, rfl, by omega, by omega, World.iter_heap w1 _ 0, hb1.alloc hb1.size _, rfl⟩
    case round =>
      obtain ⟨pos, v, hp, rfl, hv0, hv1, hit, hbr, hsat⟩ := hrel
      have HS : Hid (sat v (l.drop pos) = sat 0 l) := hsat
      clear hsat
      have hss : (⟨l.toArray⟩ : ByteArray).size = l.length := rfl
      have hz1 := hb1.size
      by_cases hlt : pos < l.length
      · have hd := all_at HAL.out pos hlt
        obtain ⟨hd1, hd2⟩ := hd
        have HS2 : Hid (sat (min (v * 10 + ((l[pos].toNat : Int) - 48)) 2147483648) (l.drop (pos + 1)) = sat 0 l) := by
          show sat _ _ = _
          rw [← sat_step hlt]; exact HS.out
        have hnx : ∀ ty, (Instr.next (.pointer (some ⟨w1.heap.size, 0, none⟩)) true ty).run Tryd.prog wr = _ := fun ty => Lib.run_next_ascii_at wr w1.heap.size ⟨l.toArray⟩ pos ty hit hlt (by show l[pos].toNat < 128; omega)
        have hit2 := Lib.iterAt_heap wr w1.heap.size ⟨l.toArray⟩ pos (pos + 1) hit
        have hbr2 := Lib.below_iterAt hbr (k := w1.heap.size) hb1.size ⟨l.toArray⟩ (pos + 1)
        by_cases hfar : (2147483647 - ((l[pos].toNat : Int) - 48)) / 10 < v
        · have HF : Hid (sat 0 l = 2147483648) := by
            have e : min (v * 10 + ((l[pos].toNat : Int) - 48)) 2147483648 = 2147483648 := by omega
            have h := HS2.out
            rw [e, sat_top _ (all_drop HAL.out _)] at h
            exact h.symm
          go_wp2
          go_ret2
          have h := parse_far HN.out HF.out
          exact ⟨ret_pair h.1 h.2, hbr2⟩
        · go_wp2
          go_roundw
          case rel =>
            refine ⟨pos + 1, v * 10 + ((l[pos].toNat : Int) - 48), by omega, rfl, by omega, by omega, hit2, hbr2, ?_⟩
            have e : min (v * 10 + ((l[pos].toNat : Int) - 48)) 2147483648 = v * 10 + ((l[pos].toNat : Int) - 48) := by omega
            rw [← HS2.out, e]
          case measure => simp only [World.iterPos, hit, hit2]; omega
      · have hnx : ∀ ty, (Instr.next (.pointer (some ⟨w1.heap.size, 0, none⟩)) true ty).run Tryd.prog wr = _ := fun ty => Lib.run_next_end_at wr w1.heap.size ⟨l.toArray⟩ pos ty hit hlt
        have HF : Hid (sat 0 l = v) := by
          have h := HS.out
          rw [List.drop_eq_nil_of_le (by omega)] at h
          exact h.symm
        go_wp2
        go_ret2
        have h := parse_ok HN.out HF.out hv1
        exact ⟨ret_pair h.1 h.2, hbr⟩
end Go.Proofs.YtgiojkhmkeocfaaDoor

/- strings.IndexAny at the letters a, c, d, and strings.Cut at a comma, for every text. -/
namespace Go.Proofs.YtgiojkhmkeocfaaDoor
open Go.RowKit
attribute [local go_sem] no_at ByteArray.extract_mk

theorem ret_int1 {k : IntKind} {a b : Int} (h : a = b) : Ending.returned (.int k a) = .returned (.int k b) := by rw [h]
theorem get_bang (s : ByteArray) (k : Nat) (h : k < s.size) : s.get! k = s[k] := by
  simp [ByteArray.get!, getElem!_pos, h]
  rfl

/-- every byte of a letter that begins with a byte from 128 on is such a byte, and lies in the text -/
theorem decode_rest (s : ByteArray) (pos : Nat) (h : pos < s.size) (ha : 128 ≤ (s[pos]'h).toNat) (k : Nat) (hk : k < (Utf8.decode s pos).2) : ∃ hq : pos + k < s.size, 128 ≤ (s[pos + k]'hq).toNat := by
  by_cases hk0 : k = 0
  · subst hk0; exact ⟨h, ha⟩
  have hn : ¬ (s.get! (pos + 0)).toNat < 128 := by rw [Nat.add_zero, get_bang s pos h]; omega
  have key : ∀ j, (decide (pos + j < s.size) && (s.get! (pos + j)).toNat / 64 == 2) = true → ∃ hq : pos + j < s.size, 128 ≤ (s[pos + j]'hq).toNat := by
    intro j hj
    simp only [Bool.and_eq_true, decide_eq_true_eq, beq_iff_eq] at hj
    refine ⟨hj.1, ?_⟩
    rw [← get_bang s (pos + j) hj.1]
    omega
  revert hk
  unfold Utf8.decode
  simp only [hn, if_false]
  split
  · rename_i h2
    simp only [Bool.and_eq_true] at h2
    split
    · intro hk
      have : k = 1 := by simp at hk; omega
      subst this
      exact key 1 (by simp only [Bool.and_eq_true]; exact h2.2)
    · intro hk; simp at hk; omega
  · split
    · rename_i h2
      simp only [Bool.and_eq_true] at h2
      split
      · intro hk
        have : k = 1 ∨ k = 2 := by simp at hk; omega
        rcases this with rfl | rfl
        · exact key 1 (by simp only [Bool.and_eq_true]; exact h2.1.2)
        · exact key 2 (by simp only [Bool.and_eq_true]; exact h2.2)
      · intro hk; simp at hk; omega
    · split
      · rename_i h2
        simp only [Bool.and_eq_true] at h2
        split
        · intro hk
          have : k = 1 ∨ k = 2 ∨ k = 3 := by simp at hk; omega
          rcases this with rfl | rfl | rfl
          · exact key 1 (by simp only [Bool.and_eq_true]; exact h2.1.1.2)
          · exact key 2 (by simp only [Bool.and_eq_true]; exact h2.1.2)
          · exact key 3 (by simp only [Bool.and_eq_true]; exact h2.2)
        · intro hk; simp at hk; omega
      · intro hk; simp at hk; omega

theorem enc_form (r : Int) (hv : Utf8.valid r = true) (h128 : 128 ≤ r) : (∃ a b : UInt8, 128 ≤ b.toNat ∧ Utf8.encode r = ⟨([a, b] : List UInt8).toArray⟩) ∨ (∃ a b c : UInt8, 128 ≤ c.toNat ∧ Utf8.encode r = ⟨([a, b, c] : List UInt8).toArray⟩) ∨ (∃ a b c d : UInt8, Utf8.encode r = ⟨([a, b, c, d] : List UInt8).toArray⟩) := by
  have hc : ¬ r.toNat < 128 := by omega
  unfold Utf8.encode
  simp only [hv, if_true, hc, if_false]
  split
  · refine .inl ⟨_, _, ?_, rfl⟩
    simp; omega
  · split
    · refine .inr (.inl ⟨_, _, _, ?_, rfl⟩)
      simp; omega
    · exact .inr (.inr ⟨_, _, _, _, rfl⟩)

theorem valid_of (r : Int) (h : Lib.validRune r = true) : Utf8.valid r = true := by
  simp [Lib.validRune, Utf8.valid] at h ⊢
  omega

theorem idx_nil (x : Int) (u : World) : Calls Tryd.prog 184 #[.string ⟨#[]⟩, .int .u8 x] u fun e w' => e = .returned (.int .i64 (-1)) ∧ w' = u := Tryd.strings_IndexByte ⟨#[]⟩ x u
theorem idx_d (b : UInt8) (hb : 128 ≤ b.toNat) (u : World) : Calls Tryd.prog 184 #[.string ⟨#[100]⟩, .int .u8 (b.toNat : Int)] u fun e w' => e = .returned (.int .i64 (-1)) ∧ w' = u := by
  refine (Tryd.strings_IndexByte ⟨#[100]⟩ (b.toNat : Int) u).mono ?_
  rintro e w' ⟨rfl, rfl⟩
  have e1 : ((b.toNat : Int).toNat).toUInt8 = b := by simp
  have e2 : Lib.indexByte [100] b = -1 := by
    have : ((100 : UInt8) == b) = false := by
      rw [beq_eq_false_iff_ne]
      rintro rfl
      simp at hb
    simp [Lib.indexByte, this]
  rw [e1]
  exact ⟨by rw [show Lib.indexByte (⟨#[100]⟩ : ByteArray).data.toList b = -1 from e2], rfl⟩

set_option maxHeartbeats 2000000 in
set_option maxRecDepth 100000 in
theorem IndexRune_high (r : Int) (h0 : 128 ≤ r) (h1 : r ≤ 2147483647) (w : World) :
    Calls Tryd.prog 170 #[.string ⟨([97, 99, 100] : List UInt8).toArray⟩, .int .i32 r] w fun e w' => e = .returned (.int .i64 (-1)) ∧ Below w.heap.size w w' := by
  by_cases h2 : r = 65533
  · subst h2
    have hn0 : ∀ ty, (Instr.next (.pointer (some ⟨w.heap.size, 0, none⟩)) true ty).run Tryd.prog (w.iter ⟨([97, 99, 100] : List UInt8).toArray⟩ 0) = .ok (.tuple #[.bool true, .int .i64 0, .int .i32 97]) (w.iter ⟨([97, 99, 100] : List UInt8).toArray⟩ 1) := fun ty => run_next_ascii w ⟨([97, 99, 100] : List UInt8).toArray⟩ 0 ty (by decide) (by decide)
    have hn1 : ∀ ty, (Instr.next (.pointer (some ⟨w.heap.size, 0, none⟩)) true ty).run Tryd.prog (w.iter ⟨([97, 99, 100] : List UInt8).toArray⟩ 1) = .ok (.tuple #[.bool true, .int .i64 1, .int .i32 99]) (w.iter ⟨([97, 99, 100] : List UInt8).toArray⟩ 2) := fun ty => run_next_ascii w ⟨([97, 99, 100] : List UInt8).toArray⟩ 1 ty (by decide) (by decide)
    have hn2 : ∀ ty, (Instr.next (.pointer (some ⟨w.heap.size, 0, none⟩)) true ty).run Tryd.prog (w.iter ⟨([97, 99, 100] : List UInt8).toArray⟩ 2) = .ok (.tuple #[.bool true, .int .i64 2, .int .i32 100]) (w.iter ⟨([97, 99, 100] : List UInt8).toArray⟩ 3) := fun ty => run_next_ascii w ⟨([97, 99, 100] : List UInt8).toArray⟩ 2 ty (by decide) (by decide)
    have hn3 : ∀ ty, (Instr.next (.pointer (some ⟨w.heap.size, 0, none⟩)) true ty).run Tryd.prog (w.iter ⟨([97, 99, 100] : List UInt8).toArray⟩ 3) = .ok (.tuple #[.bool false]) (w.iter ⟨([97, 99, 100] : List UInt8).toArray⟩ 3) := fun ty => run_next_end w ⟨([97, 99, 100] : List UInt8).toArray⟩ 3 ty (by decide)
    go_enter Tryd.func170, Tryd.ntmps170
    go_wp2
    refine wp_loop_rounds 4 ?_
    rw [rounds_succ]
    go_wp2
    rw [rounds_succ]
    go_wp2
    rw [rounds_succ]
    go_wp2
    rw [rounds_succ]
    go_wp2
    go_ret
    exact ⟨rfl, (Below.refl _ w).alloc (Nat.le_refl _) _⟩
  · have hb : (r == 65533) = false := by simp [h2]
    go_enter Tryd.func170, Tryd.ntmps170
    go_wp2_with fail
    refine (Tryd.utf8_ValidRune r _).mono ?_
    rintro e w' ⟨rfl, rfl⟩
    cases hv : Lib.validRune r
    · go_wp2
      go_ret
      exact ⟨rfl, Below.refl _ _⟩
    · rcases enc_form r (valid_of r hv) h0 with ⟨a, b, hb128, he⟩ | ⟨a, b, c, hb128, he⟩ | ⟨a, b, c, d, he⟩
      · have hbl := b.toNat_lt
        have hw2 : IntKind.i64.wrap 2 = 2 := by decide
        have hsl : ∀ u : World, (Instr.slice 9 (.string ⟨([97, 99, 100] : List UInt8).toArray⟩) (some (.int .i64 2)) none none).run Tryd.prog u = .ok (.string ⟨([100] : List UInt8).toArray⟩) u := fun u => by kernel_rfl
        have hne : ((99 : Int) != (b.toNat : Int)) = true := by simp; omega
        go_wp2_with fail
        go_step3
        go_wp2_with fail
        refine wp_loop_rounds 1 ?_
        rw [rounds_succ]
        go_wp2_with fail
        go_step3
        go_wp2_with fail
        go_quiet (fail)
        have hbq : Below w'.heap.size w' (w'.drewN nq) := Below.dN (Below.refl _ _) nq
        generalize w'.drewN nq = wq at *
        go_wp2_with fail
        go_quiet ((go_at_call 184; exact Calls.quiet_of_same (idx_d b hb128 _)))
        go_wp2
        rw [Exit.noGoto_ret]
        go_wp2
        rw [Exit.noGoto_ret]
        go_ret
        exact ⟨rfl, Below.dN hbq _⟩
      · have hbl := c.toNat_lt
        have hw2 : IntKind.i64.wrap 3 = 3 := by decide
        have hsl : ∀ u : World, (Instr.slice 9 (.string ⟨([97, 99, 100] : List UInt8).toArray⟩) (some (.int .i64 3)) none none).run Tryd.prog u = .ok (.string ⟨([] : List UInt8).toArray⟩) u := fun u => by kernel_rfl
        have hne : ((100 : Int) != (c.toNat : Int)) = true := by simp; omega
        go_wp2_with fail
        go_step3
        go_wp2_with fail
        refine wp_loop_rounds 1 ?_
        rw [rounds_succ]
        go_wp2_with fail
        go_step3
        go_wp2_with fail
        go_quiet (fail)
        have hbq : Below w'.heap.size w' (w'.drewN nq) := Below.dN (Below.refl _ _) nq
        generalize w'.drewN nq = wq at *
        go_wp2_with fail
        go_quiet ((go_at_call 184; exact Calls.quiet_of_same (idx_nil _ _)))
        go_wp2
        rw [Exit.noGoto_ret]
        go_wp2
        rw [Exit.noGoto_ret]
        go_ret
        exact ⟨rfl, Below.dN hbq _⟩
      · go_wp2_with fail
        go_step3
        go_wp2_with fail
        refine wp_loop_rounds 1 ?_
        rw [rounds_succ]
        go_wp2
        rw [Exit.noGoto_ret]
        go_ret
        exact ⟨rfl, Below.refl _ _⟩

theorem zero_set : ∀ w, (zeroValue 202).run Tryd.prog w = .ok (.agg (Array.replicate 256 (.bool false))) w :=
  (zero_of_info (P := Tryd.prog) (show (Tryd.prog.info? 202).map (fun i => (i.zero, i.size)) = some (some (.agg (Array.replicate 256 (.bool false))), 256) by kernel_rfl)).1

theorem idx_three (x : UInt8) : Lib.indexByte [97, 99, 100] x = if x.toNat = 97 then 0 else if x.toNat = 99 then 1 else if x.toNat = 100 then 2 else -1 := by
  have key : ∀ i : Fin 256, Lib.indexByte [97, 99, 100] (UInt8.ofNat i.val) = if i.val = 97 then 0 else if i.val = 99 then 1 else if i.val = 100 then 2 else -1 := by decide +kernel
  have := key ⟨x.toNat, x.toNat_lt⟩
  simpa using this
theorem isC_nat (x : UInt8) : isC x = decide (x.toNat = 97 ∨ x.toNat = 99 ∨ x.toNat = 100) := by
  rw [Bool.eq_iff_iff]
  simp [isC, ← UInt8.toNat_inj, or_assoc]

def idxB (x : UInt8) : Int := Lib.indexByte [97, 99, 100] x
theorem idxB_yes {x : UInt8} (h : isC x = true) : 0 ≤ idxB x := by
  rw [isC_nat] at h
  have h := of_decide_eq_true h
  unfold idxB; rw [idx_three]; split <;> (try split) <;> (try split) <;> omega
theorem idxB_no {x : UInt8} (h : isC x = false) : idxB x < 0 := by
  rw [isC_nat] at h
  have h := of_decide_eq_false h
  unfold idxB; rw [idx_three]; split <;> (try split) <;> (try split) <;> omega
theorem contains_three (c : UInt8) : ([97, 99, 100] : List UInt8).contains c = isC c := by
  rw [Bool.eq_iff_iff]
  simp [isC, or_assoc]
/-- where the first of the three letters is, or -1 -/
def wend (l : List UInt8) : Int := Lib.indexAny l [97, 99, 100]
theorem wend_at : ∀ (l : List UInt8) (k : Nat) (hk : k < l.length), (∀ j (h : j < l.length), j < k → isC l[j] = false) → isC l[k] = true → wend l = k
  | b :: l, 0, _, _, h => by
    unfold wend Lib.indexAny
    rw [contains_three, if_pos (by simpa using h)]
    rfl
  | b :: l, k + 1, hk, ha, h => by
    have h0 := ha 0 (by simp) (by omega)
    have ih := wend_at l k (by simpa using hk) (fun j hj hjk => ha (j + 1) (by simp; omega) (by omega)) (by simpa using h)
    unfold wend at ih ⊢
    unfold Lib.indexAny
    rw [contains_three, if_neg (by simpa using h0), ih]
    rw [if_neg (by simp)]
    omega

theorem wend_none : ∀ (l : List UInt8), (∀ j (h : j < l.length), isC l[j] = false) → wend l = -1
  | [], _ => rfl
  | b :: l, ha => by
    have h0 := ha 0 (by simp)
    have ih := wend_none l (fun j hj => ha (j + 1) (by simp; omega))
    unfold wend at ih ⊢
    unfold Lib.indexAny
    rw [contains_three, if_neg (by simpa using h0), ih]
    rfl

theorem IndexRune_low (x : UInt8) (h : x.toNat < 128) (w : World) :
    Calls Tryd.prog 170 #[.string ⟨([97, 99, 100] : List UInt8).toArray⟩, .int .i32 (x.toNat : Int)] w fun e w' => e = .returned (.int .i64 (idxB x)) ∧ w' = w := by
  have h1 := Tryd.strings_IndexRune_ascii ⟨([97, 99, 100] : List UInt8).toArray⟩ (x.toNat : Int) w (by omega) (by omega)
  refine h1.mono ?_
  rintro e w' ⟨rfl, rfl⟩
  have e : ((x.toNat : Int).toNat).toUInt8 = x := by simp
  rw [e]
  exact ⟨rfl, rfl⟩

set_option maxHeartbeats 2000000 in
theorem shouldUse_short (n : Int) (h : n ≤ 8) (w : World) : Calls Tryd.prog 171 #[.int .i64 n] w fun e w' => e = .returned (.bool false) ∧ w = w' := by
  go_enter Tryd.func171, Tryd.ntmps171
  go_wp2
  go_ret
  exact ⟨by simp; omega, rfl⟩

set_option maxHeartbeats 4000000 in
set_option maxRecDepth 100000 in
theorem IndexAny_short (l : List UInt8) (h8 : l.length ≤ 8) (w : World) :
    Calls Tryd.prog 148 #[.string ⟨l.toArray⟩, .string ⟨([97, 99, 100] : List UInt8).toArray⟩] w fun e w' => e = .returned (.int .i64 (wend l)) ∧ Below w.heap.size w w' := by
  go_enter Tryd.func148, Tryd.ntmps148
  go_wp2_with fail
  refine (shouldUse_short _ (by omega) _).mono ?_
  rintro e w' ⟨rfl, rfl⟩
  go_wp2
  go_loopw [] (fun wr => ∃ pos : Nat, pos ≤ l.length ∧ wr.heap[w.heap.size]? = some (.stringIter ⟨l.toArray⟩ pos) ∧ Below w.heap.size w wr ∧ (∀ k (hk : k < l.length), k < pos → isC l[k] = false)) (fun wr => l.length - wr.iterPos w.heap.size)
  case atStart => exact ⟨0, Nat.zero_le _, World.iter_heap w _ 0, (Below.refl _ w).alloc (Nat.le_refl _) _, fun k _ h => by omega⟩
  case round =>
    obtain ⟨pos, hp, hit, hbr, hall⟩ := hrel
    have HA : Hid (∀ k (hk : k < l.length), k < pos → isC l[k] = false) := hall
    clear hall
    have hwl : w.heap.size < wr.heap.size := (Array.getElem?_eq_some_iff.1 hit).1
    by_cases hlt : pos < l.length
    · by_cases ha : l[pos].toNat < 128
      · have hnx : ∀ ty, (Instr.next (.pointer (some ⟨w.heap.size, 0, none⟩)) true ty).run Tryd.prog wr = _ := fun ty => Lib.run_next_ascii_at wr w.heap.size ⟨l.toArray⟩ pos ty hit hlt ha
        have hit2 := Lib.iterAt_heap wr w.heap.size ⟨l.toArray⟩ pos (pos + 1) hit
        have hbr2 := Lib.below_iterAt hbr (k := w.heap.size) (Nat.le_refl _) ⟨l.toArray⟩ (pos + 1)
        go_wp2_with fail
        refine (IndexRune_low l[pos] ha _).mono ?_
        rintro e w4 ⟨rfl, rfl⟩
        cases hbl : isC l[pos]
        · have hneg := idxB_no hbl
          go_wp2
          go_roundw
          case rel =>
            refine ⟨pos + 1, by omega, hit2, hbr2, fun k hk h => ?_⟩
            by_cases e : k = pos
            · subst e; exact hbl
            · exact HA.out k hk (by omega)
          case measure => simp only [World.iterPos, hit, hit2]; omega
        · have hpos := idxB_yes hbl
          have HE : Hid ((pos : Int) = wend l) := (wend_at l pos hlt HA.out hbl).symm
          go_wp2
          go_ret
          exact ⟨ret_int1 HE.out, hbr2⟩
      · have hdh := (decode_high ⟨l.toArray⟩ pos hlt (by show 128 ≤ l[pos].toNat; omega))
        have hdr := decode_rest ⟨l.toArray⟩ pos hlt (by show 128 ≤ l[pos].toNat; omega)
        have hnx : ∀ ty, (Instr.next (.pointer (some ⟨w.heap.size, 0, none⟩)) true ty).run Tryd.prog wr = _ := fun ty => Lib.run_next_any_at wr w.heap.size ⟨l.toArray⟩ pos ty hit hlt
        have hit2 := Lib.iterAt_heap wr w.heap.size ⟨l.toArray⟩ pos (pos + (Utf8.decode ⟨l.toArray⟩ pos).2) hit
        have hbr2 := Lib.below_iterAt hbr (k := w.heap.size) (Nat.le_refl _) ⟨l.toArray⟩ (pos + (Utf8.decode ⟨l.toArray⟩ pos).2)
        have hdl := decode_le ⟨l.toArray⟩ pos
        have HR : Hid (∀ k, k < (Utf8.decode ⟨l.toArray⟩ pos).2 → ∃ h' : pos + k < l.length, 128 ≤ l[pos + k].toNat) := fun k hk => hdr k hk
        clear hdr
        obtain ⟨hd1, hd2⟩ := hdh
        generalize Utf8.decode ⟨l.toArray⟩ pos = dd at *
        have hwz : w.heap.size < (wr.iterAt w.heap.size ⟨l.toArray⟩ (pos + dd.2)).heap.size := by rw [Lib.iterAt_size]; exact hwl
        go_wp2_with fail
        refine (IndexRune_high (dd.1 : Int) (by omega) (by omega) _).mono ?_
        rintro e w4 ⟨rfl, hb4⟩
        have hit4 := (hb4.block w.heap.size hwz).trans hit2
        have hbr4 := hbr2.trans (hb4.mono (Nat.le_of_lt hwz))
        go_wp2
        go_roundw
        case rel =>
          refine ⟨pos + dd.2, ?_, hit4, hbr4, fun k hk h => ?_⟩
          · obtain ⟨h', _⟩ := HR.out (dd.2 - 1) (by omega)
            omega
          · by_cases e : k < pos
            · exact HA.out k hk e
            · obtain ⟨h', hh⟩ := HR.out (k - pos) (by omega)
              have ee : pos + (k - pos) = k := by omega
              simp only [ee] at hh
              exact (by rw [isC_nat]; exact decide_eq_false (by omega))
        case measure => simp only [World.iterPos, hit, hit4]; omega
    · have hnx : ∀ ty, (Instr.next (.pointer (some ⟨w.heap.size, 0, none⟩)) true ty).run Tryd.prog wr = _ := fun ty => Lib.run_next_end_at wr w.heap.size ⟨l.toArray⟩ pos ty hit hlt
      have HE : Hid (-1 = wend l) := (wend_none l (fun k hk => HA.out k hk (by omega))).symm
      go_wp2
      go_ret
      exact ⟨ret_int1 HE.out, hbr⟩

theorem IndexAny_any (l : List UInt8) (hl : l.length < 4294967281) (w : World) :
    Calls Tryd.prog 148 #[.string ⟨l.toArray⟩, .string ⟨([97, 99, 100] : List UInt8).toArray⟩] w fun e w' => e = .returned (.int .i64 (wend l)) ∧ Below w.heap.size w w' := by
  by_cases h8 : l.length ≤ 8
  · exact IndexAny_short l h8 w
  · have h := Tryd.strings_IndexAny_long zero_set ⟨l.toArray⟩ ⟨([97, 99, 100] : List UInt8).toArray⟩ w (by decide) (by show 8 < l.length; omega) hl (by decide) (fun j b h => by match j, h with | 0, h => simp at h; subst h; decide | 1, h => simp at h; subst h; decide | 2, h => simp at h; subst h; decide | j + 3, h => simp at h)
    refine h.mono ?_
    rintro e w' ⟨rfl, rfl⟩
    exact ⟨rfl, ((Below.refl _ w).alloc (Nat.le_refl _) _).alloc (by simp) _⟩

/-- where the first letter is, as the plain reader says -/
theorem wend_sp (l : List UInt8) : (spB isC l = none ∧ wend l = -1) ∨ (∃ k : Nat, ∃ h : k < l.length, wend l = k ∧ spB isC l = some (l.take k, l[k], l.drop (k + 1)) ∧ isC l[k] = true) := by
  induction l with
  | nil => exact .inl ⟨rfl, rfl⟩
  | cons c l ih =>
    unfold wend Lib.indexAny
    rw [contains_three]
    simp only [spB]
    cases hc : isC c with
    | true =>
      right
      refine ⟨0, by simp, by simp, by simp, by simpa using hc⟩
    | false =>
      rw [if_neg (by decide), if_neg (by decide)]
      rcases ih with ⟨h1, h2⟩ | ⟨k, hk, h1, h2, h3⟩
      · left
        unfold wend at h2
        rw [h1, h2]
        exact ⟨rfl, rfl⟩
      · right
        unfold wend at h1
        refine ⟨k + 1, by simpa using hk, ?_, ?_, by simpa using h3⟩
        · rw [h1, if_neg (by simp)]
          omega
        · rw [h2]
          rfl
/-- where a comma is -/
theorem comma_sp (l : List UInt8) : (spB isK l = none ∧ Lib.indexByte l 44 = -1) ∨ (∃ k : Nat, ∃ h : k < l.length, Lib.indexByte l 44 = k ∧ spB isK l = some (l.take k, l[k], l.drop (k + 1))) := by
  induction l with
  | nil => exact .inl ⟨rfl, rfl⟩
  | cons c l ih =>
    unfold Lib.indexByte
    simp only [spB]
    have e : (c == 44) = isK c := rfl
    rw [e]
    cases hc : isK c with
    | true =>
      right
      exact ⟨0, by simp, by simp, by simp⟩
    | false =>
      rw [if_neg (by decide), if_neg (by decide)]
      rcases ih with ⟨h1, h2⟩ | ⟨k, hk, h1, h2⟩
      · left
        rw [h1, h2]
        exact ⟨rfl, rfl⟩
      · right
        refine ⟨k + 1, by simpa using hk, ?_, ?_⟩
        · rw [h1, if_neg (by simp)]
          omega
        · rw [h2]
          rfl
end Go.Proofs.YtgiojkhmkeocfaaDoor
