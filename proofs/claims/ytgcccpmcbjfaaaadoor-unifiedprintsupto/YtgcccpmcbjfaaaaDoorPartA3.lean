/-
  Texts that belong together, joined: HuM2, HuM3, HuM4, HuM5, HuM6, EdChk, EdIter, EdOwn, EdKeep, EdWalk, EdDrew.
-/
import Derived.Test.YtgcccpmcbjfaaaaDoorPartA2
import Derived.RangeFuncNested
import Derived.RangeFuncBound
import Derived.RangeFuncCalls
import Derived.RangeFuncLeaves
import Derived.RangeFuncBox
import Derived.Shelf.Abstract
import Derived.Shelf.RegionOpen
import Derived.OwnWalkIn
import Derived.TacticsInMore
import Derived.LoopNIn
import Derived.LoopIn
import Derived.Maps.AppendAt
import Derived.Deep.RegionHeld3

/- Hunks gone back: whose lines are whose, going back twice; when lines are as they must be; plain mathematics. -/
namespace Go.Proofs.YtgcccpmcbjfaaaaDoor

theorem pick_mks_same (no : Int) (hno : no = 43 ∨ no = 45) (x : List (List UInt8)) : pkL no (mks 32 x) = x := by
  induction x with
  | nil => rfl
  | cons t x ih =>
    show pkL no (⟨32, t⟩ :: mks 32 x) = _
    simp only [pkL, ih]
    rw [if_pos ⟨by omega, by decide⟩]
theorem pick_mks_in (no s : Int) (hs : no ≠ s) (ho : okS s = true) (x : List (List UInt8)) : pkL no (mks s x) = x := by
  induction x with
  | nil => rfl
  | cons t x ih =>
    show pkL no (⟨s, t⟩ :: mks s x) = _
    simp only [pkL, ih]
    rw [if_pos ⟨by omega, ho⟩]
theorem pick_mks_out (s : Int) (x : List (List UInt8)) : pkL s (mks s x) = [] := by
  induction x with
  | nil => rfl
  | cons t x ih =>
    show pkL s (⟨s, t⟩ :: mks s x) = _
    simp only [pkL, ih]
    simp
/-- all of one sign -/
def AllS (s : Int) (x : List Mk) : Prop := ∀ m ∈ x, m.sg = s
theorem AllS.nil (s : Int) : AllS s [] := fun _ h => by cases h
theorem AllS.snoc {s : Int} {x : List Mk} (h : AllS s x) (t : List UInt8) : AllS s (x ++ [⟨s, t⟩]) := by
  intro m hm
  simp at hm
  rcases hm with hm | rfl
  · exact h m hm
  · rfl
theorem pick_out {s : Int} {x : List Mk} (h : AllS s x) : pkL s x = [] := by
  induction x with
  | nil => rfl
  | cons m x ih =>
    simp only [pkL]
    rw [if_neg (by simp [h m (by simp)])]
    exact ih fun q hq => h q (by simp [hq])

/-- the old lines of a hunk that goes back are the new ones -/
theorem inv_old (l : List Mk) : ∀ x, AllS 43 x → pkL 43 (invG x l) = pkL 45 l := by
  induction l with
  | nil => intro x hx; simp only [invG, pkL]; exact pick_out hx
  | cons m l ih =>
    intro x hx
    simp only [invG]
    by_cases h1 : m.sg = 43
    · rw [if_pos h1]
      simp only [pkL, ih x hx]
      rw [if_pos ⟨by decide, by decide⟩, if_pos ⟨by omega, by rw [h1]; decide⟩]
    · rw [if_neg h1]
      by_cases h2 : m.sg = 45
      · rw [if_pos h2, ih _ (hx.snoc _)]
        simp only [pkL]
        rw [if_neg (by simp [h2])]
      · rw [if_neg h2, pkL_append, pick_out hx]
        simp only [pkL, ih [] (AllS.nil _), List.nil_append]
        by_cases ho : okS m.sg = true
        · rw [if_pos ⟨h1, ho⟩, if_pos ⟨h2, ho⟩]
        · rw [if_neg (fun h => ho h.2), if_neg (fun h => ho h.2)]
theorem inv_new (l : List Mk) : ∀ x, AllS 43 x → pkL 45 (invG x l) = pkL 45 x ++ pkL 43 l := by
  induction l with
  | nil => intro x hx; simp [invG, pkL]
  | cons m l ih =>
    intro x hx
    simp only [invG]
    by_cases h1 : m.sg = 43
    · rw [if_pos h1]
      simp only [pkL, ih x hx]
      rw [if_neg (by simp), if_neg (by simp [h1])]
    · rw [if_neg h1]
      by_cases h2 : m.sg = 45
      · rw [if_pos h2, ih _ (hx.snoc _), pkL_append]
        simp only [pkL]
        rw [if_pos ⟨by decide, by decide⟩, if_pos ⟨h1, by rw [h2]; decide⟩]
        simp
      · rw [if_neg h2, pkL_append]
        simp only [pkL, ih [] (AllS.nil _), List.nil_append]
        by_cases ho : okS m.sg = true
        · rw [if_pos ⟨h2, ho⟩, if_pos ⟨h1, ho⟩]
        · rw [if_neg (fun h => ho h.2), if_neg (fun h => ho h.2)]
theorem invH_old (h : Hk) : oldL (invH h) = newL h := inv_old h.ls [] (AllS.nil _)
theorem invH_new (h : Hk) : newL (invH h) = oldL h := inv_new h.ls [] (AllS.nil _)

/-- in each piece the lines that are taken out stand first; s: one that is put in stands ahead -/
def Nf : Bool → List Mk → Prop
  | _, [] => True
  | s, m :: l => if m.sg = 45 then s = false ∧ Nf false l else if m.sg = 43 then Nf true l else Nf false l
theorem nf_added {x : List Mk} (hx : AllS 43 x) (t : List Mk) (ht : ∀ s, Nf s t) : ∀ s, Nf s (x ++ t) := by
  induction x with
  | nil => exact ht
  | cons m x ih =>
    intro s
    have hm := hx m (by simp)
    simp only [List.cons_append, Nf]
    rw [if_neg (by omega), if_pos hm]
    exact ih (fun q hq => hx q (by simp [hq])) _
theorem nf_inv (l : List Mk) : ∀ x, AllS 43 x → Nf false (invG x l) := by
  induction l with
  | nil =>
    intro x hx
    have := nf_added hx [] (fun s => by simp [Nf]) false
    simpa [invG] using this
  | cons m l ih =>
    intro x hx
    simp only [invG]
    by_cases h1 : m.sg = 43
    · rw [if_pos h1]
      simp only [Nf]
      simp only [if_true, true_and]
      exact ih x hx
    · rw [if_neg h1]
      by_cases h2 : m.sg = 45
      · rw [if_pos h2]
        exact ih _ (hx.snoc _)
      · rw [if_neg h2]
        refine nf_added hx _ (fun s => ?_) false
        simp only [Nf]
        rw [if_neg h2, if_neg h1]
        exact ih [] (AllS.nil _)
/-- signs turned -/
def tu (s : Int) (m : Mk) : Mk := ⟨s, m.tx⟩
theorem inv_rem {R : List Mk} (hR : AllS 45 R) : ∀ (x t : List Mk), invG x (R ++ t) = invG (x ++ R.map (tu 43)) t := by
  induction R with
  | nil => intro x t; simp
  | cons m R ih =>
    intro x t
    have hm := hR m (by simp)
    simp only [List.cons_append, invG]
    rw [if_neg (by omega), if_pos hm, ih fun q hq => hR q (by simp [hq])]
    simp [tu]
theorem inv_add {A : List Mk} (hA : AllS 43 A) : ∀ (x t : List Mk), invG x (A ++ t) = A.map (tu 45) ++ invG x t := by
  induction A with
  | nil => intro x t; simp
  | cons m A ih =>
    intro x t
    have hm := hA m (by simp)
    simp only [List.cons_append, invG]
    rw [if_pos hm, ih fun q hq => hA q (by simp [hq])]
    simp [tu]
theorem tu_back {s : Int} {X : List Mk} (h : AllS s X) (s' : Int) : (X.map (tu s')).map (tu s) = X := by
  induction X with
  | nil => rfl
  | cons m X ih =>
    have hm := h m (by simp)
    simp only [List.map_cons]
    rw [ih fun q hq => h q (by simp [hq])]
    simp [tu, ← hm]
theorem allS_tu (s : Int) (X : List Mk) : AllS s (X.map (tu s)) := by
  intro m hm
  simp at hm
  obtain ⟨q, _, rfl⟩ := hm
  rfl
theorem nf_true {l : List Mk} (h : Nf true l) : ∃ A t, l = A ++ t ∧ AllS 43 A ∧ (t = [] ∨ ∃ m r, t = m :: r ∧ m.sg ≠ 43 ∧ m.sg ≠ 45 ∧ Nf false r) := by
  induction l with
  | nil => exact ⟨[], [], rfl, AllS.nil _, .inl rfl⟩
  | cons m l ih =>
    simp only [Nf] at h
    by_cases h2 : m.sg = 45
    · rw [if_pos h2] at h
      exact absurd h.1 (by simp)
    · rw [if_neg h2] at h
      by_cases h1 : m.sg = 43
      · rw [if_pos h1] at h
        obtain ⟨A, t, rfl, hA, ht⟩ := ih h
        refine ⟨m :: A, t, rfl, ?_, ht⟩
        intro q hq
        simp at hq
        rcases hq with rfl | hq
        · exact h1
        · exact hA q hq
      · rw [if_neg h1] at h
        exact ⟨[], m :: l, rfl, AllS.nil _, .inr ⟨m, l, rfl, h1, h2, h⟩⟩
theorem nf_false {l : List Mk} (h : Nf false l) : ∃ R A t, l = R ++ (A ++ t) ∧ AllS 45 R ∧ AllS 43 A ∧ (t = [] ∨ ∃ m r, t = m :: r ∧ m.sg ≠ 43 ∧ m.sg ≠ 45 ∧ Nf false r) := by
  induction l with
  | nil => exact ⟨[], [], [], rfl, AllS.nil _, AllS.nil _, .inl rfl⟩
  | cons m l ih =>
    simp only [Nf] at h
    by_cases h2 : m.sg = 45
    · rw [if_pos h2] at h
      obtain ⟨R, A, t, rfl, hR, hA, ht⟩ := ih h.2
      refine ⟨m :: R, A, t, rfl, ?_, hA, ht⟩
      intro q hq
      simp at hq
      rcases hq with rfl | hq
      · exact h2
      · exact hR q hq
    · rw [if_neg h2] at h
      by_cases h1 : m.sg = 43
      · rw [if_pos h1] at h
        obtain ⟨A, t, rfl, hA, ht⟩ := nf_true h
        refine ⟨[], m :: A, t, rfl, AllS.nil _, ?_, ht⟩
        intro q hq
        simp at hq
        rcases hq with rfl | hq
        · exact h1
        · exact hA q hq
      · rw [if_neg h1] at h
        exact ⟨[], [], m :: l, rfl, AllS.nil _, AllS.nil _, .inr ⟨m, l, rfl, h1, h2, h⟩⟩
theorem inv_inv_nf (n : Nat) : ∀ l : List Mk, l.length ≤ n → Nf false l → invG [] (invG [] l) = l := by
  induction n with
  | zero =>
    intro l hl _
    cases l with
    | nil => rfl
    | cons => simp at hl
  | succ n ih =>
    intro l hl h
    obtain ⟨R, A, t, rfl, hR, hA, ht⟩ := nf_false h
    have e1 : invG [] (R ++ (A ++ t)) = A.map (tu 45) ++ invG (R.map (tu 43)) t := by
      rw [inv_rem hR, inv_add hA]
      simp
    rw [e1, inv_rem (allS_tu 45 A)]
    rcases ht with rfl | ⟨m, r, rfl, h1, h2, hr⟩
    · have e2 : invG (R.map (tu 43)) [] = R.map (tu 43) ++ [] := by simp [invG]
      rw [e2, inv_add (allS_tu 43 R), tu_back hR, List.nil_append, tu_back hA]
      simp [invG]
    · have e2 : invG (R.map (tu 43)) (m :: r) = R.map (tu 43) ++ (m :: invG [] r) := by
        simp only [invG]
        rw [if_neg h1, if_neg h2]
      rw [e2, inv_add (allS_tu 43 R), tu_back hR, List.nil_append, tu_back hA]
      simp only [invG]
      rw [if_neg h1, if_neg h2, ih r (by simp at hl; omega) hr]
theorem invH_nf {h : Hk} (hn : Nf false h.ls) : invH (invH h) = h := by
  obtain ⟨A, AN, B, BN, ls⟩ := h
  simp only [invH]
  rw [inv_inv_nf ls.length ls (Nat.le_refl _) hn]
/-- going back twice, once it was gone back -/
theorem invH_four (h : Hk) : invH (invH (invH (invH h))) = invH (invH h) := invH_nf (nf_inv _ [] (AllS.nil _))

/-- all but the last have their line feed -/
def abl : List (List UInt8) → Bool
  | [] => true
  | t :: r => (r.isEmpty || fdB t) && abl r
theorem lst_pick {no s : Int} (hn : no = 43 ∧ s = 45 ∨ no = 45 ∧ s = 43) {l : List Mk} (h : ∀ m ∈ l, okS m.sg = true) : lstB s l = (pkL no l).isEmpty := by
  induction l with
  | nil => rfl
  | cons m l ih =>
    have hm := h m (by simp)
    have hi := ih fun q hq => h q (by simp [hq])
    simp only [lstB, List.all_cons, pkL] at hi ⊢
    rw [hi]
    have hcase : m.sg = 32 ∨ m.sg = 45 ∨ m.sg = 43 := by simp [okS] at hm; omega
    by_cases hno : m.sg = no
    · rw [if_neg (fun q => q.1 hno)]
      have e1 : decide (m.sg ≠ s) = true := decide_eq_true (by omega)
      have e2 : decide (m.sg ≠ 32) = true := decide_eq_true (by omega)
      rw [e1, e2]
      simp
    · rw [if_pos ⟨hno, hm⟩]
      have e : (decide (m.sg ≠ s) && decide (m.sg ≠ 32)) = false := by simp; omega
      rw [e]
      simp
/-- lines are as they must be -/
theorem fld_iff (l : List Mk) : fldB l = true ↔ (∀ m ∈ l, linB m.tx = true ∧ okS m.sg = true) ∧ abl (pkL 43 l) = true ∧ abl (pkL 45 l) = true := by
  induction l with
  | nil => simp [fldB, pkL, abl]
  | cons m l ih =>
    simp only [fldB, Bool.and_eq_true, ih]
    constructor
    · rintro ⟨⟨⟨h1, h2⟩, h3⟩, h4, h5, h6⟩
      have hok : ∀ q ∈ l, okS q.sg = true := fun q hq => (h4 q hq).2
      rw [lst_pick (no := 43) (by omega) hok, lst_pick (no := 45) (by omega) hok] at h3
      refine ⟨?_, ?_, ?_⟩
      · intro q hq
        simp at hq
        rcases hq with rfl | hq
        · exact ⟨h1, h2⟩
        · exact h4 q hq
      · simp only [pkL]
        by_cases hs : m.sg = 43
        · rw [if_neg (fun q => q.1 hs)]
          exact h5
        · rw [if_pos ⟨hs, h2⟩]
          simp only [abl, h5, Bool.and_true]
          simp [hs] at h3
          rcases h3 with h3 | h3
          · simp [h3]
          · simp [h3.1]
      · simp only [pkL]
        by_cases hs : m.sg = 45
        · rw [if_neg (fun q => q.1 hs)]
          exact h6
        · rw [if_pos ⟨hs, h2⟩]
          simp only [abl, h6, Bool.and_true]
          simp [hs] at h3
          rcases h3 with h3 | h3
          · simp [h3]
          · simp [h3.2]
    · rintro ⟨h1, h2, h3⟩
      have hm := h1 m (by simp)
      have h4 : ∀ q ∈ l, linB q.tx = true ∧ okS q.sg = true := fun q hq => h1 q (by simp [hq])
      have hok : ∀ q ∈ l, okS q.sg = true := fun q hq => (h4 q hq).2
      rw [lst_pick (no := 43) (by omega) hok, lst_pick (no := 45) (by omega) hok]
      simp only [pkL] at h2 h3
      refine ⟨⟨hm, ?_⟩, h4, ?_, ?_⟩
      · by_cases hs : m.sg = 43
        · rw [if_pos ⟨by omega, hm.2⟩] at h3
          simp only [abl, Bool.and_eq_true, Bool.or_eq_true] at h3
          rcases h3.1 with q | q
          · simp [hs, q]
          · simp [q]
        · rw [if_pos ⟨hs, hm.2⟩] at h2
          simp only [abl, Bool.and_eq_true, Bool.or_eq_true] at h2
          by_cases hr : m.sg = 45
          · rcases h2.1 with q | q
            · simp [hr, q]
            · simp [q]
          · rw [if_pos ⟨hr, hm.2⟩] at h3
            simp only [abl, Bool.and_eq_true, Bool.or_eq_true] at h3
            rcases h2.1 with q | q
            · rcases h3.1 with q' | q'
              · simp [q, q']
              · simp [q']
            · simp [q]
      · by_cases hs : m.sg = 43
        · rw [if_neg (fun q => q.1 hs)] at h2
          exact h2
        · rw [if_pos ⟨hs, hm.2⟩] at h2
          simp only [abl, Bool.and_eq_true] at h2
          exact h2.2
      · by_cases hs : m.sg = 45
        · rw [if_neg (fun q => q.1 hs)] at h3
          exact h3
        · rw [if_pos ⟨hs, hm.2⟩] at h3
          simp only [abl, Bool.and_eq_true] at h3
          exact h3.2
/-- what is true of the lines, whatever their sign of the three, is true of those that go back -/
theorem inv_each {P : Mk → Prop} (hP : ∀ t : List UInt8, P ⟨43, t⟩ ↔ P ⟨45, t⟩) (l : List Mk) : ∀ x, (∀ m ∈ invG x l, P m) ↔ (∀ m ∈ x, P m) ∧ ∀ m ∈ l, P m := by
  induction l with
  | nil => intro x; simp [invG]
  | cons m l ih =>
    intro x
    simp only [invG]
    obtain ⟨s, t⟩ := m
    dsimp only
    by_cases h1 : s = 43
    · subst h1
      rw [if_pos rfl]
      simp only [List.mem_cons, forall_eq_or_imp, ih, hP]
      constructor
      · rintro ⟨a, b, c⟩; exact ⟨b, a, c⟩
      · rintro ⟨b, a, c⟩; exact ⟨a, b, c⟩
    · rw [if_neg h1]
      by_cases h2 : s = 45
      · subst h2
        rw [if_pos rfl, ih]
        constructor
        · rintro ⟨a, b⟩
          refine ⟨fun m hm => a m (List.mem_append_left _ hm), fun m hm => ?_⟩
          rcases List.mem_cons.1 hm with rfl | hm
          · exact (hP t).1 (a _ (List.mem_append_right _ (List.mem_cons_self ..)))
          · exact b m hm
        · rintro ⟨a, b⟩
          refine ⟨fun m hm => ?_, fun m hm => b m (List.mem_cons_of_mem _ hm)⟩
          rcases List.mem_append.1 hm with hm | hm
          · exact a m hm
          · rw [List.mem_singleton.1 hm]
            exact (hP t).2 (b _ (List.mem_cons_self ..))
      · rw [if_neg h2]
        have hr := ih []
        constructor
        · intro a
          have h3 := hr.1 fun m hm => a m (List.mem_append_right _ (List.mem_cons_of_mem _ hm))
          refine ⟨fun m hm => a m (List.mem_append_left _ hm), fun m hm => ?_⟩
          rcases List.mem_cons.1 hm with rfl | hm
          · exact a _ (List.mem_append_right _ (List.mem_cons_self ..))
          · exact h3.2 m hm
        · rintro ⟨a, b⟩ m hm
          rcases List.mem_append.1 hm with hm | hm
          · exact a m hm
          · rcases List.mem_cons.1 hm with rfl | hm
            · exact b _ (List.mem_cons_self ..)
            · exact hr.2 ⟨fun _ h => (by cases h), fun q hq => b q (List.mem_cons_of_mem _ hq)⟩ m hm
theorem inv_fld (l : List Mk) : fldB (invG [] l) = fldB l := by
  have key : fldB (invG [] l) = true ↔ fldB l = true := by
    rw [fld_iff, fld_iff, inv_old l [] (AllS.nil _), inv_new l [] (AllS.nil _), inv_each (P := fun m => linB m.tx = true ∧ okS m.sg = true) (fun t => by simp [okS]) l []]
    simp only [List.not_mem_nil, false_implies, implies_true, true_and, pkL, List.nil_append]
    constructor
    · rintro ⟨a, b, c⟩; exact ⟨a, c, b⟩
    · rintro ⟨a, b, c⟩; exact ⟨a, c, b⟩
  cases h1 : fldB (invG [] l) <;> cases h2 : fldB l <;> simp_all
theorem inv_all (l : List Mk) : (invG [] l).all (fun m => decide (m.sg = 32)) = l.all (fun m => decide (m.sg = 32)) := by
  have key : (invG [] l).all (fun m => decide (m.sg = 32)) = true ↔ l.all (fun m => decide (m.sg = 32)) = true := by
    have h := inv_each (P := fun m => m.sg = 32) (fun t => by simp) l []
    simp only [List.not_mem_nil, false_implies, implies_true, true_and] at h
    simpa using h
  cases h1 : (invG [] l).all (fun m => decide (m.sg = 32)) <;> cases h2 : l.all (fun m => decide (m.sg = 32)) <;> simp_all
theorem rng_inv (h : Hk) : rngB (invH h) = rngB h := by
  show (nat31 h.B && nat31 h.BN && nat31 h.A && nat31 h.AN && !(decide (h.B = 0) && decide (0 < h.BN)) && !(decide (h.A = 0) && decide (0 < h.AN))) = (nat31 h.A && nat31 h.AN && nat31 h.B && nat31 h.BN && !(decide (h.A = 0) && decide (0 < h.AN)) && !(decide (h.B = 0) && decide (0 < h.BN)))
  generalize (decide (h.A = 0) && decide (0 < h.AN)) = p
  generalize (decide (h.B = 0) && decide (0 < h.BN)) = q
  cases nat31 h.A <;> cases nat31 h.AN <;> cases nat31 h.B <;> cases nat31 h.BN <;> cases p <;> cases q <;> rfl
/-- a hunk is right just if the one that goes back is -/
theorem chk_inv (h : Hk) : chkH (invH h) = 0 ↔ chkH h = 0 := by
  simp only [chkH, rng_inv]
  have e1 : fldB (invH h).ls = fldB h.ls := inv_fld h.ls
  have e2 : (invH h).ls.all (fun m => decide (m.sg = 32)) = h.ls.all (fun m => decide (m.sg = 32)) := inv_all h.ls
  rw [e1, e2, invH_old, invH_new]
  have e3 : (invH h).AN = h.BN := rfl
  have e4 : (invH h).BN = h.AN := rfl
  rw [e3, e4]
  by_cases h1 : rngB h = false
  · simp [h1]
  · by_cases h2 : fldB h.ls = false
    · simp [h1, h2]
    · by_cases h3 : h.AN = (oldL h).length <;> by_cases h4 : h.BN = (newL h).length <;> simp [h1, h2, h3, h4]
end Go.Proofs.YtgcccpmcbjfaaaaDoor

/- Hunks that are made of two texts: where they stand, their old and new lines, that they are in order and are the script again; plain mathematics. -/
namespace Go.Proofs.YtgcccpmcbjfaaaaDoor

theorem hcut_length {A : List (List UInt8)} {p k : Int} (hp : 0 ≤ p) (hk : 0 ≤ k) (h : p + k ≤ A.length) : ((cut A p k).length : Int) = k := by
  simp only [cut, List.length_take, List.length_drop]
  omega
theorem cut_cat {A : List (List UInt8)} {p i j : Int} (hp : 0 ≤ p) (hi : 0 ≤ i) (hj : 0 ≤ j) : cut A p i ++ cut A (p + i) j = cut A p (i + j) := by
  simp only [cut]
  rw [show (p + i).toNat = p.toNat + i.toNat by omega, show (i + j).toNat = i.toNat + j.toNat by omega, ← List.drop_drop, List.take_add]
theorem cut_cat2 {A : List (List UInt8)} {p i x j k : Int} (hp : 0 ≤ p) (hi : 0 ≤ i) (hj : 0 ≤ j) (hx : x = p + i) (hk : k = i + j) : cut A p i ++ cut A x j = cut A p k := by
  rw [hx, hk]
  exact cut_cat hp hi hj
theorem cut_zero (A : List (List UInt8)) (p : Int) : cut A p 0 = [] := by simp [cut]

/-- where a group ends in both texts -/
def endA : Int → List Ch → Int
  | p, [] => p
  | _, c :: g => endA (c.A + c.AN) g
def endB : Int → List Ch → Int
  | q, [] => q
  | _, c :: g => endB (c.B + c.BN) g
theorem endA_append (p : Int) (g h : List Ch) : endA p (g ++ h) = endA (endA p g) h := by
  induction g generalizing p with
  | nil => rfl
  | cons c g ih => exact ih _
theorem endB_append (p : Int) (g h : List Ch) : endB p (g ++ h) = endB (endB p g) h := by
  induction g generalizing p with
  | nil => rfl
  | cons c g ih => exact ih _
theorem endH_eq (n ctx : Int) (f : Ch) (g : List Ch) (p : Int) : endH n ctx (f :: g) = min n (endA p (f :: g) + ctx) := by
  induction g generalizing f p with
  | nil => rfl
  | cons d g ih => exact ih d 0
theorem right_end {fl : Bool} {p q n m : Int} {g rest : List Ch} (h : Right fl p q n m (g ++ rest)) : (Right false (endA p g) (endB q g) n m rest ∨ g = []) ∧ p ≤ endA p g ∧ q ≤ endB q g ∧ endA p g ≤ n ∧ endB q g ≤ m := by
  induction g generalizing fl p q with
  | nil =>
    have := h.le
    exact ⟨.inr rfl, Int.le_refl _, Int.le_refl _, this.1, this.2.1⟩
  | cons c g ih =>
    obtain ⟨⟨h1, h2, h3, h4⟩, h5⟩ := h
    rw [numB_iff] at h1
    obtain ⟨k1, k2, k3, k4, k5⟩ := ih h5
    refine ⟨.inl ?_, ?_, ?_, k4, k5⟩
    · rcases k1 with k1 | rfl
      · exact k1
      · exact h5
    · show p ≤ endA (c.A + c.AN) g
      omega
    · show q ≤ endB (c.B + c.BN) g
      omega
/-- what lies behind a group: as far in one text as in the other -/
theorem right_tail {fl : Bool} {p q n m : Int} {rest : List Ch} (h : Right fl p q n m rest) {e : Int} (he : e ≤ (rest.head?.map (·.A)).getD n) : q + (e - p) ≤ m := by
  cases rest with
  | nil =>
    obtain ⟨h1, h2, h3⟩ := h
    simp at he
    omega
  | cons c rest =>
    obtain ⟨⟨h1, h2, h3, h4⟩, h5⟩ := h
    rw [numB_iff] at h1
    have := h5.le
    simp at he
    omega
/-- the old lines of a group's hunk -/
theorem body_old {a b : List (List UInt8)} {fl : Bool} {p q m e : Int} {g rest : List Ch} (h : Right fl p q a.length m (g ++ rest)) (hp : 0 ≤ p) (he : endA p g ≤ e) : pkL 43 (bodyH a b e p g) = cut a p (e - p) := by
  induction g generalizing fl p q with
  | nil => exact pick_mks_same 43 (.inl rfl) _
  | cons c g ih =>
    obtain ⟨⟨h1, h2, h3, h4⟩, h5⟩ := h
    rw [numB_iff] at h1
    have hi := ih h5 (by omega) he
    have hm := (right_end h5).2.1
    have he' : endA (c.A + c.AN) g ≤ e := he
    simp only [bodyH, pkL_append]
    rw [hi, pick_mks_same 43 (.inl rfl), pick_mks_in 43 45 (by decide) (by decide), pick_mks_out, List.nil_append, cut_cat2 (k := e - c.A) (by omega) (by omega) (by omega) rfl (by omega), cut_cat2 (k := e - p) hp (by omega) (by omega) (by omega) (by omega)]
/-- the new lines of a group's hunk: how many -/
theorem body_new_len {a b : List (List UInt8)} {fl : Bool} {p q e : Int} {g rest : List Ch} (h : Right fl p q a.length b.length (g ++ rest)) (hp : 0 ≤ p) (hq : 0 ≤ q) (he : endA p g ≤ e) (hn : e ≤ a.length) : ((pkL 45 (bodyH a b e p g)).length : Int) = endB q g + (e - endA p g) - q := by
  induction g generalizing fl p q with
  | nil =>
    simp only [bodyH, endA, endB]
    have he' : p ≤ e := he
    rw [pick_mks_same 45 (.inr rfl), hcut_length hp (by omega) (by omega)]
    omega
  | cons c g ih =>
    obtain ⟨⟨h1, h2, h3, h4⟩, h5⟩ := h
    rw [numB_iff] at h1
    have hi := ih h5 (by omega) (by omega) he
    obtain ⟨_, e1, e2, e3, e4⟩ := right_end h5
    have he' : endA (c.A + c.AN) g ≤ e := he
    have x1 := hcut_length (A := a) (p := p) (k := c.A - p) hp (by omega) (by omega)
    have x2 := hcut_length (A := b) (p := c.B) (k := c.BN) (by omega) (by omega) (by omega)
    simp only [bodyH, pkL_append, endA, endB]
    rw [pick_mks_same 45 (.inr rfl), pick_mks_in 45 43 (by decide) (by decide), pick_mks_out, List.nil_append]
    simp only [List.length_append]
    omega
/-- which they are, where what is kept is the same -/
theorem body_new {a b : List (List UInt8)} {fl : Bool} {p q e : Int} {g rest : List Ch} (h : Right fl p q a.length b.length (g ++ rest)) (hs : ∀ r ∈ U p q a.length b.length (g ++ rest), a[r.a.toNat]? = b[r.b.toNat]?) (hp : 0 ≤ p) (hq : 0 ≤ q) (he : endA p g ≤ e) (hr : e ≤ (rest.head?.map (·.A)).getD (a.length : Int)) : pkL 45 (bodyH a b e p g) = cut b q (endB q g + (e - endA p g) - q) := by
  induction g generalizing fl p q with
  | nil =>
    simp only [bodyH, endA, endB]
    have he' : p ≤ e := he
    rw [pick_mks_same 45 (.inr rfl)]
    obtain ⟨k, hk⟩ : ∃ k : Nat, e - p = k := ⟨(e - p).toNat, by omega⟩
    rw [hk, show q + (k : Int) - q = k by omega]
    refine cut_eq hp hq fun r hr' => hs r ?_
    cases rest with
    | nil =>
      simp at hr
      rw [List.nil_append, U_nil, show ((a.length : Int) - p).toNat = k + ((a.length : Int) - p - k).toNat by omega, un_append]
      exact List.mem_append_left _ hr'
    | cons c rest =>
      simp at hr
      rw [List.nil_append, U_cons, show (c.A - p).toNat = k + (c.A - p - k).toNat by omega, un_append, List.append_assoc]
      exact List.mem_append_left _ hr'
  | cons c g ih =>
    obtain ⟨⟨h1, h2, h3, h4⟩, h5⟩ := h
    rw [numB_iff] at h1
    rw [List.cons_append, U_cons] at hs
    have hi := ih h5 (fun r hr => hs r (List.mem_append_right _ hr)) (by omega) (by omega) he
    obtain ⟨_, e1, e2, e3, e4⟩ := right_end h5
    have he' : endA (c.A + c.AN) g ≤ e := he
    simp only [bodyH, pkL_append, endA, endB]
    rw [pick_mks_same 45 (.inr rfl), pick_mks_in 45 43 (by decide) (by decide), pick_mks_out, List.nil_append, hi]
    obtain ⟨k, hk⟩ : ∃ k : Nat, c.A - p = k := ⟨(c.A - p).toNat, by omega⟩
    rw [hk, Int.toNat_natCast] at hs
    rw [hk, cut_eq hp hq fun r hr => hs r (List.mem_append_left _ hr), cut_cat2 (k := endB (c.B + c.BN) g + (e - endA (c.A + c.AN) g) - c.B) (by omega) (by omega) (by omega) rfl (by omega), cut_cat2 (k := endB (c.B + c.BN) g + (e - endA (c.A + c.AN) g) - q) hq (by omega) (by omega) (by omega) (by omega)]
/-- a script gone on from a place further on in what is kept -/
theorem right_shift {fl : Bool} {p q n m x y : Int} {c : Ch} {l : List Ch} (h : Right fl p q n m (c :: l)) (h1 : p ≤ x) (h2 : x ≤ c.A) (h3 : y - x = q - p) : Right true x y n m (c :: l) ∧ ∀ r ∈ U x y n m (c :: l), r ∈ U p q n m (c :: l) := by
  obtain ⟨⟨k1, k2, k3, k4⟩, k5⟩ := h
  refine ⟨⟨⟨k1, by omega, by omega, .inl rfl⟩, k5⟩, fun r hr => ?_⟩
  rw [U_cons] at hr ⊢
  rw [show (c.A - p).toNat = (x - p).toNat + (c.A - x).toNat by omega, un_append, List.append_assoc, show p + ((x - p).toNat : Int) = x by omega, show q + ((x - p).toNat : Int) = y by omega]
  exact List.mem_append_right _ hr

/-- groups between which more than twice so many lines are kept -/
def Hgs (ctx : Int) : List (List Ch) → Prop
  | [] => True
  | g :: gs => g ≠ [] ∧ (∀ d, gs.flatten.head? = some d → 2 * ctx < d.A - endA 0 g) ∧ Hgs ctx gs
theorem grp_gs (ctx : Int) (l : List Ch) : Hgs ctx (grp ctx l) := by
  induction l with
  | nil => trivial
  | cons c l ih =>
    cases l with
    | nil => exact ⟨by simp, fun d hd => (by cases hd), trivial⟩
    | cons d l =>
      obtain ⟨g, gs, h1, h2⟩ := grp_cons2 ctx c d l
      rw [h1] at ih
      rw [h2]
      obtain ⟨_, k2, k3⟩ := ih
      split
      · exact ⟨by simp, k2, k3⟩
      · refine ⟨by simp, ?_, by simp, k2, k3⟩
        intro x hx
        simp at hx
        subst hx
        simp only [endA]
        omega
/-- what a group's hunk is, from where it stands on: s, t its places, e its end -/
structure OneF (a b : List (List UInt8)) (ctx : Int) (g : List Ch) (s t e : Int) : Prop where
  s0 : 0 ≤ s
  t0 : 0 ≤ t
  en : e ≤ a.length
  em : endB 0 g + (e - endA 0 g) ≤ b.length
  le : endA 0 g ≤ e
  se : s ≤ e
  AN : (oneH a b ctx g).AN = e - s
  BN : (oneH a b ctx g).BN = endB 0 g + (e - endA 0 g) - t
  A : (oneH a b ctx g).A = if 0 < e - s then s + 1 else s
  B : (oneH a b ctx g).B = if 0 < endB 0 g + (e - endA 0 g) - t then t + 1 else t
  old : oldL (oneH a b ctx g) = cut a s (e - s)
  ls : (oneH a b ctx g).ls = bodyH a b e s g
/-- the group ahead, and all behind it -/
theorem one_facts {a b : List (List UInt8)} {ctx p q : Int} {fl : Bool} {f : Ch} {g rest : List Ch} (hc : 0 ≤ ctx) (h : Right fl p q a.length b.length (f :: g ++ rest)) (hp : 0 ≤ p) (hq : 0 ≤ q) (hw : p ≤ f.A - min ctx f.A)
    (hr : ∀ d, rest.head? = some d → endA 0 (f :: g) + ctx ≤ d.A) :
    OneF a b ctx (f :: g) (f.A - min ctx f.A) (f.B - min ctx f.A) (min a.length (endA 0 (f :: g) + ctx)) ∧ Right true (f.A - min ctx f.A) (f.B - min ctx f.A) a.length b.length (f :: g ++ rest) ∧ (∀ r ∈ U (f.A - min ctx f.A) (f.B - min ctx f.A) a.length b.length (f :: g ++ rest), r ∈ U p q a.length b.length (f :: g ++ rest)) ∧ (min (a.length : Int) (endA 0 (f :: g) + ctx) ≤ (rest.head?.map (·.A)).getD (a.length : Int)) := by
  have hA : f.A - p = f.B - q := h.1.2.1
  have hnum := (numB_iff f).1 h.1.1
  obtain ⟨hR, hU⟩ := right_shift h hw (by omega) (show (f.B - min ctx f.A) - (f.A - min ctx f.A) = q - p by omega)
  obtain ⟨k1, k2, k3, k4, k5⟩ := right_end (g := f :: g) (rest := rest) hR
  have k1' : Right false (endA 0 (f :: g)) (endB 0 (f :: g)) a.length b.length rest := by
    rcases k1 with k1 | k1
    · exact k1
    · cases k1
  have hE : min (a.length : Int) (endA 0 (f :: g) + ctx) ≤ (rest.head?.map (·.A)).getD (a.length : Int) := by
    cases rest with
    | nil => simp; omega
    | cons d rest =>
      have := hr d rfl
      simp
      omega
  have e0 : endA (f.A - min ctx f.A) (f :: g) = endA 0 (f :: g) := rfl
  have e0' : endB (f.B - min ctx f.A) (f :: g) = endB 0 (f :: g) := rfl
  rw [e0] at k2 k4
  rw [e0'] at k3 k5
  have hem := right_tail k1' hE
  have hls : (oneH a b ctx (f :: g)).ls = bodyH a b (min (a.length : Int) (endA 0 (f :: g) + ctx)) (f.A - min ctx f.A) (f :: g) := by
    show bodyH a b (endH a.length ctx (f :: g)) (f.A - min ctx f.A) (f :: g) = _
    rw [endH_eq _ _ _ _ 0]
  generalize hee : min (a.length : Int) (endA 0 (f :: g) + ctx) = e at *
  have he : endA 0 (f :: g) ≤ e := by omega
  have hold := body_old (a := a) (b := b) (g := f :: g) (rest := rest) (e := e) hR (by omega) he
  have hnew := body_new_len (a := a) (b := b) (g := f :: g) (rest := rest) (e := e) hR (by omega) (by omega) he (by omega)
  rw [e0, e0'] at hnew
  have hol := hcut_length (A := a) (p := f.A - min ctx f.A) (k := e - (f.A - min ctx f.A)) (by omega) (by omega) (by omega)
  have hone : oneH a b ctx (f :: g) = cntH (f.A - min ctx f.A) (f.B - min ctx f.A) (bodyH a b e (f.A - min ctx f.A) (f :: g)) := by
    show cntH _ _ (bodyH a b (endH a.length ctx (f :: g)) _ _) = _
    rw [endH_eq _ _ _ _ 0, hee]
  refine ⟨⟨by omega, by omega, by omega, by omega, he, by omega, ?_, ?_, ?_, ?_, ?_, hls⟩, hR, hU, hE⟩
  · rw [hone]
    show ((pkL 43 (bodyH a b e _ (f :: g))).length : Int) = _
    rw [hold, hol]
  · rw [hone]
    exact hnew
  · rw [hone]
    show (if 0 < (pkL 43 (bodyH a b e _ (f :: g))).length then _ else _) = _
    rw [hold]
    by_cases hz : 0 < e - (f.A - min ctx f.A)
    · rw [if_pos (by omega), if_pos hz]
    · rw [if_neg (by omega), if_neg hz]
  · rw [hone]
    show (if 0 < (pkL 45 (bodyH a b e _ (f :: g))).length then _ else _) = _
    by_cases hz : 0 < endB 0 (f :: g) + (e - endA 0 (f :: g)) - (f.B - min ctx f.A)
    · rw [if_pos (by omega), if_pos hz]
    · rw [if_neg (by omega), if_neg hz]
  · rw [hone]
    exact hold
end Go.Proofs.YtgcccpmcbjfaaaaDoor

/- Hunks that are made of two texts, further: in order, right, the script again, their kinds of lines; plain mathematics. -/
namespace Go.Proofs.YtgcccpmcbjfaaaaDoor

theorem OneF.atA {a b : List (List UInt8)} {ctx : Int} {g : List Ch} {s t e : Int} (h : OneF a b ctx g s t e) : atA (oneH a b ctx g) = s := by
  unfold Go.Proofs.YtgcccpmcbjfaaaaDoor.atA
  rw [h.AN, h.A]
  split <;> omega
theorem OneF.atB {a b : List (List UInt8)} {ctx : Int} {g : List Ch} {s t e : Int} (h : OneF a b ctx g s t e) : atB (oneH a b ctx g) = t := by
  unfold Go.Proofs.YtgcccpmcbjfaaaaDoor.atB
  rw [h.BN, h.B]
  split <;> omega
/-- groups, one by one: what is known of the first, and where to go on -/
theorem gs_step {a b : List (List UInt8)} {ctx : Int} (hc : 0 ≤ ctx) {g : List Ch} {gs : List (List Ch)} {fl : Bool} {p q u v : Int} (h : Right fl p q a.length b.length (g :: gs).flatten) (hG : Hgs ctx (g :: gs)) (hp : 0 ≤ p) (hq : 0 ≤ q) (hu : p ≤ u) (huv : v - u = q - p) (hf : ∀ f, (g :: gs).flatten.head? = some f → u ≤ f.A - min ctx f.A) :
    ∃ f g', g = f :: g' ∧ ∃ e, OneF a b ctx g (f.A - min ctx f.A) (f.B - min ctx f.A) e ∧ u ≤ f.A - min ctx f.A ∧ f.A - f.B = u - v ∧ Right true (f.A - min ctx f.A) (f.B - min ctx f.A) a.length b.length (g ++ gs.flatten) ∧ (∀ r ∈ U (f.A - min ctx f.A) (f.B - min ctx f.A) a.length b.length (g ++ gs.flatten), r ∈ U p q a.length b.length (g :: gs).flatten) ∧ e ≤ (gs.flatten.head?.map (·.A)).getD (a.length : Int) ∧ e ≤ endA 0 g + ctx ∧
      Right false (endA 0 g) (endB 0 g) a.length b.length gs.flatten ∧ 0 ≤ endA 0 g ∧ 0 ≤ endB 0 g ∧ (∀ r ∈ U (endA 0 g) (endB 0 g) a.length b.length gs.flatten, r ∈ U p q a.length b.length (g :: gs).flatten) ∧ endA 0 g ≤ e ∧ ∀ d, gs.flatten.head? = some d → e ≤ d.A - min ctx d.A := by
  obtain ⟨h1, h2, h3⟩ := hG
  cases g with
  | nil => exact absurd rfl h1
  | cons f g =>
    have hf' := hf f rfl
    rw [List.flatten_cons] at h
    have hw : p ≤ f.A - min ctx f.A := by omega
    have hr : ∀ d, gs.flatten.head? = some d → endA 0 (f :: g) + ctx ≤ d.A := fun d hd => by have := h2 d hd; omega
    obtain ⟨k1, k2, k3, k4⟩ := one_facts hc h hp hq hw hr
    have hAB : f.A - p = f.B - q := h.1.2.1
    obtain ⟨r1, r2, r3, r4, r5⟩ := right_end (g := f :: g) (rest := gs.flatten) h
    have e0 : endA p (f :: g) = endA 0 (f :: g) := rfl
    have e1 : endB q (f :: g) = endB 0 (f :: g) := rfl
    rw [e0] at r1 r2 r4
    rw [e1] at r1 r3 r5
    have r1' : Right false (endA 0 (f :: g)) (endB 0 (f :: g)) a.length b.length gs.flatten := by
      rcases r1 with r1 | r1
      · exact r1
      · cases r1
    refine ⟨f, g, rfl, _, k1, hf', by omega, k2, ?_, k4, by omega, r1', by omega, by omega, ?_, k1.le, ?_⟩
    · rw [List.flatten_cons]; exact k3
    · intro r hr
      rw [List.flatten_cons]
      have : ∀ (x : List Ch) (p q : Int), r ∈ U (endA p x) (endB q x) a.length b.length gs.flatten → x ≠ [] ∨ (p = endA p x ∧ q = endB q x) → r ∈ U p q a.length b.length (x ++ gs.flatten) := by
        intro x
        induction x with
        | nil => intro p q h _; exact h
        | cons c x ih =>
          intro p q h _
          rw [List.cons_append, U_cons]
          refine List.mem_append_right _ (ih _ _ h ?_)
          cases x with
          | nil => exact .inr ⟨rfl, rfl⟩
          | cons => exact .inl (by simp)
      exact this (f :: g) p q hr (.inl (by simp))
    · intro d hd
      have := h2 d hd
      omega
/-- they are in order -/
theorem made_ord {a b : List (List UInt8)} {ctx : Int} (hc : 0 ≤ ctx) (gs : List (List Ch)) : ∀ (fl : Bool) (p q u v : Int), Right fl p q a.length b.length gs.flatten → Hgs ctx gs → 0 ≤ p → 0 ≤ q → p ≤ u → v - u = q - p → (∀ f, gs.flatten.head? = some f → u ≤ f.A - min ctx f.A) → ordB u v (gs.map (oneH a b ctx)) = true := by
  induction gs with
  | nil => intros; rfl
  | cons g gs ih =>
    intro fl p q u v h hG hp hq hu huv hf
    obtain ⟨f, g', rfl, e, h1, h2, h3, _, _, _, h4, h5, h6, h7, _, h8, h9⟩ := gs_step hc h hG hp hq hu huv hf
    simp only [List.map_cons, ordB]
    rw [h1.atA, h1.atB, h1.AN, h1.BN, decide_eq_true h2, decide_eq_true (by omega : f.A - min ctx f.A - u = f.B - min ctx f.A - v)]
    have := ih false _ _ (f.A - min ctx f.A + (e - (f.A - min ctx f.A))) (f.B - min ctx f.A + (endB 0 (f :: g') + (e - endA 0 (f :: g')) - (f.B - min ctx f.A))) h5 hG.2.2 h6 h7 (by omega) (by omega) (fun d hd => by have := h9 d hd; omega)
    rw [this]
    rfl

/-- lines that are kept, taken out, put in, as changes -/
theorem ch_same (x : List (List UInt8)) : ∀ (p q : Int) (r : List Ch) (t : List Mk), chLs p q r (mks 32 x ++ t) = chLs (p + x.length) (q + x.length) r t := by
  induction x with
  | nil => intro p q r t; simp [mks]
  | cons s x ih =>
    intro p q r t
    show chLs p q r (⟨32, s⟩ :: (mks 32 x ++ t)) = _
    simp only [chLs]
    rw [if_pos trivial, ih]
    congr 1 <;> simp <;> omega
theorem ch_out (x : List (List UInt8)) : ∀ (c : Ch) (p q : Int) (r : List Ch) (t : List Mk), c.A + c.AN = p → c.B + c.BN = q → chLs p q (c :: r) (mks 45 x ++ t) = chLs (p + x.length) q (⟨c.A, c.AN + x.length, c.B, c.BN⟩ :: r) t := by
  induction x with
  | nil => intro c p q r t _ _; simp [mks]
  | cons s x ih =>
    intro c p q r t h1 h2
    show chLs p q (c :: r) (⟨45, s⟩ :: (mks 45 x ++ t)) = _
    simp only [chLs]
    rw [if_neg (by decide), if_pos trivial]
    have : opn p q (c :: r) = c :: r := by simp [opn, endsAt, h1, h2]
    rw [this]
    simp only [bmA]
    rw [ih ⟨c.A, c.AN + 1, c.B, c.BN⟩ _ _ r t (by dsimp only; omega) h2]
    simp only [List.length_cons]
    congr 1
    · omega
    · congr 2; omega
theorem ch_in (x : List (List UInt8)) : ∀ (c : Ch) (p q : Int) (r : List Ch) (t : List Mk), c.A + c.AN = p → c.B + c.BN = q → chLs p q (c :: r) (mks 43 x ++ t) = chLs p (q + x.length) (⟨c.A, c.AN, c.B, c.BN + x.length⟩ :: r) t := by
  induction x with
  | nil => intro c p q r t _ _; simp [mks]
  | cons s x ih =>
    intro c p q r t h1 h2
    show chLs p q (c :: r) (⟨43, s⟩ :: (mks 43 x ++ t)) = _
    simp only [chLs]
    rw [if_neg (by decide), if_neg (by decide)]
    have : opn p q (c :: r) = c :: r := by simp [opn, endsAt, h1, h2]
    rw [this]
    simp only [bmB]
    rw [ih ⟨c.A, c.AN, c.B, c.BN + 1⟩ _ _ r t h1 (by dsimp only; omega)]
    simp only [List.length_cons]
    congr 1
    · omega
    · congr 2; omega
theorem ch_change (X Y : List (List UInt8)) (hne : X ≠ [] ∨ Y ≠ []) (p q : Int) (r : List Ch) (t : List Mk) (hr : endsAt p q r = false) : chLs p q r (mks 45 X ++ (mks 43 Y ++ t)) = chLs (p + X.length) (q + Y.length) (⟨p, X.length, q, Y.length⟩ :: r) t := by
  have hop : opn p q r = ⟨p, 0, q, 0⟩ :: r := by simp [opn, hr]
  cases X with
  | nil =>
    cases Y with
    | nil => simp at hne
    | cons s Y =>
      show chLs p q r (⟨43, s⟩ :: (mks 43 Y ++ t)) = _
      simp only [chLs]
      rw [if_neg (by decide), if_neg (by decide), hop]
      simp only [bmB]
      rw [ch_in Y ⟨p, 0, q, 0 + 1⟩ _ _ r t (by dsimp only; omega) (by dsimp only; omega)]
      simp only [List.length_cons, List.length_nil]
      congr 1
      · omega
      · omega
      · congr 2; omega
  | cons s X =>
    show chLs p q r (⟨45, s⟩ :: (mks 45 X ++ (mks 43 Y ++ t))) = _
    simp only [chLs]
    rw [if_neg (by decide), if_pos trivial, hop]
    simp only [bmA]
    rw [ch_out X ⟨p, 0 + 1, q, 0⟩ _ _ r _ (by dsimp only; omega) (by dsimp only; omega)]
    dsimp only
    rw [ch_in Y ⟨p, 0 + 1 + X.length, q, 0⟩ _ _ r t (by dsimp only; omega) (by dsimp only; omega)]
    simp only [List.length_cons]
    congr 1
    · omega
    · congr 2 <;> omega
theorem body_ch {a b : List (List UInt8)} {e : Int} {rest : List Ch} (g : List Ch) : ∀ (fl : Bool) (p q : Int) (r : List Ch), Right fl p q a.length b.length (g ++ rest) → 0 ≤ p → 0 ≤ q → (∀ c g', g = c :: g' → endsAt c.A c.B r = false) → chLs p q r (bodyH a b e p g) = g.reverse ++ r := by
  induction g with
  | nil =>
    intro fl p q r _ _ _ _
    have := ch_same (cut a p (e - p)) p q r []
    rw [List.append_nil] at this
    simp only [bodyH]
    rw [this]
    rfl
  | cons c g ih =>
    intro fl p q r h hp hq hr
    have hr' := hr c g rfl
    obtain ⟨⟨h1, h2, h3, h4⟩, h5⟩ := h
    have h1' := (numB_iff c).1 h1
    obtain ⟨_, e1, e2, e3, e4⟩ := right_end h5
    have x1 := hcut_length (A := a) (p := p) (k := c.A - p) hp (by omega) (by omega)
    have x2 := hcut_length (A := b) (p := c.B) (k := c.BN) (by omega) (by omega) (by omega)
    have x3 := hcut_length (A := a) (p := c.A) (k := c.AN) (by omega) (by omega) (by omega)
    simp only [bodyH]
    rw [ch_same, show p + ((cut a p (c.A - p)).length : Int) = c.A by omega, show q + ((cut a p (c.A - p)).length : Int) = c.B by omega, ch_change _ _ ?_ _ _ _ _ hr', x2, x3, ih false _ _ _ h5 (by omega) (by omega) ?_]
    · simp
    · intro d g' hd
      subst hd
      obtain ⟨⟨_, _, _, k4⟩, _⟩ := h5
      have k4' : c.A + c.AN < d.A := by simpa using k4
      simp [endsAt]
      omega
    · rcases (by omega : 0 < c.AN ∨ 0 < c.BN) with z | z
      · left
        intro hz
        rw [hz] at x3
        simp at x3
        omega
      · right
        intro hz
        rw [hz] at x2
        simp at x2
        omega
/-- they are the script again -/
theorem made_ch {a b : List (List UInt8)} {ctx : Int} (hc : 0 ≤ ctx) (gs : List (List Ch)) : ∀ (fl : Bool) (p q u v : Int) (r : List Ch), Right fl p q a.length b.length gs.flatten → Hgs ctx gs → 0 ≤ p → 0 ≤ q → p ≤ u → v - u = q - p → (∀ f, gs.flatten.head? = some f → u ≤ f.A - min ctx f.A) → (∀ f, gs.flatten.head? = some f → endsAt f.A f.B r = false) → chHs r (gs.map (oneH a b ctx)) = gs.flatten.reverse ++ r := by
  induction gs with
  | nil => intros; rfl
  | cons g gs ih =>
    intro fl p q u v r h hG hp hq hu huv hf hr
    obtain ⟨f, g', rfl, e, h1, h2, h3, hR, _, _, h4, h5, h6, h7, _, h8, h9⟩ := gs_step hc h hG hp hq hu huv hf
    simp only [List.map_cons, chHs]
    rw [h1.atA, h1.atB, h1.ls, body_ch (f :: g') true _ _ r hR h1.s0 h1.t0 (fun c x hx => by cases hx; exact hr f rfl)]
    rw [ih false _ _ e (endB 0 (f :: g') + (e - endA 0 (f :: g'))) _ h5 hG.2.2 h6 h7 h8 (by omega) h9 ?_]
    · simp
    · intro d hd
      have := hG.2.1 d hd
      have hlast : ∀ (x : List Ch) (c : Ch), ∃ y z, (c :: x).reverse = z :: y ∧ z.A + z.AN = endA 0 (c :: x) := by
        intro x
        induction x with
        | nil => intro c; exact ⟨[], c, rfl, rfl⟩
        | cons d x ih =>
          intro c
          obtain ⟨y, z, q1, q2⟩ := ih d
          refine ⟨y ++ [c], z, ?_, q2⟩
          rw [List.reverse_cons, q1]
          rfl
      obtain ⟨y, z, q1, q2⟩ := hlast g' f
      rw [q1]
      simp only [List.cons_append, endsAt]
      have : ¬ (z.A + z.AN = d.A) := by omega
      simp [this]

/-- has a line a line feed ahead of its end? -/
def inn (s : List UInt8) : Bool := s.dropLast.any fun c => c == 10
def innL (l : List (List UInt8)) : Bool := l.any inn
theorem lin_of {s : List UInt8} (h0 : s ≠ []) (hi : inn s = false) : linB s = true := by
  unfold linB
  have e1 : s.isEmpty = false := by cases s with | nil => exact absurd rfl h0 | cons => rfl
  rw [e1]
  simp only [inn, List.any_eq_false] at hi
  simp only [Bool.not_false, Bool.true_and, List.all_eq_true]
  intro c hc
  have := hi c hc
  simpa using this
theorem abl_iff (L : List (List UInt8)) : abl L = true ↔ ∀ (i : Nat) (hi : i + 1 < L.length), fdB L[i] = true := by
  induction L with
  | nil => simp [abl]
  | cons t r ih =>
    simp only [abl, Bool.and_eq_true, Bool.or_eq_true, ih]
    constructor
    · rintro ⟨h1, h2⟩ i hi
      cases i with
      | zero =>
        rcases h1 with h1 | h1
        · simp at h1 hi
          subst h1
          simp at hi
        · exact h1
      | succ i => exact h2 i (by simpa using hi)
    · intro h
      refine ⟨?_, fun i hi => h (i + 1) (by simpa using hi)⟩
      cases r with
      | nil => exact .inl rfl
      | cons s r => exact .inr (h 0 (by simp))
theorem abl_cut {A : List (List UInt8)} (h : abl A = true) (p k : Int) : abl (cut A p k) = true := by
  rw [abl_iff] at h ⊢
  intro i hi
  have hl : i + 1 < k.toNat ∧ p.toNat + (i + 1) < A.length := by
    simp only [cut, List.length_take, List.length_drop] at hi
    omega
  have := h (p.toNat + i) (by omega)
  simpa [cut] using this
theorem mem_cut {A : List (List UInt8)} {p k : Int} {t : List UInt8} (h : t ∈ cut A p k) : t ∈ A := List.mem_of_mem_drop (List.mem_of_mem_take h)
theorem mem_body {a b : List (List UInt8)} {e : Int} (g : List Ch) : ∀ (p : Int), ∀ m ∈ bodyH a b e p g, okS m.sg = true ∧ (m.tx ∈ a ∨ m.tx ∈ b) := by
  have hm : ∀ (s : Int) (x : List (List UInt8)) (m : Mk), m ∈ mks s x → m.sg = s ∧ m.tx ∈ x := by
    intro s x m h
    simp only [mks, List.mem_map] at h
    obtain ⟨t, ht, rfl⟩ := h
    exact ⟨rfl, ht⟩
  induction g with
  | nil =>
    intro p m h
    obtain ⟨h1, h2⟩ := hm _ _ _ h
    rw [h1]
    exact ⟨by decide, .inl (mem_cut h2)⟩
  | cons c g ih =>
    intro p m h
    simp only [bodyH, List.mem_append] at h
    rcases h with h | h | h | h
    · obtain ⟨h1, h2⟩ := hm _ _ _ h
      rw [h1]
      exact ⟨by decide, .inl (mem_cut h2)⟩
    · obtain ⟨h1, h2⟩ := hm _ _ _ h
      rw [h1]
      exact ⟨by decide, .inl (mem_cut h2)⟩
    · obtain ⟨h1, h2⟩ := hm _ _ _ h
      rw [h1]
      exact ⟨by decide, .inr (mem_cut h2)⟩
    · exact ih _ m h
/-- a group has a line that is not kept -/
theorem body_some {a b : List (List UInt8)} {e p q : Int} {fl : Bool} {f : Ch} {g rest : List Ch} (h : Right fl p q a.length b.length (f :: g ++ rest)) : (bodyH a b e p (f :: g)).all (fun m => decide (m.sg = 32)) = false := by
  obtain ⟨⟨h1, h2, h3, h4⟩, h5⟩ := h
  have h1' := (numB_iff f).1 h1
  have hle := h5.le
  simp only [bodyH, List.all_append]
  have hx : ∀ (s : Int) (x : List (List UInt8)), s ≠ 32 → x ≠ [] → (mks s x).all (fun m => decide (m.sg = 32)) = false := by
    intro s x hs hx
    cases x with
    | nil => exact absurd rfl hx
    | cons t x => simp [mks, hs]
  rcases (by omega : 0 < f.AN ∨ 0 < f.BN) with z | z
  · have x3 := hcut_length (A := a) (p := f.A) (k := f.AN) (by omega) (by omega) (by omega)
    rw [hx 45 (cut a f.A f.AN) (by decide) (by intro hz; rw [hz] at x3; simp at x3; omega)]
    simp
  · have x2 := hcut_length (A := b) (p := f.B) (k := f.BN) (by omega) (by omega) (by omega)
    rw [hx 43 (cut b f.B f.BN) (by decide) (by intro hz; rw [hz] at x2; simp at x2; omega)]
    simp
/-- a made hunk is right, but for line feeds within lines -/
theorem made_chk {a b : List (List UInt8)} {ctx : Int} (hc : 0 ≤ ctx) (ha : a.length ≤ 1000000) (hb : b.length ≤ 1000000) (gs : List (List Ch)) : ∀ (fl : Bool) (p q u v : Int), Right fl p q a.length b.length gs.flatten → (∀ r ∈ U p q a.length b.length gs.flatten, a[r.a.toNat]? = b[r.b.toNat]?) → Hgs ctx gs → 0 ≤ p → 0 ≤ q → p ≤ u → v - u = q - p → (∀ f, gs.flatten.head? = some f → u ≤ f.A - min ctx f.A) →
    (∀ t, t ∈ a ∨ t ∈ b → t ≠ []) → abl a = true → abl b = true → errs (gs.map (oneH a b ctx)) = 0 ∨ errs (gs.map (oneH a b ctx)) = 6 ∧ innL (a ++ b) = true := by
  induction gs with
  | nil => intros; exact .inl rfl
  | cons g gs ih =>
    intro fl p q u v h hs hG hp hq hu huv hf hne hla hlb
    obtain ⟨f, g', rfl, e, h1, h2, h3, hR, hU, hE, h4, h5, h6, h7, hU2, h8, h9⟩ := gs_step hc h hG hp hq hu huv hf
    have hi := ih false _ _ e (endB 0 (f :: g') + (e - endA 0 (f :: g'))) h5 (fun r hr => hs r (hU2 r hr)) hG.2.2 h6 h7 h8 (by omega) h9 hne hla hlb
    simp only [List.map_cons, errs]
    have hrng : rngB (oneH a b ctx (f :: g')) = true := by
      have z1 := h1.s0
      have z2 := h1.t0
      have z3 := h1.en
      have z4 := h1.em
      have z5 := h1.se
      have z6 := h1.le
      have hkn : (0 : Int) ≤ endB 0 (f :: g') + (e - endA 0 (f :: g')) - (f.B - min ctx f.A) := by
        have hz : ((pkL 45 (oneH a b ctx (f :: g')).ls).length : Int) = (oneH a b ctx (f :: g')).BN := rfl
        rw [h1.BN] at hz
        omega
      simp only [rngB]
      rw [h1.A, h1.AN, h1.B, h1.BN]
      obtain ⟨k2, hk2⟩ : ∃ k2, endB 0 (f :: g') + (e - endA 0 (f :: g')) - (f.B - min ctx f.A) = k2 := ⟨_, rfl⟩
      rw [hk2]
      have y1 : nat31 (if 0 < e - (f.A - min ctx f.A) then f.A - min ctx f.A + 1 else f.A - min ctx f.A) = true := by
        simp only [nat31, Bool.and_eq_true, decide_eq_true_eq]; split <;> omega
      have y2 : nat31 (e - (f.A - min ctx f.A)) = true := by simp only [nat31, Bool.and_eq_true, decide_eq_true_eq]; omega
      have y3 : nat31 (if 0 < k2 then f.B - min ctx f.A + 1 else f.B - min ctx f.A) = true := by
        simp only [nat31, Bool.and_eq_true, decide_eq_true_eq]; split <;> omega
      have y4 : nat31 k2 = true := by simp only [nat31, Bool.and_eq_true, decide_eq_true_eq]; omega
      have y5 : (decide ((if 0 < e - (f.A - min ctx f.A) then f.A - min ctx f.A + 1 else f.A - min ctx f.A) = 0) && decide (0 < e - (f.A - min ctx f.A))) = false := by
        by_cases z : 0 < e - (f.A - min ctx f.A)
        · rw [if_pos z, decide_eq_false (by omega), Bool.false_and]
        · rw [decide_eq_false z, Bool.and_false]
      have y6 : (decide ((if 0 < k2 then f.B - min ctx f.A + 1 else f.B - min ctx f.A) = 0) && decide (0 < k2)) = false := by
        by_cases z : 0 < k2
        · rw [if_pos z, decide_eq_false (by omega), Bool.false_and]
        · rw [decide_eq_false z, Bool.and_false]
      rw [y1, y2, y3, y4, y5, y6]
      rfl
    have hcnt : ¬ ((oneH a b ctx (f :: g')).AN ≠ (oldL (oneH a b ctx (f :: g'))).length ∨ (oneH a b ctx (f :: g')).BN ≠ (newL (oneH a b ctx (f :: g'))).length) := by
      have q1 : (oneH a b ctx (f :: g')).AN = ((oldL (oneH a b ctx (f :: g'))).length : Int) := rfl
      have q2 : (oneH a b ctx (f :: g')).BN = ((newL (oneH a b ctx (f :: g'))).length : Int) := rfl
      simp [← q1, ← q2]
    have hall : (oneH a b ctx (f :: g')).ls.all (fun m => decide (m.sg = 32)) = false := by
      rw [h1.ls]
      exact body_some hR
    have hchk : chkH (oneH a b ctx (f :: g')) = if fldB (oneH a b ctx (f :: g')).ls = false then 6 else 0 := by
      simp only [chkH]
      rw [if_neg (by rw [hrng]; simp)]
      by_cases z : fldB (oneH a b ctx (f :: g')).ls = false
      · rw [if_pos z, if_pos z]
      · rw [if_neg z, if_neg z, if_neg hcnt, if_neg (by rw [hall]; simp)]
    rw [hchk]
    by_cases hF : fldB (oneH a b ctx (f :: g')).ls = false
    · rw [if_pos hF, if_pos (by decide)]
      refine .inr ⟨rfl, ?_⟩
      cases hin : innL (a ++ b) with
      | true => rfl
      | false =>
        exfalso
        have : fldB (oneH a b ctx (f :: g')).ls = true := by
          rw [fld_iff]
          refine ⟨fun m hm => ?_, ?_, ?_⟩
          · rw [h1.ls] at hm
            obtain ⟨k1, k2⟩ := mem_body _ _ m hm
            refine ⟨lin_of (hne _ k2) ?_, k1⟩
            simp only [innL, List.any_eq_false] at hin
            have := hin m.tx (by simpa using k2)
            simpa using this
          · have := h1.old
            unfold oldL at this
            rw [this]
            exact abl_cut hla _ _
          · rw [h1.ls, body_new hR (fun r hr => hs r (hU r hr)) h1.s0 h1.t0 h1.le hE]
            exact abl_cut hlb _ _
        rw [this] at hF
        cases hF
    · rw [if_neg hF]
      simpa using hi

/-- a made hunk's lines: those that are taken out stand first -/
theorem body_nf {a b : List (List UInt8)} {e : Int} {rest : List Ch} (g : List Ch) : ∀ (fl s : Bool) (p q : Int), Right fl p q a.length b.length (g ++ rest) → 0 ≤ p → (s = true → fl = false) → Nf s (bodyH a b e p g) := by
  have n32 : ∀ (x : List (List UInt8)) (t : List Mk) (s : Bool), (x = [] → Nf s t) → (x ≠ [] → Nf false t) → Nf s (mks 32 x ++ t) := by
    intro x
    induction x with
    | nil => intro t s h _; exact h rfl
    | cons y x ih =>
      intro t s _ h
      show Nf s (⟨32, y⟩ :: (mks 32 x ++ t))
      simp only [Nf]
      rw [if_neg (by decide), if_neg (by decide)]
      exact ih t false (fun _ => h (by simp)) (fun _ => h (by simp))
  have n45 : ∀ (x : List (List UInt8)) (t : List Mk), Nf false t → Nf false (mks 45 x ++ t) := by
    intro x
    induction x with
    | nil => intro t h; exact h
    | cons y x ih =>
      intro t h
      show Nf false (⟨45, y⟩ :: (mks 45 x ++ t))
      simp only [Nf]
      simp only [if_true, true_and]
      exact ih t h
  have n43 : ∀ (x : List (List UInt8)) (t : List Mk) (s : Bool), (∀ s, Nf s t) → Nf s (mks 43 x ++ t) := by
    intro x
    induction x with
    | nil => intro t s h; exact h s
    | cons y x ih =>
      intro t s h
      show Nf s (⟨43, y⟩ :: (mks 43 x ++ t))
      simp only [Nf]
      rw [if_neg (by decide)]
      simp only [if_true]
      exact ih t true h
  induction g with
  | nil =>
    intro fl s p q _ _ _
    simp only [bodyH]
    have := n32 (cut a p (e - p)) [] s (fun _ => by simp [Nf]) (fun _ => by simp [Nf])
    rwa [List.append_nil] at this
  | cons c g ih =>
    intro fl s p q h hp hs
    obtain ⟨⟨h1, h2, h3, h4⟩, h5⟩ := h
    have h1' := (numB_iff c).1 h1
    have hle := h5.le
    have hrest : Nf false (mks 45 (cut a c.A c.AN) ++ (mks 43 (cut b c.B c.BN) ++ bodyH a b e (c.A + c.AN) g)) :=
      n45 _ _ (n43 _ _ _ fun s' => ih false s' _ _ h5 (by omega) (fun _ => rfl))
    simp only [bodyH]
    refine n32 _ _ s (fun hx => ?_) (fun _ => hrest)
    cases s with
    | false => exact hrest
    | true =>
      exfalso
      have hf := hs rfl
      have hlt : p < c.A := by
        rcases h4 with h4 | h4
        · rw [hf] at h4; cases h4
        · exact h4
      have x1 := hcut_length (A := a) (p := p) (k := c.A - p) hp (by omega) (by omega)
      rw [hx] at x1
      simp at x1
      omega
/-- how many lines are not kept -/
def cntC : List Mk → Nat
  | [] => 0
  | m :: l => if m.sg ≠ 32 then cntC l + 1 else cntC l
def cntHs : List Hk → Nat
  | [] => 0
  | h :: l => cntC h.ls + cntHs l
theorem cntC_append (x y : List Mk) : cntC (x ++ y) = cntC x + cntC y := by
  induction x with
  | nil => simp [cntC]
  | cons m x ih => simp only [List.cons_append, cntC, ih]; split <;> omega
theorem cntC_same (x : List (List UInt8)) : cntC (mks 32 x) = 0 := by
  induction x with
  | nil => rfl
  | cons t x ih =>
    show cntC (⟨32, t⟩ :: mks 32 x) = 0
    simp [cntC, ih]
theorem cntC_not {s : Int} (hs : s ≠ 32) (x : List (List UInt8)) : cntC (mks s x) = x.length := by
  induction x with
  | nil => rfl
  | cons t x ih =>
    show cntC (⟨s, t⟩ :: mks s x) = _
    simp [cntC, ih, hs]
def sumC (a b : List (List UInt8)) : List Ch → Nat
  | [] => 0
  | c :: l => (cut a c.A c.AN).length + (cut b c.B c.BN).length + sumC a b l
theorem sumC_append (a b : List (List UInt8)) (x y : List Ch) : sumC a b (x ++ y) = sumC a b x + sumC a b y := by
  induction x with
  | nil => simp [sumC]
  | cons c x ih => simp only [List.cons_append, sumC, ih]; omega
theorem body_cnt (a b : List (List UInt8)) (e : Int) (g : List Ch) : ∀ p, cntC (bodyH a b e p g) = sumC a b g := by
  induction g with
  | nil => intro p; exact cntC_same _
  | cons c g ih =>
    intro p
    simp only [bodyH, cntC_append, cntC_same, cntC_not (show (45 : Int) ≠ 32 by decide), cntC_not (show (43 : Int) ≠ 32 by decide), ih, sumC]
    omega
/-- as many lines are changed, however many are kept around them -/
theorem made_cnt (a b : List (List UInt8)) (ctx : Int) (gs : List (List Ch)) : cntHs (gs.map (oneH a b ctx)) = sumC a b gs.flatten := by
  induction gs with
  | nil => rfl
  | cons g gs ih =>
    simp only [List.map_cons, cntHs, List.flatten_cons, sumC_append, ih]
    congr 1
    cases g with
    | nil => rfl
    | cons f g => exact body_cnt a b _ (f :: g) _
/-- without lines around them each change is alone -/
theorem grp_zero (l : List Ch) : ∀ (fl : Bool) (p q n m : Int), Right fl p q n m l → grp 0 l = l.map fun c => [c] := by
  induction l with
  | nil => intros; rfl
  | cons c l ih =>
    intro fl p q n m h
    have hi := ih false _ _ n m h.2
    cases l with
    | nil => rfl
    | cons d l =>
      obtain ⟨g, gs, h1, h2⟩ := grp_cons2 0 c d l
      have h4 : c.A + c.AN < d.A := by simpa using h.2.1.2.2.2
      rw [h2, if_neg (by omega), List.map_cons, ← hi, h1]
/-- with all of them there is one group -/
theorem grp_all (ctx : Int) (l : List Ch) : ∀ (fl : Bool) (p q n m : Int), Right fl p q n m l → 0 ≤ p → n ≤ 2 * ctx → (grp ctx l).length = min 1 l.length := by
  induction l with
  | nil => intros; rfl
  | cons c l ih =>
    intro fl p q n m h hp hn
    have h1' := (numB_iff c).1 h.1.1
    have hi := ih false _ _ n m h.2 (by omega) hn
    cases l with
    | nil => rfl
    | cons d l =>
      obtain ⟨g, gs, h1, h2⟩ := grp_cons2 ctx c d l
      have hd := (numB_iff d).1 h.2.1.1
      have hle := h.2.2.le
      rw [h1] at hi
      simp only [List.length_cons] at hi
      rw [h2, if_pos (by omega)]
      simp only [List.length_cons]
      omega
end Go.Proofs.YtgcccpmcbjfaaaaDoor

/- Each group of a right script, and its hunk; how many lines it has; plain mathematics. -/
namespace Go.Proofs.YtgcccpmcbjfaaaaDoor

theorem all_len (l : List Mk) (h : ∀ m ∈ l, okS m.sg = true) : l.length ≤ (pkL 43 l).length + (pkL 45 l).length := by
  induction l with
  | nil => simp
  | cons m l ih =>
    have hi := ih fun q hq => h q (by simp [hq])
    have hm := h m (by simp)
    simp only [pkL]
    by_cases h1 : m.sg = 43
    · rw [if_neg (fun q => q.1 h1), if_pos ⟨by omega, hm⟩]
      simp only [List.length_cons]
      omega
    · rw [if_pos ⟨h1, hm⟩]
      split <;> simp only [List.length_cons] <;> omega
/-- a group somewhere in the row -/
theorem gs_at {a b : List (List UInt8)} {ctx : Int} (hc : 0 ≤ ctx) (pre : List (List Ch)) : ∀ (fl : Bool) (p q : Int) (f : Ch) (g : List Ch) (post : List (List Ch)), Right fl p q a.length b.length (pre ++ (f :: g) :: post).flatten → Hgs ctx (pre ++ (f :: g) :: post) → 0 ≤ p → 0 ≤ q → (∀ d, (pre ++ (f :: g) :: post).flatten.head? = some d → p ≤ d.A - min ctx d.A) →
    Right true (f.A - min ctx f.A) (f.B - min ctx f.A) a.length b.length (f :: g ++ post.flatten) ∧ 0 ≤ f.A - min ctx f.A ∧ 0 ≤ f.B - min ctx f.A ∧ (oneH a b ctx (f :: g)).ls.length ≤ a.length + b.length := by
  induction pre with
  | nil =>
    intro fl p q f g post h hG hp hq hf
    obtain ⟨f', g', he, e, h1, h2, h3, hR, _, _, h4, h5, h6, h7, _, h8, h9⟩ := gs_step hc h hG hp hq (Int.le_refl p) (show q - p = q - p from rfl) hf
    cases he
    refine ⟨hR, h1.s0, h1.t0, ?_⟩
    have hl := all_len (oneH a b ctx (f :: g)).ls (fun m hm => by rw [h1.ls] at hm; exact (mem_body _ _ m hm).1)
    have ho : (pkL 43 (oneH a b ctx (f :: g)).ls).length ≤ a.length := (by
      have e1 := h1.old
      unfold oldL at e1
      rw [e1]
      simp only [cut, List.length_take, List.length_drop]
      omega)
    have hn : ((pkL 45 (oneH a b ctx (f :: g)).ls).length : Int) = (oneH a b ctx (f :: g)).BN := rfl
    rw [h1.BN] at hn
    have := h1.em
    have := h1.t0
    omega
  | cons g0 pre ih =>
    intro fl p q f g post h hG hp hq hf
    obtain ⟨f', g', rfl, e, h1, h2, h3, hR, _, _, h4, h5, h6, h7, _, h8, h9⟩ := gs_step hc h hG hp hq (Int.le_refl p) (show q - p = q - p from rfl) hf
    exact ih false _ _ f g post h5 hG.2.2 h6 h7 (fun d hd => by have := h9 d hd; omega)
theorem script_at {a b : List (List UInt8)} {ctx : Int} (hc : 0 ≤ ctx) {l : List Ch} (hs : Script l a.length b.length) {pre post : List (List Ch)} {f : Ch} {g : List Ch} (he : grp ctx l = pre ++ (f :: g) :: post) :
    Right true (f.A - min ctx f.A) (f.B - min ctx f.A) a.length b.length (f :: g ++ post.flatten) ∧ 0 ≤ f.A - min ctx f.A ∧ 0 ≤ f.B - min ctx f.A ∧ (oneH a b ctx (f :: g)).ls.length ≤ a.length + b.length := by
  have hfl := grp_flatten ctx l
  have hG := grp_gs ctx l
  have hr := hs.2.2
  rw [← hfl] at hr
  rw [he] at hr hG
  refine gs_at hc pre true 0 0 f g post hr hG (Int.le_refl _) (Int.le_refl _) (fun d hd => ?_)
  have hd2 : d ∈ (pre ++ (f :: g) :: post).flatten := List.mem_of_head? hd
  have hn : numB d = true := by
    have key : ∀ (l : List Ch) (fl : Bool) (p q n m : Int), Right fl p q n m l → ∀ c ∈ l, numB c = true := by
      intro l
      induction l with
      | nil => intro fl p q n m _ c hc; cases hc
      | cons x l ih =>
        intro fl p q n m h c hc
        rcases List.mem_cons.1 hc with rfl | hc
        · exact h.1.1
        · exact ih _ _ _ _ _ h.2 c hc
    exact key _ _ _ _ _ _ hr d hd2
  have := (numB_iff d).1 hn
  omega
end Go.Proofs.YtgcccpmcbjfaaaaDoor

/- What the statements on hunks of two texts ask, in plain terms. -/
namespace Go.Proofs.YtgcccpmcbjfaaaaDoor

theorem mkR_eq {l : List Ch} {a b : List (List UInt8)} {ctx : Int} (hs : Script l a.length b.length) (hc : 0 ≤ ctx ∧ ctx ≤ 100) : mkR l a b ctx = (grp ctx l).map (oneH a b ctx) ∧ grpE l a.length b.length ctx = 0 := by
  have e : grpE l a.length b.length ctx = 0 := by
    unfold grpE
    rw [chk_ok hs, if_neg (by simp), if_neg (by omega)]
  refine ⟨?_, e⟩
  unfold mkR grpR
  rw [if_pos e]
/-- each made hunk stands where it says, and its lines stand there -/
theorem gs_each {a b : List (List UInt8)} {ctx : Int} (hc : 0 ≤ ctx) (gs : List (List Ch)) : ∀ (fl : Bool) (p q : Int), Right fl p q a.length b.length gs.flatten → (∀ r ∈ U p q a.length b.length gs.flatten, a[r.a.toNat]? = b[r.b.toNat]?) → Hgs ctx gs → 0 ≤ p → 0 ≤ q → (∀ d, gs.flatten.head? = some d → p ≤ d.A - min ctx d.A) →
    ∀ x ∈ gs.map (oneH a b ctx), (0 ≤ atA x ∧ 0 ≤ x.AN ∧ atA x + x.AN ≤ a.length) ∧ (0 ≤ atB x ∧ 0 ≤ x.BN ∧ atB x + x.BN ≤ b.length) ∧ oldL x = cut a (atA x) x.AN ∧ newL x = cut b (atB x) x.BN ∧ Nf false x.ls := by
  induction gs with
  | nil => intro fl p q _ _ _ _ _ _ x hx; simp at hx
  | cons g gs ih =>
    intro fl p q h hh hG hp hq hf x hx
    obtain ⟨f, g', rfl, e, h1, h2, h3, hR, hU, hE, h4, h5, h6, h7, hU2, h8, h9⟩ := gs_step hc h hG hp hq (Int.le_refl p) (show q - p = q - p from rfl) hf
    rw [List.map_cons] at hx
    rcases List.mem_cons.1 hx with rfl | hx
    · have hbn : ((pkL 45 (oneH a b ctx (f :: g')).ls).length : Int) = (oneH a b ctx (f :: g')).BN := rfl
      have hnew := body_new hR (fun r hr => hh r (hU r hr)) h1.s0 h1.t0 h1.le hE
      rw [h1.atA, h1.atB]
      refine ⟨⟨h1.s0, by rw [h1.AN]; have := h1.se; omega, by rw [h1.AN]; have := h1.en; omega⟩, ⟨h1.t0, by omega, by rw [h1.BN]; have := h1.em; omega⟩, by rw [h1.AN]; exact h1.old, ?_, ?_⟩
      · unfold newL
        rw [h1.ls, h1.BN]
        exact hnew
      · rw [h1.ls]
        exact body_nf (f :: g') true false _ _ hR h1.s0 (fun h => by cases h)
    · exact ih false _ _ h5 (fun r hr => hh r (hU2 r hr)) hG.2.2 h6 h7 (fun d hd => by have := h9 d hd; omega) x hx
theorem script_each {l : List Ch} {a b : List (List UInt8)} {ctx : Int} (hs : Script l a.length b.length) (hh : ∀ r ∈ U 0 0 a.length b.length l, a[r.a.toNat]? = b[r.b.toNat]?) (hc : 0 ≤ ctx ∧ ctx ≤ 100) :
    ∀ x ∈ mkR l a b ctx, (0 ≤ atA x ∧ 0 ≤ x.AN ∧ atA x + x.AN ≤ a.length) ∧ (0 ≤ atB x ∧ 0 ≤ x.BN ∧ atB x + x.BN ≤ b.length) ∧ oldL x = cut a (atA x) x.AN ∧ newL x = cut b (atB x) x.BN ∧ Nf false x.ls := by
  rw [(mkR_eq hs hc).1]
  have hfl := grp_flatten ctx l
  refine gs_each hc.1 (grp ctx l) true 0 0 (by rw [hfl]; exact hs.2.2) (by rw [hfl]; exact hh) (grp_gs ctx l) (Int.le_refl _) (Int.le_refl _) (fun d hd => ?_)
  rw [hfl] at hd
  have hr := hs.2.2
  cases l with
  | nil => cases hd
  | cons c l =>
    have hdc : c = d := by simpa using hd
    subst hdc
    have := (numB_iff c).1 hr.1.1
    omega
/-- they are right and in order, and the script again, but for line feeds within lines -/
theorem script_order {l : List Ch} {a b : List (List UInt8)} {ctx : Int} (hs : Script l a.length b.length) (hh : ∀ r ∈ U 0 0 a.length b.length l, a[r.a.toNat]? = b[r.b.toNat]?) (hc : 0 ≤ ctx ∧ ctx ≤ 100) (ha : a.length ≤ 1000000) (hb : b.length ≤ 1000000) (hne : ∀ t, t ∈ a ∨ t ∈ b → t ≠ []) (hla : abl a = true) (hlb : abl b = true) :
    (ordH (mkR l a b ctx) = 0 ∧ chR (mkR l a b ctx) = l) ∨ (ordH (mkR l a b ctx) = 6 ∧ innL (a ++ b) = true) := by
  rw [(mkR_eq hs hc).1]
  have hfl := grp_flatten ctx l
  have hr : Right true 0 0 a.length b.length (grp ctx l).flatten := by rw [hfl]; exact hs.2.2
  have hh' : ∀ r ∈ U 0 0 a.length b.length (grp ctx l).flatten, a[r.a.toNat]? = b[r.b.toNat]? := by rw [hfl]; exact hh
  have hf : ∀ d, (grp ctx l).flatten.head? = some d → (0 : Int) ≤ d.A - min ctx d.A := by
    intro d hd
    rw [hfl] at hd
    have hr := hs.2.2
    cases l with
    | nil => cases hd
    | cons c l =>
      have hdc : c = d := by simpa using hd
      subst hdc
      have := (numB_iff c).1 hr.1.1
      omega
  have hord := made_ord hc.1 (grp ctx l) true 0 0 0 0 hr (grp_gs ctx l) (Int.le_refl _) (Int.le_refl _) (Int.le_refl _) rfl hf
  have hch := made_ch hc.1 (grp ctx l) true 0 0 0 0 [] hr (grp_gs ctx l) (Int.le_refl _) (Int.le_refl _) (Int.le_refl _) rfl hf (fun _ _ => rfl)
  rcases made_chk hc.1 ha hb (grp ctx l) true 0 0 0 0 hr hh' (grp_gs ctx l) (Int.le_refl _) (Int.le_refl _) (Int.le_refl _) rfl hf hne hla hlb with h | ⟨h, hi⟩
  · left
    have e : ordH ((grp ctx l).map (oneH a b ctx)) = 0 := by
      unfold ordH
      rw [h, if_neg (by simp), if_pos hord]
    refine ⟨e, ?_⟩
    unfold chR
    rw [if_pos e, hch, hfl]
    simp
  · right
    refine ⟨?_, hi⟩
    unfold ordH
    rw [h, if_pos (by decide)]
/-- with more lines around them there are never more hunks, and as many changed lines -/
theorem script_fewer {l : List Ch} {a b : List (List UInt8)} {c1 c2 : Int} (hs : Script l a.length b.length) (h1 : 0 ≤ c1 ∧ c1 ≤ 100) (h2 : 0 ≤ c2 ∧ c2 ≤ 100) (hle : c1 ≤ c2) :
    (mkR l a b c2).length ≤ (mkR l a b c1).length ∧ cntHs (mkR l a b c1) = cntHs (mkR l a b c2) ∧ ((mkR l a b c1) = [] ↔ (mkR l a b c2) = []) := by
  rw [(mkR_eq hs h1).1, (mkR_eq hs h2).1]
  refine ⟨by simp only [List.length_map]; exact grp_fewer hle l, by rw [made_cnt, made_cnt, grp_flatten, grp_flatten], ?_⟩
  simp only [List.map_eq_nil_iff, grp_eq_nil]
/-- without lines around them each change is a hunk, of which no line is kept -/
theorem script_bare {l : List Ch} {a b : List (List UInt8)} (hs : Script l a.length b.length) : (mkR l a b 0).length = l.length ∧ ∀ x ∈ mkR l a b 0, ∀ m ∈ x.ls, m.sg ≠ 32 := by
  rw [(mkR_eq hs (by omega)).1, grp_zero l _ _ _ _ _ hs.2.2]
  refine ⟨by simp, fun x hx => ?_⟩
  simp only [List.map_map, List.mem_map, Function.comp] at hx
  obtain ⟨c, hc, rfl⟩ := hx
  have key : ∀ (l : List Ch) (fl : Bool) (p q n m : Int), Right fl p q n m l → ∀ c ∈ l, numB c = true ∧ c.A + c.AN ≤ n := by
    intro l
    induction l with
    | nil => intro fl p q n m _ c hc; cases hc
    | cons x l ih =>
      intro fl p q n m h c hc
      rcases List.mem_cons.1 hc with rfl | hc
      · exact ⟨h.1.1, h.2.le.1⟩
      · exact ih _ _ _ _ _ h.2 c hc
  obtain ⟨hn, hle⟩ := key _ _ _ _ _ _ hs.2.2 c hc
  have hn' := (numB_iff c).1 hn
  have e : (oneH a b 0 [c]).ls = mks 45 (cut a c.A c.AN) ++ mks 43 (cut b c.B c.BN) := by
    show bodyH a b (min (a.length : Int) (c.A + c.AN + 0)) (c.A - min 0 c.A) [c] = _
    rw [show min (a.length : Int) (c.A + c.AN + 0) = c.A + c.AN by omega, show c.A - min 0 c.A = c.A by omega]
    simp only [bodyH]
    rw [show c.A - c.A = (0 : Int) by omega, show c.A + c.AN - (c.A + c.AN) = (0 : Int) by omega, cut_zero, cut_zero]
    simp [mks]
  intro m hm
  rw [e] at hm
  rcases List.mem_append.1 hm with hm | hm
  · simp only [mks, List.mem_map] at hm
    obtain ⟨t, _, rfl⟩ := hm
    intro h
    cases h
  · simp only [mks, List.mem_map] at hm
    obtain ⟨t, _, rfl⟩ := hm
    intro h
    cases h
/-- with all of them there is one hunk at most, of both texts whole -/
theorem script_all {l : List Ch} {a b : List (List UInt8)} (hs : Script l a.length b.length) (ha : a.length ≤ 90) (hb : b.length ≤ 90) : (mkR l a b 100).length = min 1 l.length ∧ ∀ x ∈ mkR l a b 100, x.AN = a.length ∧ x.BN = b.length ∧ (oldL x).length = a.length := by
  rw [(mkR_eq hs (by omega)).1]
  have hl := grp_all 100 l _ _ _ _ _ hs.2.2 (Int.le_refl _) (by omega)
  refine ⟨by rw [List.length_map]; exact hl, ?_⟩
  cases l with
  | nil => intro x hx; simp [grp] at hx
  | cons f g =>
    have hfl := grp_flatten 100 (f :: g)
    obtain ⟨g0, gs, hg⟩ := grp_head 100 f g
    have hgs : gs = [] := by
      rw [hg] at hl
      simp only [List.length_cons] at hl
      exact List.eq_nil_of_length_eq_zero (by omega)
    subst hgs
    rw [hg] at hfl
    simp only [List.flatten_cons, List.flatten_nil, List.append_nil] at hfl
    have hg0 : g0 = g := by simpa using hfl
    subst hg0
    rw [hg]
    intro x hx
    simp only [List.map_cons, List.map_nil, List.mem_singleton] at hx
    subst hx
    have hr := hs.2.2
    have hf := (numB_iff f).1 hr.1.1
    have hAB : f.A - 0 = f.B - 0 := hr.1.2.1
    have hle := hr.2.le
    obtain ⟨h1, hR, _, _⟩ := one_facts (a := a) (b := b) (ctx := 100) (f := f) (g := g0) (rest := []) (p := 0) (q := 0) (fl := true) (by omega) (by rw [List.append_nil]; exact hr) (Int.le_refl _) (Int.le_refl _) (by omega) (fun d hd => by cases hd)
    obtain ⟨k1, k2, k3, k4, k5⟩ := right_end (g := f :: g0) (rest := []) hR
    have k1' : Right false (endA 0 (f :: g0)) (endB 0 (f :: g0)) a.length b.length [] := by
      rcases k1 with k1 | k1
      · exact k1
      · cases k1
    obtain ⟨z1, z2, z3⟩ := k1'
    have e0 : endA (f.A - min 100 f.A) (f :: g0) = endA 0 (f :: g0) := rfl
    rw [e0] at k2
    have hAN := h1.AN
    have hBN := h1.BN
    have hso := h1.old
    have em : min (a.length : Int) (endA 0 (f :: g0) + 100) = a.length := by
      have := h1.s0
      omega
    rw [em] at hAN hBN hso
    refine ⟨by rw [hAN]; omega, by rw [hBN]; omega, ?_⟩
    rw [hso]
    have := hcut_length (A := a) (p := f.A - min 100 f.A) (k := a.length - (f.A - min 100 f.A)) h1.s0 (by omega) (by omega)
    omega
end Go.Proofs.YtgcccpmcbjfaaaaDoor

/- Which lists of changes are edit scripts: the code's Check, walked. -/
namespace Go.Proofs.YtgcccpmcbjfaaaaDoor
open Go.RowKit

theorem ret_bool {a b : Bool} (h : a = b) : Ending.returned (.bool a) = .returned (.bool b) := by rw [h]
theorem ret_int {k : IntKind} {a b : Int} (h : a = b) : Ending.returned (.int k a) = .returned (.int k b) := by rw [h]
end Go.Proofs.YtgcccpmcbjfaaaaDoor

/- The iterator over a script's pieces: its contract for every loop body that keeps what it reads. -/
namespace Go.Proofs.YtgcccpmcbjfaaaaDoor
open Go.RowKit Go.Shelf
attribute [local go_sem] Oper.semAt_some

section
variable {n₀ lo : Nat} {A B C : World}
end

/-- a piece of a script from n to m lines -/
abbrev Pie (n m : Int) := { x : Rn × Ch // Pc n m x }

theorem abides_alloc {α : Type} {B0 : Nat} {J : List α → World → Prop} (h : AbidesFrom B0 J) {s : List α} {W : World} (hJ : J s W) (o : Obj) : J s (W.alloc o) := h s W _ none hJ (World.grownBy_alloc W o none) (fun r e => by cases e)
theorem abides_drewN {α : Type} {B0 : Nat} {J : List α → World → Prop} (h : AbidesFrom B0 J) {s : List α} {W : World} (hJ : J s W) (k : Nat) : J s (W.drewN k) := h s W _ none hJ ⟨rfl, rfl, rfl, Nat.le_refl _, fun _ _ _ => rfl⟩ (fun r e => by cases e)

theorem HCh.lt {w : World} {ao : Option Addr} {n c : Nat} {l : List Ch} (h : HCh w (.slice ao n c) l) (a : Addr) (ha : ao = some a) (h0 : 0 < l.length) : a.block < w.heap.size := by
  obtain ⟨b, off, hb, hlt, _⟩ := HCh.at h h0
  rw [ha] at hb
  cases hb
  exact hlt

end Go.Proofs.YtgcccpmcbjfaaaaDoor

/- A row of the caller's own, in a box, within a range over the iterator. -/
namespace Go.Proofs.YtgcccpmcbjfaaaaDoor
open Go.RowKit Go.Shelf
attribute [local go_sem] Oper.semAt_some

theorem wpListIn_append_h {F : Fence} {n : Nat} (w : World) {ops : Array Oper} {rest : List Oper} {o : Oper} {a : Act} {Q : Exit → Act → World → Prop}
    (hg : o.guard = none) (s x : Operand) (T E : TypeId) (ho : o.op = Op.call { callee := Callee.builtin Builtin.append, args := #[s, x], argTypes := #[T, T] })
    (z : Value) (size bytes : Nat) (hT : Tryd.prog.underlying T = some (.slice E)) (hinfo : (Tryd.prog.info? E).map (fun i => (i.zero, i.size, i.bytes)) = some (some z, size, bytes)) (hz1 : z.cells.size = size) (hsz : 0 < size) (hby : bytes ≤ 32)
    (base : Nat) (v : Value) (k : Nat) (xs : List Value) (hs : a.eval s = v) (hown : w.ownsRow base E size v k xs) (vx : Value) (m : Nat) (news : List Value) (hx : a.eval x = vx) (hh : Holds w vx m news) (hl : news.length = m * size)
    (h1 : ∀ u ∈ news, u.oneCell' = true) (hk : k + m ≤ 4398046511104) (hbase : base ≤ w.heap.size)
    (h : ∀ v' w', w'.ownsRow base E size v' (k + m) (xs ++ news) → w.grownBy w' v.ownBlock → (v'.ownBlock = v.ownBlock ∨ v'.ownBlock = some w.heap.size) → wpListIn F n Tryd.prog ops Q rest (a.put o.dst v') w') :
    wpListIn F n Tryd.prog ops Q (o :: rest) a w := by
  refine wpListIn_plain hg fun K hK' => ?_
  obtain ⟨i0, hi, hz0, hzs, hz2⟩ := info_parts hinfo
  have hrun : ∃ v' w', (Builtin.append_ #[T, T] o.type #[v, vx]).run Tryd.prog w = .ok v' w' ∧ w'.ownsRow base E size v' (k + m) (xs ++ news) ∧ w.grownBy w' v.ownBlock ∧ (v'.ownBlock = v.ownBlock ∨ v'.ownBlock = some w.heap.size) := by
    rcases hh with ⟨rfl, rfl, rfl⟩ | ⟨ad, c, rfl, _, hc⟩
    · exact ⟨v, w, run_append_owned_none (P := Tryd.prog) (w := w) base T o.type E i0 size hT hi v k xs hown, by simpa using hown, World.grownBy.refl _ _, .inl rfl⟩
    · obtain ⟨v', w', hr, h2, h3, _, h5⟩ := run_append_own_at (P := Tryd.prog) w base T o.type E i0 z size bytes hT hi hz0 hzs hz2 hz1 hsz v k xs hown ad m c news hl hc h1 (by unfold maxLen; omega) (by
        have : (k + m) * bytes ≤ (k + m) * 32 := Nat.mul_le_mul_left _ hby
        omega) hbase
      exact ⟨v', w', hr, h2, h3, h5⟩
  obtain ⟨v', w', hrun, r1, r2, r3⟩ := hrun
  unfold Oper.wpIn
  refine ⟨?_, ?_⟩
  · simp [Oper.about, ho, resolve, Target.leads, Sem.run_pure]
  · rw [Oper.semAt_plain F _ _ (by rw [ho]; intro c hc'; cases hc')]
    simp [execOp, ho, resolve, invoke, builtin, hs, hx, hrun, Result.andThen]
    exact hK' _ _ (h v' w' r1 r2 r3)

theorem new_holds (W : World) (cs : Array Value) (e : TypeId) (k c : Nat) (hkc : k ≤ c) : Holds (W.alloc (.cells cs e)) (.slice (some ⟨W.heap.size, 0, none⟩) k c) k cs.toList := by
  refine .inr ⟨_, _, rfl, hkc, fun j u hj => ?_⟩
  rw [add_none, Lib.cell_of_heap (_root_.Go.heap_alloc_new W _)]
  simpa using hj
/-- a row of the caller's own, in a box of his; the row lies apart from the iterator's boxes -/
structure OwnR (n₀ lo B : Nat) (t e : TypeId) (s : Nat) (v : Value) (k : Nat) (xs : List Value) (W : World) : Prop where
  box : Boxed W B t v
  row : W.ownsRow n₀ e s v k xs
  far : ∀ g, v.ownBlock = some g → g < lo ∨ lo + 3 ≤ g
section
variable {n₀ lo B : Nat} {t e : TypeId} {s : Nat} {v : Value} {k : Nat} {xs : List Value} {W : World}
theorem OwnR.alloc (h : OwnR n₀ lo B t e s v k xs W) (o : Obj) : OwnR n₀ lo B t e s v k xs (W.alloc o) := ⟨h.box.alloc o, h.row.alloc o, h.far⟩
theorem ownR_own {β : Type} {A : Nat} {w0 : World} (hn : n₀ ≤ w0.heap.size) (hA : n₀ ≤ A) (kk : β → Nat) (f : β → List Value) : OwnFrom A (fun (x : β) W => (∃ v, OwnR n₀ lo B t e s v (kk x) (f x) W) ∧ Below n₀ w0 W) := by
  refine OwnFrom.and (Own.from ?_ _) (ownFrom_below hn hA)
  have := holdsRow_own (β := β) n₀ B t e s kk f (fun _ v => ∀ g, v.ownBlock = some g → g < lo ∨ lo + 3 ≤ g)
  intro x A B row hs hg hr
  obtain ⟨v, ⟨h1, h2, h3⟩⟩ := hs
  obtain ⟨v', q1, q2, q3⟩ := this x A B row ⟨v, h1, h2, h3⟩ hg hr
  exact ⟨v', q1, q2, q3⟩
end
end Go.Proofs.YtgcccpmcbjfaaaaDoor

/- What a script keeps: the code's Keep, walked. -/
namespace Go.Proofs.YtgcccpmcbjfaaaaDoor
open Go.RowKit Go.Shelf
attribute [local go_sem] Oper.semAt_some


/-- make([]T, 0, n) -/
theorem run_make0 {T E : TypeId} {z : Value} {bytes : Nat} (hT : Tryd.prog.underlying T = some (.slice E)) (hinfo : (Tryd.prog.info? E).map (fun i => (i.zero, i.size, i.bytes)) = some (some z, 1, bytes)) (hby : bytes ≤ 16) (N : Nat) (hN : N ≤ 1099511627776) (W : World) :
    (Instr.makeSlice T (.int .i64 0) (.int .i64 (N : Int))).run Tryd.prog W = .ok (.slice (some ⟨W.heap.size, 0, none⟩) 0 N) (W.alloc (.cells (madeCells z.cells N) E)) := by
  obtain ⟨i0, hi, hz0, hzs, hz2⟩ := info_parts hinfo
  have h1 : i0.bytes * N ≤ 16 * 1099511627776 := by rw [hz2]; exact Nat.mul_le_mul hby hN
  have hr := run_make (P := Tryd.prog) W T E i0 z hT hi hz0 .i64 .i64 0 (N : Int) (Int.le_refl _) (by omega) (by
    have : ((i0.bytes * N : Nat) : Int) ≤ 281474976710656 := by omega
    rwa [Int.natCast_mul] at this) (by omega)
  simpa [hzs] using hr
theorem row_made {E : TypeId} {z : Value} (N : Nat) (hN : N ≤ 1099511627776) (W : World) {base : Nat} (hb : base ≤ W.heap.size) : (W.alloc (.cells (madeCells z.cells N) E)).ownsRow base E 1 (.slice (some ⟨W.heap.size, 0, none⟩) 0 N) 0 [] := by
  have := World.ownsRow_made (size := 1) (e := E) W (madeCells z.cells N) N hb (by unfold maxLen; omega) (by rw [size_madeCells, Nat.mul_one])
  exact this

theorem pk_length {n m : Int} (hn : n ≤ 65536) (x : Pie n m) : (pk x.1).length ≤ 131072 := by
  obtain ⟨x, h1, h2, h3, h4, h5, h6, h7, h8, h9, h10⟩ := x
  simp [pk]
  omega
theorem pks_length {n m : Int} (hn : n ≤ 65536) (pre : List (Pie n m)) : (pre.flatMap fun x => pk x.1).length ≤ pre.length * 131072 := by
  induction pre with
  | nil => simp
  | cons x t ih => have := pk_length hn x; simp only [List.flatMap_cons, List.length_append, List.length_cons]; omega

end Go.Proofs.YtgcccpmcbjfaaaaDoor

/- Laws for the plain walk: append onto an owned row of elements of whatever width, as a step of the walk and of a region that draws; Same of numbers, of changes. -/
namespace Go.Proofs.YtgcccpmcbjfaaaaDoor
open Go.RowKit

theorem run_append_h (w : World) (T E ty : TypeId) (z : Value) (size bytes : Nat) (hT : Tryd.prog.underlying T = some (.slice E)) (hinfo : (Tryd.prog.info? E).map (fun i => (i.zero, i.size, i.bytes)) = some (some z, size, bytes)) (hz1 : z.cells.size = size) (hsz : 0 < size) (hby : bytes ≤ 32)
    (base : Nat) (v : Value) (k : Nat) (xs : List Value) (hown : w.ownsRow base E size v k xs) (vx : Value) (m : Nat) (news : List Value) (hh : Holds w vx m news) (hl : news.length = m * size)
    (h1 : ∀ u ∈ news, u.oneCell' = true) (hk : k + m ≤ 4398046511104) (hbase : base ≤ w.heap.size) :
    ∃ v' w', (Builtin.append_ #[T, T] ty #[v, vx]).run Tryd.prog w = .ok v' w' ∧ w'.ownsRow base E size v' (k + m) (xs ++ news) ∧ w.grownBy w' v.ownBlock ∧ (v'.ownBlock = v.ownBlock ∨ v'.ownBlock = some w.heap.size) := by
  obtain ⟨i0, hi0, hz0, hzs, hz2⟩ := info_parts hinfo
  rcases hh with ⟨rfl, rfl, rfl⟩ | ⟨ad, c, rfl, _, hc⟩
  · exact ⟨v, w, run_append_owned_none (P := Tryd.prog) (w := w) base T ty E i0 size hT hi0 v k xs hown, by simpa using hown, World.grownBy.refl _ _, .inl rfl⟩
  · obtain ⟨v', w', hr, h2, h3, _, h5⟩ := run_append_own_at (P := Tryd.prog) w base T ty E i0 z size bytes hT hi0 hz0 hzs hz2 hz1 hsz v k xs hown ad m c news hl hc h1 (by unfold maxLen; omega) (by
      have : (k + m) * bytes ≤ (k + m) * 32 := Nat.mul_le_mul_left _ hby
      omega) hbase
    exact ⟨v', w', hr, h2, h3, h5⟩

theorem wpList_append_h {ops : Array Oper} {rest : List Oper} {o : Oper} {a : Act} {Q : Exit → Act → World → Prop} (w : World) (hw : Region.wanted o (yielded ops a.tmps) = true) (s x : Operand) (T E : TypeId) (z : Value) (size bytes : Nat)
    (ho : o.op = .call { callee := .builtin .append, args := #[s, x], argTypes := #[T, T] }) (hT : Tryd.prog.underlying T = some (.slice E)) (hinfo : (Tryd.prog.info? E).map (fun i => (i.zero, i.size, i.bytes)) = some (some z, size, bytes)) (hz1 : z.cells.size = size) (hsz : 0 < size) (hby : bytes ≤ 32)
    (base : Nat) (v : Value) (k : Nat) (xs : List Value) (hs : a.eval s = v) (hown : w.ownsRow base E size v k xs) (vx : Value) (m : Nat) (news : List Value) (hx : a.eval x = vx) (hh : Holds w vx m news) (hl : news.length = m * size)
    (h1 : ∀ u ∈ news, u.oneCell' = true) (hk : k + m ≤ 4398046511104) (hbase : base ≤ w.heap.size)
    (h : ∀ v' w', w'.ownsRow base E size v' (k + m) (xs ++ news) → w.grownBy w' v.ownBlock → wpList Tryd.prog ops Q rest (a.put o.dst v') w') : wpList Tryd.prog ops Q (o :: rest) a w := by
  refine wpList_step fun K hK => ?_
  rw [if_pos hw]
  obtain ⟨v', w', hr, h2, h3, _⟩ := run_append_h w T E o.type z size bytes hT hinfo hz1 hsz hby base v k xs hown vx m news hh hl h1 hk hbase
  unfold Oper.wp
  simp [execOp, ho, resolve, invoke, builtin, hs, hx, hr, Result.andThen]
  exact hK _ _ (h v' w' h2 h3)

theorem step_append_h {ops : Array Oper} {o : Oper} {a : Act} {K : Act → World → Prop} {Q : Exit → Act → World → Prop} {X : Prop} (w : World) (hgd : o.guard = none) (s x : Operand) (T E : TypeId) (z : Value) (size bytes : Nat)
    (ho : o.op = .call { callee := .builtin .append, args := #[s, x], argTypes := #[T, T] }) (hT : Tryd.prog.underlying T = some (.slice E)) (hinfo : (Tryd.prog.info? E).map (fun i => (i.zero, i.size, i.bytes)) = some (some z, size, bytes)) (hz1 : z.cells.size = size) (hsz : 0 < size) (hby : bytes ≤ 32)
    (base : Nat) (v : Value) (k : Nat) (xs : List Value) (hs : a.eval s = v) (hown : w.ownsRow base E size v k xs) (vx : Value) (m : Nat) (news : List Value) (hx : a.eval x = vx) (hh : Holds w vx m news) (hl : news.length = m * size)
    (h1 : ∀ u ∈ news, u.oneCell' = true) (hk : k + m ≤ 4398046511104) (hbase : base ≤ w.heap.size)
    (h : ∀ v' w', w'.ownsRow base E size v' (k + m) (xs ++ news) → w.grownBy w' v.ownBlock → K (a.put o.dst v') w') :
    if Region.wanted o (yielded ops a.tmps) = true then Oper.wp Tryd.prog o a w K Q else X := by
  have hw : Region.wanted o (yielded ops a.tmps) = true := by simp [Region.wanted, hgd]
  rw [if_pos hw]
  obtain ⟨v', w', hr, h2, h3, _⟩ := run_append_h w T E o.type z size bytes hT hinfo hz1 hsz hby base v k xs hown vx m news hh hl h1 hk hbase
  unfold Oper.wp
  simp [execOp, ho, resolve, invoke, builtin, hs, hx, hr, Result.andThen]
  exact h v' w' h2 h3

/-- a new empty row -/
theorem nil_row_new {e : TypeId} {s : Nat} (W : World) (N g : Nat) (hg : W.heap.size = g) (hB : N ≤ g) : (W.alloc (.cells #[] e)).ownsRow N e s (.slice (some ⟨g, 0, none⟩) 0 0) 0 [] := by
  subst hg
  exact ⟨by simp, .inr ⟨_, 0, #[], rfl, hB, _root_.Go.heap_alloc_new W _, Nat.le_refl _, by decide, by simp, by simp⟩⟩
theorem owns_keep {w w' : World} {base : Nat} {e : TypeId} {s : Nat} {v : Value} {n : Nat} {xs : List Value} (h : w.ownsRow base e s v n xs) (hk : Below w.heap.size w w') : w'.ownsRow base e s v n xs := by
  refine ⟨h.1, ?_⟩
  rcases h.2 with h1 | ⟨g, cap, cur, q1, q2, q3, q4⟩
  · exact .inl h1
  · exact .inr ⟨g, cap, cur, q1, q2, (hk.block g (Array.getElem?_eq_some_iff.1 q3).1).trans q3, q4⟩
theorem owns_ge {w : World} {base : Nat} {e : TypeId} {s : Nat} {v : Value} {n : Nat} {xs : List Value} (h : w.ownsRow base e s v n xs) {j : Nat} (hj : v.ownBlock = some j) : base ≤ j := by
  rcases h.2 with ⟨rfl, _⟩ | ⟨g, cap, cur, rfl, hb, _⟩
  · cases hj
  · simp [Value.ownBlock] at hj; omega

/-- all ahead of a call as it was -/
def Low (W w : World) : Prop := Below W.heap.size W w
theorem low_drew (W w : World) : Low W w.drew ↔ Low W w := ⟨fun h => ⟨h.os, h.tape, h.output, h.size, h.block⟩, fun h => Below.dN h 1⟩
theorem low_alloc {W w : World} (o : Obj) (h : Low W w) : Low W (w.alloc o) := Below.alloc h (Below.size h) o
theorem Low.ch {W w : World} (h : Low W w) {b off n c : Nat} {l : List Ch} (hl : HCh W (.slice (some ⟨b, off, none⟩) n c) l) (k : Nat) (hk : k < l.length) {x : Ch} (hx : l[k] = x) : w.cell? ⟨b, off + k * 4, none⟩ = some (.int .i64 x.A) ∧ w.cell? ⟨b, off + k * 4 + 1, none⟩ = some (.int .i64 x.AN) ∧ w.cell? ⟨b, off + k * 4 + 2, none⟩ = some (.int .i64 x.B) ∧ w.cell? ⟨b, off + k * 4 + 3, none⟩ = some (.int .i64 x.BN) := by
  obtain ⟨b', off', e, _, hc⟩ := HCh.at (HCh.keep hl h (Nat.le_refl _)) (by omega)
  cases e
  rw [← hx]
  exact hc k hk
/-- a row of one's own, and all ahead of a call as it was -/
structure St (W : World) (e : TypeId) (s : Nat) (v : Value) (k : Nat) (xs : List Value) (w : World) : Prop where
  own : w.ownsRow W.heap.size e s v k xs
  low : Below W.heap.size W w
theorem st_drew (W : World) (e : TypeId) (s : Nat) (v : Value) (k : Nat) (xs : List Value) (w : World) : St W e s v k xs w.drew ↔ St W e s v k xs w :=
  ⟨fun h => ⟨h.own, ⟨h.low.os, h.low.tape, h.low.output, h.low.size, h.low.block⟩⟩, fun h => ⟨h.own, Below.dN h.low 1⟩⟩
theorem st_alloc {W : World} {e : TypeId} {s : Nat} {v : Value} {k : Nat} {xs : List Value} {w : World} (o : Obj) (h : St W e s v k xs w) : St W e s v k xs (w.alloc o) := ⟨h.own.alloc o, h.low.alloc h.low.size o⟩
theorem St.grown {W : World} {e : TypeId} {s : Nat} {v v' : Value} {k k' : Nat} {xs xs' : List Value} {w w' : World} (h : St W e s v k xs w) (ho : w'.ownsRow W.heap.size e s v' k' xs') (hg : w.grownBy w' v.ownBlock) : St W e s v' k' xs' w' :=
  ⟨ho, h.low.grown hg h.low.size (fun _ hj => owns_ge h.own hj)⟩

end Go.Proofs.YtgcccpmcbjfaaaaDoor

/- Worlds behind a draw: new rows and what is carried. -/
namespace Go.Proofs.YtgcccpmcbjfaaaaDoor
open Go.RowKit
attribute [local simp] low_drew

theorem new_holds_d (W : World) (cs : Array Value) (e : TypeId) (k c : Nat) (hkc : k ≤ c) : Holds (W.alloc (.cells cs e)).drew (.slice (some ⟨W.heap.size, 0, none⟩) k c) k cs.toList := by
  have := new_holds W cs e k c hkc
  exact this
theorem st_d {W : World} {e : TypeId} {s : Nat} {v : Value} {k : Nat} {xs : List Value} {w : World} (o : Obj) (h : St W e s v k xs w) : St W e s v k xs (w.alloc o).drew := (st_drew _ _ _ _ _ _ _).2 (st_alloc o h)
theorem alloc_second (w : World) (o o2 : Obj) : ((w.alloc o).alloc o2).heap[w.heap.size + 1]? = some o2 := by
  have h := _root_.Go.heap_alloc_new (w.alloc o) o2
  rw [World.size_alloc] at h
  exact h
theorem owns_d {W : World} {base : Nat} {e : TypeId} {s : Nat} {v : Value} {n : Nat} {xs : List Value} (h : W.ownsRow base e s v n xs) (o : Obj) : (W.alloc o).drew.ownsRow base e s v n xs := by
  have := h.alloc o
  exact this
end Go.Proofs.YtgcccpmcbjfaaaaDoor
